/- Contracts: the sum of texts in a row, by the program. Plain words: texts in a row, one behind the other. Contracts: the block key of a key, and the inner and the outer key, by the program. Contracts: the tag of texts in a row, by the two keys, by the program. -/
import Derived.Test.YtcjdnifckngcfaaGreatDoorM07
import Derived.Test.YtcjdnifckngcfaaGreatDoorM11
import Derived.Test.YtcjdnifckngcfaaGreatDoorM08
section
namespace Go.Proofs.YtcjdnifckngcfaaGreatDoor
open Go.RowKit

/-- All texts, one behind the other. -/
def joinL (l : List ByteArray) : List UInt8 := l.flatMap fun s => s.data.toList
theorem joinL_succ (l : List ByteArray) (k : Nat) (h : k < l.length) : joinL (l.take (k + 1)) = joinL (l.take k) ++ l[k].data.toList := by
  unfold joinL
  rw [List.take_succ_eq_append_getElem h, List.flatMap_append]
  simp
theorem joinL_le (l : List ByteArray) (k : Nat) : (joinL (l.take k)).length ≤ (joinL l).length := by
  conv => rhs; rw [← List.take_append_drop k l]
  unfold joinL
  rw [List.flatMap_append, List.length_append]
  omega
set_option maxRecDepth 100000 in
set_option maxHeartbeats 1000000 in
theorem Of_any (w : World) (a : Addr) (c : Nat) (l : List ByteArray) (hL : Laid w) (hT : Texts w a l) (hn : l.length ≤ 140737488355328) (hs : (joinL l).length < 1152921504606846976) :
    Calls Tryz.prog 142 #[.slice (some a) l.length c] w fun e w' => e = .returned (.string ⟨(shaL (joinL l)).toArray⟩) ∧ Ext w w' := by
  have hsz := hL.size
  have HL := Lib.hid hL; have HX := Lib.hid hT; have HS := Lib.hid hs
  clear hL hT hs
  go_enter Tryz.func142, Tryz.ntmps142
  go_wp2_with (go_at_call 140; refine (New_any w HL.out).mono ?_; rintro e w1 ⟨rfl, hH, h1⟩)
  have HH := Lib.hid hH; have HE := Lib.hid h1
  clear hH h1
  go_loopw [9] (fun i wr => ∃ k : Nat, k ≤ l.length ∧ i = .int .i64 k ∧ IsHash wr w.heap.size (joinL (l.take k)) ∧ Ext w wr) (fun i _ => l.length - (intOf i).toNat)
  case atStart => exact ⟨0, Nat.zero_le _, rfl, HH.out, HE.out⟩
  case round =>
    obtain ⟨k, hk, rfl, hH, hext⟩ := hrel
    have HH2 := Lib.hid hH; have HE2 := Lib.hid hext
    clear hH hext
    by_cases hlt : k < l.length
    · have hc := ((HX.out.ext HE2.out) k l[k] (List.getElem?_eq_getElem hlt)).2
      have hgl := ((HX.out.ext HE2.out) k l[k] (List.getElem?_eq_getElem hlt)).1
      have hle := joinL_le l (k + 1)
      rw [joinL_succ l k hlt, List.length_append, size_list] at hle
      have hlt2 : (k : Int) < (l.length : Int) := by omega
      have HC := Lib.hid (fun u (hL2 : Laid u) (hh : IsHash u w.heap.size (joinL (l.take k))) => Add_any u w.heap.size (joinL (l.take k)) l[k] hL2 hsz hh (by have := HS.out; omega))
      have HJ := Lib.hid (joinL_succ l k hlt)
      clear hle
      generalize l[k] = s at *
      go_wp2_with (go_at_call 141; refine (HC.out _ (HL.out.ext HE2.out) HH2.out).mono ?_; rintro e w2 ⟨rfl, h2, h3⟩)
      go_roundw
      case rel => exact ⟨k + 1, hlt, by go_num, by rw [HJ.out]; exact h2, HE2.out.trans3 h3⟩
      case measure => simp [intOf]; omega
    · obtain rfl : k = l.length := by omega
      have HF := HH2.out
      rw [List.take_length] at HF
      have HF2 := Lib.hid HF; clear HF
      go_wp2_with (go_at_call 143; refine (Sum_any _ w.heap.size _ (HL.out.ext HE2.out) HF2.out).mono ?_; rintro e w2 ⟨rfl, h2⟩)
      go_ret
      exact ⟨rfl, HE2.out.trans h2⟩
theorem Of_none (w : World) (hL : Laid w) :
    Calls Tryz.prog 142 #[.slice none 0 0] w fun e w' => e = .returned (.string ⟨(shaL []).toArray⟩) ∧ Ext w w' := by
  have HL := Lib.hid hL
  clear hL
  go_enter Tryz.func142, Tryz.ntmps142
  go_wp2_with (go_at_call 140; refine (New_any w HL.out).mono ?_; rintro e w1 ⟨rfl, hH, h1⟩)
  have HH := Lib.hid hH; have HE := Lib.hid h1
  clear hH h1
  go_loopw [9] (fun i wr => i = .int .i64 0 ∧ IsHash wr w.heap.size [] ∧ Ext w wr) (fun _ _ => 0)
  case atStart => exact ⟨rfl, HH.out, HE.out⟩
  case round =>
    obtain ⟨rfl, hH, hext⟩ := hrel
    have HH2 := Lib.hid hH; have HE2 := Lib.hid hext
    clear hH hext
    go_wp2_with (go_at_call 143; refine (Sum_any _ w.heap.size _ (HL.out.ext HE2.out) HH2.out).mono ?_; rintro e w2 ⟨rfl, h2⟩)
    go_ret
    exact ⟨rfl, HE2.out.trans h2⟩
theorem texts_one (w : World) (s : ByteArray) (t : TypeId) : Texts (w.alloc (.cells #[.string s] t)) ⟨w.heap.size, 0, none⟩ [s] := by
  refine fun i u hu => ⟨by simp, ?_⟩
  rw [Addr.add_mid]
  rw [cell_of_row _ _ _ _ _ _ (heap_alloc_new w _)]
  cases i with
  | zero => simp at hu; subst hu; rfl
  | succ n => simp at hu
theorem joinL_one (s : ByteArray) : joinL [s] = s.data.toList := by simp [joinL]
theorem joinL_lt {l : List ByteArray} {k : Nat} (h : k < l.length) : l[k].size ≤ (joinL l).length := by
  have h1 := joinL_le l (k + 1)
  rw [joinL_succ l k h, List.length_append, size_list] at h1
  omega
/-- Of one text, handed in a new row. -/
theorem Of_one (w : World) (s : ByteArray) (t : TypeId) (hL : Laid w) (hs : s.size ≤ 1099511627776) :
    Calls Tryz.prog 142 #[.slice (some ⟨w.heap.size, 0, none⟩) 1 1] (w.alloc (.cells #[.string s] t)) fun e w' => e = .returned (.string ⟨(shaL s.data.toList).toArray⟩) ∧ Ext w w' := by
  have h := Of_any (w.alloc (.cells #[.string s] t)) ⟨w.heap.size, 0, none⟩ 1 [s] (hL.ext ((Ext.refl w).alloc _)) (texts_one w s t) (by simp) (by rw [joinL_one, size_list]; omega)
  rw [joinL_one] at h
  exact h.mono fun e w' he => ⟨he.1, ((Ext.refl w).alloc _).trans he.2⟩
end Go.Proofs.YtcjdnifckngcfaaGreatDoor
end

section
namespace Go.Proofs.YtcjdnifckngcfaaGreatDoor
open Go.RowKit

/-- The first k texts, one behind the other. -/
def J (l : List ByteArray) (k : Nat) : ByteArray := ⟨(joinL (l.take k)).toArray⟩
theorem J_size (l : List ByteArray) (k : Nat) : (J l k).size = (joinL (l.take k)).length := txt_size _
theorem J_succ (l : List ByteArray) (k : Nat) (h : k < l.length) : J l k ++ l[k] = J l (k + 1) := by
  apply ByteArray.ext
  rw [ByteArray.data_append]
  apply Array.toList_inj.1
  simp [J, joinL_succ l k h]
end Go.Proofs.YtcjdnifckngcfaaGreatDoor
end

section
namespace Go.Proofs.YtcjdnifckngcfaaGreatDoor
open Go.RowKit

theorem repeatL_one (c : UInt8) (n : Nat) : Lib.repeatL [c] n = List.replicate n c := by
  induction n with
  | zero => rfl
  | succ n ih => rw [Lib.repeatL, ih, List.replicate_succ]; rfl
theorem repeat1_any (c : UInt8) (x : Int) (n : Nat) (hx : x = (n : Int)) (hn : n ≤ 64) (w : World) :
    Calls Tryz.prog 163 #[.string ⟨#[c]⟩, .int .i64 x] w fun e w' => e = .returned (.string ⟨(List.replicate n c).toArray⟩) ∧ Ext w w' := by
  subst hx
  have h := Tryz.strings_Repeat ⟨#[c]⟩ n w (by omega) (by show 1 * n ≤ _; omega)
  have e : (⟨#[c]⟩ : ByteArray).data.toList = [c] := rfl
  rw [e, repeatL_one] at h
  exact h
theorem block_text (K : ByteArray) (k : List UInt8) (h : K.data.toList = keyL k) : K ++ ⟨(List.replicate (64 - K.size) 0).toArray⟩ = ⟨(blockL k).toArray⟩ := by
  have e : K = ⟨(keyL k).toArray⟩ := by rw [← h]
  have e2 : K.size = (keyL k).length := by rw [← h, size_list]
  rw [e2]
  conv => lhs; lhs; rw [e]
  exact str_append _ _
set_option maxRecDepth 100000 in
theorem blockKey_any (key : ByteArray) (w : World) (hL : Laid w) (hk : key.size ≤ 1099511627776) :
    Calls Tryz.prog 138 #[.string key] w fun e w' => e = .returned (.string ⟨(blockL key.data.toList).toArray⟩) ∧ Ext w w' := by
  by_cases hlong : 64 < key.size
  · have hK : (⟨(shaL key.data.toList).toArray⟩ : ByteArray).data.toList = keyL key.data.toList := by unfold keyL; rw [if_pos (by rw [size_list]; exact hlong)]
    have hKs : (⟨(shaL key.data.toList).toArray⟩ : ByteArray).size = 32 := by rw [txt_size, shaL_length]
    have HS := Lib.hid (fun t => Of_one w key t hL hk)
    have HB := Lib.hid (block_text _ _ hK)
    clear hK hL
    generalize (⟨(shaL key.data.toList).toArray⟩ : ByteArray) = K at *
    go_enter Tryz.func138, Tryz.ntmps138
    go_wp2_with (first
      | (go_at_call 142; refine (HS.out _).mono ?_; rintro e w1 ⟨rfl, h1⟩)
      | (go_at_call 163; refine (repeat1_any 0 _ (64 - K.size) (by omega) (by omega) _).mono ?_; rintro e w2 ⟨rfl, h2⟩))
    go_ret
    exact ⟨by rw [← HB.out, hKs]; rfl, h1.trans h2⟩
  · have hK : key.data.toList = keyL key.data.toList := by unfold keyL; rw [if_neg (by rw [size_list]; exact hlong)]
    have HB := Lib.hid (block_text _ _ hK)
    clear hK hL
    go_enter Tryz.func138, Tryz.ntmps138
    go_wp2_with (go_at_call 163; refine (repeat1_any 0 _ (64 - key.size) (by omega) (by omega) _).mono ?_; rintro e w2 ⟨rfl, h2⟩)
    go_ret
    exact ⟨by rw [← HB.out]; rfl, h2⟩
theorem mix_text2 (k : List UInt8) (c : UInt8) : xorL (⟨(blockL k).toArray⟩ : ByteArray).data.toList (⟨(List.replicate 64 c).toArray⟩ : ByteArray).data.toList = mixL k c := by simp [mixL]
theorem xor_mix (k : List UInt8) (c : UInt8) (w : World) : Calls Tryz.prog 108 #[.string ⟨(blockL k).toArray⟩, .string ⟨(List.replicate 64 c).toArray⟩] w fun e w' => e = .returned (.tuple #[.string ⟨(mixL k c).toArray⟩, .bool true]) ∧ Ext w w' := by
  have h := xor_yes ⟨(blockL k).toArray⟩ ⟨(List.replicate 64 c).toArray⟩ (by rw [txt_size, txt_size, blockL_length, List.length_replicate]) (by rw [txt_size, blockL_length]; decide) w
  rw [mix_text2] at h
  exact h
theorem mixed_any (k : List UInt8) (c : UInt8) (w : World) :
    Calls Tryz.prog 139 #[.string ⟨(blockL k).toArray⟩, .string ⟨#[c]⟩] w fun e w' => e = .returned (.string ⟨(mixL k c).toArray⟩) ∧ Ext w w' := by
  have HX := Lib.hid (xor_mix k c)
  generalize (⟨(blockL k).toArray⟩ : ByteArray) = B at *
  go_enter Tryz.func139, Tryz.ntmps139
  go_wp2_with (first
    | (go_at_call 163; refine (repeat1_any c _ 64 rfl (by decide) _).mono ?_; rintro e w1 ⟨rfl, h1⟩)
    | (go_at_call 108; refine (HX.out _).mono ?_; rintro e w2 ⟨rfl, h2⟩))
  go_ret
  exact ⟨rfl, h1.trans h2⟩
theorem keys_info : (Tryz.prog.info? 161).map (·.size) = some 2 := by kernel_rfl
set_option maxRecDepth 100000 in
theorem keysOf_any (key : ByteArray) (w : World) (hL : Laid w) (hk : key.size ≤ 1099511627776) :
    Calls Tryz.prog 115 #[.string key] w fun e w' => e = .returned (.agg #[.string ⟨(mixL key.data.toList 54).toArray⟩, .string ⟨(mixL key.data.toList 92).toArray⟩]) ∧ Ext w w' := by
  have HB := Lib.hid (fun u (h : Ext w u) => blockKey_any key u (hL.ext h) hk)
  have H1 := Lib.hid (mixed_any key.data.toList 54)
  have H2 := Lib.hid (mixed_any key.data.toList 92)
  have H0 := Lib.hid (Blk.new w [.string ⟨#[]⟩, .string ⟨#[]⟩] 161)
  clear hL
  go_enter Tryz.func115, Tryz.ntmps115
  go_wp2_with (first
    | (go_at_call 138; refine (HB.out _ ((Ext.refl w).alloc _)).mono ?_; rintro e w1 ⟨rfl, h1⟩)
    | (go_at_call 139; ((with_reducible refine (H1.out _).mono ?_); rintro e w2 ⟨rfl, h2⟩))
    | (go_at_call 139; ((with_reducible refine (H2.out _).mono ?_); rintro e w3 ⟨rfl, h3⟩; have hb3 := ((H0.out.ext h1).ext h2).ext h3; have c0 := hb3.cell 0 _ rfl; have c1 := hb3.cell 1 _ rfl; have f0 := hb3.frozen 0; have f1 := hb3.frozen 1; have HB3 := Lib.hid hb3; clear hb3)))
  exact bodyPost_ret (results_cell_row rfl _ _ w.heap.size 161 #[.string ⟨(mixL key.data.toList 54).toArray⟩, .string ⟨(mixL key.data.toList 92).toArray⟩] (0, 0) _ rfl ((HB3.out.set_ 0 _).set_ 1 _) Tryz.underlying161 rfl keys_info) rfl ⟨rfl, ((((((Ext.refl w).alloc _).trans h1).trans h2).trans h3).setCell (p := ⟨w.heap.size, 0, none⟩) (Nat.le_refl _) _).setCell (p := ⟨w.heap.size, 1, none⟩) (Nat.le_refl _) _⟩
end Go.Proofs.YtcjdnifckngcfaaGreatDoor
end

section
namespace Go.Proofs.YtcjdnifckngcfaaGreatDoor
open Go.RowKit

theorem texts_pair (w : World) (s u : ByteArray) (t : TypeId) : Texts (w.alloc (.cells #[.string s, .string u] t)) ⟨w.heap.size, 0, none⟩ [s, u] := by
  refine fun i v hv => ⟨by simp, ?_⟩
  rw [Addr.add_mid]
  rw [cell_of_row _ _ _ _ _ _ (heap_alloc_new w _)]
  match i, hv with
  | 0, hv => simp at hv; subst hv; rfl
  | 1, hv => simp at hv; subst hv; rfl
  | n + 2, hv => simp at hv
theorem joinL_pair (s u : ByteArray) : joinL [s, u] = s.data.toList ++ u.data.toList := by simp [joinL]
/-- Of two texts, handed in a new row. -/
theorem Of_pair (w : World) (s u : ByteArray) (t : TypeId) (hL : Laid w) (hs : s.size + u.size ≤ 1099511627776) :
    Calls Tryz.prog 142 #[.slice (some ⟨w.heap.size, 0, none⟩) 2 2] (w.alloc (.cells #[.string s, .string u] t)) fun e w' => e = .returned (.string ⟨(shaL (s.data.toList ++ u.data.toList)).toArray⟩) ∧ Ext w w' := by
  have h := Of_any (w.alloc (.cells #[.string s, .string u] t)) ⟨w.heap.size, 0, none⟩ 2 [s, u] (hL.ext ((Ext.refl w).alloc _)) (texts_pair w s u t) (by simp) (by rw [joinL_pair, List.length_append, size_list, size_list]; omega)
  rw [joinL_pair] at h
  exact h.mono fun e w' he => ⟨he.1, ((Ext.refl w).alloc _).trans he.2⟩
/-- What the tag's walk ends in: the outer key and the inner sum. -/
def outL (ki ko : ByteArray) (m : List UInt8) : List UInt8 := shaL (ko.data.toList ++ shaL (ki.data.toList ++ m))
theorem outL_fold (ki ko : ByteArray) (m : List UInt8) : shaL (ko.data.toList ++ (⟨(shaL (ki.data.toList ++ m)).toArray⟩ : ByteArray).data.toList) = outL ki ko m := rfl
theorem Of_out (u : World) (ki ko : ByteArray) (m : List UInt8) (t : TypeId) (hL : Laid u) (hko : ko.size ≤ 64) :
    Calls Tryz.prog 142 #[.slice (some ⟨u.heap.size, 0, none⟩) 2 2] (u.alloc (.cells #[.string ko, .string ⟨(shaL (ki.data.toList ++ m)).toArray⟩] t)) fun e w' => e = .returned (.string ⟨(outL ki ko m).toArray⟩) ∧ Ext u w' := by
  have hz : ByteArray.size ⟨(shaL (ki.data.toList ++ m)).toArray⟩ = 32 := by rw [txt_size, shaL_length]
  have h := Of_pair u ko ⟨(shaL (ki.data.toList ++ m)).toArray⟩ t hL (by omega)
  rw [outL_fold] at h
  exact h
theorem joinL_bound {l : List ByteArray} {k n : Nat} (hlt : k < l.length) (h : (joinL l).length ≤ n) : (joinL (l.take k)).length + l[k].size ≤ n := by
  have hle := joinL_le l (k + 1)
  rw [joinL_succ l k hlt, List.length_append, size_list] at hle
  omega
set_option maxRecDepth 100000 in
set_option maxHeartbeats 2000000 in
theorem tag_any (w : World) (a : Addr) (c : Nat) (l : List ByteArray) (ki ko : ByteArray) (hL : Laid w) (hT : Texts w a l) (hn : l.length ≤ 140737488355328) (hki : ki.size ≤ 64) (hko : ko.size ≤ 64) (hs : (joinL l).length ≤ 1099511627776) :
    Calls Tryz.prog 116 #[.agg #[.string ki, .string ko], .slice (some a) l.length c] w fun e w' => e = .returned (.string ⟨(outL ki ko (joinL l)).toArray⟩) ∧ Ext w w' := by
  have hsz : 2 ≤ w.heap.size := hL.size
  obtain ⟨W0, hW0⟩ : ∃ W0, w.alloc (.cells #[.string ki, .string ko] 161) = W0 := ⟨_, rfl⟩
  have hx0 : Ext w W0 := by rw [← hW0]; exact (Ext.refl w).alloc _
  have hz0 : W0.heap.size = w.heap.size + 1 := by rw [← hW0]; simp
  have hB0 : Blk W0 w.heap.size 161 [.string ki, .string ko] := by rw [← hW0]; exact Blk.new w _ _
  have HL := Lib.hid (hL.ext hx0); have HX := Lib.hid (hT.ext hx0); have HS := Lib.hid hs; have HB := Lib.hid hB0; have H0 := Lib.hid hx0
  have c0 := hB0.cell 0 _ rfl
  have hz2 : 2 ≤ W0.heap.size := by omega
  have hA0 := Lib.hid (fun u (hL2 : Laid u) (hh : IsHash u W0.heap.size []) => Add_any u W0.heap.size [] ki hL2 hz2 hh (by simp; omega))
  have HZ := Lib.hid hz2
  clear hL hT hs hx0 hB0 hz0 hz2
  go_enter Tryz.func116, Tryz.ntmps116
  go_wp2_with (first
    | (go_at_call 140; refine (New_any W0 HL.out).mono ?_; rintro e w1 ⟨rfl, hH, h1⟩; have c1 := (HB.out.ext h1).cell 0 _ rfl; have HH := Lib.hid hH; have HE := Lib.hid h1; clear hH h1)
    | (go_at_call 141; refine (hA0.out _ (HL.out.ext HE.out) HH.out).mono ?_; rintro e w2 ⟨rfl, h2, h3⟩))
  have HH2 := Lib.hid h2; have HE2 := Lib.hid (HE.out.trans3 h3)
  clear h2 h3 c1 c0 HH HE hA0
  go_loopw [15] (fun i wr => ∃ k : Nat, k ≤ l.length ∧ i = .int .i64 k ∧ IsHash wr W0.heap.size (ki.data.toList ++ joinL (l.take k)) ∧ Ext W0 wr) (fun i _ => l.length - (intOf i).toNat)
  case atStart => exact ⟨0, Nat.zero_le _, rfl, by simpa [joinL] using HH2.out, HE2.out⟩
  case round =>
    obtain ⟨k, hk, rfl, hH, hext⟩ := hrel
    have HH3 := Lib.hid hH; have HE3 := Lib.hid hext
    clear hH hext HH2 HE2
    by_cases hlt : k < l.length
    · have hc := ((HX.out.ext HE3.out) k l[k] (List.getElem?_eq_getElem hlt)).2
      have hgl := ((HX.out.ext HE3.out) k l[k] (List.getElem?_eq_getElem hlt)).1
      have hle := joinL_bound hlt HS.out
      have hlt2 : (k : Int) < (l.length : Int) := by omega
      have HC := Lib.hid (fun u (hL2 : Laid u) (hh : IsHash u W0.heap.size (ki.data.toList ++ joinL (l.take k))) => Add_any u W0.heap.size (ki.data.toList ++ joinL (l.take k)) l[k] hL2 HZ.out hh (by rw [List.length_append, size_list]; omega))
      have HJ := Lib.hid (joinL_succ l k hlt)
      clear hle
      generalize l[k] = s at *
      go_wp2_with (go_at_call 141; refine (HC.out _ (HL.out.ext HE3.out) HH3.out).mono ?_; rintro e w2 ⟨rfl, h2, h3⟩)
      go_roundw
      case rel => exact ⟨k + 1, hlt, by go_num, by rw [HJ.out, ← List.append_assoc]; exact h2, HE3.out.trans3 h3⟩
      case measure => simp [intOf]; omega
    · obtain rfl : k = l.length := by omega
      have HF := HH3.out
      rw [List.take_length] at HF
      have HF2 := Lib.hid HF; clear HF
      have x0 : Ext wr wr.drew := (Ext.refl wr).drew
      have k1 : wr.drew.cell? ⟨w.heap.size, 1, none⟩ = some (.string ko) := (HB.out.ext HE3.out.drew).cell 1 _ rfl
      have hh0 := HF2.out.drew
      have HSum := Lib.hid (fun u (hu : Ext wr u) => Sum_any u W0.heap.size (ki.data.toList ++ joinL l) (HL.out.ext (HE3.out.trans hu)) (HF2.out.ext hu))
      have HOut := Lib.hid (fun u t (hu : Ext wr u) => Of_out u ki ko (joinL l) t (HL.out.ext (HE3.out.trans hu)) hko)
      have HKeep := Lib.hid (fun u (hu : Ext wr u) => (HB.out.ext (HE3.out.trans hu)).cell 1 _ rfl)
      have HKeepH := Lib.hid (fun u (hu : Ext wr u) => HF2.out.ext hu)
      go_wp2_with fail
      go_region_held3 (fun u => u.cell? ⟨w.heap.size, 1, none⟩ = some (.string ko) ∧ IsHash u W0.heap.size (ki.data.toList ++ joinL l) ∧ Ext wr u) (first | exact ⟨k1, hh0, x0⟩ | exact ⟨HKeep.out _ (by assumption), HKeepH.out _ (by assumption), by assumption⟩ | exact ⟨HKeep.out _ (Ext.alloc (by assumption) _), HKeepH.out _ (Ext.alloc (by assumption) _), Ext.alloc (by assumption) _⟩ | go_keep) (first
        | (go_at_call 143; refine (HSum.out _ (by assumption)).mono ?_; rintro e w4 ⟨rfl, h4⟩; have x4 := Ext.trans (a := wr) (by assumption) h4)
        | (go_at_call 142; refine (HOut.out _ _ (by assumption)).mono ?_; rintro e w5 ⟨rfl, h5⟩; have x5 := Ext.trans (a := wr) (by assumption) h5))
      go_wp2
      go_ret
      exact ⟨rfl, (H0.out.trans HE3.out).trans x5⟩
set_option maxRecDepth 100000 in
set_option maxHeartbeats 2000000 in
theorem tag_none (w : World) (ki ko : ByteArray) (m : List UInt8) (hm : m = []) (hL : Laid w) (hki : ki.size ≤ 64) (hko : ko.size ≤ 64) :
    Calls Tryz.prog 116 #[.agg #[.string ki, .string ko], .slice none 0 0] w fun e w' => e = .returned (.string ⟨(outL ki ko m).toArray⟩) ∧ Ext w w' := by
  have hsz : 2 ≤ w.heap.size := hL.size
  have HM := Lib.hid hm
  clear hm
  obtain ⟨W0, hW0⟩ : ∃ W0, w.alloc (.cells #[.string ki, .string ko] 161) = W0 := ⟨_, rfl⟩
  have hx0 : Ext w W0 := by rw [← hW0]; exact (Ext.refl w).alloc _
  have hz0 : W0.heap.size = w.heap.size + 1 := by rw [← hW0]; simp
  have hB0 : Blk W0 w.heap.size 161 [.string ki, .string ko] := by rw [← hW0]; exact Blk.new w _ _
  have HL := Lib.hid (hL.ext hx0); have HB := Lib.hid hB0; have H0 := Lib.hid hx0
  have c0 := hB0.cell 0 _ rfl
  have hz2 : 2 ≤ W0.heap.size := by omega
  have hA0 := Lib.hid (fun u (hL2 : Laid u) (hh : IsHash u W0.heap.size []) => Add_any u W0.heap.size [] ki hL2 hz2 hh (by simp; omega))
  have HZ := Lib.hid hz2
  clear hL hx0 hB0 hz0 hz2
  go_enter Tryz.func116, Tryz.ntmps116
  go_wp2_with (first
    | (go_at_call 140; refine (New_any W0 HL.out).mono ?_; rintro e w1 ⟨rfl, hH, h1⟩; have c1 := (HB.out.ext h1).cell 0 _ rfl; have HH := Lib.hid hH; have HE := Lib.hid h1; clear hH h1)
    | (go_at_call 141; refine (hA0.out _ (HL.out.ext HE.out) HH.out).mono ?_; rintro e w2 ⟨rfl, h2, h3⟩))
  have HH2 := Lib.hid h2; have HE2 := Lib.hid (HE.out.trans3 h3)
  clear h2 h3 c1 c0 HH HE hA0
  go_loopw [15] (fun i wr => i = .int .i64 0 ∧ IsHash wr W0.heap.size (ki.data.toList ++ m) ∧ Ext W0 wr) (fun _ _ => 0)
  case atStart => exact ⟨rfl, by rw [HM.out]; simpa using HH2.out, HE2.out⟩
  case round =>
    obtain ⟨rfl, hH, hext⟩ := hrel
    have HF2 := Lib.hid hH; have HE3 := Lib.hid hext
    clear hH hext HH2 HE2
    have x0 : Ext wr wr.drew := (Ext.refl wr).drew
    have k1 : wr.drew.cell? ⟨w.heap.size, 1, none⟩ = some (.string ko) := (HB.out.ext HE3.out.drew).cell 1 _ rfl
    have hh0 := HF2.out.drew
    have HSum := Lib.hid (fun u (hu : Ext wr u) => Sum_any u W0.heap.size (ki.data.toList ++ m) (HL.out.ext (HE3.out.trans hu)) (HF2.out.ext hu))
    have HOut := Lib.hid (fun u t (hu : Ext wr u) => Of_out u ki ko m t (HL.out.ext (HE3.out.trans hu)) hko)
    have HKeep := Lib.hid (fun u (hu : Ext wr u) => (HB.out.ext (HE3.out.trans hu)).cell 1 _ rfl)
    have HKeepH := Lib.hid (fun u (hu : Ext wr u) => HF2.out.ext hu)
    go_wp2_with fail
    go_region_held3 (fun u => u.cell? ⟨w.heap.size, 1, none⟩ = some (.string ko) ∧ IsHash u W0.heap.size (ki.data.toList ++ m) ∧ Ext wr u) (first | exact ⟨k1, hh0, x0⟩ | exact ⟨HKeep.out _ (by assumption), HKeepH.out _ (by assumption), by assumption⟩ | exact ⟨HKeep.out _ (Ext.alloc (by assumption) _), HKeepH.out _ (Ext.alloc (by assumption) _), Ext.alloc (by assumption) _⟩ | go_keep) (first
      | (go_at_call 143; refine (HSum.out _ (by assumption)).mono ?_; rintro e w4 ⟨rfl, h4⟩; have x4 := Ext.trans (a := wr) (by assumption) h4)
      | (go_at_call 142; refine (HOut.out _ _ (by assumption)).mono ?_; rintro e w5 ⟨rfl, h5⟩; have x5 := Ext.trans (a := wr) (by assumption) h5))
    go_wp2
    go_ret
    exact ⟨rfl, (H0.out.trans HE3.out).trans x5⟩

theorem tag_v (w : World) (v : Value) (l : List ByteArray) (ki ko : ByteArray) (hL : Laid w) (hT : TextsV w v l) (hki : ki.size ≤ 64) (hko : ko.size ≤ 64) (hs : (joinL l).length ≤ 1099511627776) :
    Calls Tryz.prog 116 #[.agg #[.string ki, .string ko], v] w fun e w' => e = .returned (.string ⟨(outL ki ko (joinL l)).toArray⟩) ∧ Ext w w' := by
  rcases hT with ⟨rfl, rfl⟩ | ⟨a, c, rfl, h2, h3⟩
  · exact tag_none w ki ko _ rfl hL hki hko
  · exact tag_any w a c l ki ko hL h2 h3 hki hko hs
/-- By the two keys of a key. -/
theorem outL_mac (k m : List UInt8) : outL ⟨(mixL k 54).toArray⟩ ⟨(mixL k 92).toArray⟩ m = macL k m := by
  rw [macL_eq]; rfl
theorem tag_keys (w : World) (v : Value) (l : List ByteArray) (k : List UInt8) (hL : Laid w) (hT : TextsV w v l) (hs : (joinL l).length ≤ 1099511627776) :
    Calls Tryz.prog 116 #[.agg #[.string ⟨(mixL k 54).toArray⟩, .string ⟨(mixL k 92).toArray⟩], v] w fun e w' => e = .returned (.string ⟨(macL k (joinL l)).toArray⟩) ∧ Ext w w' := by
  have h := tag_v w v l ⟨(mixL k 54).toArray⟩ ⟨(mixL k 92).toArray⟩ hL hT (by rw [txt_size, mixL_length]; omega) (by rw [txt_size, mixL_length]; omega) hs
  rwa [outL_mac] at h
end Go.Proofs.YtcjdnifckngcfaaGreatDoor
end
