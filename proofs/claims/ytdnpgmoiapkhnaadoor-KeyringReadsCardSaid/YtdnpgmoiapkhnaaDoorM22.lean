/- Contracts: the sum of texts in a row, by the program. Plain words: texts in a row, one behind the other. Contracts: the block key of a key, and the inner and the outer key, by the program. -/
import Derived.Test.YtdnpgmoiapkhnaaDoorM04
import Derived.Test.YtdnpgmoiapkhnaaDoorAdd
import Derived.Test.YtdnpgmoiapkhnaaDoorM18
section
namespace Go.Proofs.YtdnpgmoiapkhnaaDoor
open Go.RowKit

/-- All texts, one behind the other. -/
def joinL (l : List ByteArray) : List UInt8 := l.flatMap fun s => s.data.toList
theorem joinL_succ (l : List ByteArray) (k : Nat) (h : k < l.length) : joinL (l.take (k + 1)) = joinL (l.take k) ++ l[k].data.toList := by
  unfold joinL
  rw [List.take_succ_eq_append_getElem h, List.flatMap_append]
  simp
theorem joinL_le (l : List ByteArray) (k : Nat) : (joinL (l.take k)).length ≤ (joinL l).length := by
  conv => rhs; rw [← List.take_append_drop k l]
  unfold joinL
  rw [List.flatMap_append, List.length_append]
  omega
set_option maxRecDepth 100000 in
set_option maxHeartbeats 1000000 in
theorem Of_any (w : World) (a : Addr) (c : Nat) (l : List ByteArray) (hL : Laid w) (hT : Texts w a l) (hn : l.length ≤ 140737488355328) (hs : (joinL l).length < 1152921504606846976) :
    Calls Tryd.prog 81 #[.slice (some a) l.length c] w fun e w' => e = .returned (.string ⟨(shaL (joinL l)).toArray⟩) ∧ Ext w w' := by
  have hsz := hL.size
  have HL := Lib.hid hL; have HX := Lib.hid hT; have HS := Lib.hid hs
  clear hL hT hs
  go_enter Tryd.func81, Tryd.ntmps81
  go_wp2_with (go_at_call 79; refine (New_any w HL.out).mono ?_; rintro e w1 ⟨rfl, hH, h1⟩)
  have HH := Lib.hid hH; have HE := Lib.hid h1
  clear hH h1
  go_loopw [9] (fun i wr => ∃ k : Nat, k ≤ l.length ∧ i = .int .i64 k ∧ IsHash wr w.heap.size (joinL (l.take k)) ∧ Ext w wr) (fun i _ => l.length - (intOf i).toNat)
  case atStart => exact ⟨0, Nat.zero_le _, rfl, HH.out, HE.out⟩
  case round =>
    obtain ⟨k, hk, rfl, hH, hext⟩ := hrel
    have HH2 := Lib.hid hH; have HE2 := Lib.hid hext
    clear hH hext
    by_cases hlt : k < l.length
    · have hc := ((HX.out.ext HE2.out) k l[k] (List.getElem?_eq_getElem hlt)).2
      have hgl := ((HX.out.ext HE2.out) k l[k] (List.getElem?_eq_getElem hlt)).1
      have hle := joinL_le l (k + 1)
      rw [joinL_succ l k hlt, List.length_append, size_list] at hle
      have hlt2 : (k : Int) < (l.length : Int) := by omega
      have HC := Lib.hid (fun u (hL2 : Laid u) (hh : IsHash u w.heap.size (joinL (l.take k))) => Add_any u w.heap.size (joinL (l.take k)) l[k] hL2 hsz hh (by have := HS.out; omega))
      have HJ := Lib.hid (joinL_succ l k hlt)
      clear hle
      generalize l[k] = s at *
      go_wp2_with (go_at_call 80; refine (HC.out _ (HL.out.ext HE2.out) HH2.out).mono ?_; rintro e w2 ⟨rfl, h2, h3⟩)
      go_roundw
      case rel => exact ⟨k + 1, hlt, by go_num, by rw [HJ.out]; exact h2, HE2.out.trans3 h3⟩
      case measure => simp [intOf]; omega
    · obtain rfl : k = l.length := by omega
      have HF := HH2.out
      rw [List.take_length] at HF
      have HF2 := Lib.hid HF; clear HF
      go_wp2_with (go_at_call 82; refine (Sum_any _ w.heap.size _ (HL.out.ext HE2.out) HF2.out).mono ?_; rintro e w2 ⟨rfl, h2⟩)
      go_ret
      exact ⟨rfl, HE2.out.trans h2⟩
theorem Of_none (w : World) (hL : Laid w) :
    Calls Tryd.prog 81 #[.slice none 0 0] w fun e w' => e = .returned (.string ⟨(shaL []).toArray⟩) ∧ Ext w w' := by
  have HL := Lib.hid hL
  clear hL
  go_enter Tryd.func81, Tryd.ntmps81
  go_wp2_with (go_at_call 79; refine (New_any w HL.out).mono ?_; rintro e w1 ⟨rfl, hH, h1⟩)
  have HH := Lib.hid hH; have HE := Lib.hid h1
  clear hH h1
  go_loopw [9] (fun i wr => i = .int .i64 0 ∧ IsHash wr w.heap.size [] ∧ Ext w wr) (fun _ _ => 0)
  case atStart => exact ⟨rfl, HH.out, HE.out⟩
  case round =>
    obtain ⟨rfl, hH, hext⟩ := hrel
    have HH2 := Lib.hid hH; have HE2 := Lib.hid hext
    clear hH hext
    go_wp2_with (go_at_call 82; refine (Sum_any _ w.heap.size _ (HL.out.ext HE2.out) HH2.out).mono ?_; rintro e w2 ⟨rfl, h2⟩)
    go_ret
    exact ⟨rfl, HE2.out.trans h2⟩
theorem texts_one (w : World) (s : ByteArray) (t : TypeId) : Texts (w.alloc (.cells #[.string s] t)) ⟨w.heap.size, 0, none⟩ [s] := by
  refine fun i u hu => ⟨by simp, ?_⟩
  rw [Addr.add_mid]
  rw [cell_of_row _ _ _ _ _ _ (heap_alloc_new w _)]
  cases i with
  | zero => simp at hu; subst hu; rfl
  | succ n => simp at hu
theorem joinL_one (s : ByteArray) : joinL [s] = s.data.toList := by simp [joinL]
theorem joinL_lt {l : List ByteArray} {k : Nat} (h : k < l.length) : l[k].size ≤ (joinL l).length := by
  have h1 := joinL_le l (k + 1)
  rw [joinL_succ l k h, List.length_append, size_list] at h1
  omega
/-- Of one text, handed in a new row. -/
theorem Of_one (w : World) (s : ByteArray) (t : TypeId) (hL : Laid w) (hs : s.size ≤ 1099511627776) :
    Calls Tryd.prog 81 #[.slice (some ⟨w.heap.size, 0, none⟩) 1 1] (w.alloc (.cells #[.string s] t)) fun e w' => e = .returned (.string ⟨(shaL s.data.toList).toArray⟩) ∧ Ext w w' := by
  have h := Of_any (w.alloc (.cells #[.string s] t)) ⟨w.heap.size, 0, none⟩ 1 [s] (hL.ext ((Ext.refl w).alloc _)) (texts_one w s t) (by simp) (by rw [joinL_one, size_list]; omega)
  rw [joinL_one] at h
  exact h.mono fun e w' he => ⟨he.1, ((Ext.refl w).alloc _).trans he.2⟩
end Go.Proofs.YtdnpgmoiapkhnaaDoor
end

section
namespace Go.Proofs.YtdnpgmoiapkhnaaDoor
open Go.RowKit

/-- The first k texts, one behind the other. -/
def J (l : List ByteArray) (k : Nat) : ByteArray := ⟨(joinL (l.take k)).toArray⟩
theorem J_size (l : List ByteArray) (k : Nat) : (J l k).size = (joinL (l.take k)).length := txt_size _
theorem J_succ (l : List ByteArray) (k : Nat) (h : k < l.length) : J l k ++ l[k] = J l (k + 1) := by
  apply ByteArray.ext
  rw [ByteArray.data_append]
  apply Array.toList_inj.1
  simp [J, joinL_succ l k h]
end Go.Proofs.YtdnpgmoiapkhnaaDoor
end

section
namespace Go.Proofs.YtdnpgmoiapkhnaaDoor
open Go.RowKit

theorem repeatL_one (c : UInt8) (n : Nat) : Lib.repeatL [c] n = List.replicate n c := by
  induction n with
  | zero => rfl
  | succ n ih => rw [Lib.repeatL, ih, List.replicate_succ]; rfl
theorem repeat1_any (c : UInt8) (x : Int) (n : Nat) (hx : x = (n : Int)) (hn : n ≤ 64) (w : World) :
    Calls Tryd.prog 95 #[.string ⟨#[c]⟩, .int .i64 x] w fun e w' => e = .returned (.string ⟨(List.replicate n c).toArray⟩) ∧ Ext w w' := by
  subst hx
  have h := Tryd.strings_Repeat ⟨#[c]⟩ n w (by omega) (by show 1 * n ≤ _; omega)
  have e : (⟨#[c]⟩ : ByteArray).data.toList = [c] := rfl
  rw [e, repeatL_one] at h
  exact h
theorem block_text (K : ByteArray) (k : List UInt8) (h : K.data.toList = keyL k) : K ++ ⟨(List.replicate (64 - K.size) 0).toArray⟩ = ⟨(blockL k).toArray⟩ := by
  have e : K = ⟨(keyL k).toArray⟩ := by rw [← h]
  have e2 : K.size = (keyL k).length := by rw [← h, size_list]
  rw [e2]
  conv => lhs; lhs; rw [e]
  exact str_append _ _
set_option maxRecDepth 100000 in
theorem blockKey_any (key : ByteArray) (w : World) (hL : Laid w) (hk : key.size ≤ 1099511627776) :
    Calls Tryd.prog 77 #[.string key] w fun e w' => e = .returned (.string ⟨(blockL key.data.toList).toArray⟩) ∧ Ext w w' := by
  by_cases hlong : 64 < key.size
  · have hK : (⟨(shaL key.data.toList).toArray⟩ : ByteArray).data.toList = keyL key.data.toList := by unfold keyL; rw [if_pos (by rw [size_list]; exact hlong)]
    have hKs : (⟨(shaL key.data.toList).toArray⟩ : ByteArray).size = 32 := by rw [txt_size, shaL_length]
    have HS := Lib.hid (fun t => Of_one w key t hL hk)
    have HB := Lib.hid (block_text _ _ hK)
    clear hK hL
    generalize (⟨(shaL key.data.toList).toArray⟩ : ByteArray) = K at *
    go_enter Tryd.func77, Tryd.ntmps77
    go_wp2_with (first
      | (go_at_call 81; refine (HS.out _).mono ?_; rintro e w1 ⟨rfl, h1⟩)
      | (go_at_call 95; refine (repeat1_any 0 _ (64 - K.size) (by omega) (by omega) _).mono ?_; rintro e w2 ⟨rfl, h2⟩))
    go_ret
    exact ⟨by rw [← HB.out, hKs]; rfl, h1.trans h2⟩
  · have hK : key.data.toList = keyL key.data.toList := by unfold keyL; rw [if_neg (by rw [size_list]; exact hlong)]
    have HB := Lib.hid (block_text _ _ hK)
    clear hK hL
    go_enter Tryd.func77, Tryd.ntmps77
    go_wp2_with (go_at_call 95; refine (repeat1_any 0 _ (64 - key.size) (by omega) (by omega) _).mono ?_; rintro e w2 ⟨rfl, h2⟩)
    go_ret
    exact ⟨by rw [← HB.out]; rfl, h2⟩
theorem mix_text2 (k : List UInt8) (c : UInt8) : xorL (⟨(blockL k).toArray⟩ : ByteArray).data.toList (⟨(List.replicate 64 c).toArray⟩ : ByteArray).data.toList = mixL k c := by simp [mixL]
theorem xor_mix (k : List UInt8) (c : UInt8) (w : World) : Calls Tryd.prog 58 #[.string ⟨(blockL k).toArray⟩, .string ⟨(List.replicate 64 c).toArray⟩] w fun e w' => e = .returned (.tuple #[.string ⟨(mixL k c).toArray⟩, .bool true]) ∧ Ext w w' := by
  have h := xor_yes ⟨(blockL k).toArray⟩ ⟨(List.replicate 64 c).toArray⟩ (by rw [txt_size, txt_size, blockL_length, List.length_replicate]) (by rw [txt_size, blockL_length]; decide) w
  rw [mix_text2] at h
  exact h
theorem mixed_any (k : List UInt8) (c : UInt8) (w : World) :
    Calls Tryd.prog 78 #[.string ⟨(blockL k).toArray⟩, .string ⟨#[c]⟩] w fun e w' => e = .returned (.string ⟨(mixL k c).toArray⟩) ∧ Ext w w' := by
  have HX := Lib.hid (xor_mix k c)
  generalize (⟨(blockL k).toArray⟩ : ByteArray) = B at *
  go_enter Tryd.func78, Tryd.ntmps78
  go_wp2_with (first
    | (go_at_call 95; refine (repeat1_any c _ 64 rfl (by decide) _).mono ?_; rintro e w1 ⟨rfl, h1⟩)
    | (go_at_call 58; refine (HX.out _).mono ?_; rintro e w2 ⟨rfl, h2⟩))
  go_ret
  exact ⟨rfl, h1.trans h2⟩
theorem keys_info : (Tryd.prog.info? 108).map (·.size) = some 2 := by kernel_rfl
set_option maxRecDepth 100000 in
theorem keysOf_any (key : ByteArray) (w : World) (hL : Laid w) (hk : key.size ≤ 1099511627776) :
    Calls Tryd.prog 60 #[.string key] w fun e w' => e = .returned (.agg #[.string ⟨(mixL key.data.toList 54).toArray⟩, .string ⟨(mixL key.data.toList 92).toArray⟩]) ∧ Ext w w' := by
  have HB := Lib.hid (fun u (h : Ext w u) => blockKey_any key u (hL.ext h) hk)
  have H1 := Lib.hid (mixed_any key.data.toList 54)
  have H2 := Lib.hid (mixed_any key.data.toList 92)
  have H0 := Lib.hid (Blk.new w [.string ⟨#[]⟩, .string ⟨#[]⟩] 108)
  clear hL
  go_enter Tryd.func60, Tryd.ntmps60
  go_wp2_with (first
    | (go_at_call 77; refine (HB.out _ ((Ext.refl w).alloc _)).mono ?_; rintro e w1 ⟨rfl, h1⟩)
    | (go_at_call 78; ((with_reducible refine (H1.out _).mono ?_); rintro e w2 ⟨rfl, h2⟩))
    | (go_at_call 78; ((with_reducible refine (H2.out _).mono ?_); rintro e w3 ⟨rfl, h3⟩; have hb3 := ((H0.out.ext h1).ext h2).ext h3; have c0 := hb3.cell 0 _ rfl; have c1 := hb3.cell 1 _ rfl; have f0 := hb3.frozen 0; have f1 := hb3.frozen 1; have HB3 := Lib.hid hb3; clear hb3)))
  exact bodyPost_ret (results_cell_row rfl _ _ w.heap.size 108 #[.string ⟨(mixL key.data.toList 54).toArray⟩, .string ⟨(mixL key.data.toList 92).toArray⟩] (0, 0) _ rfl ((HB3.out.set_ 0 _).set_ 1 _) Tryd.underlying108 rfl keys_info) rfl ⟨rfl, ((((((Ext.refl w).alloc _).trans h1).trans h2).trans h3).setCell (p := ⟨w.heap.size, 0, none⟩) (Nat.le_refl _) _).setCell (p := ⟨w.heap.size, 1, none⟩) (Nat.le_refl _) _⟩
end Go.Proofs.YtdnpgmoiapkhnaaDoor
end
