/- Contracts: the tag of texts in a row, by the two keys, by the program. Contracts: a tag cut to its first bytes. Contracts: whether texts are the same, by the program. Contracts: which tags are right, by the program. Contracts: tags of texts handed in a new row, by the program. Contracts: envelopes: what an envelope's tag is of; its parts in a row; its bytes: by the program. Contracts: envelopes: an envelope's bytes: by the program. -/
import Derived.Test.YtobhbppogeghnaaGreatDoorM02
import Derived.Test.YtobhbppogeghnaaGreatDoorM08
import Derived.Test.YtobhbppogeghnaaGreatDoorM06
import Derived.Test.YtobhbppogeghnaaGreatDoorM05
import Derived.Deep.RegionHeld3
section
namespace Go.Proofs.YtobhbppogeghnaaGreatDoor
open Go.RowKit

theorem texts_pair (w : World) (s u : ByteArray) (t : TypeId) : Texts (w.alloc (.cells #[.string s, .string u] t)) ⟨w.heap.size, 0, none⟩ [s, u] := by
  refine fun i v hv => ⟨by simp, ?_⟩
  rw [Addr.add_mid]
  rw [cell_of_row _ _ _ _ _ _ (heap_alloc_new w _)]
  match i, hv with
  | 0, hv => simp at hv; subst hv; rfl
  | 1, hv => simp at hv; subst hv; rfl
  | n + 2, hv => simp at hv
theorem joinL_pair (s u : ByteArray) : joinL [s, u] = s.data.toList ++ u.data.toList := by simp [joinL]
/-- Of two texts, handed in a new row. -/
theorem Of_pair (w : World) (s u : ByteArray) (t : TypeId) (hL : Laid w) (hs : s.size + u.size ≤ 1099511627776) :
    Calls Tryz.prog 142 #[.slice (some ⟨w.heap.size, 0, none⟩) 2 2] (w.alloc (.cells #[.string s, .string u] t)) fun e w' => e = .returned (.string ⟨(shaL (s.data.toList ++ u.data.toList)).toArray⟩) ∧ Ext w w' := by
  have h := Of_any (w.alloc (.cells #[.string s, .string u] t)) ⟨w.heap.size, 0, none⟩ 2 [s, u] (hL.ext ((Ext.refl w).alloc _)) (texts_pair w s u t) (by simp) (by rw [joinL_pair, List.length_append, size_list, size_list]; omega)
  rw [joinL_pair] at h
  exact h.mono fun e w' he => ⟨he.1, ((Ext.refl w).alloc _).trans he.2⟩
/-- What the tag's walk ends in: the outer key and the inner sum. -/
def outL (ki ko : ByteArray) (m : List UInt8) : List UInt8 := shaL (ko.data.toList ++ shaL (ki.data.toList ++ m))
theorem outL_fold (ki ko : ByteArray) (m : List UInt8) : shaL (ko.data.toList ++ (⟨(shaL (ki.data.toList ++ m)).toArray⟩ : ByteArray).data.toList) = outL ki ko m := rfl
theorem Of_out (u : World) (ki ko : ByteArray) (m : List UInt8) (t : TypeId) (hL : Laid u) (hko : ko.size ≤ 64) :
    Calls Tryz.prog 142 #[.slice (some ⟨u.heap.size, 0, none⟩) 2 2] (u.alloc (.cells #[.string ko, .string ⟨(shaL (ki.data.toList ++ m)).toArray⟩] t)) fun e w' => e = .returned (.string ⟨(outL ki ko m).toArray⟩) ∧ Ext u w' := by
  have hz : ByteArray.size ⟨(shaL (ki.data.toList ++ m)).toArray⟩ = 32 := by rw [txt_size, shaL_length]
  have h := Of_pair u ko ⟨(shaL (ki.data.toList ++ m)).toArray⟩ t hL (by omega)
  rw [outL_fold] at h
  exact h
theorem joinL_bound {l : List ByteArray} {k n : Nat} (hlt : k < l.length) (h : (joinL l).length ≤ n) : (joinL (l.take k)).length + l[k].size ≤ n := by
  have hle := joinL_le l (k + 1)
  rw [joinL_succ l k hlt, List.length_append, size_list] at hle
  omega
set_option maxRecDepth 100000 in
set_option maxHeartbeats 2000000 in
theorem tag_any (w : World) (a : Addr) (c : Nat) (l : List ByteArray) (ki ko : ByteArray) (hL : Laid w) (hT : Texts w a l) (hn : l.length ≤ 140737488355328) (hki : ki.size ≤ 64) (hko : ko.size ≤ 64) (hs : (joinL l).length ≤ 1099511627776) :
    Calls Tryz.prog 116 #[.agg #[.string ki, .string ko], .slice (some a) l.length c] w fun e w' => e = .returned (.string ⟨(outL ki ko (joinL l)).toArray⟩) ∧ Ext w w' := by
  have hsz : 2 ≤ w.heap.size := hL.size
  obtain ⟨W0, hW0⟩ : ∃ W0, w.alloc (.cells #[.string ki, .string ko] 161) = W0 := ⟨_, rfl⟩
  have hx0 : Ext w W0 := by rw [← hW0]; exact (Ext.refl w).alloc _
  have hz0 : W0.heap.size = w.heap.size + 1 := by rw [← hW0]; simp
  have hB0 : Blk W0 w.heap.size 161 [.string ki, .string ko] := by rw [← hW0]; exact Blk.new w _ _
  have HL := Lib.hid (hL.ext hx0); have HX := Lib.hid (hT.ext hx0); have HS := Lib.hid hs; have HB := Lib.hid hB0; have H0 := Lib.hid hx0
  have c0 := hB0.cell 0 _ rfl
  have hz2 : 2 ≤ W0.heap.size := by omega
  have hA0 := Lib.hid (fun u (hL2 : Laid u) (hh : IsHash u W0.heap.size []) => Add_any u W0.heap.size [] ki hL2 hz2 hh (by simp; omega))
  have HZ := Lib.hid hz2
  clear hL hT hs hx0 hB0 hz0 hz2
  go_enter Tryz.func116, Tryz.ntmps116
  go_wp2_with (first
    | (go_at_call 140; refine (New_any W0 HL.out).mono ?_; rintro e w1 ⟨rfl, hH, h1⟩; have c1 := (HB.out.ext h1).cell 0 _ rfl; have HH := Lib.hid hH; have HE := Lib.hid h1; clear hH h1)
    | (go_at_call 141; refine (hA0.out _ (HL.out.ext HE.out) HH.out).mono ?_; rintro e w2 ⟨rfl, h2, h3⟩))
  have HH2 := Lib.hid h2; have HE2 := Lib.hid (HE.out.trans3 h3)
  clear h2 h3 c1 c0 HH HE hA0
  go_loopw [15] (fun i wr => ∃ k : Nat, k ≤ l.length ∧ i = .int .i64 k ∧ IsHash wr W0.heap.size (ki.data.toList ++ joinL (l.take k)) ∧ Ext W0 wr) (fun i _ => l.length - (intOf i).toNat)
  case atStart => exact ⟨0, Nat.zero_le _, rfl, by simpa [joinL] using HH2.out, HE2.out⟩
  case round =>
    obtain ⟨k, hk, rfl, hH, hext⟩ := hrel
    have HH3 := Lib.hid hH; have HE3 := Lib.hid hext
    clear hH hext HH2 HE2
    by_cases hlt : k < l.length
    · have hc := ((HX.out.ext HE3.out) k l[k] (List.getElem?_eq_getElem hlt)).2
      have hgl := ((HX.out.ext HE3.out) k l[k] (List.getElem?_eq_getElem hlt)).1
      have hle := joinL_bound hlt HS.out
      have hlt2 : (k : Int) < (l.length : Int) := by omega
      have HC := Lib.hid (fun u (hL2 : Laid u) (hh : IsHash u W0.heap.size (ki.data.toList ++ joinL (l.take k))) => Add_any u W0.heap.size (ki.data.toList ++ joinL (l.take k)) l[k] hL2 HZ.out hh (by rw [List.length_append, size_list]; omega))
      have HJ := Lib.hid (joinL_succ l k hlt)
      clear hle
      generalize l[k] = s at *
      go_wp2_with (go_at_call 141; refine (HC.out _ (HL.out.ext HE3.out) HH3.out).mono ?_; rintro e w2 ⟨rfl, h2, h3⟩)
      go_roundw
      case rel => exact ⟨k + 1, hlt, by go_num, by rw [HJ.out, ← List.append_assoc]; exact h2, HE3.out.trans3 h3⟩
      case measure => simp [intOf]; omega
    · obtain rfl : k = l.length := by omega
      have HF := HH3.out
      rw [List.take_length] at HF
      have HF2 := Lib.hid HF; clear HF
      have x0 : Ext wr wr.drew := (Ext.refl wr).drew
      have k1 : wr.drew.cell? ⟨w.heap.size, 1, none⟩ = some (.string ko) := (HB.out.ext HE3.out.drew).cell 1 _ rfl
      have hh0 := HF2.out.drew
      have HSum := Lib.hid (fun u (hu : Ext wr u) => Sum_any u W0.heap.size (ki.data.toList ++ joinL l) (HL.out.ext (HE3.out.trans hu)) (HF2.out.ext hu))
      have HOut := Lib.hid (fun u t (hu : Ext wr u) => Of_out u ki ko (joinL l) t (HL.out.ext (HE3.out.trans hu)) hko)
      have HKeep := Lib.hid (fun u (hu : Ext wr u) => (HB.out.ext (HE3.out.trans hu)).cell 1 _ rfl)
      have HKeepH := Lib.hid (fun u (hu : Ext wr u) => HF2.out.ext hu)
      go_wp2_with fail
      go_region_held3 (fun u => u.cell? ⟨w.heap.size, 1, none⟩ = some (.string ko) ∧ IsHash u W0.heap.size (ki.data.toList ++ joinL l) ∧ Ext wr u) (first | exact ⟨k1, hh0, x0⟩ | exact ⟨HKeep.out _ (by assumption), HKeepH.out _ (by assumption), by assumption⟩ | exact ⟨HKeep.out _ (Ext.alloc (by assumption) _), HKeepH.out _ (Ext.alloc (by assumption) _), Ext.alloc (by assumption) _⟩ | go_keep) (first
        | (go_at_call 143; refine (HSum.out _ (by assumption)).mono ?_; rintro e w4 ⟨rfl, h4⟩; have x4 := Ext.trans (a := wr) (by assumption) h4)
        | (go_at_call 142; refine (HOut.out _ _ (by assumption)).mono ?_; rintro e w5 ⟨rfl, h5⟩; have x5 := Ext.trans (a := wr) (by assumption) h5))
      go_wp2
      go_ret
      exact ⟨rfl, (H0.out.trans HE3.out).trans x5⟩
set_option maxRecDepth 100000 in
set_option maxHeartbeats 2000000 in
theorem tag_none (w : World) (ki ko : ByteArray) (m : List UInt8) (hm : m = []) (hL : Laid w) (hki : ki.size ≤ 64) (hko : ko.size ≤ 64) :
    Calls Tryz.prog 116 #[.agg #[.string ki, .string ko], .slice none 0 0] w fun e w' => e = .returned (.string ⟨(outL ki ko m).toArray⟩) ∧ Ext w w' := by
  have hsz : 2 ≤ w.heap.size := hL.size
  have HM := Lib.hid hm
  clear hm
  obtain ⟨W0, hW0⟩ : ∃ W0, w.alloc (.cells #[.string ki, .string ko] 161) = W0 := ⟨_, rfl⟩
  have hx0 : Ext w W0 := by rw [← hW0]; exact (Ext.refl w).alloc _
  have hz0 : W0.heap.size = w.heap.size + 1 := by rw [← hW0]; simp
  have hB0 : Blk W0 w.heap.size 161 [.string ki, .string ko] := by rw [← hW0]; exact Blk.new w _ _
  have HL := Lib.hid (hL.ext hx0); have HB := Lib.hid hB0; have H0 := Lib.hid hx0
  have c0 := hB0.cell 0 _ rfl
  have hz2 : 2 ≤ W0.heap.size := by omega
  have hA0 := Lib.hid (fun u (hL2 : Laid u) (hh : IsHash u W0.heap.size []) => Add_any u W0.heap.size [] ki hL2 hz2 hh (by simp; omega))
  have HZ := Lib.hid hz2
  clear hL hx0 hB0 hz0 hz2
  go_enter Tryz.func116, Tryz.ntmps116
  go_wp2_with (first
    | (go_at_call 140; refine (New_any W0 HL.out).mono ?_; rintro e w1 ⟨rfl, hH, h1⟩; have c1 := (HB.out.ext h1).cell 0 _ rfl; have HH := Lib.hid hH; have HE := Lib.hid h1; clear hH h1)
    | (go_at_call 141; refine (hA0.out _ (HL.out.ext HE.out) HH.out).mono ?_; rintro e w2 ⟨rfl, h2, h3⟩))
  have HH2 := Lib.hid h2; have HE2 := Lib.hid (HE.out.trans3 h3)
  clear h2 h3 c1 c0 HH HE hA0
  go_loopw [15] (fun i wr => i = .int .i64 0 ∧ IsHash wr W0.heap.size (ki.data.toList ++ m) ∧ Ext W0 wr) (fun _ _ => 0)
  case atStart => exact ⟨rfl, by rw [HM.out]; simpa using HH2.out, HE2.out⟩
  case round =>
    obtain ⟨rfl, hH, hext⟩ := hrel
    have HF2 := Lib.hid hH; have HE3 := Lib.hid hext
    clear hH hext HH2 HE2
    have x0 : Ext wr wr.drew := (Ext.refl wr).drew
    have k1 : wr.drew.cell? ⟨w.heap.size, 1, none⟩ = some (.string ko) := (HB.out.ext HE3.out.drew).cell 1 _ rfl
    have hh0 := HF2.out.drew
    have HSum := Lib.hid (fun u (hu : Ext wr u) => Sum_any u W0.heap.size (ki.data.toList ++ m) (HL.out.ext (HE3.out.trans hu)) (HF2.out.ext hu))
    have HOut := Lib.hid (fun u t (hu : Ext wr u) => Of_out u ki ko m t (HL.out.ext (HE3.out.trans hu)) hko)
    have HKeep := Lib.hid (fun u (hu : Ext wr u) => (HB.out.ext (HE3.out.trans hu)).cell 1 _ rfl)
    have HKeepH := Lib.hid (fun u (hu : Ext wr u) => HF2.out.ext hu)
    go_wp2_with fail
    go_region_held3 (fun u => u.cell? ⟨w.heap.size, 1, none⟩ = some (.string ko) ∧ IsHash u W0.heap.size (ki.data.toList ++ m) ∧ Ext wr u) (first | exact ⟨k1, hh0, x0⟩ | exact ⟨HKeep.out _ (by assumption), HKeepH.out _ (by assumption), by assumption⟩ | exact ⟨HKeep.out _ (Ext.alloc (by assumption) _), HKeepH.out _ (Ext.alloc (by assumption) _), Ext.alloc (by assumption) _⟩ | go_keep) (first
      | (go_at_call 143; refine (HSum.out _ (by assumption)).mono ?_; rintro e w4 ⟨rfl, h4⟩; have x4 := Ext.trans (a := wr) (by assumption) h4)
      | (go_at_call 142; refine (HOut.out _ _ (by assumption)).mono ?_; rintro e w5 ⟨rfl, h5⟩; have x5 := Ext.trans (a := wr) (by assumption) h5))
    go_wp2
    go_ret
    exact ⟨rfl, (H0.out.trans HE3.out).trans x5⟩

theorem tag_v (w : World) (v : Value) (l : List ByteArray) (ki ko : ByteArray) (hL : Laid w) (hT : TextsV w v l) (hki : ki.size ≤ 64) (hko : ko.size ≤ 64) (hs : (joinL l).length ≤ 1099511627776) :
    Calls Tryz.prog 116 #[.agg #[.string ki, .string ko], v] w fun e w' => e = .returned (.string ⟨(outL ki ko (joinL l)).toArray⟩) ∧ Ext w w' := by
  rcases hT with ⟨rfl, rfl⟩ | ⟨a, c, rfl, h2, h3⟩
  · exact tag_none w ki ko _ rfl hL hki hko
  · exact tag_any w a c l ki ko hL h2 h3 hki hko hs
/-- By the two keys of a key. -/
theorem outL_mac (k m : List UInt8) : outL ⟨(mixL k 54).toArray⟩ ⟨(mixL k 92).toArray⟩ m = macL k m := by
  rw [macL_eq]; rfl
theorem tag_keys (w : World) (v : Value) (l : List ByteArray) (k : List UInt8) (hL : Laid w) (hT : TextsV w v l) (hs : (joinL l).length ≤ 1099511627776) :
    Calls Tryz.prog 116 #[.agg #[.string ⟨(mixL k 54).toArray⟩, .string ⟨(mixL k 92).toArray⟩], v] w fun e w' => e = .returned (.string ⟨(macL k (joinL l)).toArray⟩) ∧ Ext w w' := by
  have h := tag_v w v l ⟨(mixL k 54).toArray⟩ ⟨(mixL k 92).toArray⟩ hL hT (by rw [txt_size, mixL_length]; omega) (by rw [txt_size, mixL_length]; omega) hs
  rwa [outL_mac] at h
end Go.Proofs.YtobhbppogeghnaaGreatDoor
end

section
namespace Go.Proofs.YtobhbppogeghnaaGreatDoor
open Go.RowKit
theorem Of_mac (w : World) (key : ByteArray) (v : Value) (l : List ByteArray) (hL : Laid w) (hk : key.size ≤ 1099511627776) (hT : TextsV w v l) (hs : (joinL l).length ≤ 1099511627776) :
    Calls Tryz.prog 80 #[.string key, v] w fun e w' => e = .returned (.string ⟨(macL key.data.toList (joinL l)).toArray⟩) ∧ Ext w w' := by
  have HK := Lib.hid (keysOf_any key w hL hk)
  have HT := Lib.hid (fun u (hu : Ext w u) => tag_keys u v l key.data.toList (hL.ext hu) (hT.ext hu) hs)
  clear hL hT
  go_enter Tryz.func80, Tryz.ntmps80
  go_wp2_with (first
    | (go_at_call 115; refine (HK.out).mono ?_; rintro e w1 ⟨rfl, h1⟩)
    | (go_at_call 116; refine (HT.out _ h1).mono ?_; rintro e w2 ⟨rfl, h2⟩))
  go_ret
  exact ⟨rfl, h1.trans h2⟩
theorem cut_text (l : List UInt8) (n : Nat) : (⟨l.toArray⟩ : ByteArray).extract 0 n = ⟨(l.take n).toArray⟩ := by
  apply ByteArray.ext
  apply Array.toList_inj.1
  simp
theorem Cut_yes (w : World) (key : ByteArray) (n : Nat) (v : Value) (l : List ByteArray) (hL : Laid w) (hk : key.size ≤ 1099511627776) (hT : TextsV w v l) (hs : (joinL l).length ≤ 1099511627776) (h1 : 1 ≤ n) (h32 : n ≤ 32) :
    Calls Tryz.prog 122 #[.string key, .int .i64 (n : Int), v] w fun e w' => e = .returned (.tuple #[.string ⟨((macL key.data.toList (joinL l)).take n).toArray⟩, .bool true]) ∧ Ext w w' := by
  have HO := Lib.hid (Of_mac w key v l hL hk hT hs)
  have hz : ByteArray.size ⟨(macL key.data.toList (joinL l)).toArray⟩ = 32 := by rw [txt_size, macL_length]
  have HC := Lib.hid (cut_text (macL key.data.toList (joinL l)) n)
  clear hL hT
  generalize (⟨(macL key.data.toList (joinL l)).toArray⟩ : ByteArray) = T at *
  go_enter Tryz.func122, Tryz.ntmps122
  go_wp2_with (go_at_call 80; refine (HO.out).mono ?_; rintro e w1 ⟨rfl, h1⟩)
  go_ret2
  exact ⟨by rw [← HC.out]; rfl, h1⟩
theorem Cut_no (w : World) (key : ByteArray) (n : Int) (v : Value) (h : n < 1 ∨ 32 < n) :
    Calls Tryz.prog 122 #[.string key, .int .i64 n, v] w fun e w' => e = .returned (.tuple #[.string ⟨#[]⟩, .bool false]) ∧ w = w' := by
  go_enter Tryz.func122, Tryz.ntmps122
  rcases h with h | h
  · go_wp2
    go_ret2
    exact ⟨rfl, rfl⟩
  · by_cases h0 : n < 1
    · omega
    · go_wp2
      go_ret2
      exact ⟨rfl, rfl⟩
end Go.Proofs.YtobhbppogeghnaaGreatDoor
end

section
namespace Go.Proofs.YtobhbppogeghnaaGreatDoor
open Go.RowKit

/-! ### Equal -/
theorem or_zero (x y : UInt8) : (x ||| y = 0) ↔ x = 0 ∧ y = 0 := by
  constructor
  · intro h
    have h2 := congrArg UInt8.toNat h
    rw [UInt8.toNat_or] at h2
    have l1 : x.toNat ≤ x.toNat ||| y.toNat := Nat.left_le_or
    have l2 : y.toNat ≤ x.toNat ||| y.toNat := Nat.right_le_or
    have z : (0 : UInt8).toNat = 0 := rfl
    exact ⟨UInt8.toNat_inj.1 (by omega), UInt8.toNat_inj.1 (by omega)⟩
  · rintro ⟨rfl, rfl⟩; rfl
theorem xor_zero (x y : UInt8) : (x ^^^ y = 0) ↔ x = y := by
  constructor
  · intro h
    have : x ^^^ y ^^^ y = y := by rw [h]; simp
    rwa [UInt8.xor_assoc, UInt8.xor_self, UInt8.xor_zero] at this
  · rintro rfl; simp
/-- What is unlike among the first j bytes, put together. -/
def unl (a b : List UInt8) : Nat → UInt8
  | 0 => 0
  | j + 1 => unl a b j ||| (a.getD j 0 ^^^ b.getD j 0)
theorem unl_zero (a b : List UInt8) : ∀ j, unl a b j = 0 ↔ ∀ i, i < j → a.getD i 0 = b.getD i 0
  | 0 => by simp [unl]
  | j + 1 => by
    rw [unl, or_zero, unl_zero a b j, xor_zero]
    constructor
    · rintro ⟨h1, h2⟩ i hi
      rcases Nat.lt_or_eq_of_le (Nat.le_of_lt_succ hi) with h | rfl
      · exact h1 i h
      · exact h2
    · exact fun h => ⟨fun i hi => h i (by omega), h j (by omega)⟩
theorem unl_same {a b : ByteArray} (hab : a.size = b.size) : unl a.data.toList b.data.toList a.size = 0 ↔ a = b := by
  rw [unl_zero]
  constructor
  · intro h
    have e : a.data.toList = b.data.toList := by
      apply List.ext_getElem (by rw [size_list, size_list, hab])
      intro i h1 h2
      have := h i (by rw [← size_list]; exact h1)
      rwa [List.getD_eq_getElem?_getD, List.getD_eq_getElem?_getD, List.getElem?_eq_getElem h1, List.getElem?_eq_getElem h2] at this
    cases a; cases b
    congr
    exact Array.toList_inj.1 e
  · rintro rfl i _; rfl
theorem getD_byte (a : ByteArray) (j : Nat) (h : j < a.size) : a.data.toList.getD j 0 = a[j] := by
  rw [List.getD_eq_getElem?_getD, byte_at a j h]; rfl
theorem unl_step {a b : ByteArray} {j : Nat} (h1 : j < a.size) (h2 : j < b.size) :
    bits BinOp.or IntKind.u8 ((unl a.data.toList b.data.toList j).toNat : Int) (bits BinOp.xor IntKind.u8 (a[j].toNat : Int) (b[j].toNat : Int)) = ((unl a.data.toList b.data.toList (j + 1)).toNat : Int) := by
  rw [xor_byte, u8_or_nat _ _ (UInt8.toNat_lt _) (UInt8.toNat_lt _), unl, getD_byte a j h1, getD_byte b j h2, UInt8.toNat_or]

theorem unl_test {a b : ByteArray} (hab : a.size = b.size) : (((unl a.data.toList b.data.toList a.size).toNat : Int) == 0) = decide (a = b) := by
  have h := unl_same hab
  by_cases e : a = b
  · rw [h.2 e]; simp [e]
  · have : unl a.data.toList b.data.toList a.size ≠ 0 := fun h0 => e (h.1 h0)
    have : (unl a.data.toList b.data.toList a.size).toNat ≠ 0 := fun h0 => this (UInt8.toNat_inj.1 h0)
    simp [e]; omega
theorem equal_like (a b : ByteArray) (hab : a.size = b.size) (ha : a.size ≤ 140737488351232) (w : World) :
    Calls Tryz.prog 123 #[.string a, .string b] w fun e w' => e = .returned (.bool (decide (a = b))) ∧ Ext w w' := by
  have hne : ((a.size : Int) != (b.size : Int)) = false := by rw [hab]; simp
  have Hab := Lib.hid hab; clear hab
  go_enter Tryz.func123, Tryz.ntmps123
  go_wp2
  go_loopw [5, 14] (fun u i wr => ∃ j : Nat, j ≤ a.size ∧ i = .int .i64 j ∧ u = .int .u8 ((unl a.data.toList b.data.toList j).toNat : Int) ∧ Ext w wr) (fun _ i _ => a.size - (intOf i).toNat)
  case atStart => exact ⟨0, Nat.zero_le _, rfl, rfl, Ext.refl w⟩
  case round =>
    obtain ⟨j, hj, rfl, rfl, hext⟩ := hrel
    by_cases hlt : j < a.size
    · have hlt2 : j < b.size := by have := Hab.out; omega
      have hval := unl_step hlt hlt2
      have Hval := Lib.hid hval; clear hval
      go_wp2
      go_region
      go_wp2
      go_roundw
      case rel => exact ⟨j + 1, by omega, by go_num, int_eq Hval.out, hext.drew⟩
      case measure => simp [intOf]; omega
    · obtain rfl : j = a.size := by omega
      have Hv := Lib.hid (unl_test Hab.out)
      generalize unl a.data.toList b.data.toList a.size = x at *
      go_wp2
      go_ret
      exact ⟨congrArg (fun t => Ending.returned (.bool t)) Hv.out, hext⟩
end Go.Proofs.YtobhbppogeghnaaGreatDoor
end

section
namespace Go.Proofs.YtobhbppogeghnaaGreatDoor
open Go.RowKit

/-- Whether t is right for the tag m. -/
def chk (t m : List UInt8) : Bool := decide (16 ≤ t.length ∧ t.length ≤ 32 ∧ t = m.take t.length)
theorem chk_short {t m : List UInt8} (h : t.length < 16) : chk t m = false := by unfold chk; simp; omega
theorem chk_long {t m : List UInt8} (h : 32 < t.length) : chk t m = false := by unfold chk; simp; omega
theorem str_eq (a : ByteArray) (l : List UInt8) : a = ⟨l.toArray⟩ ↔ a.data.toList = l := by
  constructor
  · rintro rfl; rfl
  · intro h
    cases a
    simp only [ByteArray.mk.injEq]
    exact Array.toList_inj.1 h
theorem chk_fit {t : ByteArray} {m : List UInt8} (h16 : 16 ≤ t.size) (h32 : t.size ≤ 32) : decide (t = ⟨(m.take t.size).toArray⟩) = chk t.data.toList m := by
  unfold chk
  rw [size_list]
  simp [str_eq, h16, h32]
theorem equal_cut (tag : ByteArray) (m : List UInt8) (hm : m.length = 32) (h16 : 16 ≤ tag.size) (h32 : tag.size ≤ 32) (w : World) :
    Calls Tryz.prog 123 #[.string tag, .string ⟨(m.take tag.size).toArray⟩] w fun e w' => e = .returned (.bool (chk tag.data.toList m)) ∧ Ext w w' := by
  have h := equal_like tag ⟨(m.take tag.size).toArray⟩ (by show tag.size = ByteArray.size ⟨(m.take tag.size).toArray⟩; rw [txt_size (m.take tag.size), List.length_take]; omega) (by omega) w
  rw [chk_fit h16 h32] at h
  exact h
set_option maxRecDepth 100000 in
theorem Check_any (w : World) (key tag : ByteArray) (v : Value) (l : List ByteArray) (hL : Laid w) (hk : key.size ≤ 1099511627776) (ht : tag.size ≤ 140737488351232) (hT : TextsV w v l) (hs : (joinL l).length ≤ 1099511627776) :
    Calls Tryz.prog 88 #[.string key, .string tag, v] w fun e w' => e = .returned (.bool (chk tag.data.toList (macL key.data.toList (joinL l)))) ∧ Ext w w' := by
  by_cases h16 : tag.size < 16
  · rw [chk_short (by rw [size_list]; exact h16)]
    go_enter Tryz.func88, Tryz.ntmps88
    go_wp2
    go_ret
    exact ⟨rfl, Ext.refl _⟩
  · by_cases h32 : 32 < tag.size
    · rw [chk_long (by rw [size_list]; exact h32)]
      have HC := Lib.hid (fun u => Cut_no u key tag.size v (.inr (by omega)))
      go_enter Tryz.func88, Tryz.ntmps88
      go_wp2_with (go_at_call 122; refine (HC.out _).mono ?_; rintro e w1 ⟨rfl, rfl⟩)
      go_ret
      exact ⟨rfl, Ext.refl _⟩
    · have HC := Lib.hid (fun u (hu : Ext w u) => Cut_yes u key tag.size v l (hL.ext hu) hk (hT.ext hu) hs (by omega) (by omega))
      have HE := Lib.hid (equal_cut tag (macL key.data.toList (joinL l)) (macL_length _ _) (by omega) (by omega))
      clear hL hT
      generalize (⟨((macL key.data.toList (joinL l)).take tag.size).toArray⟩ : ByteArray) = C at *
      go_enter Tryz.func88, Tryz.ntmps88
      go_wp2_with (first
        | (go_at_call 122; refine (HC.out _ (Ext.refl w)).mono ?_; rintro e w1 ⟨rfl, h1⟩)
        | (go_at_call 123; refine (HE.out _).mono ?_; rintro e w2 ⟨rfl, h2⟩))
      go_ret
      exact ⟨rfl, h1.trans h2⟩
end Go.Proofs.YtobhbppogeghnaaGreatDoor
end

section
namespace Go.Proofs.YtobhbppogeghnaaGreatDoor
open Go.RowKit

theorem texts_lit (w : World) (l : List ByteArray) (t : TypeId) : Texts (w.alloc (.cells (l.map Value.string).toArray t)) ⟨w.heap.size, 0, none⟩ l := by
  refine fun i v hv => ⟨by simp, ?_⟩
  rw [Addr.add_mid]
  rw [cell_of_row _ _ _ _ _ _ (heap_alloc_new w _)]
  simp [hv]
end Go.Proofs.YtobhbppogeghnaaGreatDoor
end

section
namespace Go.Proofs.YtobhbppogeghnaaGreatDoor
open Go.RowKit

theorem infoS14 : (Tryz.prog.info? 9).map (fun i => (i.zero, i.size, i.bytes)) = some (some (.string ⟨#[]⟩), 1, 16) := by kernel_rfl
theorem strs_one (l : List ByteArray) : ∀ u ∈ l.map Value.string, u.oneCell' = true := by
  intro u hu
  obtain ⟨_, _, rfl⟩ := List.mem_map.1 hu
  rfl
theorem Sl.textsR {w : World} {κ : Foot} {k n c g : Nat} {l : List ByteArray} (h : Sl w κ k 1 9 (some ⟨g, 0, none⟩) n c (l.map Value.string)) : Texts w ⟨g, 0, none⟩ l := by
  intro i s hs
  obtain ⟨g', e, hlt, _, hc, _⟩ := h.cell (j := i) (u := .string s) (by rw [List.getElem?_map, hs]; rfl)
  cases e
  refine ⟨hlt, ?_⟩
  rw [Addr.add_mid, Nat.zero_add]
  exact hc
/-- append of texts to a slice of texts without room. -/
theorem run_app_texts {v w : World} {g g2 : Nat} {l l2 : List ByteArray} (hv : Ext v w) (hg : v.heap.size ≤ g) (hb : Blk w g 9 (l.map Value.string)) (hb2 : Blk w g2 9 (l2.map Value.string)) (hl : l.length ≤ 1000) (hl2 : l2.length ≤ 1000) (ty : TypeId) :
    ∃ g' c' w', (Builtin.append_ #[35, 35] ty #[.slice (some ⟨g, 0, none⟩) l.length l.length, .slice (some ⟨g2, 0, none⟩) l2.length l2.length]).run Tryz.prog w = .ok (.slice (some ⟨g', 0, none⟩) (l.length + l2.length) c') w' ∧ Texts w' ⟨g', 0, none⟩ (l ++ l2) ∧ l.length + l2.length ≤ c' ∧ Ext v w' := by
  have hs : Sl w (kp (some ⟨g, 0, none⟩)) 1 1 9 (some ⟨g, 0, none⟩) l.length l.length (l.map Value.string) := Sl.ofBlkR hb (by simp) (by simp [kp])
  have hsrc : Src Tryz.prog 1 35 (.slice (some ⟨g2, 0, none⟩) l2.length l2.length) l2.length (l2.map Value.string) w := (Sl.ofBlkR (κ := fun _ => 0) (z := 1) hb2 (by simp) rfl).src Tryz.underlying35 (strs_one l2)
  obtain ⟨p', c', w', κ', hr, hsl, hf, hp, _, _⟩ := run_append_sl hs 35 35 ty _ _ Tryz.underlying35 infoS14 rfl _ _ _ hsrc (strs_one l) (by omega) (by decide)
  obtain ⟨g', rfl⟩ : ∃ g', p' = some ⟨g', 0, none⟩ := by
    rcases hp with e | e
    · exact ⟨_, e⟩
    · exact ⟨_, e⟩
  refine ⟨g', c', w', hr, Sl.textsR (by rw [List.map_append]; exact hsl), hsl.2.1, ⟨hf.os.trans hv.os, hf.tape.trans hv.tape, hf.output.trans hv.output, Nat.le_trans hv.size hf.size, fun x hx => (hf.other x (Nat.lt_of_lt_of_le hx hv.size) (fun q => ?_)).trans (hv.block x hx)⟩⟩
  have := kp_one q
  simp at this
section
variable {v w : World} {ops : Array Oper} {rest : List Oper} {o : Oper} {a : Act}
theorem wpList_app_texts {Q : Exit → Act → World → Prop} (hgd : o.guard = none) (s x : Operand) (ho : o.op = .call { callee := .builtin .append, args := #[s, x], argTypes := #[35, 35] })
    {g g2 : Nat} {l l2 : List ByteArray} (hs : a.eval s = .slice (some ⟨g, 0, none⟩) l.length l.length) (hx : a.eval x = .slice (some ⟨g2, 0, none⟩) l2.length l2.length) (hv : Ext v w) (hg : v.heap.size ≤ g) (hb : Blk w g 9 (l.map Value.string)) (hb2 : Blk w g2 9 (l2.map Value.string)) (hl : l.length ≤ 1000) (hl2 : l2.length ≤ 1000)
    (hQ : ∀ g' c' w', Texts w' ⟨g', 0, none⟩ (l ++ l2) → l.length + l2.length ≤ c' → Ext v w' → wpList Tryz.prog ops Q rest (a.put o.dst (.slice (some ⟨g', 0, none⟩) (l.length + l2.length) c')) w') : wpList Tryz.prog ops Q (o :: rest) a w := by
  obtain ⟨g', c', w', hr, k1, k2, k3⟩ := run_app_texts hv hg hb hb2 hl hl2 o.type
  refine wpList_plain hgd fun K hK => ?_
  unfold Oper.wp execOp
  simp only [ho, resolve, invoke, builtin, Sem.run_bind, Sem.run_pure, Result.andThen_ok, List.map_toArray, List.map_cons, List.map_nil, hs, hx, hr]
  exact hK _ _ (hQ g' c' w' k1 k2 k3)
theorem step_app_texts {K : Act → World → Prop} {Q : Exit → Act → World → Prop} {E : Prop} (hgd : o.guard = none) (s x : Operand) (ho : o.op = .call { callee := .builtin .append, args := #[s, x], argTypes := #[35, 35] })
    {g g2 : Nat} {l l2 : List ByteArray} (hs : a.eval s = .slice (some ⟨g, 0, none⟩) l.length l.length) (hx : a.eval x = .slice (some ⟨g2, 0, none⟩) l2.length l2.length) (hv : Ext v w) (hg : v.heap.size ≤ g) (hb : Blk w g 9 (l.map Value.string)) (hb2 : Blk w g2 9 (l2.map Value.string)) (hl : l.length ≤ 1000) (hl2 : l2.length ≤ 1000)
    (hQ : ∀ g' c' w', Texts w' ⟨g', 0, none⟩ (l ++ l2) → l.length + l2.length ≤ c' → Ext v w' → K (a.put o.dst (.slice (some ⟨g', 0, none⟩) (l.length + l2.length) c')) w') : if Region.wanted o (yielded ops a.tmps) = true then Oper.wp Tryz.prog o a w K Q else E := by
  have hw : Region.wanted o (yielded ops a.tmps) = true := by simp [Region.wanted, hgd]
  rw [if_pos hw]
  obtain ⟨g', c', w', hr, k1, k2, k3⟩ := run_app_texts hv hg hb hb2 hl hl2 o.type
  unfold Oper.wp execOp
  simp only [ho, resolve, invoke, builtin, Sem.run_bind, Sem.run_pure, Result.andThen_ok, List.map_toArray, List.map_cons, List.map_nil, hs, hx, hr]
  exact hQ g' c' w' k1 k2 k3
end
/-! ### Parts in a row -/
theorem ahead_any (w : World) (A B C D T : ByteArray) :
    Calls Tryz.prog 82 #[.agg #[.string A, .string B, .string C, .string D, .string T]] w fun e w' => ∃ g, e = .returned (.slice (some ⟨g, 0, none⟩) 4 4) ∧ Blk w' g 9 [.string A, .string B, .string C, .string D] ∧ w.heap.size ≤ g ∧ Ext w w' := by
  obtain ⟨W0, hW0⟩ : ∃ W0, w.alloc (.cells #[.string A, .string B, .string C, .string D, .string T] 120) = W0 := ⟨_, rfl⟩
  have hx0 : Ext w W0 := by rw [← hW0]; exact (Ext.refl w).alloc _
  have hb0 : Blk W0 w.heap.size 120 [.string A, .string B, .string C, .string D, .string T] := by rw [← hW0]; exact Blk.new w _ _
  have c0 := hb0.cell 0 _ rfl
  have c1 := hb0.cell 1 _ rfl
  have c2 := hb0.cell 2 _ rfl
  have c3 := hb0.cell 3 _ rfl
  have HX := Lib.hid hx0
  clear hb0 hx0
  go_enter Tryz.func82, Tryz.ntmps82
  go_wp2
  go_ret
  exact ⟨_, rfl, Blk.new _ _ _, HX.out.size, HX.out.alloc _⟩
/-! ### What the tag is of -/
def t4 (n : Nat) : ByteArray := ⟨(be 4 n).toArray⟩
def t8 (n : Nat) : ByteArray := ⟨(be 8 n).toArray⟩
theorem tagged_any (w : World) (path : ByteArray) (v : Nat) (g : Nat) (l : List ByteArray) (hp : path.size ≤ 1048576) (hb : Blk w g 9 (l.map Value.string)) (hl : l.length = 4) :
    Calls Tryz.prog 81 #[.string path, .int .u64 (v : Int), .slice (some ⟨g, 0, none⟩) 4 4] w fun e w' => ∃ g' c', e = .returned (.slice (some ⟨g', 0, none⟩) 7 c') ∧ Texts w' ⟨g', 0, none⟩ ([t4 path.size, path, t8 v] ++ l) ∧ Ext w w' := by
  have HP4 := Lib.hid (fun u => Put32_any path.size u)
  have HP8 := Lib.hid (fun u => Put64_any v u)
  have HB := Lib.hid hb
  have hw : IntKind.u32.wrap (path.size : Int) = (path.size : Int) := by simp [IntKind.wrap, IntKind.signed, IntKind.bits]; omega
  clear hb
  unfold t4 t8
  generalize (⟨(be 4 path.size).toArray⟩ : ByteArray) = A at *
  generalize (⟨(be 8 v).toArray⟩ : ByteArray) = B at *
  go_enter Tryz.func81, Tryz.ntmps81
  go_wp2_with (first
    | (go_at_call 79; refine (HP4.out _).mono ?_; rintro e w1 ⟨rfl, x1⟩)
    | (go_at_call 117; refine (HP8.out _).mono ?_; rintro e w2 ⟨rfl, x2⟩; have x3 := x1.trans x2)
    | (refine wpList_app_texts (v := w) (l := [A, path, B]) (l2 := l) (g := w2.heap.size) (g2 := g) rfl (.tmp 16) (.tmp 17) rfl rfl (by rw [hl]; rfl) (x3.alloc _) x3.size (Blk.new _ _ _) (HB.out.ext (x3.alloc _)) (by simp) (by omega) ?_; intro g' c' w4 k1 k2 k3; rw [show ([A, path, B].length + l.length) = 7 by rw [hl]; rfl]; have K1 := Lib.hid k1; clear k1))
  go_ret
  exact ⟨g', c', rfl, K1.out, k3⟩
end Go.Proofs.YtobhbppogeghnaaGreatDoor
end

section
namespace Go.Proofs.YtobhbppogeghnaaGreatDoor
open Go.RowKit

theorem ext_le {a b : World} {g : Nat} (h : Ext a b) (q : b.heap.size ≤ g) : a.heap.size ≤ g := Nat.le_trans h.size q
/-- Five texts, one behind the other. -/
def env5 (A B C D T : ByteArray) : ByteArray := ⟨(A.data.toList ++ (B.data.toList ++ (C.data.toList ++ (D.data.toList ++ T.data.toList)))).toArray⟩
theorem env5_size (A B C D T : ByteArray) : (env5 A B C D T).size = A.size + (B.size + (C.size + (D.size + T.size))) := by
  unfold env5
  rw [txt_size]
  simp only [List.length_append, size_list]
theorem join5_any (w : World) (g c : Nat) (A B C D T : ByteArray) (h : Texts w ⟨g, 0, none⟩ [A, B, C, D, T]) (hc : 5 ≤ c) (hs : (env5 A B C D T).size ≤ 140737488355328) :
    Calls Tryz.prog 118 #[.slice (some ⟨g, 0, none⟩) 5 c, .string ⟨#[]⟩] w fun e w' => e = .returned (.string (env5 A B C D T)) ∧ Ext w w' := by
  have e : Lib.join ([A, B, C, D, T].map (·.data.toList)) ([] : List UInt8) = A.data.toList ++ (B.data.toList ++ (C.data.toList ++ (D.data.toList ++ T.data.toList))) := by
    simp [Lib.join, List.intercalate, List.intersperse]
  have h1 := Tryz.strings_Join g 0 c [A, B, C, D, T] ⟨#[]⟩ w (fun j x hj => by
    have := (h j x hj).2
    rwa [Addr.add_mid] at this) (h 0 A rfl).1 (by simp) hc (by
    rw [show (⟨#[]⟩ : ByteArray).data.toList = [] from rfl, e]
    rw [env5_size] at hs
    simp only [List.length_append, size_list]
    exact hs)
  rw [show (⟨#[]⟩ : ByteArray).data.toList = [] from rfl, e] at h1
  exact h1.mono fun _ _ q => ⟨q.1, q.2⟩
set_option maxRecDepth 100000 in
set_option maxHeartbeats 2000000 in
theorem bytes_any14 (w : World) (A B C D T : ByteArray) (hs : (env5 A B C D T).size ≤ 140737488355328) :
    Calls Tryz.prog 83 #[.agg #[.string A, .string B, .string C, .string D, .string T]] w fun e w' => e = .returned (.string (env5 A B C D T)) ∧ Ext w w' := by
  obtain ⟨W, hW⟩ : ∃ W, w.alloc (.cells #[.string A, .string B, .string C, .string D, .string T] 120) = W := ⟨_, rfl⟩
  have hx0 : Ext w W := by rw [← hW]; exact (Ext.refl w).alloc _
  have hb0 : Blk W w.heap.size 120 [.string A, .string B, .string C, .string D, .string T] := by rw [← hW]; exact Blk.new w _ _
  have HKeep : Hid (∀ u, Ext W u → u.cell? ⟨w.heap.size, 0, none⟩ = some (.string A) ∧ u.cell? ⟨w.heap.size, 1, none⟩ = some (.string B) ∧ u.cell? ⟨w.heap.size, 2, none⟩ = some (.string C) ∧ u.cell? ⟨w.heap.size, 3, none⟩ = some (.string D) ∧ u.cell? ⟨w.heap.size, 4, none⟩ = some (.string T) ∧ Ext W u) :=
    Lib.hid fun u hu => ⟨(hb0.ext hu).cell 0 _ rfl, (hb0.ext hu).cell 1 _ rfl, (hb0.ext hu).cell 2 _ rfl, (hb0.ext hu).cell 3 _ rfl, (hb0.ext hu).cell 4 _ rfl, hu⟩
  have HX := Lib.hid hx0
  have HA := Lib.hid (fun u => ahead_any u A B C D T)
  have HJ := Lib.hid (fun u g c (h : Texts u ⟨g, 0, none⟩ [A, B, C, D, T]) (hc : 5 ≤ c) => join5_any u g c A B C D T h hc hs)
  have hS := HKeep.out W.drew (Ext.refl W).drew
  clear hs hx0 hb0
  generalize env5 A B C D T = X at *
  go_enter Tryz.func83, Tryz.ntmps83
  go_upto_region 1 with (fail)
  clear hW
  go_region_held3 (fun u => u.cell? ⟨w.heap.size, 0, none⟩ = some (.string A) ∧ u.cell? ⟨w.heap.size, 1, none⟩ = some (.string B) ∧ u.cell? ⟨w.heap.size, 2, none⟩ = some (.string C) ∧ u.cell? ⟨w.heap.size, 3, none⟩ = some (.string D) ∧ u.cell? ⟨w.heap.size, 4, none⟩ = some (.string T) ∧ Ext W u) (first | exact hS | exact hS1 | exact hS2 | exact hS3 | assumption | exact HKeep.out _ (by repeat' (first | assumption | exact Ext.refl _ | refine Ext.drew ?_ | refine Ext.alloc ?_ _)) | go_keep) (first
    | (go_at_call 82; refine (HA.out _).mono ?_; rintro e w1 ⟨g, rfl, b1, q1, x1⟩; have hg1 := ext_le (a := W) (by repeat' (first | assumption | exact Ext.refl _ | refine Ext.drew ?_ | refine Ext.alloc ?_ _)) q1; have y1 := Ext.trans (a := W) (by repeat' (first | assumption | exact Ext.refl _ | refine Ext.drew ?_ | refine Ext.alloc ?_ _)) x1; have hS1 := HKeep.out _ y1)
    | (refine step_app_texts (v := W) (l := [A, B, C, D]) (l2 := [T]) rfl (.tmp 4) (.tmp 7) rfl rfl rfl (by repeat' (first | assumption | exact Ext.refl _ | refine Ext.drew ?_ | refine Ext.alloc ?_ _)) hg1 (b1.ext (by repeat' (first | assumption | exact Ext.refl _ | refine Ext.drew ?_ | refine Ext.alloc ?_ _))) (by first | exact (Blk.new _ _ _).ext (by repeat' (first | assumption | exact Ext.refl _ | exact (Ext.drew (Ext.refl _)).trans x1 | refine Ext.drew ?_ | refine Ext.alloc ?_ _))) (by simp) (by simp) ?_; intro g' c' w2 k1 k2 y2; have hS2 := HKeep.out _ y2)
    | (go_at_call 118; refine (HJ.out _ _ _ k1 k2).mono ?_; rintro e w3 ⟨rfl, x3⟩; have y3 := Ext.trans y2 x3; have hS3 := HKeep.out _ y3))
  all_goals
    go_wp2
    go_ret
    exact ⟨rfl, HX.out.trans y3⟩
end Go.Proofs.YtobhbppogeghnaaGreatDoor
end
