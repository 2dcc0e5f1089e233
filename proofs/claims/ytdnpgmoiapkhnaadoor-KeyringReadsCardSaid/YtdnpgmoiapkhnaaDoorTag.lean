/- Contracts: the tag of texts in a row, by the two keys, by the program. -/
import Derived.Test.YtdnpgmoiapkhnaaDoorM04
import Derived.Test.YtdnpgmoiapkhnaaDoorM22
namespace Go.Proofs.YtdnpgmoiapkhnaaDoor
open Go.RowKit

theorem texts_pair (w : World) (s u : ByteArray) (t : TypeId) : Texts (w.alloc (.cells #[.string s, .string u] t)) ⟨w.heap.size, 0, none⟩ [s, u] := by
  refine fun i v hv => ⟨by simp, ?_⟩
  rw [Addr.add_mid]
  rw [cell_of_row _ _ _ _ _ _ (heap_alloc_new w _)]
  match i, hv with
  | 0, hv => simp at hv; subst hv; rfl
  | 1, hv => simp at hv; subst hv; rfl
  | n + 2, hv => simp at hv
theorem joinL_pair (s u : ByteArray) : joinL [s, u] = s.data.toList ++ u.data.toList := by simp [joinL]
/-- Of two texts, handed in a new row. -/
theorem Of_pair (w : World) (s u : ByteArray) (t : TypeId) (hL : Laid w) (hs : s.size + u.size ≤ 1099511627776) :
    Calls Tryd.prog 81 #[.slice (some ⟨w.heap.size, 0, none⟩) 2 2] (w.alloc (.cells #[.string s, .string u] t)) fun e w' => e = .returned (.string ⟨(shaL (s.data.toList ++ u.data.toList)).toArray⟩) ∧ Ext w w' := by
  have h := Of_any (w.alloc (.cells #[.string s, .string u] t)) ⟨w.heap.size, 0, none⟩ 2 [s, u] (hL.ext ((Ext.refl w).alloc _)) (texts_pair w s u t) (by simp) (by rw [joinL_pair, List.length_append, size_list, size_list]; omega)
  rw [joinL_pair] at h
  exact h.mono fun e w' he => ⟨he.1, ((Ext.refl w).alloc _).trans he.2⟩
/-- What the tag's walk ends in: the outer key and the inner sum. -/
def outL (ki ko : ByteArray) (m : List UInt8) : List UInt8 := shaL (ko.data.toList ++ shaL (ki.data.toList ++ m))
theorem outL_fold (ki ko : ByteArray) (m : List UInt8) : shaL (ko.data.toList ++ (⟨(shaL (ki.data.toList ++ m)).toArray⟩ : ByteArray).data.toList) = outL ki ko m := rfl
theorem Of_out (u : World) (ki ko : ByteArray) (m : List UInt8) (t : TypeId) (hL : Laid u) (hko : ko.size ≤ 64) :
    Calls Tryd.prog 81 #[.slice (some ⟨u.heap.size, 0, none⟩) 2 2] (u.alloc (.cells #[.string ko, .string ⟨(shaL (ki.data.toList ++ m)).toArray⟩] t)) fun e w' => e = .returned (.string ⟨(outL ki ko m).toArray⟩) ∧ Ext u w' := by
  have hz : ByteArray.size ⟨(shaL (ki.data.toList ++ m)).toArray⟩ = 32 := by rw [txt_size, shaL_length]
  have h := Of_pair u ko ⟨(shaL (ki.data.toList ++ m)).toArray⟩ t hL (by omega)
  rw [outL_fold] at h
  exact h
theorem joinL_bound {l : List ByteArray} {k n : Nat} (hlt : k < l.length) (h : (joinL l).length ≤ n) : (joinL (l.take k)).length + l[k].size ≤ n := by
  have hle := joinL_le l (k + 1)
  rw [joinL_succ l k hlt, List.length_append, size_list] at hle
  omega
set_option maxRecDepth 100000 in
set_option maxHeartbeats 2000000 in
theorem tag_any (w : World) (a : Addr) (c : Nat) (l : List ByteArray) (ki ko : ByteArray) (hL : Laid w) (hT : Texts w a l) (hn : l.length ≤ 140737488355328) (hki : ki.size ≤ 64) (hko : ko.size ≤ 64) (hs : (joinL l).length ≤ 1099511627776) :
    Calls Tryd.prog 61 #[.agg #[.string ki, .string ko], .slice (some a) l.length c] w fun e w' => e = .returned (.string ⟨(outL ki ko (joinL l)).toArray⟩) ∧ Ext w w' := by
  have hsz : 2 ≤ w.heap.size := hL.size
  obtain ⟨W0, hW0⟩ : ∃ W0, w.alloc (.cells #[.string ki, .string ko] 108) = W0 := ⟨_, rfl⟩
  have hx0 : Ext w W0 := by rw [← hW0]; exact (Ext.refl w).alloc _
  have hz0 : W0.heap.size = w.heap.size + 1 := by rw [← hW0]; simp
  have hB0 : Blk W0 w.heap.size 108 [.string ki, .string ko] := by rw [← hW0]; exact Blk.new w _ _
  have HL := Lib.hid (hL.ext hx0); have HX := Lib.hid (hT.ext hx0); have HS := Lib.hid hs; have HB := Lib.hid hB0; have H0 := Lib.hid hx0
  have c0 := hB0.cell 0 _ rfl
  have hz2 : 2 ≤ W0.heap.size := by omega
  have hA0 := Lib.hid (fun u (hL2 : Laid u) (hh : IsHash u W0.heap.size []) => Add_any u W0.heap.size [] ki hL2 hz2 hh (by simp; omega))
  have HZ := Lib.hid hz2
  clear hL hT hs hx0 hB0 hz0 hz2
  go_enter Tryd.func61, Tryd.ntmps61
  go_wp2_with (first
    | (go_at_call 79; refine (New_any W0 HL.out).mono ?_; rintro e w1 ⟨rfl, hH, h1⟩; have c1 := (HB.out.ext h1).cell 0 _ rfl; have HH := Lib.hid hH; have HE := Lib.hid h1; clear hH h1)
    | (go_at_call 80; refine (hA0.out _ (HL.out.ext HE.out) HH.out).mono ?_; rintro e w2 ⟨rfl, h2, h3⟩))
  have HH2 := Lib.hid h2; have HE2 := Lib.hid (HE.out.trans3 h3)
  clear h2 h3 c1 c0 HH HE hA0
  go_loopw [15] (fun i wr => ∃ k : Nat, k ≤ l.length ∧ i = .int .i64 k ∧ IsHash wr W0.heap.size (ki.data.toList ++ joinL (l.take k)) ∧ Ext W0 wr) (fun i _ => l.length - (intOf i).toNat)
  case atStart => exact ⟨0, Nat.zero_le _, rfl, by simpa [joinL] using HH2.out, HE2.out⟩
  case round =>
    obtain ⟨k, hk, rfl, hH, hext⟩ := hrel
    have HH3 := Lib.hid hH; have HE3 := Lib.hid hext
    clear hH hext HH2 HE2
    by_cases hlt : k < l.length
    · have hc := ((HX.out.ext HE3.out) k l[k] (List.getElem?_eq_getElem hlt)).2
      have hgl := ((HX.out.ext HE3.out) k l[k] (List.getElem?_eq_getElem hlt)).1
      have hle := joinL_bound hlt HS.out
      have hlt2 : (k : Int) < (l.length : Int) := by omega
      have HC := Lib.hid (fun u (hL2 : Laid u) (hh : IsHash u W0.heap.size (ki.data.toList ++ joinL (l.take k))) => Add_any u W0.heap.size (ki.data.toList ++ joinL (l.take k)) l[k] hL2 HZ.out hh (by rw [List.length_append, size_list]; omega))
      have HJ := Lib.hid (joinL_succ l k hlt)
      clear hle
      generalize l[k] = s at *
      go_wp2_with (go_at_call 80; refine (HC.out _ (HL.out.ext HE3.out) HH3.out).mono ?_; rintro e w2 ⟨rfl, h2, h3⟩)
      go_roundw
      case rel => exact ⟨k + 1, hlt, by go_num, by rw [HJ.out, ← List.append_assoc]; exact h2, HE3.out.trans3 h3⟩
      case measure => simp [intOf]; omega
    · obtain rfl : k = l.length := by omega
      have HF := HH3.out
      rw [List.take_length] at HF
      have HF2 := Lib.hid HF; clear HF
      have x0 : Ext wr wr.drew := (Ext.refl wr).drew
      have k1 : wr.drew.cell? ⟨w.heap.size, 1, none⟩ = some (.string ko) := (HB.out.ext HE3.out.drew).cell 1 _ rfl
      have hh0 := HF2.out.drew
      have HSum := Lib.hid (fun u (hu : Ext wr u) => Sum_any u W0.heap.size (ki.data.toList ++ joinL l) (HL.out.ext (HE3.out.trans hu)) (HF2.out.ext hu))
      have HOut := Lib.hid (fun u t (hu : Ext wr u) => Of_out u ki ko (joinL l) t (HL.out.ext (HE3.out.trans hu)) hko)
      have HKeep := Lib.hid (fun u (hu : Ext wr u) => (HB.out.ext (HE3.out.trans hu)).cell 1 _ rfl)
      have HKeepH := Lib.hid (fun u (hu : Ext wr u) => HF2.out.ext hu)
      go_wp2_with fail
      go_region_held3 (fun u => u.cell? ⟨w.heap.size, 1, none⟩ = some (.string ko) ∧ IsHash u W0.heap.size (ki.data.toList ++ joinL l) ∧ Ext wr u) (first | exact ⟨k1, hh0, x0⟩ | exact ⟨HKeep.out _ (by assumption), HKeepH.out _ (by assumption), by assumption⟩ | exact ⟨HKeep.out _ (Ext.alloc (by assumption) _), HKeepH.out _ (Ext.alloc (by assumption) _), Ext.alloc (by assumption) _⟩ | go_keep) (first
        | (go_at_call 82; refine (HSum.out _ (by assumption)).mono ?_; rintro e w4 ⟨rfl, h4⟩; have x4 := Ext.trans (a := wr) (by assumption) h4)
        | (go_at_call 81; refine (HOut.out _ _ (by assumption)).mono ?_; rintro e w5 ⟨rfl, h5⟩; have x5 := Ext.trans (a := wr) (by assumption) h5))
      go_wp2
      go_ret
      exact ⟨rfl, (H0.out.trans HE3.out).trans x5⟩
set_option maxRecDepth 100000 in
set_option maxHeartbeats 2000000 in
theorem tag_none (w : World) (ki ko : ByteArray) (m : List UInt8) (hm : m = []) (hL : Laid w) (hki : ki.size ≤ 64) (hko : ko.size ≤ 64) :
    Calls Tryd.prog 61 #[.agg #[.string ki, .string ko], .slice none 0 0] w fun e w' => e = .returned (.string ⟨(outL ki ko m).toArray⟩) ∧ Ext w w' := by
  have hsz : 2 ≤ w.heap.size := hL.size
  have HM := Lib.hid hm
  clear hm
  obtain ⟨W0, hW0⟩ : ∃ W0, w.alloc (.cells #[.string ki, .string ko] 108) = W0 := ⟨_, rfl⟩
  have hx0 : Ext w W0 := by rw [← hW0]; exact (Ext.refl w).alloc _
  have hz0 : W0.heap.size = w.heap.size + 1 := by rw [← hW0]; simp
  have hB0 : Blk W0 w.heap.size 108 [.string ki, .string ko] := by rw [← hW0]; exact Blk.new w _ _
  have HL := Lib.hid (hL.ext hx0); have HB := Lib.hid hB0; have H0 := Lib.hid hx0
  have c0 := hB0.cell 0 _ rfl
  have hz2 : 2 ≤ W0.heap.size := by omega
  have hA0 := Lib.hid (fun u (hL2 : Laid u) (hh : IsHash u W0.heap.size []) => Add_any u W0.heap.size [] ki hL2 hz2 hh (by simp; omega))
  have HZ := Lib.hid hz2
  clear hL hx0 hB0 hz0 hz2
  go_enter Tryd.func61, Tryd.ntmps61
  go_wp2_with (first
    | (go_at_call 79; refine (New_any W0 HL.out).mono ?_; rintro e w1 ⟨rfl, hH, h1⟩; have c1 := (HB.out.ext h1).cell 0 _ rfl; have HH := Lib.hid hH; have HE := Lib.hid h1; clear hH h1)
    | (go_at_call 80; refine (hA0.out _ (HL.out.ext HE.out) HH.out).mono ?_; rintro e w2 ⟨rfl, h2, h3⟩))
  have HH2 := Lib.hid h2; have HE2 := Lib.hid (HE.out.trans3 h3)
  clear h2 h3 c1 c0 HH HE hA0
  go_loopw [15] (fun i wr => i = .int .i64 0 ∧ IsHash wr W0.heap.size (ki.data.toList ++ m) ∧ Ext W0 wr) (fun _ _ => 0)
  case atStart => exact ⟨rfl, by rw [HM.out]; simpa using HH2.out, HE2.out⟩
  case round =>
    obtain ⟨rfl, hH, hext⟩ := hrel
    have HF2 := Lib.hid hH; have HE3 := Lib.hid hext
    clear hH hext HH2 HE2
    have x0 : Ext wr wr.drew := (Ext.refl wr).drew
    have k1 : wr.drew.cell? ⟨w.heap.size, 1, none⟩ = some (.string ko) := (HB.out.ext HE3.out.drew).cell 1 _ rfl
    have hh0 := HF2.out.drew
    have HSum := Lib.hid (fun u (hu : Ext wr u) => Sum_any u W0.heap.size (ki.data.toList ++ m) (HL.out.ext (HE3.out.trans hu)) (HF2.out.ext hu))
    have HOut := Lib.hid (fun u t (hu : Ext wr u) => Of_out u ki ko m t (HL.out.ext (HE3.out.trans hu)) hko)
    have HKeep := Lib.hid (fun u (hu : Ext wr u) => (HB.out.ext (HE3.out.trans hu)).cell 1 _ rfl)
    have HKeepH := Lib.hid (fun u (hu : Ext wr u) => HF2.out.ext hu)
    go_wp2_with fail
    go_region_held3 (fun u => u.cell? ⟨w.heap.size, 1, none⟩ = some (.string ko) ∧ IsHash u W0.heap.size (ki.data.toList ++ m) ∧ Ext wr u) (first | exact ⟨k1, hh0, x0⟩ | exact ⟨HKeep.out _ (by assumption), HKeepH.out _ (by assumption), by assumption⟩ | exact ⟨HKeep.out _ (Ext.alloc (by assumption) _), HKeepH.out _ (Ext.alloc (by assumption) _), Ext.alloc (by assumption) _⟩ | go_keep) (first
      | (go_at_call 82; refine (HSum.out _ (by assumption)).mono ?_; rintro e w4 ⟨rfl, h4⟩; have x4 := Ext.trans (a := wr) (by assumption) h4)
      | (go_at_call 81; refine (HOut.out _ _ (by assumption)).mono ?_; rintro e w5 ⟨rfl, h5⟩; have x5 := Ext.trans (a := wr) (by assumption) h5))
    go_wp2
    go_ret
    exact ⟨rfl, (H0.out.trans HE3.out).trans x5⟩

theorem tag_v (w : World) (v : Value) (l : List ByteArray) (ki ko : ByteArray) (hL : Laid w) (hT : TextsV w v l) (hki : ki.size ≤ 64) (hko : ko.size ≤ 64) (hs : (joinL l).length ≤ 1099511627776) :
    Calls Tryd.prog 61 #[.agg #[.string ki, .string ko], v] w fun e w' => e = .returned (.string ⟨(outL ki ko (joinL l)).toArray⟩) ∧ Ext w w' := by
  rcases hT with ⟨rfl, rfl⟩ | ⟨a, c, rfl, h2, h3⟩
  · exact tag_none w ki ko _ rfl hL hki hko
  · exact tag_any w a c l ki ko hL h2 h3 hki hko hs
/-- By the two keys of a key. -/
theorem outL_mac (k m : List UInt8) : outL ⟨(mixL k 54).toArray⟩ ⟨(mixL k 92).toArray⟩ m = macL k m := by
  rw [macL_eq]; rfl
theorem tag_keys (w : World) (v : Value) (l : List ByteArray) (k : List UInt8) (hL : Laid w) (hT : TextsV w v l) (hs : (joinL l).length ≤ 1099511627776) :
    Calls Tryd.prog 61 #[.agg #[.string ⟨(mixL k 54).toArray⟩, .string ⟨(mixL k 92).toArray⟩], v] w fun e w' => e = .returned (.string ⟨(macL k (joinL l)).toArray⟩) ∧ Ext w w' := by
  have h := tag_v w v l ⟨(mixL k 54).toArray⟩ ⟨(mixL k 92).toArray⟩ hL hT (by rw [txt_size, mixL_length]; omega) (by rw [txt_size, mixL_length]; omega) hs
  rwa [outL_mac] at h
end Go.Proofs.YtdnpgmoiapkhnaaDoor
