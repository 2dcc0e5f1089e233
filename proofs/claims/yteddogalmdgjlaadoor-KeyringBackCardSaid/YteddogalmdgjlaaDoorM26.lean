/- Contracts: the sum of texts in a row, by the program. Plain words: texts in a row, one behind the other. -/
import Derived.Test.YteddogalmdgjlaaDoorM08
import Derived.Test.YteddogalmdgjlaaDoorAdd
section
namespace Go.Proofs.YteddogalmdgjlaaDoor
open Go.RowKit

/-- All texts, one behind the other. -/
def joinL (l : List ByteArray) : List UInt8 := l.flatMap fun s => s.data.toList
theorem joinL_succ (l : List ByteArray) (k : Nat) (h : k < l.length) : joinL (l.take (k + 1)) = joinL (l.take k) ++ l[k].data.toList := by
  unfold joinL
  rw [List.take_succ_eq_append_getElem h, List.flatMap_append]
  simp
theorem joinL_le (l : List ByteArray) (k : Nat) : (joinL (l.take k)).length ≤ (joinL l).length := by
  conv => rhs; rw [← List.take_append_drop k l]
  unfold joinL
  rw [List.flatMap_append, List.length_append]
  omega
set_option maxRecDepth 100000 in
set_option maxHeartbeats 1000000 in
theorem Of_any (w : World) (a : Addr) (c : Nat) (l : List ByteArray) (hL : Laid w) (hT : Texts w a l) (hn : l.length ≤ 140737488355328) (hs : (joinL l).length < 1152921504606846976) :
    Calls Tryd.prog 72 #[.slice (some a) l.length c] w fun e w' => e = .returned (.string ⟨(shaL (joinL l)).toArray⟩) ∧ Ext w w' := by
  have hsz := hL.size
  have HL := Lib.hid hL; have HX := Lib.hid hT; have HS := Lib.hid hs
  clear hL hT hs
  go_enter Tryd.func72, Tryd.ntmps72
  go_wp2_with (go_at_call 75; refine (New_any w HL.out).mono ?_; rintro e w1 ⟨rfl, hH, h1⟩)
  have HH := Lib.hid hH; have HE := Lib.hid h1
  clear hH h1
  go_loopw [9] (fun i wr => ∃ k : Nat, k ≤ l.length ∧ i = .int .i64 k ∧ IsHash wr w.heap.size (joinL (l.take k)) ∧ Ext w wr) (fun i _ => l.length - (intOf i).toNat)
  case atStart => exact ⟨0, Nat.zero_le _, rfl, HH.out, HE.out⟩
  case round =>
    obtain ⟨k, hk, rfl, hH, hext⟩ := hrel
    have HH2 := Lib.hid hH; have HE2 := Lib.hid hext
    clear hH hext
    by_cases hlt : k < l.length
    · have hc := ((HX.out.ext HE2.out) k l[k] (List.getElem?_eq_getElem hlt)).2
      have hgl := ((HX.out.ext HE2.out) k l[k] (List.getElem?_eq_getElem hlt)).1
      have hle := joinL_le l (k + 1)
      rw [joinL_succ l k hlt, List.length_append, size_list] at hle
      have hlt2 : (k : Int) < (l.length : Int) := by omega
      have HC := Lib.hid (fun u (hL2 : Laid u) (hh : IsHash u w.heap.size (joinL (l.take k))) => Add_any u w.heap.size (joinL (l.take k)) l[k] hL2 hsz hh (by have := HS.out; omega))
      have HJ := Lib.hid (joinL_succ l k hlt)
      clear hle
      generalize l[k] = s at *
      go_wp2_with (go_at_call 76; refine (HC.out _ (HL.out.ext HE2.out) HH2.out).mono ?_; rintro e w2 ⟨rfl, h2, h3⟩)
      go_roundw
      case rel => exact ⟨k + 1, hlt, by go_num, by rw [HJ.out]; exact h2, HE2.out.trans3 h3⟩
      case measure => simp [intOf]; omega
    · obtain rfl : k = l.length := by omega
      have HF := HH2.out
      rw [List.take_length] at HF
      have HF2 := Lib.hid HF; clear HF
      go_wp2_with (go_at_call 77; refine (Sum_any _ w.heap.size _ (HL.out.ext HE2.out) HF2.out).mono ?_; rintro e w2 ⟨rfl, h2⟩)
      go_ret
      exact ⟨rfl, HE2.out.trans h2⟩
theorem Of_none (w : World) (hL : Laid w) :
    Calls Tryd.prog 72 #[.slice none 0 0] w fun e w' => e = .returned (.string ⟨(shaL []).toArray⟩) ∧ Ext w w' := by
  have HL := Lib.hid hL
  clear hL
  go_enter Tryd.func72, Tryd.ntmps72
  go_wp2_with (go_at_call 75; refine (New_any w HL.out).mono ?_; rintro e w1 ⟨rfl, hH, h1⟩)
  have HH := Lib.hid hH; have HE := Lib.hid h1
  clear hH h1
  go_loopw [9] (fun i wr => i = .int .i64 0 ∧ IsHash wr w.heap.size [] ∧ Ext w wr) (fun _ _ => 0)
  case atStart => exact ⟨rfl, HH.out, HE.out⟩
  case round =>
    obtain ⟨rfl, hH, hext⟩ := hrel
    have HH2 := Lib.hid hH; have HE2 := Lib.hid hext
    clear hH hext
    go_wp2_with (go_at_call 77; refine (Sum_any _ w.heap.size _ (HL.out.ext HE2.out) HH2.out).mono ?_; rintro e w2 ⟨rfl, h2⟩)
    go_ret
    exact ⟨rfl, HE2.out.trans h2⟩
theorem texts_one (w : World) (s : ByteArray) (t : TypeId) : Texts (w.alloc (.cells #[.string s] t)) ⟨w.heap.size, 0, none⟩ [s] := by
  refine fun i u hu => ⟨by simp, ?_⟩
  rw [Addr.add_mid]
  rw [cell_of_row _ _ _ _ _ _ (heap_alloc_new w _)]
  cases i with
  | zero => simp at hu; subst hu; rfl
  | succ n => simp at hu
theorem joinL_one (s : ByteArray) : joinL [s] = s.data.toList := by simp [joinL]
theorem joinL_lt {l : List ByteArray} {k : Nat} (h : k < l.length) : l[k].size ≤ (joinL l).length := by
  have h1 := joinL_le l (k + 1)
  rw [joinL_succ l k h, List.length_append, size_list] at h1
  omega
/-- Of one text, handed in a new row. -/
theorem Of_one (w : World) (s : ByteArray) (t : TypeId) (hL : Laid w) (hs : s.size ≤ 1099511627776) :
    Calls Tryd.prog 72 #[.slice (some ⟨w.heap.size, 0, none⟩) 1 1] (w.alloc (.cells #[.string s] t)) fun e w' => e = .returned (.string ⟨(shaL s.data.toList).toArray⟩) ∧ Ext w w' := by
  have h := Of_any (w.alloc (.cells #[.string s] t)) ⟨w.heap.size, 0, none⟩ 1 [s] (hL.ext ((Ext.refl w).alloc _)) (texts_one w s t) (by simp) (by rw [joinL_one, size_list]; omega)
  rw [joinL_one] at h
  exact h.mono fun e w' he => ⟨he.1, ((Ext.refl w).alloc _).trans he.2⟩
end Go.Proofs.YteddogalmdgjlaaDoor
end

section
namespace Go.Proofs.YteddogalmdgjlaaDoor
open Go.RowKit

/-- The first k texts, one behind the other. -/
def J (l : List ByteArray) (k : Nat) : ByteArray := ⟨(joinL (l.take k)).toArray⟩
theorem J_size (l : List ByteArray) (k : Nat) : (J l k).size = (joinL (l.take k)).length := txt_size _
theorem J_succ (l : List ByteArray) (k : Nat) (h : k < l.length) : J l k ++ l[k] = J l (k + 1) := by
  apply ByteArray.ext
  rw [ByteArray.data_append]
  apply Array.toList_inj.1
  simp [J, joinL_succ l k h]
end Go.Proofs.YteddogalmdgjlaaDoor
end
