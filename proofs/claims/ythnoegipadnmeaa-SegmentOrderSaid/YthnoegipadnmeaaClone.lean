/- Contract: a text's copy. -/
import Derived.Test.YthnoegipadnmeaaCopyT
import Derived.Test.YthnoegipadnmeaaMake
import Derived.Test.YthnoegipadnmeaaBlk
import Derived.Lib.Buffer
import Derived.Lib.Strings
import Derived.Lib.UnsafeStr
import Derived.Lib.Walk
namespace Go.Proofs.Ythnoegipadnmeaa
open Go.RowKit
theorem cells_uint8 : Try.prog.cellsOf 5 = 1 := by kernel_rfl
theorem clone_any (s : ByteArray) (h0 : 1 ≤ s.size) (h1 : s.size ≤ 1048576) (w : World) :
    Calls Try.prog 62 #[.string s] w fun e w' => e = .returned (.string s) ∧ Ext w w' := by
  have hmk := make_bytes s.size (by omega)
  obtain ⟨C, hC⟩ : ∃ C, madeCells #[Value.int .u8 0] s.size = C := ⟨_, rfl⟩
  rw [hC] at hmk
  have hr0 := Row.made w 5 s.size
  rw [hC] at hr0
  have hcp := fun ty => copy_all (w.alloc (.cells C 5)) ty w.heap.size s.size s _ 5 hr0 (by simp) rfl
  obtain ⟨Y, hY⟩ : ∃ Y, Y = (s.data.toList.map cellOf).toArray := ⟨_, rfl⟩
  rw [← hY] at hcp
  have hYs : Y.size = s.size := by rw [hY, List.size_toArray, List.length_map, size_list]
  have hgY : ((w.alloc (.cells C 5)).setRow w.heap.size Y).heap[w.heap.size]? = some (.cells Y 5 (0, 0)) := setRow_heap _ _ _ _ 5 (0, 0) hr0
  have hne : s.data.toList ≠ [] := fun e => by have := size_list s; rw [e] at this; simp at this; omega
  have hUS := Lib.run_unsafeString_row (P := Try.prog) ((w.alloc (.cells C 5)).setRow w.heap.size Y) 101 3 9 5 Try.underlying101 cells_uint8 w.heap.size Y.size (by unfold World.shape?; rw [hgY]) s.data.toList hne (by rw [size_list]; omega) (by rw [size_list]; omega)
      (fun j x hx => Lib.cells_of_row hgY Y.size j _ (by rw [List.take_of_length_le (by rw [Array.length_toList]; exact Nat.le_refl _), hY]; simp [hx, cellOf]))
  rw [size_list] at hUS
  have hx : Ext w ((w.alloc (.cells C 5)).setRow w.heap.size Y) := ((Ext.refl w).alloc _).setRow (Nat.le_refl _) _
  have hz : (s.size : Int) ≠ 0 := by omega
  have hz2 : ((s.size : Int) == 0) = false := by rw [beq_eq_false_iff_ne]; omega
  clear hY hr0 hgY hne hC
  go_enter Try.func62, Try.ntmps62
  go_wp2
  go_ret
  exact ⟨rfl, Lib.below_freeze hx (p := ⟨w.heap.size, 0, none⟩) (Nat.le_refl _) _⟩
theorem Clone_any (s : ByteArray) (h0 : 1 ≤ s.size) (h1 : s.size ≤ 1048576) (w : World) :
    Calls Try.prog 49 #[.string s] w fun e w' => e = .returned (.string s) ∧ Ext w w' := by
  go_enter Try.func49, Try.ntmps49
  go_wp2_with (go_at_call 62; refine (clone_any s h0 h1 _).mono ?_; rintro e w1 ⟨rfl, x1⟩)
  go_ret
  exact ⟨rfl, x1⟩
theorem clone_none (w : World) : Calls Try.prog 62 #[.string ⟨#[]⟩] w fun e w' => e = .returned (.string ⟨#[]⟩) ∧ w = w' := by
  go_enter Try.func62, Try.ntmps62
  go_wp2
  go_ret
  exact ⟨rfl, rfl⟩
theorem Clone_none (w : World) : Calls Try.prog 49 #[.string ⟨#[]⟩] w fun e w' => e = .returned (.string ⟨#[]⟩) ∧ Ext w w' := by
  go_enter Try.func49, Try.ntmps49
  go_wp2_with (go_at_call 62; refine (clone_none _).mono ?_; rintro e w1 ⟨rfl, rfl⟩)
  go_ret
  exact ⟨rfl, Ext.refl _⟩
/-- A text's copy, whatever the text is. -/
theorem copied (s : ByteArray) (h1 : s.size ≤ 1048576) (w : World) :
    Calls Try.prog 49 #[.string s] w fun e w' => e = .returned (.string s) ∧ Ext w w' := by
  by_cases h0 : 1 ≤ s.size
  · exact Clone_any s h0 h1 w
  · obtain rfl : s = ⟨#[]⟩ := by
      apply ByteArray.ext
      exact Array.eq_empty_of_size_eq_zero (by show s.size = 0; omega)
    exact Clone_none w
end Go.Proofs.Ythnoegipadnmeaa
