/- Contracts: a text's copy; what a share's bytes say, by the program. -/
import Derived.Test.YtadincbeimfakaaGather
import Derived.Lib.Buffer
import Derived.Lib.Strings
import Derived.Lib.Walk
namespace Go.Proofs.Ytadincbeimfakaa
open Go.RowKit
theorem cells_uint8 : Try.prog.cellsOf 5 = 1 := by kernel_rfl
theorem clone_any (s : ByteArray) (h0 : 1 ≤ s.size) (h1 : s.size ≤ 1048576) (w : World) :
    Calls Try.prog 28 #[.string s] w fun e w' => e = .returned (.string s) ∧ Ext w w' := by
  have hmk := make_bytes s.size (by omega)
  obtain ⟨C, hC⟩ : ∃ C, madeCells #[Value.int .u8 0] s.size = C := ⟨_, rfl⟩
  rw [hC] at hmk
  have hr0 := Row.made w 5 s.size
  rw [hC] at hr0
  have hcp := fun ty => copy_all (w.alloc (.cells C 5)) ty w.heap.size s.size s _ 5 hr0 (by simp) rfl
  obtain ⟨Y, hY⟩ : ∃ Y, Y = (s.data.toList.map cellOf).toArray := ⟨_, rfl⟩
  rw [← hY] at hcp
  have hYs : Y.size = s.size := by rw [hY, List.size_toArray, List.length_map, size_list]
  have hgY : ((w.alloc (.cells C 5)).setRow w.heap.size Y).heap[w.heap.size]? = some (.cells Y 5 (0, 0)) := setRow_heap _ _ _ _ 5 (0, 0) hr0
  have hne : s.data.toList ≠ [] := fun e => by have := size_list s; rw [e] at this; simp at this; omega
  have hUS := Lib.run_unsafeString_row (P := Try.prog) ((w.alloc (.cells C 5)).setRow w.heap.size Y) 66 3 9 5 Try.underlying66 cells_uint8 w.heap.size Y.size (by unfold World.shape?; rw [hgY]) s.data.toList hne (by rw [size_list]; omega) (by rw [size_list]; omega)
      (fun j x hx => Lib.cells_of_row hgY Y.size j _ (by rw [List.take_of_length_le (by rw [Array.length_toList]; exact Nat.le_refl _), hY]; simp [hx, cellOf]))
  rw [size_list] at hUS
  have hx : Ext w ((w.alloc (.cells C 5)).setRow w.heap.size Y) := ((Ext.refl w).alloc _).setRow (Nat.le_refl _) _
  have hz : (s.size : Int) ≠ 0 := by omega
  have hz2 : ((s.size : Int) == 0) = false := by rw [beq_eq_false_iff_ne]; omega
  clear hY hr0 hgY hne hC
  go_enter Try.func28, Try.ntmps28
  go_wp2
  go_ret
  exact ⟨rfl, Lib.below_freeze hx (p := ⟨w.heap.size, 0, none⟩) (Nat.le_refl _) _⟩
theorem Clone_any (s : ByteArray) (h0 : 1 ≤ s.size) (h1 : s.size ≤ 1048576) (w : World) :
    Calls Try.prog 24 #[.string s] w fun e w' => e = .returned (.string s) ∧ Ext w w' := by
  go_enter Try.func24, Try.ntmps24
  go_wp2_with (go_at_call 28; refine (clone_any s h0 h1 _).mono ?_; rintro e w1 ⟨rfl, x1⟩)
  go_ret
  exact ⟨rfl, x1⟩
set_option maxRecDepth 100000 in
set_option maxHeartbeats 2000000 in
theorem read_yes (s : ByteArray) (i n : Nat) (h : ShareOf s i n) (w : World) :
    Calls Try.prog 12 #[.string s] w fun e w' => e = .returned (.tuple #[.int .i64 (i : Int), .int .i64 (n : Int), .string (s.extract 2 s.size), .int .i64 0]) ∧ Ext w w' := by
  obtain ⟨h3, h66, n1, n16, i1, hin, x, y, hx, hy, ex, ey⟩ := h
  have d1 := slice_two s (by omega)
  have a0 : ∀ u, (Instr.index 9 (.string s) (.int .i64 0)).run Try.prog u = .ok (.int .u8 (x.toNat : Int)) u := fun u => index_text s 0 x hx u
  have a1 : ∀ u, (Instr.index 9 (.string s) (.int .i64 1)).run Try.prog u = .ok (.int .u8 (y.toNat : Int)) u := fun u => index_text s 1 y hy u
  rw [ex] at a0
  rw [ey] at a1
  have hS : (s.extract 2 s.size).size = s.size - 2 := by simp
  have HC := Lib.hid (fun u => Clone_any (s.extract 2 s.size) (by omega) (by omega) u)
  generalize s.extract 2 s.size = S2 at *
  clear hx hy hS
  go_enter Try.func12, Try.ntmps12
  go_wp2
  go_quiet (fail)
  go_wp2_with (go_at_call 24; refine (HC.out _).mono ?_; rintro e w1 ⟨rfl, x1⟩)
  exact bodyPost_ret (v := .tuple #[.int .i64 (i : Int), .int .i64 (n : Int), .string S2, .int .i64 0]) (by simp [results, Try.results12, go_sem]) rfl ⟨rfl, ((Ext.refl w).drewN _).trans x1⟩
set_option maxRecDepth 100000 in
set_option maxHeartbeats 4000000 in
theorem read_no (s : ByteArray) (h : NoShare s) (w : World) :
    Calls Try.prog 12 #[.string s] w fun e w' => e = .returned (.tuple #[.int .i64 0, .int .i64 0, .string ⟨#[]⟩, .int .i64 7]) ∧ Ext w w' := by
  go_enter Try.func12, Try.ntmps12
  by_cases h3 : s.size < 3
  · have h3i : (s.size : Int) < 3 := by omega
    go_wp2
    exact bodyPost_ret (v := .tuple #[.int .i64 0, .int .i64 0, .string ⟨#[]⟩, .int .i64 7]) (by simp [results, Try.results12, go_sem]) rfl ⟨rfl, Ext.refl w⟩
  · by_cases h66 : 66 < s.size
    · have h66i : (66 : Int) < (s.size : Int) := by omega
      go_wp2
      exact bodyPost_ret (v := .tuple #[.int .i64 0, .int .i64 0, .string ⟨#[]⟩, .int .i64 7]) (by simp [results, Try.results12, go_sem]) rfl ⟨rfl, Ext.refl w⟩
    · have hl : 2 < s.data.toList.length := by rw [size_list]; omega
      obtain ⟨x, hx⟩ : ∃ x, s.data.toList[0]? = some x := ⟨_, List.getElem?_eq_getElem (by omega)⟩
      obtain ⟨y, hy⟩ : ∃ y, s.data.toList[1]? = some y := ⟨_, List.getElem?_eq_getElem (by omega)⟩
      have hno : ¬ (1 ≤ y.toNat ∧ y.toNat ≤ 16 ∧ 1 ≤ x.toNat ∧ x.toNat ≤ y.toNat) := fun q => h x.toNat y.toNat ⟨by omega, by omega, q.1, q.2.1, q.2.2.1, q.2.2.2, x, y, hx, hy, rfl, rfl⟩
      have a0 : ∀ u, (Instr.index 9 (.string s) (.int .i64 0)).run Try.prog u = .ok (.int .u8 (x.toNat : Int)) u := fun u => index_text s 0 x hx u
      have a1 : ∀ u, (Instr.index 9 (.string s) (.int .i64 1)).run Try.prog u = .ok (.int .u8 (y.toNat : Int)) u := fun u => index_text s 1 y hy u
      have hi256 := x.toNat_lt
      have hn256 := y.toNat_lt
      generalize x.toNat = i at *
      generalize y.toNat = n at *
      clear hx hy hl h
      go_wp2
      go_quiet (fail)
      have hcase : (n : Int) < 1 ∨ (¬ (n : Int) < 1 ∧ (16 : Int) < (n : Int)) ∨ (¬ (n : Int) < 1 ∧ ¬ (16 : Int) < (n : Int) ∧ (i : Int) < 1) ∨ (¬ (n : Int) < 1 ∧ ¬ (16 : Int) < (n : Int) ∧ ¬ (i : Int) < 1 ∧ (n : Int) < (i : Int)) := by omega
      clear hno
      rcases hcase with q1 | ⟨q1, q2⟩ | ⟨q1, q2, q3⟩ | ⟨q1, q2, q3, q4⟩
      all_goals
        go_wp2
        exact bodyPost_ret (v := .tuple #[.int .i64 0, .int .i64 0, .string ⟨#[]⟩, .int .i64 7]) (by simp [results, Try.results12, go_sem]) rfl ⟨rfl, (Ext.refl w).drewN _⟩
end Go.Proofs.Ytadincbeimfakaa
