/- Contracts: what a share's bytes say, by the document's answer. -/
import Derived.Test.YtadincbeimfakaaTextAt
import Derived.Test.YtadincbeimfakaaHeap
import Derived.Test.YtadincbeimfakaaBlk
import Derived.Laws.ResultCell
import Derived.Deep.QuietTactic
import Derived.BigQuiet
import Derived.StillTailTactics
namespace Go.Proofs.Ytadincbeimfakaa
open Go.RowKit

/-- What a share's bytes say, if they are a share's: its place, how many there are. -/
def ShareOf (s : ByteArray) (i n : Nat) : Prop := 3 ≤ s.size ∧ s.size ≤ 66 ∧ 1 ≤ n ∧ n ≤ 16 ∧ 1 ≤ i ∧ i ≤ n ∧ ∃ x y : UInt8, s.data.toList[0]? = some x ∧ s.data.toList[1]? = some y ∧ x.toNat = i ∧ y.toNat = n
theorem slice_rest (X : ByteArray) (c : Nat) (h : c ≤ X.size) (u : World) : (Instr.slice 9 (.string X) (some (.int .i64 (c : Int))) none none).run Try.prog u = .ok (.string (X.extract c X.size)) u := by
  have hj : (0 : Int) ≤ (c : Int) ∧ (c : Int) ≤ (X.size : Int) := by omega
  simp [Instr.slice, Instr.sliceBounds, Instr.sliceBound, asIntOf, run_underlying Try.underlying9, hj]
  intro hgt
  omega
theorem slice_two (X : ByteArray) (h : 2 ≤ X.size) (u : World) : (Instr.slice 9 (.string X) (some (.int .i64 2)) none none).run Try.prog u = .ok (.string (X.extract 2 X.size)) u := slice_rest X 2 h u
theorem results_row_tmp {fn : Func} {p u : Tmp} {ty : TypeId} (h : fn.results = #[.cell p ty, .tmp u]) (tmps : Array Value) (w : World) (g : Nat) (cs : Array Value)
    (hp : tmps.getD p undef = .pointer (some ⟨g, 0, none⟩)) (hl : (loadVar ty ⟨g, 0, none⟩).run Try.prog w = .ok (.agg cs) w) :
    (results fn tmps).run Try.prog w = .ok (.tuple #[.agg cs, tmps.getD u undef]) w := by
  rw [results_cell_tmp h, hp]
  simp [asAddr, hl, Result.andThen]
theorem share_info : (Try.prog.info? 33).map (·.size) = some 3 := by kernel_rfl
theorem load_share (w : World) (g : Nat) (a b : Int) (S : ByteArray) (h : Blk w g 33 [.int .i64 a, .int .i64 b, .string S]) :
    (loadVar 33 ⟨g, 0, none⟩).run Try.prog w = .ok (.agg #[.int .i64 a, .int .i64 b, .string S]) w :=
  run_loadVar_row w g 33 33 #[.int .i64 a, .int .i64 b, .string S] (0, 0) _ h Try.underlying33 rfl share_info
set_option maxRecDepth 100000 in
set_option maxHeartbeats 2000000 in
theorem rread_yes (s : ByteArray) (i n : Nat) (h : ShareOf s i n) (w : World) :
    Calls Try.prog 13 #[.string s] w fun e w' => e = .returned (.tuple #[.agg #[.int .i64 (i : Int), .int .i64 (n : Int), .string (s.extract 2 s.size)], .int .i64 0]) ∧ Ext w w' := by
  obtain ⟨h3, h66, n1, n16, i1, hin, x, y, hx, hy, ex, ey⟩ := h
  have d1 := slice_two s (by omega)
  have a0 : ∀ u, (Instr.index 9 (.string s) (.int .i64 0)).run Try.prog u = .ok (.int .u8 (x.toNat : Int)) u := fun u => index_text s 0 x hx u
  have a1 : ∀ u, (Instr.index 9 (.string s) (.int .i64 1)).run Try.prog u = .ok (.int .u8 (y.toNat : Int)) u := fun u => index_text s 1 y hy u
  rw [ex] at a0
  rw [ey] at a1
  generalize s.extract 2 s.size = S2 at *
  clear hx hy
  go_enter Try.func13, Try.ntmps13
  go_wp2
  go_region
  all_goals
    go_wp2
    exact bodyPost_ret (results_row_tmp rfl _ _ w.heap.size #[.int .i64 (i : Int), .int .i64 (n : Int), .string S2] rfl (load_share _ _ _ _ _ (((Blk.new w [.int .i64 (i : Int), .int .i64 (n : Int), .string S2] 33).alloc _).drew))) rfl ⟨rfl, (((Ext.refl w).alloc _).alloc _).drew⟩
/-- What is no share's. -/
def NoShare (s : ByteArray) : Prop := ∀ i n, ¬ ShareOf s i n
theorem share_or (s : ByteArray) : (∃ i n, ShareOf s i n) ∨ NoShare s := by
  by_cases h : ∃ i n, ShareOf s i n
  · exact .inl h
  · exact .inr fun i n hi => h ⟨i, n, hi⟩
set_option maxRecDepth 100000 in
set_option maxHeartbeats 4000000 in
theorem rread_no (s : ByteArray) (h : NoShare s) (w : World) :
    Calls Try.prog 13 #[.string s] w fun e w' => e = .returned (.tuple #[.agg #[.int .i64 0, .int .i64 0, .string ⟨#[]⟩], .int .i64 7]) ∧ Ext w w' := by
  go_enter Try.func13, Try.ntmps13
  by_cases h3 : s.size < 3
  · have h3i : (s.size : Int) < 3 := by omega
    go_wp2
    exact bodyPost_ret (results_row_tmp rfl _ _ w.heap.size #[.int .i64 0, .int .i64 0, .string ⟨#[]⟩] rfl (load_share _ _ _ _ _ (Blk.new w [.int .i64 0, .int .i64 0, .string ⟨#[]⟩] 33))) rfl ⟨rfl, (Ext.refl w).alloc _⟩
  · by_cases h66 : 66 < s.size
    · have h66i : (66 : Int) < (s.size : Int) := by omega
      go_wp2
      exact bodyPost_ret (results_row_tmp rfl _ _ w.heap.size #[.int .i64 0, .int .i64 0, .string ⟨#[]⟩] rfl (load_share _ _ _ _ _ (Blk.new w [.int .i64 0, .int .i64 0, .string ⟨#[]⟩] 33))) rfl ⟨rfl, (Ext.refl w).alloc _⟩
    · have hl : 2 < s.data.toList.length := by rw [size_list]; omega
      obtain ⟨x, hx⟩ : ∃ x, s.data.toList[0]? = some x := ⟨_, List.getElem?_eq_getElem (by omega)⟩
      obtain ⟨y, hy⟩ : ∃ y, s.data.toList[1]? = some y := ⟨_, List.getElem?_eq_getElem (by omega)⟩
      have hno : ¬ (1 ≤ y.toNat ∧ y.toNat ≤ 16 ∧ 1 ≤ x.toNat ∧ x.toNat ≤ y.toNat) := fun q => h x.toNat y.toNat ⟨by omega, by omega, q.1, q.2.1, q.2.2.1, q.2.2.2, x, y, hx, hy, rfl, rfl⟩
      have d1 := slice_two s (by omega)
      have a0 : ∀ u, (Instr.index 9 (.string s) (.int .i64 0)).run Try.prog u = .ok (.int .u8 (x.toNat : Int)) u := fun u => index_text s 0 x hx u
      have a1 : ∀ u, (Instr.index 9 (.string s) (.int .i64 1)).run Try.prog u = .ok (.int .u8 (y.toNat : Int)) u := fun u => index_text s 1 y hy u
      have hi256 := x.toNat_lt
      have hn256 := y.toNat_lt
      generalize s.extract 2 s.size = S2 at *
      generalize x.toNat = i at *
      generalize y.toNat = n at *
      clear hx hy hl h
      go_wp2
      go_region
      all_goals
        have hcase : (n : Int) < 1 ∨ (¬ (n : Int) < 1 ∧ (16 : Int) < (n : Int)) ∨ (¬ (n : Int) < 1 ∧ ¬ (16 : Int) < (n : Int) ∧ (i : Int) < 1) ∨ (¬ (n : Int) < 1 ∧ ¬ (16 : Int) < (n : Int) ∧ ¬ (i : Int) < 1 ∧ (n : Int) < (i : Int)) := by omega
        clear hno
        rcases hcase with q1 | ⟨q1, q2⟩ | ⟨q1, q2, q3⟩ | ⟨q1, q2, q3, q4⟩
        all_goals
          go_wp2
          exact bodyPost_ret (results_row_tmp rfl _ _ w.heap.size #[.int .i64 0, .int .i64 0, .string ⟨#[]⟩] rfl (load_share _ _ _ _ _ (((Blk.new w [.int .i64 0, .int .i64 0, .string ⟨#[]⟩] 33).alloc _).drew))) rfl ⟨rfl, (((Ext.refl w).alloc _).alloc _).drew⟩
end Go.Proofs.Ytadincbeimfakaa
