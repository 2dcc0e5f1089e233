/- Slices of numbers and truths among a law's arguments, opened: what its walk asks of them. -/
import Derived.Test.YtcmmcaoidmldkaaOpenArgs
import Derived.Test.YtcmmcaoidmldkaaVals
import Derived.Deep.Grids
namespace Go.Proofs.Ytcmmcaoidmldkaa
open Go.ChangeShapes Go.WideShapes Go.ChangeAt Go.RowKit
theorem cells_u64 : Try.prog.cellsOf 29 = 1 := by kernel_rfl
theorem bytes_u64 : Try.prog.bytesOf 29 = 8 := by kernel_rfl
theorem cells_i64 : Try.prog.cellsOf 2 = 1 := by kernel_rfl
theorem bytes_i64 : Try.prog.bytesOf 2 = 8 := by kernel_rfl
theorem cells_bo : Try.prog.cellsOf 4 = 1 := by kernel_rfl
theorem bytes_bo : Try.prog.bytesOf 4 = 1 := by kernel_rfl
section
variable {H : Type} {enc : TypeId × Value → H} {W : World} {base : Nat} {v : Value} {d : DataW H} {p : List MemPlace}
theorem open_nums_p (hval : Value.okWide Try.prog W .any base 22 v) (h : DataW.Trod enc Try.prog W 0 (fun _ => true) true 22 v d p) (hlt : ∀ x ∈ p, x.block < W.heap.size)
    {ts : List TypeId} {ds : List (DataW H)} {j : Nat} (hsz : (DataW.weightsEach Try.prog ts ds).all (· ≤ reachBytes) = true) (ht : ts[j]? = some 22) (hd : ds[j]? = some d) :
    ∃ (pa : Option Addr) (n c : Nat) (l : List Nat), v = .slice pa n c ∧ l.length = n ∧ ValsP W pa (vU l) ∧ n ≤ 140737488355328 ∧ ∀ x, x ∈ l → x < 18446744073709551616 := by
  obtain ⟨a0, len, cap, rfl⟩ := okWide_slice Try.underlying22 hval
  obtain ⟨fuel, hf⟩ := h
  rcases open_ints (k := .u64) Try.underlying22 Try.underlying29 cells_u64 hf with ⟨hcs, hx⟩ | ⟨a, len', cap', zs, hcs, _, hl, hm, hz, hx, hcell, hwf⟩
  · simp [Value.cells] at hcs
    obtain ⟨rfl, rfl, rfl⟩ := hcs
    exact ⟨none, 0, 0, [], rfl, rfl, fun i s hs => by simp [vU] at hs, by omega, by simp⟩
  · simp [Value.cells] at hcs
    obtain ⟨rfl, rfl, rfl⟩ := hcs
    simp only [Prod.mk.injEq] at hx
    obtain ⟨rfl, rfl⟩ := hx
    simp only [if_true] at hz
    have hr := sized_slice hsz ht hd Try.underlying22
    rw [bytes_u64] at hr
    simp only [lits, List.length_map, List.length_take, List.length_drop, reachBytes] at hr
    refine ⟨some a, len, cap, (zs.take len).map Int.toNat, rfl, by simp [List.length_take]; omega, fun i u hs => ?_, by omega, fun x hx => ?_⟩
    · have hi : i < len := by
        have := (List.getElem?_eq_some_iff.1 hs).1
        simp [vU] at this
        omega
      unfold vU at hs
      rw [List.getElem?_map, List.getElem?_map] at hs
      rcases hz0 : (zs.take len)[i]? with _ | z
      · rw [hz0] at hs; cases hs
      · rw [hz0] at hs
        rw [List.getElem?_take, if_pos hi] at hz0
        have hmem : z ∈ zs := List.mem_of_getElem? hz0
        have hwz := hwf z hmem
        simp [Lit.wf, IntKind.min, IntKind.max, IntKind.signed, IntKind.bits] at hwz
        have hc := hcell i (by omega)
        have e : zs.getD i 0 = z := by rw [List.getD_eq_getElem?_getD, hz0]; rfl
        rw [e] at hc
        have e2 : u = .int .u64 z := by
          have := Option.some.inj hs
          rw [← this]
          show Value.int .u64 ((z.toNat : Nat) : Int) = _
          rw [Int.toNat_of_nonneg (by omega)]
        rw [e2]
        exact ⟨a, rfl, hlt (.cell a.block (a.off + i)) (MemPlace.mem_row.2 ⟨i, by omega, rfl⟩), hc⟩
    ·
      obtain ⟨z, hz1, rfl⟩ := List.mem_map.1 hx
      have hwz := hwf z (List.mem_of_mem_take hz1)
      simp [Lit.wf, IntKind.min, IntKind.max, IntKind.signed, IntKind.bits] at hwz
      omega
theorem open_ints_p (hval : Value.okWide Try.prog W .any base 23 v) (h : DataW.Trod enc Try.prog W 0 (fun _ => true) true 23 v d p) (hlt : ∀ x ∈ p, x.block < W.heap.size)
    {ts : List TypeId} {ds : List (DataW H)} {j : Nat} (hsz : (DataW.weightsEach Try.prog ts ds).all (· ≤ reachBytes) = true) (ht : ts[j]? = some 23) (hd : ds[j]? = some d) :
    ∃ (pa : Option Addr) (n c : Nat) (l : List Int), v = .slice pa n c ∧ l.length = n ∧ ValsP W pa (vI l) ∧ n ≤ 140737488355328 ∧ ∀ x, x ∈ l → -9223372036854775808 ≤ x ∧ x ≤ 9223372036854775807 := by
  obtain ⟨a0, len, cap, rfl⟩ := okWide_slice Try.underlying23 hval
  obtain ⟨fuel, hf⟩ := h
  rcases open_ints (k := .i64) Try.underlying23 Try.underlying2 cells_i64 hf with ⟨hcs, hx⟩ | ⟨a, len', cap', zs, hcs, _, hl, hm, hz, hx, hcell, hwf⟩
  · simp [Value.cells] at hcs
    obtain ⟨rfl, rfl, rfl⟩ := hcs
    exact ⟨none, 0, 0, [], rfl, rfl, fun i s hs => by simp [vI] at hs, by omega, by simp⟩
  · simp [Value.cells] at hcs
    obtain ⟨rfl, rfl, rfl⟩ := hcs
    simp only [Prod.mk.injEq] at hx
    obtain ⟨rfl, rfl⟩ := hx
    simp only [if_true] at hz
    have hr := sized_slice hsz ht hd Try.underlying23
    rw [bytes_i64] at hr
    simp only [lits, List.length_map, List.length_take, List.length_drop, reachBytes] at hr
    refine ⟨some a, len, cap, zs.take len, rfl, by simp [List.length_take]; omega, fun i u hs => ?_, by omega, fun x hx => ?_⟩
    · have hi : i < len := by
        have := (List.getElem?_eq_some_iff.1 hs).1
        simp [vI] at this
        omega
      unfold vI at hs
      rw [List.getElem?_map] at hs
      rcases hz0 : (zs.take len)[i]? with _ | z
      · rw [hz0] at hs; cases hs
      · rw [hz0] at hs
        rw [List.getElem?_take, if_pos hi] at hz0
        have hc := hcell i (by omega)
        have e : zs.getD i 0 = z := by rw [List.getD_eq_getElem?_getD, hz0]; rfl
        rw [e] at hc
        rw [← Option.some.inj hs]
        exact ⟨a, rfl, hlt (.cell a.block (a.off + i)) (MemPlace.mem_row.2 ⟨i, by omega, rfl⟩), hc⟩
    ·
      have hwz := hwf x (List.mem_of_mem_take hx)
      simp [Lit.wf, IntKind.min, IntKind.max, IntKind.signed, IntKind.bits] at hwz
      omega
theorem open_bools_p (hval : Value.okWide Try.prog W .any base 25 v) (h : DataW.Trod enc Try.prog W 0 (fun _ => true) true 25 v d p) (hlt : ∀ x ∈ p, x.block < W.heap.size)
    {ts : List TypeId} {ds : List (DataW H)} {j : Nat} (hsz : (DataW.weightsEach Try.prog ts ds).all (· ≤ reachBytes) = true) (ht : ts[j]? = some 25) (hd : ds[j]? = some d) :
    ∃ (pa : Option Addr) (n c : Nat) (l : List Bool), v = .slice pa n c ∧ l.length = n ∧ ValsP W pa (vB l) ∧ n ≤ 140737488355328 := by
  obtain ⟨a0, len, cap, rfl⟩ := okWide_slice Try.underlying25 hval
  obtain ⟨fuel, hf⟩ := h
  rcases Deep.open_bools Try.underlying25 Try.underlying4 cells_bo hf with ⟨hcs, hx⟩ | ⟨a, len', cap', B, hcs, _, hl, hm, hx, hcell⟩
  · simp [Value.cells] at hcs
    obtain ⟨rfl, rfl, rfl⟩ := hcs
    exact ⟨none, 0, 0, [], rfl, rfl, fun i s hs => by simp [vB] at hs, by omega⟩
  · simp [Value.cells] at hcs
    obtain ⟨rfl, rfl, rfl⟩ := hcs
    simp only [Prod.mk.injEq] at hx
    obtain ⟨rfl, rfl⟩ := hx
    have hr := sized_slice hsz ht hd Try.underlying25
    rw [bytes_bo] at hr
    simp only [List.length_map, List.length_range, reachBytes] at hr
    refine ⟨some a, len, cap, (List.range len).map B, rfl, by simp, fun i u hs => ?_, by omega⟩
    have hi : i < len := by
      have := (List.getElem?_eq_some_iff.1 hs).1
      simp [vB] at this
      omega
    have e : u = .bool (B i) := by
      unfold vB at hs
      rw [List.getElem?_map, List.getElem?_map, List.getElem?_range hi] at hs
      exact (Option.some.inj hs).symm
    rw [e]
    exact ⟨a, rfl, hlt (.cell a.block (a.off + i)) (MemPlace.mem_row.2 ⟨i, by omega, rfl⟩), hcell i (by omega)⟩
end
end Go.Proofs.Ytcmmcaoidmldkaa