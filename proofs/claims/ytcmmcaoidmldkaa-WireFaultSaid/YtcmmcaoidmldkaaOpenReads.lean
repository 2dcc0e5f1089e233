/- A slice of calls of a reader among a law's arguments, opened: what its walk asks of it. -/
import Derived.Test.YtcmmcaoidmldkaaOpenArgs
import Derived.Test.YtcmmcaoidmldkaaReadsP
import Derived.Deep.Slices
import Derived.Deep.Fields
import Derived.ChangeArms
namespace Go.Proofs.Ytcmmcaoidmldkaa
open Go.ChangeShapes Go.WideShapes Go.ChangeAt Go.RowKit
theorem cells_read : Try.prog.cellsOf 52 = 6 := by kernel_rfl
theorem bytes_read : Try.prog.bytesOf 52 = 48 := by kernel_rfl
theorem cells_u8' : Try.prog.cellsOf 5 = 1 := by kernel_rfl
theorem cells_u64' : Try.prog.cellsOf 29 = 1 := by kernel_rfl
theorem cells_i64' : Try.prog.cellsOf 2 = 1 := by kernel_rfl
theorem cells_int' : Try.prog.cellsOf 3 = 1 := by kernel_rfl
theorem one_at {l : List Value} {j : Nat} {v : Value} (h : (l.drop j).take 1 = [v]) : l[j]? = some v := by
  have h2 : ((l.drop j).take 1)[0]? = some v := by rw [h]; rfl
  rw [List.getElem?_take, if_pos (by decide), List.getElem?_drop] at h2
  simpa using h2
section
variable {H : Type} {enc : TypeId × Value → H} {W : World} {base : Nat} {v : Value} {d : DataW H} {p : List MemPlace}
theorem field_at {cs : List Value} {xs : List (DataW H × List MemPlace)} {n j : Nat} {t : TypeId} {k : IntKind} (hl : j < xs.length) (ht : Try.prog.underlying t = some (.int k)) (h : DataW.trod enc Try.prog W 0 (fun _ => true) true n t ((cs.drop j).take 1) = xs[j]?) : ∃ z, cs[j]? = some (.int k z) := by
  rw [List.getElem?_eq_getElem hl] at h
  obtain ⟨z, hz, _⟩ := DataW.trod_int ht h
  exact ⟨z, one_at hz⟩
theorem open_reads_p (hval : Value.okWide Try.prog W .any base 50 v) (h : DataW.Trod enc Try.prog W 0 (fun _ => true) true 50 v d p) (hlt : ∀ x ∈ p, x.block < W.heap.size)
    {ts : List TypeId} {ds : List (DataW H)} {j : Nat} (hsz : (DataW.weightsEach Try.prog ts ds).all (· ≤ reachBytes) = true) (ht : ts[j]? = some 50) (hd : ds[j]? = some d) :
    ∃ (pa : Option Addr) (n c : Nat), v = .slice pa n c ∧ ReadsP W pa n ∧ n ≤ 140737488355328 := by
  obtain ⟨a0, len, cap, rfl⟩ := okWide_slice Try.underlying50 hval
  obtain ⟨fuel, hf⟩ := h
  rcases Deep.open_slice Try.underlying50 hf with ⟨hcs, hx⟩ | ⟨a, len', cap', m, n, D, Pl, hcs, _, hl, hm, hmm, hx, hi⟩
  · simp [Value.cells] at hcs
    obtain ⟨rfl, rfl, rfl⟩ := hcs
    exact ⟨none, 0, 0, rfl, fun k hk => absurd hk (by omega), by omega⟩
  · simp [Value.cells] at hcs
    obtain ⟨rfl, rfl, rfl⟩ := hcs
    simp only [Prod.mk.injEq] at hx
    obtain ⟨rfl, rfl⟩ := hx
    simp only [if_true] at hmm
    subst hmm
    have hr := sized_slice hsz ht hd Try.underlying50
    rw [bytes_read] at hr
    simp only [List.length_map, List.length_range, reachBytes] at hr
    refine ⟨some a, len, m, rfl, fun k hk => ?_, by omega⟩
    obtain ⟨cs', hc, htr⟩ := hi k (by omega)
    rw [cells_read] at hc
    obtain ⟨_, hcl, hat⟩ := World.cells?_some hc
    obtain ⟨xs, n', _, _, _, hlen, hfl⟩ := DataW.trod_struct Try.underlying52 htr
    have hlen6 : xs.length = 6 := hlen
    have g0 : DataW.trod enc Try.prog W 0 (fun _ => true) true n' 5 ((cs'.drop 0).take (Try.prog.cellsOf 5)) = xs[0]? := hfl 0 _ rfl
    rw [cells_u8'] at g0
    have g1 : DataW.trod enc Try.prog W 0 (fun _ => true) true n' 29 ((cs'.drop 1).take (Try.prog.cellsOf 29)) = xs[1]? := hfl 1 _ rfl
    rw [cells_u64'] at g1
    have g2 : DataW.trod enc Try.prog W 0 (fun _ => true) true n' 2 ((cs'.drop 2).take (Try.prog.cellsOf 2)) = xs[2]? := hfl 2 _ rfl
    rw [cells_i64'] at g2
    have g3 : DataW.trod enc Try.prog W 0 (fun _ => true) true n' 2 ((cs'.drop 3).take (Try.prog.cellsOf 2)) = xs[3]? := hfl 3 _ rfl
    rw [cells_i64'] at g3
    have g4 : DataW.trod enc Try.prog W 0 (fun _ => true) true n' 3 ((cs'.drop 4).take (Try.prog.cellsOf 3)) = xs[4]? := hfl 4 _ rfl
    rw [cells_int'] at g4
    have g5 : DataW.trod enc Try.prog W 0 (fun _ => true) true n' 3 ((cs'.drop 5).take (Try.prog.cellsOf 3)) = xs[5]? := hfl 5 _ rfl
    rw [cells_int'] at g5
    obtain ⟨d0, e0⟩ := field_at (k := .u8) (by omega) Try.underlying5 g0
    obtain ⟨d1, e1⟩ := field_at (k := .u64) (by omega) Try.underlying29 g1
    obtain ⟨d2, e2⟩ := field_at (k := .i64) (by omega) Try.underlying2 g2
    obtain ⟨d3, e3⟩ := field_at (k := .i64) (by omega) Try.underlying2 g3
    obtain ⟨d4, e4⟩ := field_at (k := .i64) (by omega) Try.underlying3 g4
    obtain ⟨d5, e5⟩ := field_at (k := .i64) (by omega) Try.underlying3 g5
    refine ⟨a, d0, d1, d2, d3, d4, d5, rfl, hlt (.cell a.block (a.off + k * 6)) (List.mem_append_left _ (MemPlace.mem_row.2 ⟨k * 6, by rw [cells_read]; omega, rfl⟩)), fun i u hu => ?_⟩
    have hi6 : i < 6 := (List.getElem?_eq_some_iff.1 hu).1
    have := hat i hi6
    rw [Deep.add_add] at this
    rw [this]
    match i, hi6, hu with
    | 0, _, hu => rw [e0]; exact hu
    | 1, _, hu => rw [e1]; exact hu
    | 2, _, hu => rw [e2]; exact hu
    | 3, _, hu => rw [e3]; exact hu
    | 4, _, hu => rw [e4]; exact hu
    | 5, _, hu => rw [e5]; exact hu
end
end Go.Proofs.Ytcmmcaoidmldkaa
