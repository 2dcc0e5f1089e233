/- Truths in a row among a law's arguments, opened: what its walk asks of them. -/
import Derived.Test.YtadincbeimfakaaOpenArgs
import Derived.Deep.Grids
namespace Go.Proofs.Ytadincbeimfakaa
open Go.ChangeShapes Go.WideShapes Go.ChangeAt Go.RowKit
theorem cells_bool : Try.prog.cellsOf 4 = 1 := by kernel_rfl
theorem bytes_bool : Try.prog.bytesOf 4 = 1 := by kernel_rfl
/-- The cells from the address on, if there are any, are so many truths. -/
def TruthsP (w : World) (p : Option Addr) (n : Nat) : Prop := ∀ k, k < n → ∃ a x, p = some a ∧ a.block < w.heap.size ∧ w.cell? (a.add k) = some (.bool x)
theorem TruthsP.ext {w w' : World} {p : Option Addr} {n : Nat} (h : TruthsP w p n) (hx : Ext w w') : TruthsP w' p n := fun k hk => by
  obtain ⟨a, x, h1, h2, h3⟩ := h k hk
  exact ⟨a, x, h1, Nat.lt_of_lt_of_le h2 hx.below.size, by rw [hx.below.cell (p := a.add k) (by rw [add_block]; exact h2)]; exact h3⟩
section
variable {H : Type} {enc : TypeId × Value → H} {W : World} {base : Nat} {v : Value} {d : DataW H} {p : List MemPlace}
theorem open_truths_p (hval : Value.okWide Try.prog W .any base 37 v) (h : DataW.Trod enc Try.prog W 0 (fun _ => true) true 37 v d p) (hlt : ∀ x ∈ p, x.block < W.heap.size)
    {ts : List TypeId} {ds : List (DataW H)} {j : Nat} (hsz : (DataW.weightsEach Try.prog ts ds).all (· ≤ reachBytes) = true) (ht : ts[j]? = some 37) (hd : ds[j]? = some d) :
    ∃ pa np pc, v = .slice pa np pc ∧ TruthsP W pa np ∧ np ≤ 140737488351232 := by
  obtain ⟨a0, len, cap, rfl⟩ := okWide_slice Try.underlying37 hval
  obtain ⟨fuel, hf⟩ := h
  rcases Deep.open_bools Try.underlying37 Try.underlying4 cells_bool hf with ⟨hcs, hx⟩ | ⟨a, len', cap', B, hcs, _, hl, hm, hx, hcell⟩
  · simp [Value.cells] at hcs
    obtain ⟨rfl, rfl, rfl⟩ := hcs
    exact ⟨none, 0, 0, rfl, fun k hk => absurd hk (by omega), by omega⟩
  · simp [Value.cells] at hcs
    obtain ⟨rfl, rfl, rfl⟩ := hcs
    simp only [Prod.mk.injEq] at hx
    obtain ⟨rfl, rfl⟩ := hx
    have hr := sized_slice hsz ht hd Try.underlying37
    rw [bytes_bool] at hr
    simp only [List.length_map, List.length_range, reachBytes] at hr
    exact ⟨some a, len, cap, rfl, fun k hk => ⟨a, B k, rfl, hlt (.cell a.block (a.off + k)) (MemPlace.mem_row.2 ⟨k, by omega, rfl⟩), hcell k (by omega)⟩, by omega⟩
end
end Go.Proofs.Ytadincbeimfakaa
