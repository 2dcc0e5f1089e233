/- What stands behind the first bytes of a text. -/
import Derived.Test.YthglecfbcdikaaaProg
import Derived.Test.YthglecfbcdikaaaBytes
namespace Go.Proofs.Ythglecfbcdikaaa
open Go.RowKit

/-- What stands behind the first n bytes of a text. -/
theorem slice_behind (X : ByteArray) (c : Nat) (h : c ≤ X.size) (u : World) : (Instr.slice 9 (.string X) (some (.int .i64 (c : Int))) none none).run Try.prog u = .ok (.string (X.extract c X.size)) u := by
  have hj : (0 : Int) ≤ (c : Int) ∧ (c : Int) ≤ (X.size : Int) := by omega
  simp [Instr.slice, Instr.sliceBounds, Instr.sliceBound, asIntOf, run_underlying Try.underlying9, hj]
  intro hgt
  omega
end Go.Proofs.Ythglecfbcdikaaa
