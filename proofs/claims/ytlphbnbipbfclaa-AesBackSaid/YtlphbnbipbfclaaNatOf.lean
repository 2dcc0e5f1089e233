/- Plain: a byte that came in. -/
import Derived.WalkKit
import Derived.Handy
namespace Go.Proofs.Ytlphbnbipbfclaa
open Go.RowKit
theorem nat_of_u8 {x : Int} (h : (Lit.int .u8 x).wf = true) : ∃ n : Nat, x = (n : Int) ∧ n < 256 := by
  have hw : 0 ≤ x ∧ x ≤ 255 := by simpa [Lit.wf, IntKind.min, IntKind.max, IntKind.signed, IntKind.bits] using h
  exact ⟨x.toNat, by omega, by omega⟩
end Go.Proofs.Ytlphbnbipbfclaa
