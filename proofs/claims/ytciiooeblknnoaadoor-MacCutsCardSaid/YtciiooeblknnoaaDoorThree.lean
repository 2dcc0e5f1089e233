/- Contracts: the document's answer's turns by three numbers, either or. -/
import Derived.Test.YtciiooeblknnoaaDoorSha
import Derived.Deep.QuietTactic
import Derived.BigQuiet
import Derived.RegionTactic
namespace Go.Proofs.YtciiooeblknnoaaDoor
open Go.RowKit

theorem three_any (x : Nat) (hx : x < 4294967296) (a b c : Int) (w : World) :
    Calls Tryd.prog 39 #[.int .u32 (x : Int), .int .i64 a, .int .i64 b, .int .i64 c] w fun e w' => e = .returned (.int .u32 (((rot x (places a) ^^^ rot x (places b)) ^^^ rot x (places c) : Nat) : Int)) ∧ w = w' := by
  have l1 := rot_lt x (places a) hx
  have l2 := rot_lt x (places b) hx
  have l3 := rot_lt x (places c) hx
  have l4 := xor_lt32 l1 l2
  have h1 := xor32 _ _ l1 l2
  have h2 := xor32 _ _ l4 l3
  go_enter Tryd.func39, Tryd.ntmps39
  go_wp2_with (go_at_call 49; refine (rTurn_any _ hx _ _).mono ?_; rintro e w1 ⟨rfl, rfl⟩)
  go_ret
  exact ⟨rfl, rfl⟩
end Go.Proofs.YtciiooeblknnoaaDoor
