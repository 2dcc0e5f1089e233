/- A world that meets the row's condition on the library's tables. -/
import Derived.Test.YtkjcpjalldbahaaGreatDoorRows
import Derived.Test.YtkjcpjalldbahaaGreatDoorM00
import Derived.ProofKit
import Derived.JoinedOf
import Derived.MakeChecks
import Derived.Lay
namespace Go.Proofs.YtkjcpjalldbahaaGreatDoor
open Go.ChangeShapes Go.WideShapes Go.RowKit

noncomputable def laidList : List (String × DataW Unit) := Rows.tablePlaysRow.laid
theorem own : ownKnob Tryz.prog.godebug = none := by kernel_rfl
noncomputable def laidWorld (os : Os) : World := World.laidAll Tryz.prog os laidList
theorem laidWorld_met (os : Os) (args : Array Value) : laidMetH Tryz.prog laidList ((laidWorld os).forCall (fun _ _ => 0) ⟨#[], args, []⟩).memory := by
  rw [MakeChecks.laidMetH_plain _ _ _ (by kernel_rfl)]
  exact laidMet_laidAll _ (by kernel_rfl) (by kernel_rfl)
end Go.Proofs.YtkjcpjalldbahaaGreatDoor
