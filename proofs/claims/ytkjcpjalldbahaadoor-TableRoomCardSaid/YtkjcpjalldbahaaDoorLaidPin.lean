/- A world that meets the row's condition on the library's tables. -/
import Derived.Test.YtkjcpjalldbahaaDoorRows
import Derived.Test.YtkjcpjalldbahaaDoorM00
import Derived.ProofKit
import Derived.JoinedOf
import Derived.MakeChecks
import Derived.Lay
namespace Go.Proofs.YtkjcpjalldbahaaDoor
open Go.ChangeShapes Go.WideShapes Go.RowKit

noncomputable def laidList : List (String × DataW Unit) := Rows.tableAtOnceRow.laid
theorem own : ownKnob Tryd.prog.godebug = none := by kernel_rfl
noncomputable def laidWorld (os : Os) : World := World.laidAll Tryd.prog os laidList
theorem laidWorld_met (os : Os) (args : Array Value) : laidMetH Tryd.prog laidList ((laidWorld os).forCall (fun _ _ => 0) ⟨#[], args, []⟩).memory := by
  rw [MakeChecks.laidMetH_plain _ _ _ (by kernel_rfl)]
  exact laidMet_laidAll _ (by kernel_rfl) (by kernel_rfl)
end Go.Proofs.YtkjcpjalldbahaaDoor
