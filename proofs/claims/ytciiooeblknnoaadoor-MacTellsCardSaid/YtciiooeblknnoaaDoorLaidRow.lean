/- From the rows' condition on the program's tables to what the contracts ask of the world; a world that meets it. -/
import Derived.Test.YtciiooeblknnoaaDoorRows
import Derived.Test.YtciiooeblknnoaaDoorTake
import Derived.ProofKit
import Derived.JoinedOf
import Derived.LaidLaws
import Derived.LaidHandle
import Derived.MakeChecks
import Derived.Stop.LaidErr
import Derived.Stop.Joined
import Derived.Lib.LaidTab
namespace Go.Proofs.YtciiooeblknnoaaDoor
open Go.ChangeShapes Go.WideShapes Go.RowKit

noncomputable def laidList : List (String × DataW Unit) := Rows.macTellsRow.laid
theorem own : ownKnob Tryd.prog.godebug = none := by kernel_rfl
def intsOf (l : List Nat) : List Int := l.map fun (n : Nat) => (n : Int)
theorem laid_of_met {W : World} (h : laidMetH Tryd.prog laidList W) : Laid W := by
  have h1 : laidMet Tryd.prog laidList W := by
    rwa [MakeChecks.laidMetH_plain _ _ _ (by kernel_rfl)] at h
  have hk := Lib.tabIs_of_head (k := .u32) (zs := intsOf Kc) (g := 1) (t := 88) (e := 60) (n := 64) (by kernel_rfl) (by kernel_rfl) Tryd.underlying88 Tryd.underlying60 (by kernel_rfl) (by kernel_rfl) (laidMet.tail (show laidMet Tryd.prog (_ :: (_, Lib.tabData .u32 (intsOf Kc)) :: []) W from h1))
  have hf := Lib.tabIs_of_head (k := .u32) (zs := intsOf init.list) (g := 0) (t := 74) (e := 60) (n := 8) (by kernel_rfl) (by kernel_rfl) Tryd.underlying74 Tryd.underlying60 (by kernel_rfl) (by kernel_rfl) (show laidMet Tryd.prog ((_, Lib.tabData .u32 (intsOf init.list)) :: _) W from h1)
  have ck := fun i hi => hk.cell (g := 1) (by kernel_rfl) i hi
  have cf := fun i hi => hf.cell (g := 0) (by kernel_rfl) i hi
  have e : ∀ (l : List Nat) (i : Nat), i < l.length → (intsOf l).getD i 0 = ((l.getD i 0 : Nat) : Int) := by
    intro l i hi
    simp [intsOf, List.getD, List.getElem?_eq_getElem hi]
  refine ⟨fun i hi => ?_, fun i hi => ?_, ?_⟩
  · rw [ck i hi, e Kc i hi]
  · rw [cf i hi, e init.list i hi]
  · have := ck 0 (by decide)
    rcases Nat.lt_or_ge 1 W.heap.size with hlt | hge
    · exact hlt
    · unfold World.cell? at this
      rw [Array.getElem?_eq_none (by simpa using hge)] at this
      cases this
/-- A world that meets the condition: the settled one, the tables laid. -/
noncomputable def laidWorld (os : Os) : World :=
  let w0 := World.holding Tryd.prog os ⟨#[], #[], []⟩
  { w0 with heap := (w0.heap.modify 0 fun
      | .cells _ t frozen => .cells (init.list.map cell32).toArray t frozen
      | o => o).modify 1 fun
      | .cells _ t frozen => .cells (Kc.map cell32).toArray t frozen
      | o => o }
theorem laidWorld_met (os : Os) (args : Array Value) : laidMetH Tryd.prog laidList ((laidWorld os).forCall (fun _ _ => 0) ⟨#[], args, []⟩).memory :=
  laidMetH_of_parts (laidMet_of_run' 8 (by kernel_rfl) (by kernel_rfl)) (by kernel_rfl)
end Go.Proofs.YtciiooeblknnoaaDoor
