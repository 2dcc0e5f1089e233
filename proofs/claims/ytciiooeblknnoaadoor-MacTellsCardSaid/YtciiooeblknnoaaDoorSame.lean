/- Plain words: whether two texts are the same, as the program tests it. -/
import Derived.Test.YtciiooeblknnoaaDoorProg
import Derived.WalkKit
namespace Go.Proofs.YtciiooeblknnoaaDoor
open Go.RowKit

theorem same_test (a b : ByteArray) : decide (a = b) = (a.toList == b.toList) := by
  rw [ByteArray.toList_eq, ByteArray.toList_eq]
  by_cases h : a = b
  · simp [h]
  · have : ¬ a.data.toList = b.data.toList := by
      intro e
      apply h
      cases a; cases b
      congr
      exact Array.toList_inj.1 e
    rw [decide_eq_false h]
    exact (beq_eq_false_iff_ne.2 this).symm
theorem same_false (a b : ByteArray) (h : ¬ a.size = b.size) : (a.toList == b.toList) = false := by
  rw [← same_test]
  exact decide_eq_false (fun e => h (by rw [e]))
end Go.Proofs.YtciiooeblknnoaaDoor
