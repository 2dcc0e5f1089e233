/- Plain: a block that is there. -/
import Derived.Test.YtbobijgbemnmiaaBytes
namespace Go.Proofs.Ytbobijgbemnmiaa
open Go.RowKit

theorem heap_lt {w : World} {g : Nat} {o : Obj} (h : w.heap[g]? = some o) : g < w.heap.size := by
  rcases Nat.lt_or_ge g w.heap.size with hlt | hge
  · exact hlt
  · rw [Array.getElem?_eq_none hge] at h; cases h
end Go.Proofs.Ytbobijgbemnmiaa
