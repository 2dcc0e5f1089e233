/- Plain words: texts in a row, one behind the other. -/
import Derived.Test.YtciiooeblknnoaaDoorOf
namespace Go.Proofs.YtciiooeblknnoaaDoor
open Go.RowKit

/-- The first k texts, one behind the other. -/
def J (l : List ByteArray) (k : Nat) : ByteArray := ⟨(joinL (l.take k)).toArray⟩
theorem J_size (l : List ByteArray) (k : Nat) : (J l k).size = (joinL (l.take k)).length := txt_size _
theorem J_succ (l : List ByteArray) (k : Nat) (h : k < l.length) : J l k ++ l[k] = J l (k + 1) := by
  apply ByteArray.ext
  rw [ByteArray.data_append]
  apply Array.toList_inj.1
  simp [J, joinL_succ l k h]
end Go.Proofs.YtciiooeblknnoaaDoor
