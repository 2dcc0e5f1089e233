/- Plain: a new block of 32 numbers. -/
import Derived.Test.YtnecafoickjleaaProg
import Derived.Test.YtnecafoickjleaaCrcTab
namespace Go.Proofs.Ytnecafoickjleaa
open Go.RowKit
def zc32 : Array Value := z32.toArray
theorem zero_run {P : Program} {t : TypeId} {z : Value} (h : (P.info? t).bind (·.zero) = some z) (w : World) : (zeroValue t).run P w = .ok z w := by
  cases hq : P.info? t with
  | none => simp [hq] at h
  | some i =>
    have hz : i.zero = some z := by simpa [hq] using h
    simp [zeroValue, typeInfo, hq, hz]
theorem zero38 : (Try.prog.info? 38).bind (·.zero) = some (.agg zc32) := by kernel_rfl
theorem size38 : (Try.prog.info? 38).map (·.size) = some 32 := by kernel_rfl
theorem sizedV {l : List Value} (hl : l.length = 32) : (Try.prog.info? 38).map (·.size) = some l.toArray.size := by simp [size38, hl]
theorem blk_zero (w : World) : Blk (w.alloc (.cells zc32 38)) w.heap.size 38 z32 := heap_alloc_new w _
end Go.Proofs.Ytnecafoickjleaa
