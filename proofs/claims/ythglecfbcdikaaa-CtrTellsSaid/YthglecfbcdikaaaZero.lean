/- Plain: new blocks of zeros. -/
import Derived.Test.YthglecfbcdikaaaProg
import Derived.Test.YthglecfbcdikaaaBlk
namespace Go.Proofs.Ythglecfbcdikaaa
open Go.RowKit

/-- n bytes 0. -/
def zc (n : Nat) : Array Value := ((List.replicate n (0 : UInt8)).map cellOf).toArray
theorem zero_run {P : Program} {t : TypeId} {z : Value} (h : (P.info? t).bind (·.zero) = some z) (w : World) : (zeroValue t).run P w = .ok z w := by
  cases hq : P.info? t with
  | none => simp [hq] at h
  | some i =>
    have hz : i.zero = some z := by simpa [hq] using h
    simp [zeroValue, typeInfo, hq, hz]
theorem Row.zero (w : World) (t : TypeId) (n : Nat) : Row (w.alloc (.cells (zc n) t)) w.heap.size t (List.replicate n 0) := heap_alloc_new w _
theorem zero255 : (Try.prog.info? 89).bind (·.zero) = some (.agg (zc 255)) := by kernel_rfl
theorem zero256 : (Try.prog.info? 49).bind (·.zero) = some (.agg (zc 256)) := by kernel_rfl
theorem zero512 : (Try.prog.info? 51).bind (·.zero) = some (.agg (zc 512)) := by kernel_rfl
theorem zero176 : (Try.prog.info? 55).bind (·.zero) = some (.agg (zc 176)) := by kernel_rfl
theorem zero16 : (Try.prog.info? 54).bind (·.zero) = some (.agg (zc 16)) := by kernel_rfl
theorem size255 : (Try.prog.info? 89).map (·.size) = some 255 := by kernel_rfl
theorem size256 : (Try.prog.info? 49).map (·.size) = some 256 := by kernel_rfl
theorem size512 : (Try.prog.info? 51).map (·.size) = some 512 := by kernel_rfl
theorem size176 : (Try.prog.info? 55).map (·.size) = some 176 := by kernel_rfl
theorem size16 : (Try.prog.info? 54).map (·.size) = some 16 := by kernel_rfl
theorem sized {t n : Nat} {l : List UInt8} (h : (Try.prog.info? t).map (·.size) = some n) (hl : l.length = n) : (Try.prog.info? t).map (·.size) = some ((l.map cellOf).toArray).size := by simp [h, hl]
end Go.Proofs.Ythglecfbcdikaaa
