/- So many bytes, out of any text: made, copied, a text. -/
import Derived.Test.YtadincbeimfakaaMake
import Derived.Test.YtadincbeimfakaaCopyT
namespace Go.Proofs.Ytadincbeimfakaa
open Go.RowKit

/-- The first n bytes, with bytes 0 behind. -/
def fullN (s : ByteArray) (n : Nat) : List UInt8 := (s.data.toList ++ List.replicate n 0).take n
theorem fullN_length (s : ByteArray) (n : Nat) : (fullN s n).length = n := by unfold fullN; rw [List.length_take, List.length_append, List.length_replicate]; omega
/-- The bytes made, and the text copied in. -/
def fullW (w : World) (C : Array Value) (s : ByteArray) (n : Nat) : World := (w.alloc (.cells C 5)).setRow w.heap.size ((fullN s n).map cellOf).toArray
section
variable (w : World) (C : Array Value) (s : ByteArray) (n : Nat) (hC : madeCells #[Value.int .u8 0] n = C)
include hC
theorem copy_full (ty : TypeId) : (Builtin.copy_ #[54, 9] ty #[.slice (some ⟨w.heap.size, 0, none⟩) n n, .string s]).run Try.prog (w.alloc (.cells C 5)) = .ok (goInt ((min s.size n : Nat) : Int)) (fullW w C s n) := by
  have hr0 := Row.made w 5 n
  rw [hC] at hr0
  have hcp := run_copy_text (w.alloc (.cells C 5)) ty w.heap.size 0 n n s _ 5 hr0.blk (by simp) _ rfl
  have e : ((List.replicate n (0 : UInt8)).map cellOf).take 0 ++ (s.data.toList.take (min s.size n)).map cellOf ++ ((List.replicate n (0 : UInt8)).map cellOf).drop (0 + min s.size n) = (fullN s n).map cellOf := by
    rw [List.take_zero, List.nil_append, ← List.map_drop, ← List.map_append]
    congr 1
    unfold fullN
    rw [List.drop_replicate, List.take_append, size_list, List.take_replicate]
    congr 1
    · rcases Nat.le_total s.size n with h | h
      · rw [List.take_of_length_le (by rw [size_list]; omega), List.take_of_length_le (by rw [size_list]; omega)]
      · rw [show min s.size n = n by omega]
    · congr 1; omega
  rw [e] at hcp
  exact hcp
theorem full_row : Row (fullW w C s n) w.heap.size 5 (fullN s n) := by
  have hr0 := Row.made w 5 n
  rw [hC] at hr0
  exact setRow_heap _ _ _ _ _ _ hr0
theorem text_full : (convert 54 9 (.slice (some ⟨w.heap.size, 0, none⟩) n n)).run Try.prog (fullW w C s n) = .ok (.string ⟨(fullN s n).toArray⟩) (fullW w C s n) :=
  (full_row w C s n hC).text (P := Try.prog) 54 5 9 Try.underlying54 Try.underlying5 Try.underlying9 n n (fullN_length s n)
end
theorem fullW_ext (w : World) (C : Array Value) (s : ByteArray) (n : Nat) : Ext w (fullW w C s n) := ((Ext.refl w).alloc _).setRow (Nat.le_refl _) _
theorem fullW_size (w : World) (C : Array Value) (s : ByteArray) (n : Nat) : (fullW w C s n).heap.size = w.heap.size + 1 := by unfold fullW; simp
end Go.Proofs.Ytadincbeimfakaa
