/- Plain: a text's bytes copied into a block. -/
import Derived.Test.YthnoegipadnmeaaProg
import Derived.Test.YthnoegipadnmeaaBlk
import Derived.Lib.SlBuf
namespace Go.Proofs.Ythnoegipadnmeaa
open Go.RowKit

theorem infoB : (Try.prog.info? 5).map (·.size) = some 1 := by kernel_rfl
theorem run_copy_text (w : World) (ty : TypeId) (g o dLen dCap : Nat) (s : ByteArray) (cs : List Value) (T : TypeId) (hg : Blk w g T cs) (hfit : o + dLen ≤ cs.length) (k : Nat) (hk : k = min s.size dLen) :
    (Builtin.copy_ #[55, 9] ty #[.slice (some ⟨g, o, none⟩) dLen dCap, .string s]).run Try.prog w =
      .ok (goInt k) (w.setRow g (cs.take o ++ (s.data.toList.take k).map cellOf ++ cs.drop (o + k)).toArray) := by
  have hmin : Nat.min s.size dLen = k := hk.symm
  have hk1 : k ≤ s.size := by rw [hk]; exact Nat.min_le_left _ _
  have hk2 : k ≤ dLen := by rw [hk]; exact Nat.min_le_right _ _
  have hlen : ((s.data.toList.take k).map cellOf).length = k := by rw [List.length_map, List.length_take, size_list]; omega
  have hst := run_storeCells_at Try.prog g o T ((s.data.toList.take k).map cellOf) 0 cs.toArray w hg (by rw [hlen]; simp; omega) (by
    intro v hv
    simp only [List.mem_map] at hv
    obtain ⟨b, _, rfl⟩ := hv
    rfl)
  rw [hlen] at hst
  simp only [Nat.add_zero] at hst
  have htk : List.take k (List.map (fun b : UInt8 => Value.int IntKind.u8 (b.toNat : Int)) s.data.toList) = (s.data.toList.take k).map cellOf := by rw [← List.map_take]; rfl
  have hu := Try.underlying55
  cases hq : Try.prog.info? 5 with
  | none => have := infoB; simp [hq] at this
  | some i =>
    simp [Builtin.copy_, run_underlying hu, Builtin.lenOf, Builtin.firstCells, sizeOf, typeInfo, hq, hmin]
    rw [htk, hst]
    simp [Result.andThen]
/-- A text of as many bytes over all of a block. -/
theorem copy_all (w : World) (ty : TypeId) (g n : Nat) (s : ByteArray) (l : List UInt8) (T : TypeId) (hg : Row w g T l) (hl : l.length = n) (hs : s.size = n) :
    (Builtin.copy_ #[55, 9] ty #[.slice (some ⟨g, 0, none⟩) n n, .string s]).run Try.prog w = .ok (.int .i64 (n : Int)) (w.setRow g (s.data.toList.map cellOf).toArray) := by
  have h := run_copy_text w ty g 0 n n s _ T hg.blk (by simp [hl]) n (by omega)
  have e : s.data.toList.take n = s.data.toList := List.take_of_length_le (by rw [size_list]; omega)
  have e2 : (l.map cellOf).drop (0 + n) = [] := List.drop_of_length_le (by simp [hl])
  rw [h, e, e2, List.take_zero, List.nil_append, List.append_nil]
  rfl
end Go.Proofs.Ythnoegipadnmeaa
