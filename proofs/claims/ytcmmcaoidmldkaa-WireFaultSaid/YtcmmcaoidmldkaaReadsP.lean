/- Plain: a slice of calls of a reader (structs of six cells) that came in. -/
import Derived.Test.YtcmmcaoidmldkaaProg
import Derived.Test.YtcmmcaoidmldkaaTexts
import Derived.Test.YtcmmcaoidmldkaaBlk
import Derived.Laws.Cells
import Derived.Deep.MidRow
namespace Go.Proofs.Ytcmmcaoidmldkaa
open Go.RowKit
/-- The cells of one call. -/
def readCells (d u lo hi n m : Int) : List Value := [.int .u8 d, .int .u64 u, .int .i64 lo, .int .i64 hi, .int .i64 n, .int .i64 m]
/-- The cells from the address on, if there are any, are so many calls. -/
def ReadsP (w : World) (p : Option Addr) (n : Nat) : Prop := ∀ k, k < n → ∃ (a : Addr) (d u lo hi n1 m1 : Int), p = some a ∧ a.block < w.heap.size ∧ ∀ j v, (readCells d u lo hi n1 m1)[j]? = some v → w.cell? (a.add (k * 6 + j)) = some v
theorem ReadsP.ext {w w' : World} {p : Option Addr} {n : Nat} (h : ReadsP w p n) (hx : Ext w w') : ReadsP w' p n := fun k hk => by
  obtain ⟨a, d, u, lo, hi, n1, m1, h1, h2, h3⟩ := h k hk
  exact ⟨a, d, u, lo, hi, n1, m1, h1, Nat.lt_of_lt_of_le h2 hx.size, fun j v hv => by rw [hx.below.cell (p := a.add (k * 6 + j)) (by rw [add_block]; exact h2)]; exact h3 j v hv⟩
theorem read_info : (Try.prog.info? 52).map (·.size) = some 6 := by kernel_rfl
theorem load_read (w : World) (a : Addr) (d u lo hi n m : Int) (hc : ∀ j v, (readCells d u lo hi n m)[j]? = some v → w.cell? (a.add j) = some v) :
    (Instr.loadAt 52 (.pointer (some a))).run Try.prog w = .ok (.agg #[.int .u8 d, .int .u64 u, .int .i64 lo, .int .i64 hi, .int .i64 n, .int .i64 m]) w := by
  have hl : (loadCells a 6).run Try.prog w = .ok (readCells d u lo hi n m).toArray w := run_loadCells_list (P := Try.prog) w a (readCells d u lo hi n m) hc
  have hu := Try.underlying52
  have hi2 := read_info
  cases hq : Try.prog.info? 52 with
  | none => simp [hq] at hi2
  | some i =>
    have hs : i.size = 6 := by simpa [hq] using hi2
    have hagg : (isAgg 52).run Try.prog w = .ok true w := by
      unfold isAgg
      rw [Sem.run_bind, run_underlying hu w]
      simp_all
    simp [Instr.loadAt, Instr.sureAddr, loadVar, Sem.run_bind, hagg, sizeOf, typeInfo, hq, hs, hl, readCells]
end Go.Proofs.Ytcmmcaoidmldkaa
