/- Contracts: an array of eight numbers, read by value. -/
import Derived.Test.YteddogalmdgjlaaDoorWordsP
namespace Go.Proofs.YteddogalmdgjlaaDoor
open Go.RowKit
theorem info29s : (Tryd.prog.info? 29).map (·.size) = some 1 := by kernel_rfl
theorem index8 (t : TypeId) (ht : Tryd.prog.underlying t = some (.array 8 29)) (cs : Array Value) (hc : cs.size = 8) (i : Nat) (hi : i < 8) (w : World) :
    (Instr.index t (.agg cs) (.int .i64 (i : Int))).run Tryd.prog w = .ok (cs.getD i undef) w := by
  have hu2 := Tryd.underlying29
  cases hq : Tryd.prog.info? 29 with
  | none => have := info29s; simp [hq] at this
  | some d =>
    have hs : d.size = 1 := by have := info29s; simpa [hq] using this
    simp [Instr.index, part, isAgg, run_underlying ht, run_underlying hu2, sizeOf, typeInfo, hq, hs, hc, hi, asIntOf, go_sem]
theorem index8s (t : TypeId) (ht : Tryd.prog.underlying t = some (.array 8 29)) (a b c d e f g h : Nat) :
    (∀ u, (Instr.index t (.agg #[.int .u32 (a : Int), .int .u32 (b : Int), .int .u32 (c : Int), .int .u32 (d : Int), .int .u32 (e : Int), .int .u32 (f : Int), .int .u32 (g : Int), .int .u32 (h : Int)]) (.int .i64 0)).run Tryd.prog u = .ok (.int .u32 (a : Int)) u) ∧
    (∀ u, (Instr.index t (.agg #[.int .u32 (a : Int), .int .u32 (b : Int), .int .u32 (c : Int), .int .u32 (d : Int), .int .u32 (e : Int), .int .u32 (f : Int), .int .u32 (g : Int), .int .u32 (h : Int)]) (.int .i64 1)).run Tryd.prog u = .ok (.int .u32 (b : Int)) u) ∧
    (∀ u, (Instr.index t (.agg #[.int .u32 (a : Int), .int .u32 (b : Int), .int .u32 (c : Int), .int .u32 (d : Int), .int .u32 (e : Int), .int .u32 (f : Int), .int .u32 (g : Int), .int .u32 (h : Int)]) (.int .i64 2)).run Tryd.prog u = .ok (.int .u32 (c : Int)) u) ∧
    (∀ u, (Instr.index t (.agg #[.int .u32 (a : Int), .int .u32 (b : Int), .int .u32 (c : Int), .int .u32 (d : Int), .int .u32 (e : Int), .int .u32 (f : Int), .int .u32 (g : Int), .int .u32 (h : Int)]) (.int .i64 3)).run Tryd.prog u = .ok (.int .u32 (d : Int)) u) ∧
    (∀ u, (Instr.index t (.agg #[.int .u32 (a : Int), .int .u32 (b : Int), .int .u32 (c : Int), .int .u32 (d : Int), .int .u32 (e : Int), .int .u32 (f : Int), .int .u32 (g : Int), .int .u32 (h : Int)]) (.int .i64 4)).run Tryd.prog u = .ok (.int .u32 (e : Int)) u) ∧
    (∀ u, (Instr.index t (.agg #[.int .u32 (a : Int), .int .u32 (b : Int), .int .u32 (c : Int), .int .u32 (d : Int), .int .u32 (e : Int), .int .u32 (f : Int), .int .u32 (g : Int), .int .u32 (h : Int)]) (.int .i64 5)).run Tryd.prog u = .ok (.int .u32 (f : Int)) u) ∧
    (∀ u, (Instr.index t (.agg #[.int .u32 (a : Int), .int .u32 (b : Int), .int .u32 (c : Int), .int .u32 (d : Int), .int .u32 (e : Int), .int .u32 (f : Int), .int .u32 (g : Int), .int .u32 (h : Int)]) (.int .i64 6)).run Tryd.prog u = .ok (.int .u32 (g : Int)) u) ∧
    (∀ u, (Instr.index t (.agg #[.int .u32 (a : Int), .int .u32 (b : Int), .int .u32 (c : Int), .int .u32 (d : Int), .int .u32 (e : Int), .int .u32 (f : Int), .int .u32 (g : Int), .int .u32 (h : Int)]) (.int .i64 7)).run Tryd.prog u = .ok (.int .u32 (h : Int)) u) :=
  ⟨fun u => index8 t ht #[.int .u32 (a : Int), .int .u32 (b : Int), .int .u32 (c : Int), .int .u32 (d : Int), .int .u32 (e : Int), .int .u32 (f : Int), .int .u32 (g : Int), .int .u32 (h : Int)] rfl 0 (by omega) u, fun u => index8 t ht #[.int .u32 (a : Int), .int .u32 (b : Int), .int .u32 (c : Int), .int .u32 (d : Int), .int .u32 (e : Int), .int .u32 (f : Int), .int .u32 (g : Int), .int .u32 (h : Int)] rfl 1 (by omega) u, fun u => index8 t ht #[.int .u32 (a : Int), .int .u32 (b : Int), .int .u32 (c : Int), .int .u32 (d : Int), .int .u32 (e : Int), .int .u32 (f : Int), .int .u32 (g : Int), .int .u32 (h : Int)] rfl 2 (by omega) u, fun u => index8 t ht #[.int .u32 (a : Int), .int .u32 (b : Int), .int .u32 (c : Int), .int .u32 (d : Int), .int .u32 (e : Int), .int .u32 (f : Int), .int .u32 (g : Int), .int .u32 (h : Int)] rfl 3 (by omega) u, fun u => index8 t ht #[.int .u32 (a : Int), .int .u32 (b : Int), .int .u32 (c : Int), .int .u32 (d : Int), .int .u32 (e : Int), .int .u32 (f : Int), .int .u32 (g : Int), .int .u32 (h : Int)] rfl 4 (by omega) u, fun u => index8 t ht #[.int .u32 (a : Int), .int .u32 (b : Int), .int .u32 (c : Int), .int .u32 (d : Int), .int .u32 (e : Int), .int .u32 (f : Int), .int .u32 (g : Int), .int .u32 (h : Int)] rfl 5 (by omega) u, fun u => index8 t ht #[.int .u32 (a : Int), .int .u32 (b : Int), .int .u32 (c : Int), .int .u32 (d : Int), .int .u32 (e : Int), .int .u32 (f : Int), .int .u32 (g : Int), .int .u32 (h : Int)] rfl 6 (by omega) u, fun u => index8 t ht #[.int .u32 (a : Int), .int .u32 (b : Int), .int .u32 (c : Int), .int .u32 (d : Int), .int .u32 (e : Int), .int .u32 (f : Int), .int .u32 (g : Int), .int .u32 (h : Int)] rfl 7 (by omega) u⟩
end Go.Proofs.YteddogalmdgjlaaDoor
