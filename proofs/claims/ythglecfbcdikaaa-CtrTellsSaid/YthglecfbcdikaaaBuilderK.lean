/- Contracts: a builder's writing and its text, all else that is no cells kept (for a range over a function). -/
import Derived.Test.YthglecfbcdikaaaBuilder
import Derived.Shelf.Strings.BuilderK
import Derived.Test.YthglecfbcdikaaaKpL
namespace Go.Proofs.Ythglecfbcdikaaa
open Go.RowKit Go.Shelf

theorem bd_grown {B b : Nat} {bs : List Value} {w w' : World} {row : Option Nat} (h : Lib.IsBuilderF 61 5 B b bs w) (hg : w.grownBy w' row) (hr : ∀ r, row = some r → ∃ o : Obj, w.heap[r]? = some o ∧ o.isCells = false) : Lib.IsBuilderF 61 5 B b bs w' := by
  have key : ∀ p, Lib.BuilderAtF 61 5 B b p bs w → Lib.BuilderAtF 61 5 B b p bs w' := by
    rintro p ⟨hB, v, hv, hown, hne⟩
    refine ⟨hB, v, (grownBy_keeps_cells hg hr hv rfl).trans hv, ⟨hown.1, ?_⟩, hne⟩
    rcases hown.2 with h0 | ⟨g, cap, cur, fz, e1, e2, e3, e4⟩
    · exact .inl h0
    · exact .inr ⟨g, cap, cur, fz, e1, e2, (grownBy_keeps_cells hg hr e3 rfl).trans e3, e4⟩
  exact h.imp (key _) (key _)
theorem bd_write (B b : Nat) (bs : List Value) (s : ByteArray) (w : World) (h : Lib.IsBuilderF 61 5 B b bs w) (hlen : bs.length + s.size ≤ 140737488355328) (hBw : B ≤ w.heap.size) :
    Calls Try.prog 24 #[.pointer (some ⟨b, 0, none⟩), .string s] w fun e w' => e = .returned (.tuple #[.int .i64 s.size, .nilIface]) ∧ (Lib.IsBuilderF 61 5 B b (bs ++ Lib.strCells s) w' ∧ Below B w w' ∧ Lib.OthersKept 5 (some b) w w') :=
  (Any.Builder_WriteString_k laysW extraW B b bs s w h hlen hBw).mono fun _ _ h => ⟨h.1, .inr h.2.1, h.2.2.1, h.2.2.2⟩
theorem bd_string (B b : Nat) (l : List UInt8) (w : World) (h : Lib.IsBuilderF 61 5 B b (Lib.byteCells l) w) (hBw : B ≤ w.heap.size) :
    Calls Try.prog 26 #[.pointer (some ⟨b, 0, none⟩)] w fun e w' => e = .returned (.string ⟨l.toArray⟩) ∧ Below B w w' ∧ Lib.OthersKept 5 (some b) w w' :=
  (Any.Builder_String_any_k laysS extraS B b l w h hBw).mono fun _ _ h => ⟨h.1, h.2.2.1, h.2.2.2⟩
theorem bd_others {b : Nat} {W W' : World} (h : Lib.OthersKept 5 (some b) W W') (hs : W.heap.size ≤ W'.heap.size) (hb : ∃ o, W.heap[b]? = some o ∧ o.isCells = true) : KeepsOthers W W' :=
  ⟨hs, fun k o hk ho => h k o hk (fun e => by
    obtain ⟨o', h1, h2⟩ := hb
    obtain rfl : k = b := Option.some.inj e
    rw [hk] at h1; cases h1; rw [ho] at h2; cases h2) (fun c fz e => by rw [e] at ho; cases ho)⟩
theorem bd_cells {B b : Nat} {bs : List Value} {w : World} (h : Lib.IsBuilderF 61 5 B b bs w) : ∃ o, w.heap[b]? = some o ∧ o.isCells = true := by
  rcases h with ⟨_, v, hv, _⟩ | ⟨_, v, hv, _⟩
  · exact ⟨_, hv, rfl⟩
  · exact ⟨_, hv, rfl⟩
theorem bd_ext {B b : Nat} {bs : List Value} {w w' : World} (h : Lib.IsBuilderF 61 5 B b bs w) (hx : Ext w w') : Lib.IsBuilderF 61 5 B b bs w' := bd_grown h (grown_of_ext hx) (fun r e => by cases e)
/-- A block of cells of another type stays where bytes were written. -/
theorem bd_keeps {b : Nat} {W W' : World} {T : TypeId} {cs : List Value} {g : Nat} (h : Lib.OthersKept 5 (some b) W W') (hg : Blk W g T cs) (hb : ¬ g = b) (hT : ¬ T = 5) : W'.heap[g]? = W.heap[g]? :=
  (h _ _ hg (by intro e; have := Option.some.inj e; omega) (by intro c fz e; have := (Obj.cells.inj e).2.1; exact absurd this hT)).trans hg.symm
end Go.Proofs.Ythglecfbcdikaaa
