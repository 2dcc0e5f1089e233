/- The drawn region of FrameLong: bytes that tell of too long a text, read; in whatever order. -/
import Derived.Test.YthoajlajcmcabaaAnyInv
import Derived.Test.YthoajlajcmcabaaBlk
import Derived.Test.YthoajlajcmcabaaBuf
namespace Go.Proofs.Ythoajlajcmcabaa
open Go.RowKit

/-- What each operation of the region leaves in its slot. -/
def LgF (n : Nat) (B Z : ByteArray) (s0 : Nat) (j : Nat) (v : Value) (w : World) : Prop :=
  match j with
  | 0 => v = .int .i64 (n : Int)
  | 1 => v = .int .u64 (n : Int)
  | 2 => v = .string B
  | 3 => ∃ g, v = .slice (some ⟨g, 0, none⟩) 20 20 ∧ Row w g 5 (List.replicate 20 0)
  | 4 => v = .string Z
  | 5 => v = .string (B ++ Z)
  | 6 | 7 => v = .tuple #[.agg #[.int .u64 0, .string ⟨#[]⟩], .int .i64 0, .int .i64 5]
  | 8 => v = .agg #[.int .u64 0, .string ⟨#[]⟩]
  | 9 | 13 => v = .int .i64 0
  | 10 | 14 => v = .int .i64 5
  | 11 => ∃ g, v = .pointer (some ⟨g, 0, none⟩) ∧ Blk w g 24 [.int .u64 0, .string ⟨#[]⟩] ∧ s0 ≤ g
  | _ => True
theorem LgF_ext (n : Nat) (B Z : ByteArray) (s0 j : Nat) (v : Value) (w w' : World) (hx : Ext w w') (h : LgF n B Z s0 j v w) : LgF n B Z s0 j v w' := by
  unfold LgF at h ⊢
  split at h
  all_goals first
    | exact h
    | (obtain ⟨g, h1, h2, h3⟩ := h; exact ⟨g, h1, h2.ext hx, h3⟩)
    | (obtain ⟨g, h1, h2⟩ := h; exact ⟨g, h1, (Blk.ext h2 hx : Blk _ g 5 _)⟩)
/-- Of the block that is stored to nothing turns. -/
theorem LgF_set (n : Nat) (B Z : ByteArray) (s0 j : Nat) (v : Value) (w : World) (g : Nat) (hg : Blk w g 24 [.int .u64 0, .string ⟨#[]⟩]) (h : LgF n B Z s0 j v w) :
    LgF n B Z s0 j v ((w.setCell ⟨g, 0, none⟩ (.int .u64 0)).setCell ⟨g, 1, none⟩ (.string ⟨#[]⟩)) := by
  have hsame : Blk ((w.setCell ⟨g, 0, none⟩ (.int .u64 0)).setCell ⟨g, 1, none⟩ (.string ⟨#[]⟩)) g 24 [.int .u64 0, .string ⟨#[]⟩] := (hg.set_ 0 _).set_ 1 _
  unfold LgF at h ⊢
  split at h
  all_goals first
    | exact h
    | (obtain ⟨g', h1, h2, h3⟩ := h
       refine ⟨g', h1, ?_, h3⟩
       by_cases e : g' = g
       · subst e; exact hsame
       · exact (h2.other e 0 _).other e 1 _)
    | (obtain ⟨g', h1, h2⟩ := h
       refine ⟨g', h1, ?_⟩
       have e : g' ≠ g := fun e => by
         subst e
         unfold Row at h2
         unfold Blk at hg
         rw [hg] at h2
         exact absurd (Obj.cells.inj (Option.some.inj h2)).2.1 (by decide)
       exact (Row.other (Row.other h2 e 0 _) e 1 _))
def lgSlots : List Nat := [26, 27, 28, 29, 30, 31, 32, 25, 33, 34, 35, 6, 83, 7, 8]
abbrev LgWay (n : Nat) (B Z : ByteArray) (w0 : World) : Array Bool → Act → World → Prop := Way 15 84 lgSlots [(3, .int .i64 (n : Int)), (4, .string ⟨#[]⟩), (5, .int .i64 5)] (LgF n B Z w0.heap.size) w0
theorem lgSlots_ok : ∀ t, t ∈ lgSlots → t < 84 ∧ 3 ≠ t ∧ 4 ≠ t ∧ 5 ≠ t := by decide
section
variable {n : Nat} {B Z : ByteArray} {w0 w w' : World} {L : Array Bool} {a : Act}
theorem LgWay.go (h : LgWay n B Z w0 L a w) (i t : Nat) (ht : lgSlots[i]? = some t) (v : Value) (hx : Ext w w') (hv : LgF n B Z w0.heap.size i v w') : LgWay n B Z w0 (L.setIfInBounds i true) (a.put (some t) v) w' :=
  h.put (LgF_ext n B Z w0.heap.size) (by decide) (fun t ht => ⟨(lgSlots_ok t ht).1, fun p hp => by
    obtain ⟨_, h2, h8, h9⟩ := lgSlots_ok t ht
    simp only [List.mem_cons, List.not_mem_nil, or_false] at hp
    rcases hp with rfl | rfl | rfl
    · exact h2
    · exact h8
    · exact h9⟩) ht v hx hv
theorem lbit_of {L : Array Bool} {j : Nat} (h : L.getD j false = true) : L.getD j true = true := by
  by_cases hj : j < L.size
  · simpa [Array.getD, hj] using h
  · simp [Array.getD, hj] at h
theorem LgWay.store (h : LgWay n B Z w0 L a w) (g : Nat) (hg : Blk w g 24 [.int .u64 0, .string ⟨#[]⟩]) (hs : w0.heap.size ≤ g) (v : Value) :
    LgWay n B Z w0 (L.setIfInBounds 12 true) (a.put none v) ((w.setCell ⟨g, 0, none⟩ (.int .u64 0)).setCell ⟨g, 1, none⟩ (.string ⟨#[]⟩)) := by
  refine ⟨by rw [Array.size_setIfInBounds]; exact h.size, h.defers, h.tmps, h.base, (h.ext.setCell (p := ⟨g, 0, none⟩) hs _).setCell (p := ⟨g, 1, none⟩) hs _, fun j t ht hj => ?_⟩
  by_cases e : j = 12
  · subst e; exact trivial
  · rcases bit_set L 12 j true hj with e2 | hj2
    · exact absurd e2 e
    · exact LgF_set n B Z _ j _ w g hg (h.facts j t ht hj2)
theorem LgWay.at (h : LgWay n B Z w0 L a w) (j t : Nat) (ht : lgSlots[j]? = some t) (hj : L.getD j false = true) : LgF n B Z w0.heap.size j (a.tmps[t]?.getD undef) w := by
  have := h.facts j t ht (lbit_of hj)
  rwa [Array.getD_eq_getD_getElem?] at this
theorem LgWay.ahead (h : LgWay n B Z w0 L a w) (p : Nat × Value) (hp : p ∈ [(3, Value.int .i64 (n : Int)), (4, .string ⟨#[]⟩), (5, .int .i64 5)]) : a.tmps[p.1]?.getD undef = p.2 := by
  have := h.base p hp
  rwa [Array.getD_eq_getD_getElem?] at this
end
end Go.Proofs.Ythoajlajcmcabaa
