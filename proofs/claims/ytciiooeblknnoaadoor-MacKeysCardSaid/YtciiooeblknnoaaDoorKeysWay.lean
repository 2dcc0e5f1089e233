/- The drawn region of MacKeys: two tags, each of a text in a row that the region makes, in whatever order. -/
import Derived.Test.YtciiooeblknnoaaDoorLit
import Derived.Test.YtciiooeblknnoaaDoorAnyInv
namespace Go.Proofs.YtciiooeblknnoaaDoor
open Go.RowKit

/-- What each operation of the region leaves in its slot. -/
def KF (S s T : ByteArray) (q : Nat) (j : Nat) (v : Value) (w : World) : Prop :=
  match j with
  | 0 | 4 => v = .string S
  | 1 | 9 => v = .string s
  | 2 | 10 => ∃ g t, v = .slice (some ⟨g, 0, none⟩) 1 1 ∧ Blk w g t [.string s]
  | 3 | 11 => v = .string T
  | 5 => v = .int .i64 (q : Int)
  | 6 => ∃ g t, v = .slice (some ⟨g, 0, none⟩) q q ∧ Row w g t (List.replicate q 0)
  | 7 => v = .string ⟨(List.replicate q 0).toArray⟩
  | 8 => v = .string (S ++ ⟨(List.replicate q 0).toArray⟩)
  | _ => v = .bool true
theorem KF_ext (S s T : ByteArray) (q : Nat) (j : Nat) (v : Value) (w w' : World) (hx : Ext w w') (h : KF S s T q j v w) : KF S s T q j v w' := by
  unfold KF at h ⊢
  split at h
  all_goals first
    | exact h
    | (obtain ⟨g, t, h1, h2⟩ := h; exact ⟨g, t, h1, h2.ext hx⟩)
def keySlots : List Nat := [48, 49, 50, 51, 52, 53, 54, 55, 56, 57, 58, 59, 60, 61, 62, 63, 6]
abbrev KWay (S s T : ByteArray) (q : Nat) (w0 : World) : Array Bool → Act → World → Prop := Way 17 64 keySlots [(2, .string s), (8, .string S), (9, .int .i64 (q : Int))] (KF S s T q) w0
theorem keySlots_ok : ∀ t, t ∈ keySlots → t < 64 ∧ 2 ≠ t ∧ 8 ≠ t ∧ 9 ≠ t := by decide
theorem KWay.go {S s T : ByteArray} {q : Nat} {w0 w w' : World} {L : Array Bool} {a : Act} (h : KWay S s T q w0 L a w) (i t : Nat) (ht : keySlots[i]? = some t) (v : Value) (hx : Ext w w') (hv : KF S s T q i v w') : KWay S s T q w0 (L.setIfInBounds i true) (a.put (some t) v) w' :=
  h.put (KF_ext S s T q) (by decide) (fun t ht => ⟨(keySlots_ok t ht).1, fun p hp => by
    obtain ⟨_, h2, h8, h9⟩ := keySlots_ok t ht
    simp only [List.mem_cons, List.not_mem_nil, or_false] at hp
    rcases hp with rfl | rfl | rfl
    · exact h2
    · exact h8
    · exact h9⟩) ht v hx hv
theorem bit_of {L : Array Bool} {j : Nat} (h : L.getD j false = true) : L.getD j true = true := by
  by_cases hj : j < L.size
  · simpa [Array.getD, hj] using h
  · simp [Array.getD, hj] at h
/-- What a slot holds, as a walk reads it. -/
theorem KWay.at {S s T : ByteArray} {q : Nat} {w0 w : World} {L : Array Bool} {a : Act} (h : KWay S s T q w0 L a w) (j t : Nat) (ht : keySlots[j]? = some t) (hj : L.getD j false = true) : KF S s T q j (a.tmps[t]?.getD undef) w := by
  have := h.facts j t ht (bit_of hj)
  rwa [Array.getD_eq_getD_getElem?] at this
theorem KWay.ahead {S s T : ByteArray} {q : Nat} {w0 w : World} {L : Array Bool} {a : Act} (h : KWay S s T q w0 L a w) (p : Nat × Value) (hp : p ∈ [(2, Value.string s), (8, .string S), (9, .int .i64 (q : Int))]) : a.tmps[p.1]?.getD undef = p.2 := by
  have := h.base p hp
  rwa [Array.getD_eq_getD_getElem?] at this
end Go.Proofs.YtciiooeblknnoaaDoor
