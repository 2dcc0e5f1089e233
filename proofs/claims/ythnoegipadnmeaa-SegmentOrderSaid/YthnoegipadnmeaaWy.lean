/- A drawn region that reads, has one operation by a law, and ends in a store: walked by what each operation leaves behind. -/
import Derived.Test.YthnoegipadnmeaaAnyInv
namespace Go.Proofs.Ythnoegipadnmeaa
open Go.RowKit

/-- n operations, the slots from s0 on, operation x by a law, operation n - 1 the store, operation y done ahead of x, z ahead of y; F: what each other one leaves in its slot; I: what is known of the world, by whether x and the store are done, and of what x left. -/
structure Wy (n N s0 x y z : Nat) (base : List (Nat × Value)) (F : Nat → Value → Prop) (I : Bool → Bool → Value → World → Prop) (L : Array Bool) (a : Act) (w : World) : Prop where
  size : L.size = n
  defers : a.defers = []
  tmps : a.tmps.size = N
  base : ∀ p, p ∈ base → a.tmps.getD p.1 undef = p.2
  facts : ∀ j, j < n - 1 → j ≠ x → L.getD j true = true → F j (a.tmps.getD (s0 + j) undef)
  first : L.getD x true = true → L.getD y true = true
  second : L.getD y true = true → L.getD z true = true
  inv : I (L.getD x true) (L.getD (n - 1) true) (a.tmps.getD (s0 + x) undef) w
section
variable {n N s0 x y z : Nat} {base : List (Nat × Value)} {F : Nat → Value → Prop} {I : Bool → Bool → Value → World → Prop} {L : Array Bool} {a : Act} {w w' : World}
theorem bit_other (L : Array Bool) {i j : Nat} (h : i ≠ j) : (L.setIfInBounds i true).getD j true = L.getD j true := by
  simp [Array.getD_eq_getD_getElem?, h]
theorem bit_of {L : Array Bool} {j : Nat} (h : L.getD j false = true) : L.getD j true = true := by
  by_cases hj : j < L.size
  · simpa [Array.getD, hj] using h
  · simp [Array.getD, hj] at h
/-- An operation that only reads. -/
theorem Wy.put (h : Wy n N s0 x y z base F I L a w) (hN : s0 + n ≤ N + 1) (hb : ∀ p, p ∈ base → p.1 < s0) (i t : Nat) (hi : i < n - 1) (hx : i ≠ x) (ht : t = s0 + i) (v : Value) (hv : F i v) (hz : i = y → z = i ∨ L.getD z true = true) : Wy n N s0 x y z base F I (L.setIfInBounds i true) (a.put (some t) v) w := by
  subst ht
  refine ⟨by rw [Array.size_setIfInBounds]; exact h.size, h.defers, by simp only [Act.put]; rw [Array.size_setIfInBounds]; exact h.tmps, fun p hp => ?_, fun j hj hjx hl => ?_, fun hl => ?_, fun hl => ?_, ?_⟩
  · simp only [Act.put]
    rw [slot_other (by have := hb p hp; omega)]
    exact h.base p hp
  · simp only [Act.put]
    by_cases e : j = i
    · subst e
      rw [slot_same (by rw [h.tmps]; omega)]
      exact hv
    · rw [slot_other (by omega)]
      rw [bit_other L (Ne.symm e)] at hl
      exact h.facts j hj hjx hl
  · rw [bit_other L hx] at hl
    exact bit_keep L i y (h.first hl)
  · by_cases e : i = y
    · rcases hz e with e2 | e2
      · subst e2
        exact bit_same L z (by rw [h.size]; omega)
      · exact bit_keep L i z e2
    · rw [bit_other L e] at hl
      exact bit_keep L i z (h.second hl)
  · simp only [Act.put]
    rw [bit_other L hx, bit_other L (by omega), slot_other (by omega)]
    exact h.inv
/-- The operation by a law. -/
theorem Wy.law (h : Wy n N s0 x y z base F I L a w) (hN : s0 + n ≤ N + 1) (hb : ∀ p, p ∈ base → p.1 < s0) (t : Nat) (hx : x < n - 1) (hxy : x ≠ y) (ht : t = s0 + x) (hy : L.getD y true = true) (v : Value) (hv : I true (L.getD (n - 1) true) v w') : Wy n N s0 x y z base F I (L.setIfInBounds x true) (a.put (some t) v) w' := by
  subst ht
  have hx2 : (L.setIfInBounds x true).getD x true = true := bit_same L x (by rw [h.size]; omega)
  refine ⟨by rw [Array.size_setIfInBounds]; exact h.size, h.defers, by simp only [Act.put]; rw [Array.size_setIfInBounds]; exact h.tmps, fun p hp => ?_, fun j hj hjx hl => ?_, fun hl => ?_, fun hl => ?_, ?_⟩
  · simp only [Act.put]
    rw [slot_other (by have := hb p hp; omega)]
    exact h.base p hp
  · simp only [Act.put]
    rw [slot_other (by omega)]
    rw [bit_other L (Ne.symm hjx)] at hl
    exact h.facts j hj hjx hl
  · rw [bit_other L hxy]
    exact hy
  · exact bit_keep L x z (h.second hy)
  · simp only [Act.put]
    rw [hx2, bit_other L (by omega), slot_same (by rw [h.tmps]; omega)]
    exact hv
/-- The store. -/
theorem Wy.store (h : Wy n N s0 x y z base F I L a w) (hx : x < n - 1) (hy : y < n - 1) (hv : I (L.getD x true) true (a.tmps.getD (s0 + x) undef) w') (v : Value) : Wy n N s0 x y z base F I (L.setIfInBounds (n - 1) true) (a.put none v) w' := by
  have e : a.put none v = a := rfl
  rw [e]
  refine ⟨by rw [Array.size_setIfInBounds]; exact h.size, h.defers, h.tmps, h.base, fun j hj hjx hl => ?_, fun hl => ?_, fun hl => ?_, ?_⟩
  · rw [bit_other L (by omega)] at hl
    exact h.facts j hj hjx hl
  · rw [bit_other L (by omega)] at hl
    rw [bit_other L (by omega)]
    exact h.first hl
  · rw [bit_other L (by omega)] at hl
    exact bit_keep L _ z (h.second hl)
  · rw [bit_other L (by omega), bit_same L (n - 1) (by rw [h.size]; omega)]
    exact hv
theorem Wy.at (h : Wy n N s0 x y z base F I L a w) (j t : Nat) (hj : j < n - 1) (hx : j ≠ x) (ht : t = s0 + j) (hl : L.getD j false = true) : F j (a.tmps[t]?.getD undef) := by
  subst ht
  have := h.facts j hj hx (bit_of hl)
  rwa [Array.getD_eq_getD_getElem?] at this
theorem Wy.ahead (h : Wy n N s0 x y z base F I L a w) (p : Nat × Value) (hp : p ∈ base) : a.tmps[p.1]?.getD undef = p.2 := by
  have := h.base p hp
  rwa [Array.getD_eq_getD_getElem?] at this
theorem Wy.start (ha : a.defers = []) (hN : a.tmps.size = N) (hb : ∀ p, p ∈ base → a.tmps.getD p.1 undef = p.2) (hx : x < n - 1) (hy : y < n - 1) (hI : ∀ v, I false false v w) : Wy n N s0 x y z base F I (Array.replicate n false) a w := by
  have hz : ∀ j, j < n → (Array.replicate n false).getD j true = false := fun j hj => by simp [Array.getD, hj]
  refine ⟨by simp, ha, hN, hb, fun j hj _ hl => ?_, fun hl => ?_, fun hl => ?_, ?_⟩
  · rw [hz j (by omega)] at hl; cases hl
  · rw [hz x (by omega)] at hl; cases hl
  · rw [hz y (by omega)] at hl; cases hl
  · rw [hz x (by omega), hz (n - 1) (by omega)]
    exact hI _
end
end Go.Proofs.Ythnoegipadnmeaa
