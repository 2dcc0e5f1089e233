/- A drawn region that reads, makes one block, has one operation by a law, and ends in a store that waits for all: walked by what each operation leaves behind. -/
import Derived.Test.YtbekdcpdfmfopaaGreatM10
namespace Go.Proofs.YtbekdcpdfmfopaaGreat
open Go.RowKit

/-- n operations, the slots from s0 on, operation m makes a block, operation x by a law, operation n - 1 the store, which waits for all; F: what each other one leaves in its slot; I: what is known of the world, by whether m, x and the store are done, and of what x left. -/
structure Wz (A0 : Array Value) (n N s0 m x : Nat) (base : List (Nat × Value)) (F : Nat → Value → Prop) (I : Bool → Bool → Bool → Value → World → Prop) (L : Array Bool) (a : Act) (w : World) : Prop where
  size : L.size = n
  defers : a.defers = []
  tmps : a.tmps.size = N
  base : ∀ p, p ∈ base → a.tmps.getD p.1 undef = p.2
  keep : ∀ t, t < s0 ∨ s0 + (n - 1) ≤ t → a.tmps.getD t undef = A0.getD t undef
  facts : ∀ j, j < n - 1 → j ≠ x → L.getD j true = true → F j (a.tmps.getD (s0 + j) undef)
  all : L.getD (n - 1) true = true → ∀ j, j < n - 1 → L.getD j true = true
  inv : I (L.getD m true) (L.getD x true) (L.getD (n - 1) true) (a.tmps.getD (s0 + x) undef) w
section
variable {A0 : Array Value} {n N s0 m x : Nat} {base : List (Nat × Value)} {F : Nat → Value → Prop} {I : Bool → Bool → Bool → Value → World → Prop} {L : Array Bool} {a : Act} {w w' : World}
/-- Ahead of the store. -/
theorem Wz.not (h : Wz A0 n N s0 m x base F I L a w) {i : Nat} (hi : i < n - 1) (hl : L.getD i true = false) : L.getD (n - 1) true = false := by
  rcases hb : L.getD (n - 1) true with _ | _
  · rfl
  · rw [h.all hb i hi] at hl; cases hl
/-- An operation that only reads, or makes the block. -/
theorem Wz.put' (h : Wz A0 n N s0 m x base F I L a w) (hN : s0 + n ≤ N + 1) (hb : ∀ p, p ∈ base → p.1 < s0) (i t : Nat) (hi : i < n - 1) (hx : i ≠ x) (ht : t = s0 + i) (hl : L.getD i true = false) (v : Value) (hv : F i v)
    (hI : I ((L.setIfInBounds i true).getD m true) (L.getD x true) (L.getD (n - 1) true) (a.tmps.getD (s0 + x) undef) w') : Wz A0 n N s0 m x base F I (L.setIfInBounds i true) (a.put (some t) v) w' := by
  subst ht
  refine ⟨by rw [Array.size_setIfInBounds]; exact h.size, h.defers, by simp only [Act.put]; rw [Array.size_setIfInBounds]; exact h.tmps, fun p hp => ?_, fun t ht => ?_, fun j hj hjx hl2 => ?_, fun hl2 => ?_, ?_⟩
  · simp only [Act.put]
    rw [slot_other (by have := hb p hp; omega)]
    exact h.base p hp
  · simp only [Act.put]
    rw [slot_other (by omega)]
    exact h.keep t ht
  · simp only [Act.put]
    by_cases e : j = i
    · subst e
      rw [slot_same (by rw [h.tmps]; omega)]
      exact hv
    · rw [slot_other (by omega)]
      rw [bit_other L (Ne.symm e)] at hl2
      exact h.facts j hj hjx hl2
  · rw [bit_other L (by omega), h.not hi hl] at hl2
    cases hl2
  · simp only [Act.put]
    rw [show (L.setIfInBounds i true).getD x true = L.getD x true from bit_other L hx, show (L.setIfInBounds i true).getD (n - 1) true = L.getD (n - 1) true from bit_other L (by omega), slot_other (by omega)]
    exact hI
theorem Wz.put (h : Wz A0 n N s0 m x base F I L a w) (hN : s0 + n ≤ N + 1) (hb : ∀ p, p ∈ base → p.1 < s0) (i t : Nat) (hi : i < n - 1) (hx : i ≠ x) (hm : i ≠ m) (ht : t = s0 + i) (hl : L.getD i true = false) (v : Value) (hv : F i v) : Wz A0 n N s0 m x base F I (L.setIfInBounds i true) (a.put (some t) v) w :=
  h.put' hN hb i t hi hx ht hl v hv (by rw [bit_other L hm]; exact h.inv)
theorem Wz.make (h : Wz A0 n N s0 m x base F I L a w) (hN : s0 + n ≤ N + 1) (hb : ∀ p, p ∈ base → p.1 < s0) (t : Nat) (hm : m < n - 1) (hx : m ≠ x) (ht : t = s0 + m) (hl : L.getD m true = false) (v : Value) (hv : F m v)
    (hI : I true (L.getD x true) false (a.tmps.getD (s0 + x) undef) w') : Wz A0 n N s0 m x base F I (L.setIfInBounds m true) (a.put (some t) v) w' :=
  h.put' hN hb m t hm hx ht hl v hv (by rw [bit_same L m (by rw [h.size]; omega), h.not hm hl]; exact hI)
/-- The operation by a law. -/
theorem Wz.law (h : Wz A0 n N s0 m x base F I L a w) (hN : s0 + n ≤ N + 1) (hb : ∀ p, p ∈ base → p.1 < s0) (t : Nat) (hx : x < n - 1) (hm : m ≠ x) (ht : t = s0 + x) (hl : L.getD x true = false) (v : Value) (hv : I (L.getD m true) true false v w') : Wz A0 n N s0 m x base F I (L.setIfInBounds x true) (a.put (some t) v) w' := by
  subst ht
  have hn := h.not hx hl
  refine ⟨by rw [Array.size_setIfInBounds]; exact h.size, h.defers, by simp only [Act.put]; rw [Array.size_setIfInBounds]; exact h.tmps, fun p hp => ?_, fun t ht => ?_, fun j hj hjx hl2 => ?_, fun hl2 => ?_, ?_⟩
  · simp only [Act.put]
    rw [slot_other (by have := hb p hp; omega)]
    exact h.base p hp
  · simp only [Act.put]
    rw [slot_other (by omega)]
    exact h.keep t ht
  · simp only [Act.put]
    rw [slot_other (by omega)]
    rw [bit_other L (Ne.symm hjx)] at hl2
    exact h.facts j hj hjx hl2
  · rw [bit_other L (by omega), hn] at hl2
    cases hl2
  · simp only [Act.put]
    rw [bit_same L x (by rw [h.size]; omega), show (L.setIfInBounds x true).getD (n - 1) true = L.getD (n - 1) true from bit_other L (by omega), show (L.setIfInBounds x true).getD m true = L.getD m true from bit_other L (Ne.symm hm), slot_same (by rw [h.tmps]; omega), hn]
    exact hv
/-- The store. -/
theorem Wz.store (h : Wz A0 n N s0 m x base F I L a w) (hx : x < n - 1) (hm : m < n - 1) (ha : ∀ j, j < n - 1 → L.getD j true = true) (hv : I true true true (a.tmps.getD (s0 + x) undef) w') (v : Value) : Wz A0 n N s0 m x base F I (L.setIfInBounds (n - 1) true) (a.put none v) w' := by
  have e : a.put none v = a := rfl
  rw [e]
  refine ⟨by rw [Array.size_setIfInBounds]; exact h.size, h.defers, h.tmps, h.base, h.keep, fun j hj hjx hl => ?_, fun _ j hj => ?_, ?_⟩
  · rw [bit_other L (by omega)] at hl
    exact h.facts j hj hjx hl
  · rw [bit_other L (by omega)]
    exact ha j hj
  · rw [show (L.setIfInBounds (n - 1) true).getD m true = L.getD m true from bit_other L (by omega), show (L.setIfInBounds (n - 1) true).getD x true = L.getD x true from bit_other L (by omega), bit_same L (n - 1) (by rw [h.size]; omega), ha m hm, ha x hx]
    exact hv
theorem Wz.at (h : Wz A0 n N s0 m x base F I L a w) (j t : Nat) (hj : j < n - 1) (hx : j ≠ x) (ht : t = s0 + j) (hl : L.getD j false = true) : F j (a.tmps[t]?.getD undef) := by
  subst ht
  have := h.facts j hj hx (bit_of hl)
  rwa [Array.getD_eq_getD_getElem?] at this
theorem Wz.ahead (h : Wz A0 n N s0 m x base F I L a w) (p : Nat × Value) (hp : p ∈ base) : a.tmps[p.1]?.getD undef = p.2 := by
  have := h.base p hp
  rwa [Array.getD_eq_getD_getElem?] at this
theorem Wz.start (ha : a.defers = []) (hN : a.tmps.size = N) (hb : ∀ p, p ∈ base → a.tmps.getD p.1 undef = p.2) (hx : x < n - 1) (hm : m < n - 1) (hI : ∀ v, I false false false v w) : Wz a.tmps n N s0 m x base F I (Array.replicate n false) a w := by
  have hz : ∀ j, j < n → (Array.replicate n false).getD j true = false := fun j hj => by simp [Array.getD, hj]
  refine ⟨by simp, ha, hN, hb, fun _ _ => rfl, fun j hj _ hl => ?_, fun hl => ?_, ?_⟩
  · rw [hz j (by omega)] at hl; cases hl
  · rw [hz (n - 1) (by omega)] at hl; cases hl
  · rw [hz x (by omega), hz m (by omega), hz (n - 1) (by omega)]
    exact hI _
end
/-- A frame in which a row of slots is written. -/
def putAll (A : Array Value) : Nat → List Value → Array Value
  | _, [] => A
  | s, v :: r => putAll (A.setIfInBounds s v) (s + 1) r
theorem putAll_size : ∀ (l : List Value) (A : Array Value) (s : Nat), (putAll A s l).size = A.size
  | [], _, _ => rfl
  | v :: r, A, s => by rw [putAll, putAll_size r]; simp
theorem putAll_out : ∀ (l : List Value) (A : Array Value) (s t : Nat), t < s ∨ s + l.length ≤ t → (putAll A s l).getD t undef = A.getD t undef
  | [], _, _, _, _ => rfl
  | v :: r, A, s, t, h => by
    rw [List.length_cons] at h
    rw [putAll, putAll_out r _ _ _ (by omega), slot_other (by omega)]
theorem putAll_in : ∀ (l : List Value) (A : Array Value) (s j : Nat) (v : Value), l[j]? = some v → s + j < A.size → (putAll A s l).getD (s + j) undef = v
  | [], _, _, _, _, h, _ => by simp at h
  | u :: r, A, s, 0, v, h, hs => by
    simp at h; subst h
    rw [putAll, putAll_out r _ _ _ (by omega)]
    exact slot_same (by simpa using hs)
  | u :: r, A, s, j + 1, v, h, hs => by
    rw [putAll, show s + (j + 1) = s + 1 + j by omega]
    exact putAll_in r _ _ j v (by simpa using h) (by simp; omega)
theorem frame_eq {X Y : Array Value} (hs : X.size = Y.size) (h : ∀ t, X.getD t undef = Y.getD t undef) : X = Y := by
  apply Array.ext hs
  intro i h1 h2
  have := h i
  simpa [Array.getD, h1, h2] using this
/-- The frame behind the region. -/
theorem Wz.frame {A0 : Array Value} {n N s0 m x : Nat} {base : List (Nat × Value)} {F : Nat → Value → Prop} {I : Bool → Bool → Bool → Value → World → Prop} {L : Array Bool} {X : Array Value} {w : World}
    (h : Wz A0 n N s0 m x base F I L { tmps := X, defers := [] } w) (hA : A0.size = N) (hN : s0 + n ≤ N + 1) (hn : 0 < n) (l : List Value) (hl : l.length = n - 1) (hv : ∀ j v, l[j]? = some v → X.getD (s0 + j) undef = v) : X = putAll A0 s0 l := by
  have hsz : X.size = N := h.tmps
  refine frame_eq (by rw [putAll_size, hA, hsz]) fun t => ?_
  by_cases ht : t < s0 ∨ s0 + (n - 1) ≤ t
  · rw [putAll_out l A0 s0 t (by omega)]
    exact h.keep t ht
  · obtain ⟨j, rfl⟩ : ∃ j, t = s0 + j := ⟨t - s0, by omega⟩
    obtain ⟨v, hjv⟩ : ∃ v, l[j]? = some v := ⟨_, List.getElem?_eq_getElem (by omega)⟩
    rw [putAll_in l A0 s0 j v hjv (by omega), hv j v hjv]
/-- What waits for all that stands ahead of it finds all done. -/
theorem ready_all {md : Region.Mode} {ops : Array Oper} {L : Array Bool} {i : Nat} (h : i ∈ Region.ready md ops L) (o : Oper) (ho : ops[i]? = some o) (k : Nat)
    (hall : ((List.range k).all fun j => o.after.any fun e => Region.binds md e && e.on == j) = true) : ∀ j, j < k → L.getD j true = true := by
  intro j hj
  have h1 := List.all_eq_true.1 hall j (List.mem_range.2 hj)
  rw [Array.any_eq_true] at h1
  obtain ⟨t, ht, he⟩ := h1
  rw [Bool.and_eq_true, beq_iff_eq] at he
  have := ready_after h o ho t o.after[t] (Array.getElem?_eq_getElem ht) he.1
  rw [he.2] at this
  exact bit_of this
/-- What is known of the world while such a region is under way: ahead of the block, behind it, behind the law, behind the store. -/
def MkI (W : World) (o : Obj) (Mid Fin : Value → World → Prop) (b7 b8 b10 : Bool) (v : Value) (u : World) : Prop :=
  match b8, b7 with
  | false, false => u = W
  | false, true => u = W.alloc o
  | true, false => False
  | true, true => match b10 with | false => Mid v u | true => Fin v u
theorem MkI.cell {W : World} {o : Obj} {Mid Fin : Value → World → Prop} {b7 b8 : Bool} {v : Value} {u : World} (h : MkI W o Mid Fin b7 b8 false v u) {C : World → Prop} (h1 : C W) (h2 : C (W.alloc o)) (h3 : ∀ v u, Mid v u → C u) : C u := by
  cases b8 <;> cases b7 <;> simp only [MkI] at h
  · exact h ▸ h1
  · exact h ▸ h2
  · exact h3 v u h
end Go.Proofs.YtbekdcpdfmfopaaGreat
