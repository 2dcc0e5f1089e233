/- A region whose order of evaluation is drawn, walked by what each operation leaves behind: whatever comes first. A drawn region that reads, has one operation by a law, and ends in a store: walked by what each operation leaves behind. -/
import Derived.Test.YtbekdcpdfmfopaaGreatM00
import Derived.Orders
import Derived.RegionTactic
section
namespace Go.Proofs.YtbekdcpdfmfopaaGreat
open Go.RowKit

theorem filt_le {p q : Nat → Bool} (hpq : ∀ j, q j = true → p j = true) : ∀ l : List Nat, (l.filter q).length ≤ (l.filter p).length
  | [] => Nat.le_refl _
  | j :: r => by
    have ih := filt_le hpq r
    rw [List.filter_cons, List.filter_cons]
    by_cases hq : q j = true
    · rw [if_pos hq, if_pos (hpq j hq)]; simp only [List.length_cons]; omega
    · rw [if_neg hq]
      split
      · simp only [List.length_cons]; omega
      · exact ih
theorem filt_lt {p q : Nat → Bool} (hpq : ∀ j, q j = true → p j = true) {i : Nat} (hp : p i = true) (hq : q i = false) : ∀ l : List Nat, i ∈ l → (l.filter q).length + 1 ≤ (l.filter p).length
  | [], h => by cases h
  | j :: r, h => by
    have hle := filt_le hpq r
    rw [List.filter_cons, List.filter_cons]
    rcases List.mem_cons.1 h with rfl | hr
    · rw [if_pos hp, if_neg (by rw [hq]; decide)]; simp only [List.length_cons]; omega
    · have ih := filt_lt hpq hp hq r hr
      by_cases hqj : q j = true
      · rw [if_pos hqj, if_pos (hpq j hqj)]; simp only [List.length_cons]; omega
      · rw [if_neg hqj]
        split
        · simp only [List.length_cons]; omega
        · exact ih
/-- How many operations are still to come. -/
def leftN (n : Nat) (L : Array Bool) : Nat := ((List.range n).filter fun i => !L.getD i true).length
section
variable {P : Program} {md : Region.Mode} {ops : Array Oper} {Q : Exit → Act → World → Prop}
theorem bit_set (L : Array Bool) (i j : Nat) (d : Bool) (h : (L.setIfInBounds i true).getD j d = true) : j = i ∨ L.getD j d = true := by
  by_cases e : j = i
  · exact .inl e
  · right
    simpa [Array.getD_eq_getD_getElem?, Array.getElem?_setIfInBounds, Ne.symm e] using h
theorem bit_keep (L : Array Bool) (i j : Nat) (h : L.getD j true = true) : (L.setIfInBounds i true).getD j true = true := by
  by_cases e : i = j
  · subst e
    simp [Array.getD_eq_getD_getElem?, Array.getElem?_setIfInBounds]
    split <;> simp
  · simpa [Array.getD_eq_getD_getElem?, Array.getElem?_setIfInBounds, e] using h
theorem bit_same (L : Array Bool) (i : Nat) (h : i < L.size) : (L.setIfInBounds i true).getD i true = true := by
  simp [Array.getD_eq_getD_getElem?, h]
theorem ready_spec {L : Array Bool} {i : Nat} (h : i ∈ Region.ready md ops L) : i < ops.size ∧ L.getD i true = false ∧ ∀ o, ops[i]? = some o → (o.after.all fun e => !Region.binds md e || L.getD e.on false) = true := by
  unfold Region.ready at h
  rw [List.mem_filter, Bool.and_eq_true, List.mem_range] at h
  obtain ⟨h1, h2, h3⟩ := h
  refine ⟨h1, by simpa using h2, fun o ho => ?_⟩
  rw [ho] at h3
  simpa using h3
/-- What an operation that may come waits for is done. -/
theorem ready_after {L : Array Bool} {i : Nat} (h : i ∈ Region.ready md ops L) (o : Oper) (ho : ops[i]? = some o) (k : Nat) (e : Edge) (he : o.after[k]? = some e) (hb : Region.binds md e = true) : L.getD e.on false = true := by
  have ha := (ready_spec h).2.2 o ho
  rw [Array.all_eq_true] at ha
  obtain ⟨hk, hke⟩ := Array.getElem?_eq_some_iff.1 he
  have := ha k hk
  rw [hke, hb] at this
  simpa using this
theorem left_lt {L : Array Bool} {i : Nat} (hL : L.size = ops.size) (h : i ∈ Region.ready md ops L) : leftN ops.size (L.setIfInBounds i true) + 1 ≤ leftN ops.size L := by
  obtain ⟨h1, h2, _⟩ := ready_spec h
  refine filt_lt (i := i) (fun j hj => ?_) (by rw [h2]; rfl) (by rw [bit_same L i (by omega)]; rfl) _ (List.mem_range.2 h1)
  by_cases hk : L.getD j true = true
  · rw [bit_keep L i j hk] at hj; cases hj
  · simpa using hk
theorem ready_left {L : Array Bool} (h : leftN ops.size L = 0) : Region.ready md ops L = [] := by
  rcases hr : Region.ready md ops L with _ | ⟨i, r⟩
  · rfl
  · have hi : i ∈ Region.ready md ops L := by rw [hr]; exact List.mem_cons_self
    obtain ⟨h1, h2, _⟩ := ready_spec hi
    unfold leftN at h
    have hm : i ∈ (List.range ops.size).filter fun i => !L.getD i true := by rw [List.mem_filter]; exact ⟨List.mem_range.2 h1, by rw [h2]; rfl⟩
    rw [List.length_eq_zero_iff.1 h] at hm
    cases hm
/-- Where nothing is ready all are done. -/
theorem all_done {L : Array Bool} (hL : L.size = ops.size) (hord : ((List.range ops.size).all fun i => ((ops[i]?).map fun o => o.after.all fun e => decide (e.on < i)).getD true) = true) (h : Region.ready md ops L = []) : ∀ i, i < ops.size → L.getD i true = true := by
  intro i
  induction i using Nat.strongRecOn with
  | _ i ih =>
    intro hi
    rcases hb : L.getD i true with _ | _
    · exfalso
      have hm : i ∈ Region.ready md ops L := by
        unfold Region.ready
        rw [List.mem_filter, Bool.and_eq_true]
        refine ⟨List.mem_range.2 hi, by rw [hb]; rfl, ?_⟩
        rw [Array.getElem?_eq_getElem hi]
        simp only [Option.map_some, Option.getD_some]
        rw [Array.all_eq_true]
        intro k hk
        have ho := List.all_eq_true.1 hord i (List.mem_range.2 hi)
        rw [Array.getElem?_eq_getElem hi] at ho
        simp only [Option.map_some, Option.getD_some] at ho
        rw [Array.all_eq_true] at ho
        have hlt := of_decide_eq_true (ho k hk)
        have := ih _ hlt (by omega)
        have hin : ops[i].after[k].on < L.size := by omega
        have e : L.getD ops[i].after[k].on false = L.getD ops[i].after[k].on true := by simp [Array.getD, hin]
        rw [e, this]; simp
      rw [h] at hm
      cases hm
    · rfl
/-- The same, where edges that bind nobody here may lead ahead. -/
theorem all_done_b {L : Array Bool} (hL : L.size = ops.size) (hord : ((List.range ops.size).all fun i => ((ops[i]?).map fun o => o.after.all fun e => !Region.binds md e || decide (e.on < i)).getD true) = true) (h : Region.ready md ops L = []) : ∀ i, i < ops.size → L.getD i true = true := by
  intro i
  induction i using Nat.strongRecOn with
  | _ i ih =>
    intro hi
    rcases hb : L.getD i true with _ | _
    · exfalso
      have hm : i ∈ Region.ready md ops L := by
        unfold Region.ready
        rw [List.mem_filter, Bool.and_eq_true]
        refine ⟨List.mem_range.2 hi, by rw [hb]; rfl, ?_⟩
        rw [Array.getElem?_eq_getElem hi]
        simp only [Option.map_some, Option.getD_some]
        rw [Array.all_eq_true]
        intro k hk
        have ho := List.all_eq_true.1 hord i (List.mem_range.2 hi)
        rw [Array.getElem?_eq_getElem hi] at ho
        simp only [Option.map_some, Option.getD_some] at ho
        rw [Array.all_eq_true] at ho
        have hk2 := ho k hk
        rcases hbd : Region.binds md ops[i].after[k] with _ | _
        · simp
        · rw [hbd] at hk2
          have hlt := of_decide_eq_true (show decide (ops[i].after[k].on < i) = true by simpa using hk2)
          have := ih _ hlt (by omega)
          have hin : ops[i].after[k].on < L.size := by omega
          have e : L.getD ops[i].after[k].on false = L.getD ops[i].after[k].on true := by simp [Array.getD, hin]
          rw [e, this]; simp
      rw [h] at hm
      cases hm
    · rfl
/-- A drawn region by an invariant: each operation that may come keeps it, and where all have come it is what is asked. -/
theorem wpAny_inv (J : Array Bool → Act → World → Prop) (hsize : ∀ L a w, J L a w → L.size = ops.size)
    (step : ∀ L a w i, J L a w → i ∈ Region.ready md ops L → wpOp P ops Q i (J (L.setIfInBounds i true)) a w)
    (last : ∀ L a w, J L a w → Region.ready md ops L = [] → Q .normal a w) :
    ∀ (fuel : Nat) (L : Array Bool) (a : Act) (w : World), leftN ops.size L ≤ fuel → J L a w → wpAny P md ops Q fuel L a w
  | 0, L, a, w, hf, hj => by
    have hr : Region.ready md ops L = [] := ready_left (by omega)
    exact ⟨hr, last L a w hj hr⟩
  | fuel + 1, L, a, w, hf, hj => ⟨last L a w hj, fun i hi => wpOp_mono (fun a' w' hj' => wpAny_inv J hsize step last fuel _ a' w' (by have := left_lt (hsize L a w hj) hi; omega) hj') (step L a w i hj hi)⟩
end
theorem slot_same {X : Array Value} {t : Nat} {v d : Value} (h : t < X.size) : (X.setIfInBounds t v).getD t d = v := by
  simp [Array.getD_eq_getD_getElem?, h]
theorem slot_other {X : Array Value} {t u : Nat} {v d : Value} (h : t ≠ u) : (X.setIfInBounds t v).getD u d = X.getD u d := by
  simp [Array.getD_eq_getD_getElem?, h]
/-- What is known while a drawn region is under way: 'slot': where each operation writes; 'base': what lay ahead of the region; 'F': what each operation leaves in its slot. -/
structure Way (n N : Nat) (slot : List Nat) (base : List (Nat × Value)) (F : Nat → Value → World → Prop) (w0 : World) (L : Array Bool) (a : Act) (w : World) : Prop where
  size : L.size = n
  defers : a.defers = []
  tmps : a.tmps.size = N
  base : ∀ p, p ∈ base → a.tmps.getD p.1 undef = p.2
  ext : Ext w0 w
  facts : ∀ j t, slot[j]? = some t → L.getD j true = true → F j (a.tmps.getD t undef) w
section
variable {n N : Nat} {slot : List Nat} {base : List (Nat × Value)} {F : Nat → Value → World → Prop} {w0 w w' : World} {L : Array Bool} {a : Act}
theorem Way.put (h : Way n N slot base F w0 L a w) (hF : ∀ j v w w', Ext w w' → F j v w → F j v w') (hs : slot.Nodup) (hb : ∀ t, t ∈ slot → t < N ∧ ∀ p, p ∈ base → p.1 ≠ t)
    {i t : Nat} (ht : slot[i]? = some t) (v : Value) (hx : Ext w w') (hv : F i v w') : Way n N slot base F w0 (L.setIfInBounds i true) (a.put (some t) v) w' := by
  have htm := List.mem_of_getElem? ht
  refine ⟨by rw [Array.size_setIfInBounds]; exact h.size, h.defers, by simp only [Act.put]; rw [Array.size_setIfInBounds]; exact h.tmps, fun p hp => ?_, h.ext.trans hx, fun j u hu hj => ?_⟩
  · simp only [Act.put]
    rw [slot_other (Ne.symm ((hb t htm).2 p hp))]
    exact h.base p hp
  · simp only [Act.put]
    rcases bit_set L i j true hj with rfl | hj2
    · rw [ht] at hu
      cases hu
      rw [slot_same (by rw [h.tmps]; exact (hb t htm).1)]
      exact hv
    · by_cases e : j = i
      · subst e
        rw [ht] at hu
        cases hu
        rw [slot_same (by rw [h.tmps]; exact (hb t htm).1)]
        exact hv
      · have hne : t ≠ u := by
          rintro rfl
          obtain ⟨hj1, hj3⟩ := List.getElem?_eq_some_iff.1 hu
          obtain ⟨hi1, hi3⟩ := List.getElem?_eq_some_iff.1 ht
          have hp := List.pairwise_iff_getElem.1 hs
          rcases Nat.lt_or_gt_of_ne e with hlt | hgt
          · exact hp j i hj1 hi1 hlt (hj3.trans hi3.symm)
          · exact hp i j hi1 hj1 hgt (hi3.trans hj3.symm)
        rw [slot_other hne]
        exact hF _ _ _ _ hx (h.facts j u hu hj2)
end
end Go.Proofs.YtbekdcpdfmfopaaGreat
end

section
namespace Go.Proofs.YtbekdcpdfmfopaaGreat
open Go.RowKit

/-- n operations, the slots from s0 on, operation x by a law, operation n - 1 the store, operation y done ahead of x, z ahead of y; F: what each other one leaves in its slot; I: what is known of the world, by whether x and the store are done, and of what x left. -/
structure Wy (n N s0 x y z : Nat) (base : List (Nat × Value)) (F : Nat → Value → Prop) (I : Bool → Bool → Value → World → Prop) (L : Array Bool) (a : Act) (w : World) : Prop where
  size : L.size = n
  defers : a.defers = []
  tmps : a.tmps.size = N
  base : ∀ p, p ∈ base → a.tmps.getD p.1 undef = p.2
  facts : ∀ j, j < n - 1 → j ≠ x → L.getD j true = true → F j (a.tmps.getD (s0 + j) undef)
  first : L.getD x true = true → L.getD y true = true
  second : L.getD y true = true → L.getD z true = true
  inv : I (L.getD x true) (L.getD (n - 1) true) (a.tmps.getD (s0 + x) undef) w
section
variable {n N s0 x y z : Nat} {base : List (Nat × Value)} {F : Nat → Value → Prop} {I : Bool → Bool → Value → World → Prop} {L : Array Bool} {a : Act} {w w' : World}
theorem bit_other (L : Array Bool) {i j : Nat} (h : i ≠ j) : (L.setIfInBounds i true).getD j true = L.getD j true := by
  simp [Array.getD_eq_getD_getElem?, h]
theorem bit_of {L : Array Bool} {j : Nat} (h : L.getD j false = true) : L.getD j true = true := by
  by_cases hj : j < L.size
  · simpa [Array.getD, hj] using h
  · simp [Array.getD, hj] at h
/-- An operation that only reads. -/
theorem Wy.put (h : Wy n N s0 x y z base F I L a w) (hN : s0 + n ≤ N + 1) (hb : ∀ p, p ∈ base → p.1 < s0) (i t : Nat) (hi : i < n - 1) (hx : i ≠ x) (ht : t = s0 + i) (v : Value) (hv : F i v) (hz : i = y → z = i ∨ L.getD z true = true) : Wy n N s0 x y z base F I (L.setIfInBounds i true) (a.put (some t) v) w := by
  subst ht
  refine ⟨by rw [Array.size_setIfInBounds]; exact h.size, h.defers, by simp only [Act.put]; rw [Array.size_setIfInBounds]; exact h.tmps, fun p hp => ?_, fun j hj hjx hl => ?_, fun hl => ?_, fun hl => ?_, ?_⟩
  · simp only [Act.put]
    rw [slot_other (by have := hb p hp; omega)]
    exact h.base p hp
  · simp only [Act.put]
    by_cases e : j = i
    · subst e
      rw [slot_same (by rw [h.tmps]; omega)]
      exact hv
    · rw [slot_other (by omega)]
      rw [bit_other L (Ne.symm e)] at hl
      exact h.facts j hj hjx hl
  · rw [bit_other L hx] at hl
    exact bit_keep L i y (h.first hl)
  · by_cases e : i = y
    · rcases hz e with e2 | e2
      · subst e2
        exact bit_same L z (by rw [h.size]; omega)
      · exact bit_keep L i z e2
    · rw [bit_other L e] at hl
      exact bit_keep L i z (h.second hl)
  · simp only [Act.put]
    rw [bit_other L hx, bit_other L (by omega), slot_other (by omega)]
    exact h.inv
/-- The operation by a law. -/
theorem Wy.law (h : Wy n N s0 x y z base F I L a w) (hN : s0 + n ≤ N + 1) (hb : ∀ p, p ∈ base → p.1 < s0) (t : Nat) (hx : x < n - 1) (hxy : x ≠ y) (ht : t = s0 + x) (hy : L.getD y true = true) (v : Value) (hv : I true (L.getD (n - 1) true) v w') : Wy n N s0 x y z base F I (L.setIfInBounds x true) (a.put (some t) v) w' := by
  subst ht
  have hx2 : (L.setIfInBounds x true).getD x true = true := bit_same L x (by rw [h.size]; omega)
  refine ⟨by rw [Array.size_setIfInBounds]; exact h.size, h.defers, by simp only [Act.put]; rw [Array.size_setIfInBounds]; exact h.tmps, fun p hp => ?_, fun j hj hjx hl => ?_, fun hl => ?_, fun hl => ?_, ?_⟩
  · simp only [Act.put]
    rw [slot_other (by have := hb p hp; omega)]
    exact h.base p hp
  · simp only [Act.put]
    rw [slot_other (by omega)]
    rw [bit_other L (Ne.symm hjx)] at hl
    exact h.facts j hj hjx hl
  · rw [bit_other L hxy]
    exact hy
  · exact bit_keep L x z (h.second hy)
  · simp only [Act.put]
    rw [hx2, bit_other L (by omega), slot_same (by rw [h.tmps]; omega)]
    exact hv
/-- The store. -/
theorem Wy.store (h : Wy n N s0 x y z base F I L a w) (hx : x < n - 1) (hy : y < n - 1) (hv : I (L.getD x true) true (a.tmps.getD (s0 + x) undef) w') (v : Value) : Wy n N s0 x y z base F I (L.setIfInBounds (n - 1) true) (a.put none v) w' := by
  have e : a.put none v = a := rfl
  rw [e]
  refine ⟨by rw [Array.size_setIfInBounds]; exact h.size, h.defers, h.tmps, h.base, fun j hj hjx hl => ?_, fun hl => ?_, fun hl => ?_, ?_⟩
  · rw [bit_other L (by omega)] at hl
    exact h.facts j hj hjx hl
  · rw [bit_other L (by omega)] at hl
    rw [bit_other L (by omega)]
    exact h.first hl
  · rw [bit_other L (by omega)] at hl
    exact bit_keep L _ z (h.second hl)
  · rw [bit_other L (by omega), bit_same L (n - 1) (by rw [h.size]; omega)]
    exact hv
theorem Wy.at (h : Wy n N s0 x y z base F I L a w) (j t : Nat) (hj : j < n - 1) (hx : j ≠ x) (ht : t = s0 + j) (hl : L.getD j false = true) : F j (a.tmps[t]?.getD undef) := by
  subst ht
  have := h.facts j hj hx (bit_of hl)
  rwa [Array.getD_eq_getD_getElem?] at this
theorem Wy.ahead (h : Wy n N s0 x y z base F I L a w) (p : Nat × Value) (hp : p ∈ base) : a.tmps[p.1]?.getD undef = p.2 := by
  have := h.base p hp
  rwa [Array.getD_eq_getD_getElem?] at this
theorem Wy.start (ha : a.defers = []) (hN : a.tmps.size = N) (hb : ∀ p, p ∈ base → a.tmps.getD p.1 undef = p.2) (hx : x < n - 1) (hy : y < n - 1) (hI : ∀ v, I false false v w) : Wy n N s0 x y z base F I (Array.replicate n false) a w := by
  have hz : ∀ j, j < n → (Array.replicate n false).getD j true = false := fun j hj => by simp [Array.getD, hj]
  refine ⟨by simp, ha, hN, hb, fun j hj _ hl => ?_, fun hl => ?_, fun hl => ?_, ?_⟩
  · rw [hz j (by omega)] at hl; cases hl
  · rw [hz x (by omega)] at hl; cases hl
  · rw [hz y (by omega)] at hl; cases hl
  · rw [hz x (by omega), hz (n - 1) (by omega)]
    exact hI _
end
end Go.Proofs.YtbekdcpdfmfopaaGreat
end
