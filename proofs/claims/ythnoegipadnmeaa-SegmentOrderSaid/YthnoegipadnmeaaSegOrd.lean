/- Plain: a log is found again, in whatever order its segments stand, with others of elder generations among them. No function of the program is named here. -/
import Derived.Test.YthnoegipadnmeaaSegBase
namespace Go.Proofs.Ythnoegipadnmeaa

/-- The number of the first record of a piece. -/
def nP (first : Nat) (P : List (List ByteArray)) (i : Nat) : Nat := first + ((P.take i).map List.length).sum
def pieceS (g first : Nat) (P : List (List ByteArray)) (i : Nat) : Seg := ⟨if i = 0 then 1 else 0, g, nP first P i, ⟨#[]⟩, P.getD i [], 0, true⟩
def elderS (g : Nat) (x : Seg) : Seg := ⟨x.k, x.g % g, x.f, x.t, x.r, x.u, x.w⟩
def pieceL (g first : Nat) (P : List (List ByteArray)) (n : Nat) : List (Seg × Int) := (List.range n).map fun i => (pieceS g first P i, (i : Int))
def elderL (g : Nat) (E : List Seg) : List (Seg × Int) := E.map fun x => (elderS g x, -1)
def fullL (g first : Nat) (P : List (List ByteArray)) (E : List Seg) : List (Seg × Int) := pieceL g first P P.length ++ elderL g E
section
variable {g first : Nat} {P : List (List ByteArray)} {E : List Seg}
theorem nP_zero : nP first P 0 = first := by simp [nP]
theorem nP_succ {i : Nat} {l : List ByteArray} (h : P[i]? = some l) : nP first P (i + 1) = nP first P i + l.length := by
  unfold nP
  rw [List.take_add_one, h]
  simp
  omega
theorem nP_le {i : Nat} : nP first P i ≤ nP first P (i + 1) := by
  cases h : P[i]? with
  | some l => rw [nP_succ h]; omega
  | none =>
    have hi : P.length ≤ i := by rw [List.getElem?_eq_none_iff] at h; exact h
    unfold nP
    rw [List.take_of_length_le hi, List.take_of_length_le (by omega)]
    omega
theorem nP_mono {i j : Nat} (h : i ≤ j) : nP first P i ≤ nP first P j := by
  induction j with
  | zero => have : i = 0 := by omega
            subst this; omega
  | succ j ih =>
    rcases Nat.lt_or_ge i (j + 1) with hlt | hge
    · have := ih (by omega)
      have := nP_le (first := first) (P := P) (i := j)
      omega
    · have : i = j + 1 := by omega
      subst this; omega
theorem nP_lt (hne : ∀ i l, i + 1 < P.length → P[i]? = some l → l ≠ []) {i j : Nat} (hi : i + 1 < P.length) (h : i < j) : nP first P i < nP first P j := by
  have h1 := nP_succ (first := first) (List.getElem?_eq_getElem (show i < P.length by omega))
  have h2 := List.length_pos_iff.2 (hne i _ hi (List.getElem?_eq_getElem (show i < P.length by omega)))
  have h3 := nP_mono (first := first) (P := P) (show i + 1 ≤ j by omega)
  omega
theorem filter_one {n a : Nat} {p : Nat → Bool} (ha : a < n) (h : ∀ q, q < n → (p q = true ↔ q = a)) : (List.range n).filter p = [a] := by
  induction n with
  | zero => omega
  | succ n ih =>
    rw [List.range_succ, List.filter_append]
    by_cases hn : a = n
    · subst hn
      have h1 : (List.range a).filter p = [] := by
        rw [List.filter_eq_nil_iff]
        intro q hq
        have hq2 := List.mem_range.1 hq
        intro hp
        have := (h q (by omega)).1 hp
        omega
      have h2 : p a = true := (h a (by omega)).2 rfl
      rw [h1]
      simp [h2]
    · rw [ih (by omega) (fun q hq => h q (by omega))]
      have h2 : p n = false := by
        cases hp : p n with
        | false => rfl
        | true => exact absurd ((h n (by omega)).1 hp).symm hn
      simp [h2]
theorem newF_great {L : List Seg} {a : Nat} {x : Seg} (hx : L[a]? = some x) (hk : x.k = 1) (h : ∀ b y, L[b]? = some y → b ≠ a → y.k = 1 → y.g < x.g) : newF L L.length = some (a, x.g) := by
  have ha : a < L.length := (List.getElem?_eq_some_iff.1 hx).1
  have key : ∀ j, j ≤ L.length → (j ≤ a → (newF L j = none ∨ ∃ b c, newF L j = some (b, c) ∧ c < x.g)) ∧ (a < j → newF L j = some (a, x.g)) := by
    intro j
    induction j with
    | zero => intro _; exact ⟨fun _ => .inl rfl, fun h => by omega⟩
    | succ j ih =>
      intro hj
      obtain ⟨i1, i2⟩ := ih (by omega)
      obtain ⟨y, hy⟩ : ∃ y, L[j]? = some y := ⟨_, List.getElem?_eq_getElem (by omega)⟩
      rw [newF_succ L j y hy]
      refine ⟨fun hja => ?_, fun hja => ?_⟩
      · have hyl : y.k = 1 → y.g < x.g := h j y hy (by omega)
        rcases i1 (by omega) with e | ⟨b, c, e, hc⟩
        · rw [e]
          simp only [newStep]
          split
          · rename_i hk1; exact .inr ⟨j, y.g, rfl, hyl hk1⟩
          · exact .inl rfl
        · rw [e]
          simp only [newStep]
          split
          · rename_i hk1; exact .inr ⟨j, y.g, rfl, hyl hk1.1⟩
          · exact .inr ⟨b, c, rfl, hc⟩
      · by_cases hja2 : a = j
        · subst hja2
          rw [hx] at hy
          cases hy
          rcases i1 (by omega) with e | ⟨b, c, e, hc⟩
          · rw [e]; simp [newStep, hk]
          · rw [e]; simp [newStep, hk, hc]
        · rw [i2 (by omega)]
          simp only [newStep]
          rw [if_neg]
          intro hh
          have := h j y hy (fun e => hja2 e.symm) hh.1
          omega
  exact (key L.length (Nat.le_refl _)).2 ha
theorem fullL_mem {e : Seg × Int} (h : e ∈ fullL g first P E) : (∃ i, i < P.length ∧ e = (pieceS g first P i, (i : Int))) ∨ (∃ x, x ∈ E ∧ e = (elderS g x, -1)) := by
  unfold fullL pieceL elderL at h
  rcases List.mem_append.1 h with h | h
  · obtain ⟨i, hi, rfl⟩ := List.mem_map.1 h
    exact .inl ⟨i, List.mem_range.1 hi, rfl⟩
  · obtain ⟨x, hx, rfl⟩ := List.mem_map.1 h
    exact .inr ⟨x, hx, rfl⟩
theorem fullL_apart : (fullL g first P E).Pairwise (fun a b => (0 ≤ a.2 ∨ 0 ≤ b.2) → a.2 ≠ b.2) := by
  unfold fullL pieceL elderL
  rw [List.pairwise_append]
  refine ⟨?_, ?_, ?_⟩
  · rw [List.pairwise_map]
    refine List.Pairwise.imp ?_ List.pairwise_lt_range
    intro a b hab _
    show (a : Int) ≠ (b : Int)
    omega
  · rw [List.pairwise_map]
    refine List.pairwise_of_forall ?_
    intro a b h
    exfalso
    rcases h with h | h <;> simp at h
  · intro a ha b hb _
    obtain ⟨i, _, rfl⟩ := List.mem_map.1 ha
    obtain ⟨x, _, rfl⟩ := List.mem_map.1 hb
    show (i : Int) ≠ -1
    omega
/-- The log is found again. -/
theorem order_row (Y : List (Seg × Int)) (hY : Y.Perm (fullL g first P E)) (hm : 0 < P.length) (hne : ∀ i l, i + 1 < P.length → P[i]? = some l → l ≠ []) (hg : 0 < g) (hn : nP first P P.length < 18446744073709551616) :
    ∃ R : List Nat, rowS (Y.map (·.1)) = (R, 0) ∧ R.length = P.length ∧ ∀ (i r : Nat), R[i]? = some r → (Y.map (·.2))[r]? = some (i : Int) := by
  have hmem : ∀ (q : Nat) (e : Seg × Int), Y[q]? = some e → (∃ i, i < P.length ∧ e = (pieceS g first P i, (i : Int))) ∨ (∃ x, x ∈ E ∧ e = (elderS g x, -1)) := fun q e h => fullL_mem (hY.mem_iff.1 (List.mem_of_getElem? h))
  have hap : Y.Pairwise (fun a b => (0 ≤ a.2 ∨ 0 ≤ b.2) → a.2 ≠ b.2) := (List.Perm.pairwise_iff (fun {a b} h hh => (h hh.symm).symm) hY).2 fullL_apart
  have huniq : ∀ (p q : Nat) (e f : Seg × Int), Y[p]? = some e → Y[q]? = some f → e.2 = f.2 → 0 ≤ e.2 → p = q := by
    intro p q e f hp hq hef h0
    obtain ⟨hp1, hp2⟩ := List.getElem?_eq_some_iff.1 hp
    obtain ⟨hq1, hq2⟩ := List.getElem?_eq_some_iff.1 hq
    rcases Nat.lt_trichotomy p q with h | h | h
    · have := List.pairwise_iff_getElem.1 hap p q hp1 hq1 h
      rw [hp2, hq2] at this
      exact absurd hef (this (.inl h0))
    · exact h
    · have := List.pairwise_iff_getElem.1 hap q p hq1 hp1 h
      rw [hp2, hq2] at this
      exact absurd hef.symm (this (.inr h0))
  have hpos : ∀ i : Nat, ∃ q : Nat, i < P.length → Y[q]? = some (pieceS g first P i, (i : Int)) := by
    intro i
    by_cases hi : i < P.length
    · have : (pieceS g first P i, (i : Int)) ∈ Y := hY.mem_iff.2 (by
        unfold fullL pieceL
        exact List.mem_append_left _ (List.mem_map.2 ⟨i, List.mem_range.2 hi, rfl⟩))
      obtain ⟨q, hq⟩ := List.getElem?_of_mem this
      exact ⟨q, fun _ => hq⟩
    · exact ⟨0, fun h => absurd h hi⟩
  obtain ⟨pos, hpos⟩ : ∃ pos : Nat → Nat, ∀ i, i < P.length → Y[pos i]? = some (pieceS g first P i, (i : Int)) := ⟨fun i => Classical.choose (hpos i), fun i => Classical.choose_spec (hpos i)⟩
  obtain ⟨L, hL⟩ : ∃ L, L = Y.map (·.1) := ⟨_, rfl⟩
  have hat : ∀ (q : Nat) (x : Seg), L[q]? = some x → ∃ e : Seg × Int, Y[q]? = some e ∧ e.1 = x := by
    intro q x h
    rw [hL, List.getElem?_map] at h
    cases hq : Y[q]? with
    | none => rw [hq] at h; cases h
    | some e => rw [hq] at h; cases h; exact ⟨e, rfl, rfl⟩
  have hLp : ∀ i : Nat, i < P.length → L[pos i]? = some (pieceS g first P i) := fun i hi => by rw [hL, List.getElem?_map, hpos i hi]; rfl
  have hposU : ∀ (q i : Nat) (x : Seg), i < P.length → Y[q]? = some (x, (i : Int)) → q = pos i := fun q i x hi h => huniq q (pos i) _ _ h (hpos i hi) rfl (by show (0 : Int) ≤ (i : Int); omega)
  have hinj : ∀ i j : Nat, i < P.length → j < P.length → pos i = pos j → i = j := fun i j hi hj e => by
    have h1 := hpos i hi
    rw [e, hpos j hj] at h1
    have := Option.some.inj h1
    have h2 : ((j : Int)) = (i : Int) := congrArg Prod.snd this
    omega
  have hnew : newF L L.length = some (pos 0, g) := by
    refine newF_great (hLp 0 hm) rfl ?_
    intro b y hb hb0 hk
    obtain ⟨e, he, rfl⟩ := hat b y hb
    rcases hmem b e he with ⟨i, hi, rfl⟩ | ⟨x, hx, rfl⟩
    · exfalso
      by_cases hi0 : i = 0
      · subst hi0; exact hb0 (hposU b 0 _ hm he)
      · have hk2 : (if i = 0 then 1 else 0 : Nat) = 1 := hk
        rw [if_neg hi0] at hk2
        cases hk2
    · exact Nat.mod_lt _ hg
  have hwt : ∀ (i : Nat) (T : List Nat), i < P.length → (∀ j, pos j ∈ T → j < P.length → j ≤ i) → (0 < i → pos i ∈ T) →
      waitF L g T (nextS (pieceS g first P i)) = if i + 1 < P.length then [pos (i + 1)] else [] := by
    intro i T hi hT1 hT2
    have hnx : nextS (pieceS g first P i) = nP first P (i + 1) := by
      have hl : P[i]? = some (P.getD i []) := by rw [List.getD_eq_getElem?_getD, List.getElem?_eq_getElem hi]; rfl
      have h1 := nP_succ (first := first) hl
      have h2 := nP_mono (first := first) (P := P) (show i + 1 ≤ P.length by omega)
      show (nP first P i + (P.getD i []).length) % 18446744073709551616 = _
      rw [← h1]
      exact Nat.mod_eq_of_lt (by omega)
    rw [hnx]
    have hW : ∀ q, isW L g (nP first P (i + 1)) q = true → ∃ j, 0 < j ∧ j < P.length ∧ q = pos j ∧ nP first P j = nP first P (i + 1) := by
      intro q h
      unfold isW at h
      cases hq : L[q]? with
      | none => rw [hq] at h; cases h
      | some x =>
        rw [hq] at h
        simp only [Bool.and_eq_true, beq_iff_eq] at h
        obtain ⟨⟨h1, h2⟩, h3⟩ := h
        obtain ⟨e, he, rfl⟩ := hat q x hq
        rcases hmem q e he with ⟨j, hj, rfl⟩ | ⟨x, hx, rfl⟩
        · have hj0 : j ≠ 0 := fun e => by
            subst e
            have h4 : (1 : Nat) = 0 := h1
            cases h4
          exact ⟨j, by omega, hj, hposU q j _ hj he, h3⟩
        · have : x.g % g < g := Nat.mod_lt _ hg
          have h5 : x.g % g = g := h2
          omega
    by_cases hi1 : i + 1 < P.length
    · rw [if_pos hi1]
      refine filter_one ?_ ?_
      · exact (List.getElem?_eq_some_iff.1 (hLp (i + 1) hi1)).1
      · intro q hq
        rw [Bool.and_eq_true]
        constructor
        · rintro ⟨h1, _⟩
          obtain ⟨j, hj0, hj, rfl, h2⟩ := hW q h1
          rcases Nat.lt_trichotomy j (i + 1) with h | h | h
          · have := nP_lt (first := first) hne (show j + 1 < P.length by omega) h
            omega
          · rw [h]
          · have := nP_lt (first := first) hne (show i + 1 + 1 < P.length by omega) h
            omega
        · rintro rfl
          refine ⟨?_, ?_⟩
          · unfold isW
            rw [hLp (i + 1) hi1]
            simp [pieceS]
          · have : pos (i + 1) ∉ T := fun h => by
              have := hT1 (i + 1) h hi1
              omega
            simp [this]
    · rw [if_neg hi1]
      unfold waitF
      rw [List.filter_eq_nil_iff]
      intro q hq
      rw [Bool.and_eq_true]
      rintro ⟨h1, h3⟩
      obtain ⟨j, hj0, hj, rfl, h2⟩ := hW q h1
      rcases Nat.lt_trichotomy j i with h | h | h
      · have := nP_lt (first := first) hne (show j + 1 < P.length by omega) (show j < i + 1 by omega)
        omega
      · subst h
        have := hT2 hj0
        simp [this] at h3
      · omega
  have hrow : ∀ (d i : Nat) (T : List Nat), i + d + 1 = P.length → (∀ j, pos j ∈ T → j < P.length → j ≤ i) → (0 < i → pos i ∈ T) → ∀ f, d < f → rowG L g f (pos i) T = (List.range' (i + 1) d).map pos := by
    intro d
    induction d with
    | zero =>
      intro i T hi hT1 hT2 f hf
      obtain ⟨f, rfl⟩ : ∃ k, f = k + 1 := ⟨f - 1, by omega⟩
      have := hwt i T (by omega) hT1 hT2
      rw [if_neg (by omega)] at this
      rw [rowG_end (hLp i (by omega)) rfl this]
      rfl
    | succ d ih =>
      intro i T hi hT1 hT2 f hf
      obtain ⟨f, rfl⟩ : ∃ k, f = k + 1 := ⟨f - 1, by omega⟩
      have := hwt i T (by omega) hT1 hT2
      rw [if_pos (by omega)] at this
      rw [rowG_more (hLp i (by omega)) rfl this]
      rw [ih (i + 1) (pos (i + 1) :: T) (by omega) ?_ (fun _ => by simp) f (by omega)]
      · rw [List.range'_succ]
        rfl
      · intro j hj hjl
        rcases List.mem_cons.1 hj with h | h
        · have := hinj j (i + 1) hjl (by omega) h
          omega
        · have := hT1 j h hjl
          omega
  have hlen : P.length ≤ L.length := by
    have h1 := hY.length_eq
    unfold fullL pieceL elderL at h1
    simp at h1
    rw [hL]
    simp
    omega
  refine ⟨(List.range P.length).map pos, ?_, by simp, ?_⟩
  · rw [← hL]
    unfold rowS
    rw [hnew]
    show (pos 0 :: rowG L g (L.length + 1) (pos 0) [], 0) = _
    rw [hrow (P.length - 1) 0 [] (by omega) (fun j h => by simp at h) (fun h => by omega) _ (by omega)]
    congr 1
    rw [List.range_eq_range', show P.length = (P.length - 1) + 1 by omega, List.range'_succ]
    simp
  · intro i r h
    rw [List.getElem?_map] at h
    by_cases hi : i < P.length
    · rw [List.getElem?_range hi] at h
      cases h
      rw [List.getElem?_map, hpos i hi]
      rfl
    · rw [List.getElem?_eq_none (by simp; omega)] at h
      cases h
end
end Go.Proofs.Ythnoegipadnmeaa
