/- Plain: what edits make of rows, at once or one behind the other; what loads and drops make. -/
import Derived.Test.YtkjcpjalldbahaaGreatDoorM08
section
namespace Go.Proofs.YtkjcpjalldbahaaGreatDoor
open Go.RowKit

theorem grow_ne {m : Nat} {L : List Ver} {an : Bool} {wt s : Nat} {t : ByteArray} (h : (growL m L an wt s t).e = 0) : (growL m L an wt s t).L ≠ [] := by
  revert h
  unfold growL
  split
  · intro h; simp at h
  · split
    · intro h; simp at h
    · intro _ e
      have hl := congrArg List.length e
      dsimp only at hl
      unfold cutL at hl
      split at hl
      · rename_i h8
        rw [List.length_drop, List.length_nil] at hl
        omega
      · simp at hl
theorem out_may {m : Nat} {L : List Ver} (h : mayL m L = true) (hm : m < 18446744073709551616) (e : EditP) : mayL (outR m L e).last (outR m L e).L = true ∧ (outR m L e).last < 18446744073709551616 ∧ ((outR m L e).e = 0 → mayB e.p.data.toList = true ∧ (outR m L e).L ≠ []) := by
  unfold outR
  split
  · rename_i hp
    split
    · unfold putL
      rw [if_pos h]
      split
      · exact ⟨h, hm, fun q => by simp at q⟩
      · rename_i hl
        obtain ⟨h1, h2⟩ := may_grow (an := e.any) (wt := e.want) h hm (okV_live (m + 1) hl)
        exact ⟨h1, h2, fun q => ⟨hp, grow_ne q⟩⟩
    · split
      · unfold delL
        rw [if_pos h]
        split
        · exact ⟨h, hm, fun q => by simp at q⟩
        · obtain ⟨h1, h2⟩ := may_grow (s := 2) (t := ⟨#[]⟩) (an := e.any) (wt := e.want) h hm rfl
          exact ⟨h1, h2, fun q => ⟨hp, grow_ne q⟩⟩
      · split
        · unfold desL
          dsimp only
          cases hf : findL m L e.n with
          | mk er k =>
            dsimp only
            split
            · rename_i he
              subst he
              obtain ⟨v, hv, hn, hs, _⟩ := findL_ok hf
              obtain ⟨h8, hr⟩ := mayL_iff.1 h
              refine ⟨mayL_iff.2 ⟨by rw [List.length_set]; exact h8, ?_⟩, hm, fun _ => ⟨hp, fun q => ?_⟩⟩
              · have hokv := (rise_mem hr v (List.mem_of_getElem? hv)).2.2
                show rise 0 (L.set k _) = some m
                rw [rise_set hv hn.symm hokv rfl]
                exact hr
              · have hl := congrArg List.length q
                rw [List.length_set] at hl
                have := (List.getElem?_eq_some_iff.1 hv).1
                simp at hl
                simp [hl] at this
            · rename_i he
              exact ⟨h, hm, fun q => absurd q he⟩
        · exact ⟨rfl, by show 0 < _; decide, fun q => by simp at q⟩
  · exact ⟨rfl, by show 0 < _; decide, fun q => by simp at q⟩
theorem edit_good {D : List RowP} (h : GoodR D) (e : EditP) : GoodR (editR D e).2 := by
  obtain ⟨h1, h2⟩ := GoodR.cell h.each e.p
  obtain ⟨q1, q2, q3⟩ := out_may h1 h2 e
  unfold editR
  dsimp only
  split
  · rename_i he
    exact h.with_ ⟨(q3 he).1, q1, (q3 he).2, q2⟩
  · exact h
theorem edit_len {D : List RowP} (h : GoodR D) (e : EditP) : (editR D e).2.length ≤ D.length + 1 := by
  unfold editR
  dsimp only
  split
  · exact len_with_le h.up _
  · omega
theorem edit_fine {D : List RowP} {e : EditP} (h : (editR D e).1.e = 0) : (editR D e).2 = withR ⟨e.p, (editR D e).1.last, (editR D e).1.L⟩ D := by
  unfold editR at h ⊢
  dsimp only at h ⊢
  rw [if_pos h]
theorem runE_nil (i : Nat) (D : List RowP) (v : List Nat) : runE i D v [] = ⟨0, i, D, v⟩ := rfl
theorem runE_go {i : Nat} {D : List RowP} {v : List Nat} {e : EditP} {l : List EditP} (h : (editR D e).1.e = 0) : runE i D v (e :: l) = runE (i + 1) (editR D e).2 (v ++ [(editR D e).1.last]) l := by
  rw [runE, if_pos h]
theorem runE_stop {i : Nat} {D : List RowP} {v : List Nat} {e : EditP} {l : List EditP} (h : (editR D e).1.e ≠ 0) : runE i D v (e :: l) = ⟨(editR D e).1.e, i, D, v⟩ := by
  rw [runE, if_neg h]
theorem runE_good : ∀ (l : List EditP) (i : Nat) {D : List RowP} (v : List Nat), GoodR D → GoodR (runE i D v l).D ∧ (runE i D v l).D.length ≤ D.length + l.length ∧ (runE i D v l).v.length ≤ v.length + l.length
  | [], i, D, v, h => ⟨h, Nat.le_refl _, Nat.le_refl _⟩
  | e :: l, i, D, v, h => by
    by_cases he : (editR D e).1.e = 0
    · rw [runE_go he]
      obtain ⟨h1, h2, h3⟩ := runE_good l (i + 1) (v ++ [(editR D e).1.last]) (edit_good h e)
      have := edit_len h e
      refine ⟨h1, ?_, ?_⟩
      · simp only [List.length_cons]; omega
      · simp only [List.length_cons, List.length_append, List.length_nil] at h3 ⊢; omega
    · rw [runE_stop he]
      exact ⟨h, by simp, by simp⟩

/-- D is R under X. -/
def Ov (R X D : List RowP) : Prop := ∀ x, x ∈ D ↔ x ∈ X ∨ (x ∈ R ∧ ∀ y ∈ X, y.p ≠ x.p)
theorem Ov.start (R : List RowP) : Ov R [] R := fun x => by simp
theorem Ov.with_ {R X D : List RowP} (h : Ov R X D) (hX : RisesR X) (hD : RisesR D) (r : RowP) : Ov R (withR r X) (withR r D) := fun x => by
  rw [withR_mem hD, withR_mem hX, h x]
  constructor
  · rintro (rfl | ⟨q1 | ⟨q1, q2⟩, q3⟩)
    · exact .inl (.inl rfl)
    · exact .inl (.inr ⟨q1, q3⟩)
    · refine .inr ⟨q1, fun y hy => ?_⟩
      rcases (withR_mem hX).1 hy with rfl | ⟨hy, _⟩
      · exact fun e => q3 e.symm
      · exact q2 y hy
  · rintro ((rfl | ⟨q1, q2⟩) | ⟨q1, q2⟩)
    · exact .inl rfl
    · exact .inr ⟨.inl q1, q2⟩
    · have hr := q2 r ((withR_mem hX).2 (.inl rfl))
      refine .inr ⟨.inr ⟨q1, fun y hy => ?_⟩, fun e => hr e.symm⟩
      by_cases e : y.p = r.p
      · rw [e]; exact hr
      · exact q2 y ((withR_mem hX).2 (.inr ⟨hy, e⟩))
theorem Ov.cell {R X D : List RowP} (h : Ov R X D) (hD : RisesR D) (p : ByteArray) : lookR D p = if hasR X p then lookR X p else lookR R p := by
  unfold hasR
  cases e : lookR X p with
  | some r =>
    obtain ⟨h1, h2⟩ := lookR_mem e
    have := lookR_of hD ((h r).2 (.inl h1))
    rw [h2] at this
    simpa using this
  | none =>
    have hn := lookR_none.1 e
    simp only [Option.isSome_none, Bool.false_eq_true, if_false]
    cases e2 : lookR R p with
    | some r =>
      obtain ⟨h1, h2⟩ := lookR_mem e2
      have := lookR_of hD ((h r).2 (.inr ⟨h1, fun y hy => by rw [h2]; exact hn y hy⟩))
      rw [h2] at this
      exact this
    | none =>
      refine lookR_none.2 fun x hx => ?_
      rcases (h x).1 hx with q | ⟨q, _⟩
      · exact hn x q
      · exact lookR_none.1 e2 x q
/-- Rows with others, one behind the other. -/
def layR (R l : List RowP) : List RowP := l.foldl (fun T r => withR r T) R
theorem layR_snoc (R l : List RowP) (r : RowP) : layR R (l ++ [r]) = withR r (layR R l) := by simp [layR]
theorem layR_cons (R : List RowP) (r : RowP) (l : List RowP) : layR R (r :: l) = layR (withR r R) l := rfl
theorem layR_rises : ∀ (l : List RowP) {R : List RowP}, RisesR R → RisesR (layR R l)
  | [], _, h => h
  | r :: l, _, h => by rw [layR_cons]; exact layR_rises l (withR_rises h)
theorem layR_good : ∀ (l : List RowP) {R : List RowP}, GoodR R → (∀ r ∈ l, OkR r) → GoodR (layR R l)
  | [], _, h, _ => h
  | r :: l, _, h, k => by rw [layR_cons]; exact layR_good l (h.with_ (k r (by simp))) fun x hx => k x (by simp [hx])
theorem layR_len : ∀ (l : List RowP) {R : List RowP}, RisesR R → (layR R l).length ≤ R.length + l.length
  | [], _, _ => Nat.le_refl _
  | r :: l, R, h => by
    have h1 := layR_len l (withR_rises (r := r) h)
    have h2 := len_with_le h r
    rw [layR_cons, List.length_cons]
    omega
theorem layR_mem : ∀ (l : List RowP) {R : List RowP}, RisesR R → (l.map (·.p)).Nodup → ∀ x, x ∈ layR R l ↔ x ∈ l ∨ (x ∈ R ∧ ∀ y ∈ l, y.p ≠ x.p)
  | [], _, _, _, x => by simp [layR]
  | r :: l, R, h, hn, x => by
    obtain ⟨n1, n2⟩ := List.nodup_cons.1 hn
    have hr : ∀ y ∈ l, y.p ≠ r.p := fun y hy e => n1 (List.mem_map.2 ⟨y, hy, e⟩)
    rw [layR_cons, layR_mem l (withR_rises h) n2 x, withR_mem h, List.mem_cons]
    constructor
    · rintro (q | ⟨rfl | ⟨q1, q2⟩, q3⟩)
      · exact .inl (.inr q)
      · exact .inl (.inl rfl)
      · refine .inr ⟨q1, fun y hy => ?_⟩
        rcases List.mem_cons.1 hy with rfl | hy
        · exact fun e => q2 e.symm
        · exact q3 y hy
    · rintro ((rfl | q) | ⟨q1, q2⟩)
      · exact .inr ⟨.inl rfl, hr⟩
      · exact .inl q
      · exact .inr ⟨.inr ⟨q1, fun e => q2 r (by simp) e.symm⟩, fun y hy => q2 y (by simp [hy])⟩
/-- All of X, in whatever order, laid over R, is D. -/
theorem layR_ov {R X D l : List RowP} (h : Ov R X D) (hR : RisesR R) (hD : RisesR D) (hn : (l.map (·.p)).Nodup) (hl : ∀ x, x ∈ l ↔ x ∈ X) : layR R l = D := by
  refine rows_ext (layR_rises l hR) hD fun x => ?_
  rw [layR_mem l hR hn x, h x, hl x]
  constructor
  · rintro (q | ⟨q1, q2⟩)
    · exact .inl q
    · exact .inr ⟨q1, fun y hy => q2 y ((hl y).2 hy)⟩
  · rintro (q | ⟨q1, q2⟩)
    · exact .inl q
    · exact .inr ⟨q1, fun y hy => q2 y ((hl y).1 hy)⟩
theorem layR_look {R l : List RowP} (h : RisesR R) (hn : (l.map (·.p)).Nodup) {p : ByteArray} (hp : ∀ y ∈ l, y.p ≠ p) : lookR (layR R l) p = lookR R p := by
  cases e : lookR R p with
  | none =>
    refine lookR_none.2 fun x hx => ?_
    rcases (layR_mem l h hn x).1 hx with q | ⟨q, _⟩
    · exact hp x q
    · exact lookR_none.1 e x q
  | some r =>
    obtain ⟨h1, h2⟩ := lookR_mem e
    rw [← h2]
    exact lookR_of (layR_rises l h) ((layR_mem l h hn r).2 (.inr ⟨h1, fun y hy => by rw [h2]; exact hp y hy⟩))
theorem hasR_iff {R : List RowP} {p : ByteArray} : hasR R p = true ↔ ∃ r ∈ R, r.p = p := by
  unfold hasR
  cases e : lookR R p with
  | none => simpa using lookR_none.1 e
  | some r => simpa using ⟨r, lookR_mem e⟩
/-- Whether a table may have a row. -/
def okR (r : RowP) : Bool := mayB r.p.data.toList && mayL r.m r.L && decide (0 < r.L.length)
theorem okR_iff {r : RowP} (hn : r.m < 18446744073709551616) : okR r = true ↔ OkR r := by
  unfold okR
  simp only [Bool.and_eq_true, decide_eq_true_eq]
  constructor
  · rintro ⟨⟨h1, h2⟩, h3⟩
    exact ⟨h1, h2, fun e => by rw [e] at h3; simp at h3, hn⟩
  · intro h
    refine ⟨⟨h.path, h.cell⟩, ?_⟩
    cases e : r.L with
    | nil => exact absurd e h.some_
    | cons => simp
/-- Whether a path is there already, or stands there twice: of rows behind those that were seen. -/
def dupR (R seen : List RowP) : List RowP → Bool
  | [] => false
  | r :: l => if hasR R r.p || hasR seen r.p then true else dupR R (seen ++ [r]) l
def loadR (R l : List RowP) : Nat × List RowP := if l.all okR then if dupR R [] l then (8, R) else (0, layR R l) else (2, R)
theorem dupR_no : ∀ (l : List RowP) {R seen : List RowP}, dupR R seen l = false → (seen.map (·.p)).Nodup → ((seen ++ l).map (·.p)).Nodup ∧ ∀ r ∈ l, hasR R r.p = false
  | [], R, seen, _, hn => by simpa using hn
  | r :: l, R, seen, h, hn => by
    unfold dupR at h
    cases h1 : hasR R r.p with
    | true => rw [h1] at h; simp at h
    | false =>
      cases h2 : hasR seen r.p with
      | true => rw [h1, h2] at h; simp at h
      | false =>
        rw [h1, h2] at h
        simp only [Bool.or_self, Bool.false_eq_true, if_false] at h
        have hn2 : ((seen ++ [r]).map (·.p)).Nodup := by
          rw [List.map_append, List.nodup_append]
          refine ⟨hn, by simp, fun a ha b hb e => ?_⟩
          obtain ⟨x, hx, rfl⟩ := List.mem_map.1 ha
          simp at hb
          subst hb
          have : hasR seen r.p = true := hasR_iff.2 ⟨x, hx, e⟩
          rw [h2] at this
          cases this
        obtain ⟨q1, q2⟩ := dupR_no l h hn2
        refine ⟨by simpa using q1, fun x hx => ?_⟩
        rcases List.mem_cons.1 hx with rfl | hx
        · exact h1
        · exact q2 x hx
def dropsR (R : List RowP) (ps : List ByteArray) : List RowP := ps.foldl (fun T p => dropR p T) R
theorem dropsR_snoc (R : List RowP) (ps : List ByteArray) (p : ByteArray) : dropsR R (ps ++ [p]) = dropR p (dropsR R ps) := by simp [dropsR]
theorem dropsR_good : ∀ (ps : List ByteArray) {R : List RowP}, GoodR R → GoodR (dropsR R ps)
  | [], _, h => h
  | p :: ps, _, h => dropsR_good ps (h.drop p)
theorem dropsR_len : ∀ (ps : List ByteArray) (R : List RowP), (dropsR R ps).length ≤ R.length
  | [], _ => Nat.le_refl _
  | p :: ps, R => Nat.le_trans (dropsR_len ps (dropR p R)) (len_drop_le p R)
/-- The paths that are live. -/
def liveR (R : List RowP) : List ByteArray := (R.filter fun r => decide (nowL r.L ≠ 0)).map (·.p)
/-- The names under a prefix hang on which paths there are alone. -/
theorem names_same (p : List UInt8) {a b : List (List UInt8)} (h : ∀ x, x ∈ a ↔ x ∈ b) : namesL p a = namesL p b := by
  refine rises_ext _ _ (names_rises p a) (names_rises p b) fun x => ?_
  rw [names_mem, names_mem]
  constructor
  · rintro ⟨s, hs, q⟩; exact ⟨s, (h s).1 hs, q⟩
  · rintro ⟨s, hs, q⟩; exact ⟨s, (h s).2 hs, q⟩
end Go.Proofs.YtkjcpjalldbahaaGreatDoor
end
