/- Plain: what an act makes of a cell that may be, may be. -/
import Derived.Test.YtbobijgbemnmiaaDoes17
import Derived.Test.YtbobijgbemnmiaaCellP
namespace Go.Proofs.Ytbobijgbemnmiaa
open Go.RowKit

theorem rise_snoc {L : List Ver} {m : Nat} (h : rise 0 L = some m) {s : Nat} {t : ByteArray} (hok : okV ⟨m + 1, s, t⟩ = true) : rise 0 (L ++ [⟨m + 1, s, t⟩]) = some (m + 1) := by
  rw [rise_app, h]
  show rise m [_] = _
  unfold rise
  rw [if_neg (by show ¬ m + 1 ≤ m; omega), hok]
  rfl
theorem rise_low : ∀ {L : List Ver} {a a' b : Nat}, a' ≤ a → L ≠ [] → rise a L = some b → rise a' L = some b
  | [], _, _, _, _, hne, _ => absurd rfl hne
  | v :: r, a, a', b, ha, _, h => by
    obtain ⟨h1, h2, h3⟩ := rise_step h
    unfold rise
    rw [if_neg (by omega), h2]
    exact h3
theorem rise_cut {L : List Ver} {b : Nat} (h : rise 0 L = some b) (h2 : 2 ≤ L.length) : rise 0 (L.drop 1) = some b := by
  cases L with
  | nil => simp at h2
  | cons v r =>
    obtain ⟨_, _, h3⟩ := rise_step h
    rw [List.drop_one, List.tail_cons]
    exact rise_low (Nat.zero_le _) (fun e => by subst e; simp at h2) h3
theorem rise_set : ∀ {L : List Ver} {k a : Nat} {v v' : Ver}, L[k]? = some v → v'.n = v.n → okV v = true → okV v' = true → rise a (L.set k v') = rise a L
  | [], _, _, _, _, h, _, _, _ => by simp at h
  | x :: r, 0, a, v, v', h, hn, h1, h2 => by
    simp at h
    subst h
    simp only [List.set_cons_zero, rise, hn, h1, h2]
  | x :: r, k + 1, a, v, v', h, hn, h1, h2 => by
    rw [List.getElem?_cons_succ] at h
    simp only [List.set_cons_succ, rise]
    rw [rise_set h hn h1 h2]
theorem may_grow {m : Nat} {L : List Ver} (h : mayL m L = true) (hm : m < 18446744073709551616) {an : Bool} {wt s : Nat} {t : ByteArray} (hok : okV ⟨m + 1, s, t⟩ = true) : mayL (growL m L an wt s t).last (growL m L an wt s t).L = true ∧ (growL m L an wt s t).last < 18446744073709551616 := by
  unfold growL
  split
  · exact ⟨h, hm⟩
  · split
    · exact ⟨h, hm⟩
    · obtain ⟨h8, hr⟩ := mayL_iff.1 h
      refine ⟨?_, by show m + 1 < _; omega⟩
      show mayL (m + 1) (cutL _) = true
      have hr2 := rise_snoc hr hok
      unfold cutL
      split
      · rename_i hl
        exact mayL_iff.2 ⟨by simp at hl ⊢; omega, rise_cut hr2 (by omega)⟩
      · rename_i hl
        exact mayL_iff.2 ⟨by omega, hr2⟩
theorem okV_live (m : Nat) {t : ByteArray} (h : ¬ 4096 < t.size) : okV ⟨m, 1, t⟩ = true := by
  simp [okV]; omega
/-- Behind an act a cell may be. -/
theorem may_act {m : Nat} {L : List Ver} (h : mayL m L = true) (hm : m < 18446744073709551616) (dv : Nat) (an : Bool) (wt xn : Nat) (tx : ByteArray) : mayL (actL m L dv an wt xn tx).last (actL m L dv an wt xn tx).L = true ∧ (actL m L dv an wt xn tx).last < 18446744073709551616 := by
  unfold actL
  split
  · by_cases hl : 4096 < tx.size
    · rw [putL_long h hl]; exact ⟨h, hm⟩
    · rw [putL_go h hl]; exact may_grow h hm (okV_live _ hl)
  · split
    · by_cases hn : nowL L = 0
      · rw [delL_none h hn]; exact ⟨h, hm⟩
      · rw [delL_go h hn]; exact may_grow h hm rfl
    · unfold desL
      dsimp only
      cases hf : findL m L xn with
      | mk e k =>
        dsimp only
        split
        · rename_i he
          subst he
          obtain ⟨v, hv, hn, hs, _⟩ := findL_ok hf
          obtain ⟨h8, hr⟩ := mayL_iff.1 h
          refine ⟨mayL_iff.2 ⟨by rw [List.length_set]; exact h8, ?_⟩, hm⟩
          have hokv := (rise_mem hr v (List.mem_of_getElem? hv)).2.2
          show rise 0 (L.set k _) = some m
          rw [rise_set hv hn.symm hokv rfl]
          exact hr
        · exact ⟨h, hm⟩
theorem may_empty : mayL 0 [] = true := rfl
end Go.Proofs.Ytbobijgbemnmiaa
