/- Plain: versions that rise, one more, one out. -/
import Derived.Test.YtkjcpjalldbahaaDoorM11
section
namespace Go.Proofs.YtkjcpjalldbahaaDoor
open Go.RowKit

theorem rise_snoc {L : List Ver} {m : Nat} (h : rise 0 L = some m) {s : Nat} {t : ByteArray} (hok : okV ⟨m + 1, s, t⟩ = true) : rise 0 (L ++ [⟨m + 1, s, t⟩]) = some (m + 1) := by
  rw [rise_app, h]
  show rise m [_] = _
  unfold rise
  rw [if_neg (by show ¬ m + 1 ≤ m; omega), hok]
  rfl
theorem rise_low : ∀ {L : List Ver} {a a' b : Nat}, a' ≤ a → L ≠ [] → rise a L = some b → rise a' L = some b
  | [], _, _, _, _, hne, _ => absurd rfl hne
  | v :: r, a, a', b, ha, _, h => by
    obtain ⟨h1, h2, h3⟩ := rise_step h
    unfold rise
    rw [if_neg (by omega), h2]
    exact h3
theorem rise_cut {L : List Ver} {b : Nat} (h : rise 0 L = some b) (h2 : 2 ≤ L.length) : rise 0 (L.drop 1) = some b := by
  cases L with
  | nil => simp at h2
  | cons v r =>
    obtain ⟨_, _, h3⟩ := rise_step h
    rw [List.drop_one, List.tail_cons]
    exact rise_low (Nat.zero_le _) (fun e => by subst e; simp at h2) h3
theorem rise_set : ∀ {L : List Ver} {k a : Nat} {v v' : Ver}, L[k]? = some v → v'.n = v.n → okV v = true → okV v' = true → rise a (L.set k v') = rise a L
  | [], _, _, _, _, h, _, _, _ => by simp at h
  | x :: r, 0, a, v, v', h, hn, h1, h2 => by
    simp at h
    subst h
    simp only [List.set_cons_zero, rise, hn, h1, h2]
  | x :: r, k + 1, a, v, v', h, hn, h1, h2 => by
    rw [List.getElem?_cons_succ] at h
    simp only [List.set_cons_succ, rise]
    rw [rise_set h hn h1 h2]
theorem may_grow {m : Nat} {L : List Ver} (h : mayL m L = true) (hm : m < 18446744073709551616) {an : Bool} {wt s : Nat} {t : ByteArray} (hok : okV ⟨m + 1, s, t⟩ = true) : mayL (growL m L an wt s t).last (growL m L an wt s t).L = true ∧ (growL m L an wt s t).last < 18446744073709551616 := by
  unfold growL
  split
  · exact ⟨h, hm⟩
  · split
    · exact ⟨h, hm⟩
    · obtain ⟨h8, hr⟩ := mayL_iff.1 h
      refine ⟨?_, by show m + 1 < _; omega⟩
      show mayL (m + 1) (cutL _) = true
      have hr2 := rise_snoc hr hok
      unfold cutL
      split
      · rename_i hl
        exact mayL_iff.2 ⟨by simp at hl ⊢; omega, rise_cut hr2 (by omega)⟩
      · rename_i hl
        exact mayL_iff.2 ⟨by omega, hr2⟩
theorem okV_live (m : Nat) {t : ByteArray} (h : ¬ 4096 < t.size) : okV ⟨m, 1, t⟩ = true := by
  simp [okV]; omega
end Go.Proofs.YtkjcpjalldbahaaDoor
end
