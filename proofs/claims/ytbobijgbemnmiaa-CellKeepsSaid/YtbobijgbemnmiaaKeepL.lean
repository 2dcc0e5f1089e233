/- Plain: a secret's story: what ever came, and what a cell has of it. -/
import Derived.Test.YtbobijgbemnmiaaCellAct
namespace Go.Proofs.Ytbobijgbemnmiaa
open Go.RowKit

/-- A story's versions, from a number on: of each its state, and the text that was put. -/
def stF : Nat → List (Nat × ByteArray) → List Ver
  | _, [] => []
  | i, x :: r => ⟨i + 1, x.1, if x.1 = 1 then x.2 else ⟨#[]⟩⟩ :: stF (i + 1) r
theorem stF_length : ∀ (P : List (Nat × ByteArray)) (i : Nat), (stF i P).length = P.length
  | [], _ => rfl
  | _ :: r, i => by simp [stF, stF_length r (i + 1)]
theorem stF_get : ∀ (P : List (Nat × ByteArray)) (i k : Nat) (x : Nat × ByteArray), P[k]? = some x → (stF i P)[k]? = some ⟨i + k + 1, x.1, if x.1 = 1 then x.2 else ⟨#[]⟩⟩
  | [], _, _, _, h => by simp at h
  | y :: r, i, 0, x, h => by
    simp at h; subst h
    rfl
  | y :: r, i, k + 1, x, h => by
    have := stF_get r (i + 1) k x (by simpa using h)
    simp only [stF, List.getElem?_cons_succ, this]
    rw [show i + 1 + k + 1 = i + (k + 1) + 1 by omega]
theorem stF_app : ∀ (P Q : List (Nat × ByteArray)) (i : Nat), stF i (P ++ Q) = stF i P ++ stF (i + P.length) Q
  | [], Q, i => by simp [stF]
  | y :: r, Q, i => by
    simp only [List.cons_append, stF, stF_app r Q (i + 1), List.length_cons]
    rw [show i + 1 + r.length = i + (r.length + 1) by omega]
theorem stF_set : ∀ (P : List (Nat × ByteArray)) (i k : Nat) (x : Nat × ByteArray), stF i (P.set k x) = (stF i P).set k ⟨i + k + 1, x.1, if x.1 = 1 then x.2 else ⟨#[]⟩⟩
  | [], _, _, _ => rfl
  | y :: r, i, 0, x => rfl
  | y :: r, i, k + 1, x => by
    simp only [List.set_cons_succ, stF, stF_set r (i + 1) k x]
    rw [show i + 1 + k + 1 = i + (k + 1) + 1 by omega]
/-- A cell has the last eight of a story. -/
structure Story (m : Nat) (L : List Ver) (P : List (Nat × ByteArray)) : Prop where
  last : m = P.length
  vers : L = (stF 0 P).drop (P.length - 8)
theorem Story.nil : Story 0 [] [] := ⟨rfl, rfl⟩
section
variable {m : Nat} {L : List Ver} {P : List (Nat × ByteArray)}
theorem Story.at_ (h : Story m L P) (i : Nat) : L[i]? = (stF 0 P)[P.length - 8 + i]? := by
  rw [h.vers, List.getElem?_drop]
theorem Story.num (h : Story m L P) {i : Nat} {v : Ver} (hv : L[i]? = some v) : v.n = P.length - 8 + i + 1 := by
  rw [h.at_] at hv
  have hl : P.length - 8 + i < P.length := by have := (List.getElem?_eq_some_iff.1 hv).1; rwa [stF_length] at this
  obtain ⟨x, hx⟩ : ∃ x, P[P.length - 8 + i]? = some x := ⟨_, List.getElem?_eq_getElem hl⟩
  rw [stF_get P 0 _ x hx] at hv
  cases hv
  show 0 + (P.length - 8 + i) + 1 = _
  omega
theorem Story.has (h : Story m L P) {k : Nat} {x : Nat × ByteArray} (hx : P[k]? = some x) (h8 : P.length ≤ k + 8) : L[k - (P.length - 8)]? = some ⟨k + 1, x.1, if x.1 = 1 then x.2 else ⟨#[]⟩⟩ := by
  have hl : k < P.length := (List.getElem?_eq_some_iff.1 hx).1
  rw [h.at_, show P.length - 8 + (k - (P.length - 8)) = k by omega, stF_get P 0 k x hx, Nat.zero_add]
theorem Story.pos (h : Story m L P) {k : Nat} {x : Nat × ByteArray} (hx : P[k]? = some x) (h8 : P.length ≤ k + 8) : posL (k + 1) L = some (k - (P.length - 8)) :=
  posL_some (h.has hx h8) rfl fun j y hj hy => by
    have := h.num hy
    omega
theorem Story.none (h : Story m L P) {N : Nat} (hN : N = 0 ∨ P.length < N ∨ N + 7 < P.length) : posL N L = none :=
  posL_none fun j y hy => by
    have h1 := h.num hy
    have h2 : j < L.length := (List.getElem?_eq_some_iff.1 hy).1
    rw [h.vers, List.length_drop, stF_length] at h2
    omega
theorem Story.find (h : Story m L P) (hm : mayL m L = true) {k : Nat} {x : Nat × ByteArray} (hx : P[k]? = some x) (h8 : P.length ≤ k + 8) : findL m L (k + 1) = if x.1 = 1 then (0, k - (P.length - 8)) else (171, 0) :=
  findL_at hm (h.pos hx h8) (h.has hx h8)
theorem Story.out (h : Story m L P) (hm : mayL m L = true) {N : Nat} (hN : N = 0 ∨ P.length < N ∨ N + 7 < P.length) : findL m L N = (3, 0) := findL_none hm (h.none hN)
/-- What is read. -/
theorem Story.live (h : Story m L P) (hm : mayL m L = true) {k : Nat} {t : ByteArray} (hx : P[k]? = some (1, t)) (h8 : P.length ≤ k + 8) : readL m L (k + 1) = (0, ⟨k + 1, 1, t⟩) :=
  readL_ok (mm := k + 1) (by rw [if_neg (by omega)]) (by rw [h.find hm hx h8]; rfl) (h.has hx h8)
theorem Story.dead (h : Story m L P) (hm : mayL m L = true) {k s : Nat} {t : ByteArray} (hx : P[k]? = some (s, t)) (hs : s ≠ 1) (h8 : P.length ≤ k + 8) : readL m L (k + 1) = (171, ⟨0, 0, ⟨#[]⟩⟩) :=
  readL_err (mm := k + 1) (by rw [if_neg (by omega)]) (by rw [h.find hm hx h8, if_neg hs]) (by decide)
theorem Story.gone (h : Story m L P) (hm : mayL m L = true) {k : Nat} (h8 : k + 8 < P.length) : readL m L (k + 1) = (3, ⟨0, 0, ⟨#[]⟩⟩) :=
  readL_err (mm := k + 1) (by rw [if_neg (by omega)]) (h.out hm (by omega)) (by decide)
/-- A version more. -/
theorem Story.add (h : Story m L P) (s : Nat) (t : ByteArray) (hst : s = 1 ∨ t = ⟨#[]⟩) : Story (m + 1) (cutL (L ++ [⟨m + 1, s, t⟩])) (P ++ [(s, t)]) := by
  have hv : stF 0 (P ++ [(s, t)]) = stF 0 P ++ [⟨m + 1, s, t⟩] := by
    rw [stF_app]
    simp only [stF, Nat.zero_add, h.last]
    congr 2
    rcases hst with rfl | rfl
    · rfl
    · congr 1
      split <;> rfl
  refine ⟨by rw [h.last, List.length_append]; rfl, ?_⟩
  rw [hv, List.length_append]
  have hl : L.length = P.length - (P.length - 8) := by rw [h.vers, List.length_drop, stF_length]
  unfold cutL
  by_cases h8 : P.length < 8
  · rw [if_neg (by simp; omega), h.vers, show P.length - 8 = 0 by omega, show P.length + [(s, t)].length - 8 = 0 by simp <;> omega]
    rfl
  · rw [if_pos (by simp; omega), h.vers, List.drop_append_of_le_length (by rw [List.length_drop, stF_length]; omega), List.drop_drop, List.drop_append_of_le_length (by rw [stF_length]; simp <;> omega)]
    congr 2
    simp; omega
/-- A version dead. -/
theorem Story.die (h : Story m L P) {k : Nat} {t : ByteArray} (_hx : P[k]? = some (1, t)) (h8 : P.length ≤ k + 8) : Story m (L.set (k - (P.length - 8)) ⟨k + 1, 3, ⟨#[]⟩⟩) (P.set k (3, t)) := by
  refine ⟨by rw [List.length_set]; exact h.last, ?_⟩
  rw [stF_set, List.length_set, List.drop_set, if_neg (by omega), ← h.vers, Nat.zero_add]
  rfl
end
/-- What a put answers. -/
theorem put_fine {m wt : Nat} {L : List Ver} {an : Bool} {t : ByteArray} (h : mayL m L = true) (hm : m < 18446744073709551615) (hf : (an = true ∨ wt = nowL L) ∧ t.size ≤ 4096) : putL m L an wt t = ⟨0, m + 1, cutL (L ++ [⟨m + 1, 1, t⟩])⟩ := by
  rw [putL_go h (by omega)]
  unfold growL
  rw [if_neg (by rintro ⟨h1, h2⟩; rcases hf.1 with h3 | h3 <;> simp_all), if_neg (by omega)]
theorem put_not {m wt : Nat} {L : List Ver} {an : Bool} {t : ByteArray} (h : mayL m L = true) (hf : ¬ ((an = true ∨ wt = nowL L) ∧ t.size ≤ 4096)) : ∃ e, e ≠ 0 ∧ putL m L an wt t = ⟨e, m, L⟩ := by
  by_cases hl : 4096 < t.size
  · exact ⟨5, by decide, putL_long h hl⟩
  · refine ⟨170, by decide, ?_⟩
    rw [putL_go h hl]
    unfold growL
    rw [if_pos]
    constructor
    · cases an
      · rfl
      · exact absurd ⟨.inl rfl, by omega⟩ hf
    · exact fun e => hf ⟨.inr e, by omega⟩
theorem del_fine {m wt : Nat} {L : List Ver} {an : Bool} (h : mayL m L = true) (hm : m < 18446744073709551615) (hf : (an = true ∨ wt = nowL L) ∧ nowL L ≠ 0) : delL m L an wt = ⟨0, m + 1, cutL (L ++ [⟨m + 1, 2, ⟨#[]⟩⟩])⟩ := by
  rw [delL_go h hf.2]
  unfold growL
  rw [if_neg (by rintro ⟨h1, h2⟩; rcases hf.1 with h3 | h3 <;> simp_all), if_neg (by omega)]
theorem del_not {m wt : Nat} {L : List Ver} {an : Bool} (h : mayL m L = true) (hf : ¬ ((an = true ∨ wt = nowL L) ∧ nowL L ≠ 0)) : ∃ e, e ≠ 0 ∧ delL m L an wt = ⟨e, m, L⟩ := by
  by_cases hn : nowL L = 0
  · exact ⟨3, by decide, delL_none h hn⟩
  · refine ⟨170, by decide, ?_⟩
    rw [delL_go h hn]
    unfold growL
    rw [if_pos]
    constructor
    · cases an
      · rfl
      · exact absurd ⟨.inl rfl, hn⟩ hf
    · exact fun e => hf ⟨.inr e, hn⟩
end Go.Proofs.Ytbobijgbemnmiaa
