/- Plain: the first shares of a row, but for one; all of them, one of them last. -/
import Derived.Test.YtadincbeimfakaaShareT
import Derived.Test.YtadincbeimfakaaGather
namespace Go.Proofs.Ytadincbeimfakaa
open Go.RowKit

/-- The first j shares, but for that at k. -/
def part (S : List ByteArray) (k : Nat) : Nat → List (Nat × ByteArray)
  | 0 => []
  | j + 1 => match S[j]? with
    | some s => if j = k then part S k j else part S k j ++ [(j + 1, s)]
    | none => part S k j
theorem part_skip (S : List ByteArray) (k : Nat) : part S k (k + 1) = part S k k := by
  rw [part]
  split
  · rw [if_pos rfl]
  · rfl
theorem part_step (S : List ByteArray) (k j : Nat) (s : ByteArray) (h : S[j]? = some s) (hk : j ≠ k) : part S k (j + 1) = part S k j ++ [(j + 1, s)] := by
  rw [part, h]
  simp only
  rw [if_neg hk]
theorem part_mem (S : List ByteArray) (k : Nat) : ∀ j x, x ∈ part S k j → 1 ≤ x.1 ∧ x.1 ≤ j ∧ x.1 ≠ k + 1 ∧ S[x.1 - 1]? = some x.2
  | 0, x, h => by simp [part] at h
  | j + 1, x, h => by
    have ih := part_mem S k j x
    rw [part] at h
    split at h
    · rename_i s hs
      split at h
      · have := ih h; exact ⟨this.1, by omega, this.2.2⟩
      · rename_i hk
        rcases List.mem_append.1 h with h | h
        · have := ih h; exact ⟨this.1, by omega, this.2.2⟩
        · rw [List.mem_singleton] at h
          subst h
          exact ⟨by simp, Nat.le_refl _, by simp only; omega, by simpa using hs⟩
    · have := ih h; exact ⟨this.1, by omega, this.2.2⟩
theorem part_in (S : List ByteArray) (k i : Nat) (s : ByteArray) (hs : S[i]? = some s) (hi : i ≠ k) : ∀ j, i < j → (i + 1, s) ∈ part S k j
  | 0, h => by omega
  | j + 1, h => by
    by_cases e : i = j
    · subst e
      rw [part_step S k i s hs hi]
      simp
    · have ih := part_in S k i s hs hi j (by omega)
      rw [part]
      split
      · split
        · exact ih
        · exact List.mem_append_left _ ih
      · exact ih
theorem part_length_le (S : List ByteArray) (k : Nat) : ∀ j, (part S k j).length ≤ j
  | 0 => by simp [part]
  | j + 1 => by
    have ih := part_length_le S k j
    rw [part]
    split
    · split
      · omega
      · simp; omega
    · omega
theorem part_length (S : List ByteArray) (k : Nat) : ∀ j, k < j → (part S k j).length < j
  | 0, h => by omega
  | j + 1, h => by
    by_cases e : k = j
    · subst e
      rw [part_skip]
      have := part_length_le S k k
      omega
    · have ih := part_length S k j (by omega)
      rw [part]
      split
      · split
        · omega
        · simp; omega
      · omega
theorem part_length_eq (S : List ByteArray) (k : Nat) : ∀ j, j ≤ S.length → (part S k j).length = if k < j then j - 1 else j
  | 0, _ => by simp [part]
  | j + 1, h => by
    have ih := part_length_eq S k j (by omega)
    obtain ⟨s, hs⟩ : ∃ s, S[j]? = some s := ⟨_, List.getElem?_eq_getElem (by omega)⟩
    by_cases e : j = k
    · subst e
      rw [part_skip, ih]
      simp
    · rw [part_step S k j s hs e, List.length_append, ih]
      simp only [List.length_singleton]
      split <;> split <;> omega
theorem part_alike (S : List ByteArray) (k m : Nat) (hS : ∀ s ∈ S, s.size = m) (hm : 1 ≤ m) (hm2 : m ≤ 64) (hn : 1 ≤ S.length) (hn2 : S.length ≤ 16) : ∀ j, j ≤ S.length → Alike S.length m (part S k j)
  | 0, _ => Alike.nil hn hn2 hm hm2
  | j + 1, h => by
    have ih := part_alike S k m hS hm hm2 hn hn2 j (by omega)
    obtain ⟨s, hs⟩ : ∃ s, S[j]? = some s := ⟨_, List.getElem?_eq_getElem (by omega)⟩
    by_cases e : j = k
    · subst e
      rw [part_skip]
      exact ih
    · rw [part_step S k j s hs e]
      exact ih.snoc (by omega) (by omega) (hS s (List.mem_of_getElem? hs)) (fun x hx => by have := part_mem S k j x hx; omega)
/-- All of them, that at k last. -/
theorem full_in (S : List ByteArray) (k : Nat) (t : ByteArray) (j : Nat) (s : ByteArray) (h : (S.set k t)[j]? = some s) (hk : k < S.length) : (j + 1, s) ∈ part S k S.length ++ [(k + 1, t)] := by
  have hj : j < S.length := by
    have := (List.getElem?_eq_some_iff.1 h).1
    simpa using this
  by_cases e : j = k
  · subst e
    rw [List.getElem?_set_self hj] at h
    simp at h
    subst h
    simp
  · rw [List.getElem?_set_ne (Ne.symm e)] at h
    exact List.mem_append_left _ (part_in S k j s h e S.length hj)
theorem full_length (S : List ByteArray) (k : Nat) (t : ByteArray) (hk : k < S.length) : (part S k S.length ++ [(k + 1, t)]).length = S.length := by
  rw [List.length_append, part_length_eq S k _ (Nat.le_refl _), if_pos hk]
  simp only [List.length_singleton]
  omega
theorem textsOf_one (o : ByteArray) (n : Nat) : textsOf [o] n = [⟨(fullN o n).toArray⟩] := rfl
theorem shareT_head (i n : Nat) (s t : ByteArray) : (shareT i n s).extract 0 2 ++ t = shareT i n t := by
  apply ByteArray.ext
  rw [ByteArray.data_append]
  simp [shareT]
theorem shareT_upto (i n : Nat) (s : ByteArray) : (shareT i n s).extract 0 2 = ⟨#[UInt8.ofNat i, UInt8.ofNat n]⟩ := by
  apply ByteArray.ext
  simp [shareT]
end Go.Proofs.Ytadincbeimfakaa
