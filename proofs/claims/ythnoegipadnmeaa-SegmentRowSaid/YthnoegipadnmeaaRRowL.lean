/- Plain: the least place that waits and was not taken, sought from behind. No function of the program is named here. -/
import Derived.Test.YthnoegipadnmeaaSegBase
namespace Go.Proofs.Ythnoegipadnmeaa

/-- The least place from j on that waits for a number, where some were taken. -/
def leastF (L : List Seg) (gen : Nat) (T : List Nat) (num j : Nat) : Option Nat := ((List.range' j (L.length - j)).filter fun i => isW L gen num i && !T.contains i).head?
theorem leastF_end (L : List Seg) (gen : Nat) (T : List Nat) (num : Nat) : leastF L gen T num L.length = none := by
  unfold leastF
  rw [Nat.sub_self]
  rfl
theorem leastF_step (L : List Seg) (gen : Nat) (T : List Nat) (num j : Nat) (hj : j < L.length) : leastF L gen T num j = if (isW L gen num j && !T.contains j) = true then some j else leastF L gen T num (j + 1) := by
  unfold leastF
  have e : L.length - j = (L.length - (j + 1)) + 1 := by omega
  rw [e, List.range'_succ, List.filter_cons]
  split
  · rfl
  · rfl
theorem leastF_all (L : List Seg) (gen : Nat) (T : List Nat) (num : Nat) : leastF L gen T num 0 = (waitF L gen T num).head? := by
  unfold leastF waitF
  rw [Nat.sub_zero, List.range_eq_range']
theorem leastF_lt {L : List Seg} {gen : Nat} {T : List Nat} {num j i : Nat} (h : leastF L gen T num j = some i) : j ≤ i ∧ i < L.length ∧ isW L gen num i = true ∧ i ∉ T := by
  unfold leastF at h
  have hm := List.mem_of_head? h
  rw [List.mem_filter, List.mem_range'_1] at hm
  obtain ⟨⟨h1, h2⟩, h3⟩ := hm
  rw [Bool.and_eq_true] at h3
  exact ⟨h1, by omega, h3.1, by simpa using h3.2⟩
theorem isW_some {L : List Seg} {gen num i : Nat} {x : Seg} (h : L[i]? = some x) : isW L gen num i = (x.k == 0 && x.g == gen && x.f == num) := by
  unfold isW
  rw [h]
theorem waitF_head {L : List Seg} {gen : Nat} {T : List Nat} {num : Nat} : (waitF L gen T num).head? = none → waitF L gen T num = [] := by
  intro h
  cases hw : waitF L gen T num with
  | nil => rfl
  | cons a r => rw [hw] at h; cases h
theorem waitF_head' {L : List Seg} {gen : Nat} {T : List Nat} {num i : Nat} (h : (waitF L gen T num).head? = some i) : ∃ r, waitF L gen T num = i :: r := by
  cases hw : waitF L gen T num with
  | nil => rw [hw] at h; cases h
  | cons a r => rw [hw] at h; cases h; exact ⟨r, rfl⟩
end Go.Proofs.Ythnoegipadnmeaa
