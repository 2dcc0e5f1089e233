/- Plain words of HMAC, and of keys out of a key, over rows of bytes: no function of the program is named here. -/
import Derived.Test.YtciiooeblknnoaaDoorSha
import Derived.Test.YtciiooeblknnoaaDoorXor
namespace Go.Proofs.YtciiooeblknnoaaDoor
open Go.RowKit

/-- A key; of one of more than 64 bytes its sum. -/
def keyL (k : List UInt8) : List UInt8 := if 64 < k.length then shaL k else k
def blockL (k : List UInt8) : List UInt8 := keyL k ++ List.replicate (64 - (keyL k).length) 0
def mixL (k : List UInt8) (c : UInt8) : List UInt8 := xorL (blockL k) (List.replicate 64 c)
/-- The tag of a text. -/
def macL (k m : List UInt8) : List UInt8 := shaL (mixL k 92 ++ shaL (mixL k 54 ++ m))
theorem keyL_le (k : List UInt8) : (keyL k).length ≤ 64 := by
  unfold keyL
  by_cases h : 64 < k.length
  · rw [if_pos h, shaL_length]; omega
  · rw [if_neg h]; omega
theorem blockL_length (k : List UInt8) : (blockL k).length = 64 := by
  have := keyL_le k
  unfold blockL
  rw [List.length_append, List.length_replicate]; omega
theorem mixL_length (k : List UInt8) (c : UInt8) : (mixL k c).length = 64 := by
  unfold mixL xorL
  rw [List.length_zipWith, blockL_length, List.length_replicate]; rfl
theorem macL_eq (k m : List UInt8) : macL k m = shaL (mixL k 92 ++ shaL (mixL k 54 ++ m)) := rfl
theorem macL_length (k m : List UInt8) : (macL k m).length = 32 := shaL_length _
/-- A key of more than 64 bytes is as good as its sum. -/
theorem macL_sum (k m : List UInt8) (h : 64 < k.length) : macL k m = macL (shaL k) m := by
  have e : blockL k = blockL (shaL k) := by
    have e2 : keyL k = keyL (shaL k) := by
      unfold keyL
      rw [if_pos h, if_neg (by rw [shaL_length]; omega)]
    unfold blockL
    rw [e2]
  unfold macL mixL
  rw [e]
/-- Bytes 0 behind a key of fewer make no difference. -/
theorem macL_zeros (k m : List UInt8) (n : Nat) (h : k.length + n ≤ 64) : macL k m = macL (k ++ List.replicate n 0) m := by
  have e : blockL k = blockL (k ++ List.replicate n 0) := by
    have e1 : keyL k = k := by unfold keyL; rw [if_neg (by omega)]
    have e2 : keyL (k ++ List.replicate n 0) = k ++ List.replicate n 0 := by unfold keyL; rw [if_neg (by simp; omega)]
    unfold blockL
    rw [e1, e2, List.append_assoc, List.replicate_append_replicate, List.length_append, List.length_replicate]
    congr 2
    omega
  unfold macL mixL
  rw [e]

/-- The tag of a label by number; nothing ahead of the first. -/
def tagL (k label : List UInt8) : Nat → List UInt8
  | 0 => []
  | i + 1 => macL k (tagL k label i ++ label ++ [UInt8.ofNat (i + 1)])
theorem tagL_succ (k label : List UInt8) (i : Nat) : tagL k label (i + 1) = macL k (tagL k label i ++ label ++ [UInt8.ofNat (i + 1)]) := rfl
theorem tagL_length (k label : List UInt8) (i : Nat) : (tagL k label (i + 1)).length = 32 := macL_length _ _
theorem tagL_le (k label : List UInt8) (i : Nat) : (tagL k label i).length ≤ 32 := by
  cases i with
  | zero => simp [tagL]
  | succ i => rw [tagL_length]; omega
/-- The first n tags, one behind the other. -/
def rowL (k label : List UInt8) : Nat → List UInt8
  | 0 => []
  | n + 1 => rowL k label n ++ tagL k label (n + 1)
theorem rowL_succ (k label : List UInt8) (n : Nat) : rowL k label (n + 1) = rowL k label n ++ tagL k label (n + 1) := rfl
theorem rowL_length (k label : List UInt8) : ∀ n, (rowL k label n).length = 32 * n
  | 0 => rfl
  | n + 1 => by rw [rowL_succ, List.length_append, rowL_length k label n, tagL_length]; omega
theorem rowL_take (k label : List UInt8) (m : Nat) : ∀ d, (rowL k label (m + d)).take (32 * m) = rowL k label m
  | 0 => by rw [List.take_of_length_le (by rw [rowL_length]; simp)]; rfl
  | d + 1 => by
    rw [← Nat.add_assoc, rowL_succ, List.take_append_of_le_length (by rw [rowL_length]; omega)]
    exact rowL_take k label m d
/-- What is derived: the first n bytes of all 255 tags. -/
def derL (k label : List UInt8) (n : Nat) : List UInt8 := (rowL k label 255).take n
theorem derL_length (k label : List UInt8) (n : Nat) (h : n ≤ 8160) : (derL k label n).length = n := by
  unfold derL
  rw [List.length_take, rowL_length]; omega
theorem derL_take (k label : List UInt8) (m n : Nat) (h : m ≤ n) : (derL k label n).take m = derL k label m := by
  unfold derL
  rw [List.take_take, Nat.min_eq_left h]
theorem derL_of (k label : List UInt8) (n m : Nat) (h : n ≤ 32 * m) (hm : m ≤ 255) : derL k label n = (rowL k label m).take n := by
  obtain ⟨d, hd⟩ : ∃ d, d + m = 255 := ⟨255 - m, by omega⟩
  have e := rowL_take k label m d
  unfold derL
  have e2 : (255 : Nat) = m + d := by omega
  rw [e2, ← e, List.take_take, Nat.min_eq_left h]
attribute [irreducible] macL
end Go.Proofs.YtciiooeblknnoaaDoor
