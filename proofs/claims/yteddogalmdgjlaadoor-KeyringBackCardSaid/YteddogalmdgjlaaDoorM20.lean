/- Plain words of HMAC, and of keys out of a key, over rows of bytes: no function of the program is named here. Contracts: numbers of 32 bits written as bytes, by the program. Contracts: numbers written as bytes, by the program and by the document's answer. -/
import Derived.Test.YteddogalmdgjlaaDoorSha
import Derived.Test.YteddogalmdgjlaaDoorM19
import Derived.Test.YteddogalmdgjlaaDoorProg
import Derived.Test.YteddogalmdgjlaaDoorM08
import Derived.WalkSpells
section
namespace Go.Proofs.YteddogalmdgjlaaDoor
open Go.RowKit

/-- A key; of one of more than 64 bytes its sum. -/
def keyL (k : List UInt8) : List UInt8 := if 64 < k.length then shaL k else k
def blockL (k : List UInt8) : List UInt8 := keyL k ++ List.replicate (64 - (keyL k).length) 0
def mixL (k : List UInt8) (c : UInt8) : List UInt8 := xorL (blockL k) (List.replicate 64 c)
/-- The tag of a text. -/
def macL (k m : List UInt8) : List UInt8 := shaL (mixL k 92 ++ shaL (mixL k 54 ++ m))
theorem keyL_le (k : List UInt8) : (keyL k).length ≤ 64 := by
  unfold keyL
  by_cases h : 64 < k.length
  · rw [if_pos h, shaL_length]; omega
  · rw [if_neg h]; omega
theorem blockL_length (k : List UInt8) : (blockL k).length = 64 := by
  have := keyL_le k
  unfold blockL
  rw [List.length_append, List.length_replicate]; omega
theorem mixL_length (k : List UInt8) (c : UInt8) : (mixL k c).length = 64 := by
  unfold mixL xorL
  rw [List.length_zipWith, blockL_length, List.length_replicate]; rfl
theorem macL_eq (k m : List UInt8) : macL k m = shaL (mixL k 92 ++ shaL (mixL k 54 ++ m)) := rfl
theorem macL_length (k m : List UInt8) : (macL k m).length = 32 := shaL_length _
/-- A key of more than 64 bytes is as good as its sum. -/
theorem macL_sum (k m : List UInt8) (h : 64 < k.length) : macL k m = macL (shaL k) m := by
  have e : blockL k = blockL (shaL k) := by
    have e2 : keyL k = keyL (shaL k) := by
      unfold keyL
      rw [if_pos h, if_neg (by rw [shaL_length]; omega)]
    unfold blockL
    rw [e2]
  unfold macL mixL
  rw [e]
/-- Bytes 0 behind a key of fewer make no difference. -/
theorem macL_zeros (k m : List UInt8) (n : Nat) (h : k.length + n ≤ 64) : macL k m = macL (k ++ List.replicate n 0) m := by
  have e : blockL k = blockL (k ++ List.replicate n 0) := by
    have e1 : keyL k = k := by unfold keyL; rw [if_neg (by omega)]
    have e2 : keyL (k ++ List.replicate n 0) = k ++ List.replicate n 0 := by unfold keyL; rw [if_neg (by simp; omega)]
    unfold blockL
    rw [e1, e2, List.append_assoc, List.replicate_append_replicate, List.length_append, List.length_replicate]
    congr 2
    omega
  unfold macL mixL
  rw [e]

/-- The tag of a label by number; nothing ahead of the first. -/
def tagL (k label : List UInt8) : Nat → List UInt8
  | 0 => []
  | i + 1 => macL k (tagL k label i ++ label ++ [UInt8.ofNat (i + 1)])
theorem tagL_succ (k label : List UInt8) (i : Nat) : tagL k label (i + 1) = macL k (tagL k label i ++ label ++ [UInt8.ofNat (i + 1)]) := rfl
theorem tagL_length (k label : List UInt8) (i : Nat) : (tagL k label (i + 1)).length = 32 := macL_length _ _
theorem tagL_le (k label : List UInt8) (i : Nat) : (tagL k label i).length ≤ 32 := by
  cases i with
  | zero => simp [tagL]
  | succ i => rw [tagL_length]; omega
/-- The first n tags, one behind the other. -/
def rowL (k label : List UInt8) : Nat → List UInt8
  | 0 => []
  | n + 1 => rowL k label n ++ tagL k label (n + 1)
theorem rowL_succ (k label : List UInt8) (n : Nat) : rowL k label (n + 1) = rowL k label n ++ tagL k label (n + 1) := rfl
theorem rowL_length (k label : List UInt8) : ∀ n, (rowL k label n).length = 32 * n
  | 0 => rfl
  | n + 1 => by rw [rowL_succ, List.length_append, rowL_length k label n, tagL_length]; omega
theorem rowL_take (k label : List UInt8) (m : Nat) : ∀ d, (rowL k label (m + d)).take (32 * m) = rowL k label m
  | 0 => by rw [List.take_of_length_le (by rw [rowL_length]; simp)]; rfl
  | d + 1 => by
    rw [← Nat.add_assoc, rowL_succ, List.take_append_of_le_length (by rw [rowL_length]; omega)]
    exact rowL_take k label m d
/-- What is derived: the first n bytes of all 255 tags. -/
def derL (k label : List UInt8) (n : Nat) : List UInt8 := (rowL k label 255).take n
theorem derL_length (k label : List UInt8) (n : Nat) (h : n ≤ 8160) : (derL k label n).length = n := by
  unfold derL
  rw [List.length_take, rowL_length]; omega
theorem derL_take (k label : List UInt8) (m n : Nat) (h : m ≤ n) : (derL k label n).take m = derL k label m := by
  unfold derL
  rw [List.take_take, Nat.min_eq_left h]
theorem derL_of (k label : List UInt8) (n m : Nat) (h : n ≤ 32 * m) (hm : m ≤ 255) : derL k label n = (rowL k label m).take n := by
  obtain ⟨d, hd⟩ : ∃ d, d + m = 255 := ⟨255 - m, by omega⟩
  have e := rowL_take k label m d
  unfold derL
  have e2 : (255 : Nat) = m + d := by omega
  rw [e2, ← e, List.take_take, Nat.min_eq_left h]
attribute [irreducible] macL
end Go.Proofs.YteddogalmdgjlaaDoor
end

section
namespace Go.Proofs.YteddogalmdgjlaaDoor
open Go.RowKit

theorem put32_any (n : Nat) (k : Nat) (hk : k ≤ 4) (w : World) :
    Calls Tryd.prog 43 #[.int .u32 (n : Int), .int .i64 (k : Int)] w fun e w' => e = .returned (.string ⟨(be k n).toArray⟩) ∧ Ext w w' := by
  have hmk := make_bytes k (by omega)
  go_enter Tryd.func43, Tryd.ntmps43
  go_wp2
  go_loopw [10] (fun i wr => ∃ j : Nat, j ≤ k ∧ i = .int .i64 j ∧ Row wr w.heap.size 5 (List.replicate (k - j) 0 ++ be j n) ∧ Ext w wr) (fun i _ => k - (intOf i).toNat)
  case atStart => exact ⟨0, Nat.zero_le _, rfl, by simpa [be] using Row.made w 5 k, (Ext.refl w).alloc _⟩
  case round =>
    obtain ⟨j, hj, rfl, hrow, hext⟩ := hrel
    by_cases hlt : j < k
    · have hc := put_cell hlt hrow
      have hf := hrow.frozen (k - 1 - j)
      go_wp2
      go_roundw
      case rel => exact ⟨j + 1, by omega, by go_num, put_step hlt hrow, hext.setCell (Nat.le_refl _) _⟩
      case measure => simp [intOf]; omega
    · obtain rfl : j = k := by omega
      have ht := hrow.text (P := Tryd.prog) 35 5 9 Tryd.underlying35 Tryd.underlying5 Tryd.underlying9 j j (by simp [be_length])
      clear hrow
      go_wp2
      go_ret
      exact ⟨by simp, hext⟩

theorem Put32_any (n : Nat) (w : World) :
    Calls Tryd.prog 34 #[.int .u32 (n : Int)] w fun e w' => e = .returned (.string ⟨(be 4 n).toArray⟩) ∧ Ext w w' := by
  go_enter Tryd.func34, Tryd.ntmps34
  go_wp2_with (go_at_call 43; refine (put32_any n 4 (by omega) _).mono ?_; rintro e w1 ⟨rfl, h1⟩)
  go_ret
  exact ⟨rfl, h1⟩
end Go.Proofs.YteddogalmdgjlaaDoor
end

section
namespace Go.Proofs.YteddogalmdgjlaaDoor
open Go.RowKit

theorem put64_any (n : Nat) (k : Nat) (hk : k ≤ 8) (w : World) :
    Calls Tryd.prog 101 #[.int .u64 (n : Int), .int .i64 (k : Int)] w fun e w' => e = .returned (.string ⟨(be k n).toArray⟩) ∧ Ext w w' := by
  have hmk := make_bytes k (by omega)
  go_enter Tryd.func101, Tryd.ntmps101
  go_wp2
  go_loopw [10] (fun i wr => ∃ j : Nat, j ≤ k ∧ i = .int .i64 j ∧ Row wr w.heap.size 5 (List.replicate (k - j) 0 ++ be j n) ∧ Ext w wr) (fun i _ => k - (intOf i).toNat)
  case atStart => exact ⟨0, Nat.zero_le _, rfl, by simpa [be] using Row.made w 5 k, (Ext.refl w).alloc _⟩
  case round =>
    obtain ⟨j, hj, rfl, hrow, hext⟩ := hrel
    by_cases hlt : j < k
    · have hc := put_cell hlt hrow
      have hf := hrow.frozen (k - 1 - j)
      go_wp2
      go_roundw
      case rel => exact ⟨j + 1, by omega, by go_num, put_step hlt hrow, hext.setCell (Nat.le_refl _) _⟩
      case measure => simp [intOf]; omega
    · obtain rfl : j = k := by omega
      have ht := hrow.text (P := Tryd.prog) 35 5 9 Tryd.underlying35 Tryd.underlying5 Tryd.underlying9 j j (by simp [be_length])
      clear hrow
      go_wp2
      go_ret
      exact ⟨by simp, hext⟩
theorem Put64_any (n : Nat) (w : World) :
    Calls Tryd.prog 99 #[.int .u64 (n : Int)] w fun e w' => e = .returned (.string ⟨(be 8 n).toArray⟩) ∧ Ext w w' := by
  go_enter Tryd.func99, Tryd.ntmps99
  go_wp2_with (go_at_call 101; refine (put64_any n 8 (by omega) _).mono ?_; rintro e w1 ⟨rfl, h1⟩)
  go_ret
  exact ⟨rfl, h1⟩
end Go.Proofs.YteddogalmdgjlaaDoor
end
