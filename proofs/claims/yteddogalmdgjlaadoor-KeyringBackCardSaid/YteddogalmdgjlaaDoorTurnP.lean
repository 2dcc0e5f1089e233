/- Contracts: numbers turned, by the program. -/
import Derived.Test.YteddogalmdgjlaaDoorProg
import Derived.Test.YteddogalmdgjlaaDoorBytes
import Derived.WalkSpells
import Derived.Laws.BitsAllLaws
namespace Go.Proofs.YteddogalmdgjlaaDoor
open Go.RowKit

/-- By how many places to the right. -/
def places (b : Int) : Nat := (b % 32).toNat
theorem places_lt (b : Int) : places b < 32 := by unfold places; omega
theorem places_u64 (b : Int) : (IntKind.u64.wrap b).tmod 32 = (places b : Int) := by
  rw [IntKind.wrap_u64, Int.tmod_eq_emod_of_nonneg (by omega)]; unfold places; omega
theorem tmod_range (b : Int) : -32 < b.tmod 32 ∧ b.tmod 32 < 32 ∧ b.tmod 32 % 32 = b % 32 := by
  have e := Int.tmod_def b 32
  rcases Int.le_total 0 b with h | h
  · rw [Int.tmod_eq_emod_of_nonneg h]; omega
  · have e2 : b = - (- b) := by omega
    rw [e2, Int.neg_tmod, Int.tmod_eq_emod_of_nonneg (by omega)]; omega
theorem places_i64 (b : Int) : (wrap64 (b.tmod 32 + 32)).tmod 32 = (places b : Int) := by
  obtain ⟨h1, h2, h3⟩ := tmod_range b
  have e : wrap64 (b.tmod 32 + 32) = b.tmod 32 + 32 := IntWalk.wrap64_in _ ⟨by omega, by omega⟩
  rw [e, Int.tmod_eq_emod_of_nonneg (by omega)]
  unfold places; omega

/-- n turned by r places to the right. -/
def rot (n r : Nat) : Nat := n / 2 ^ r ||| n * 2 ^ (32 - r) % 4294967296
/-- The same, bit by bit. -/
def acc (n r : Nat) : Nat → Nat
  | 0 => 0
  | j + 1 => if n.testBit j then acc n r j ||| 2 ^ ((j + 32 - r) % 32) else acc n r j
theorem high_bit {n p : Nat} (hn : n < 4294967296) (hp : 32 ≤ p) : n.testBit p = false :=
  Nat.testBit_lt_two_pow (Nat.lt_of_lt_of_le hn (show 2 ^ 32 ≤ 2 ^ p from Nat.pow_le_pow_right (by decide) hp))
theorem bit_acc (n r : Nat) (hr : r < 32) (p : Nat) : ∀ j, j ≤ 32 → (acc n r j).testBit p = (decide (p < 32) && decide ((p + r) % 32 < j) && n.testBit ((p + r) % 32))
  | 0, _ => by simp [acc]
  | j + 1, h => by
    have ih := bit_acc n r hr p j (by omega)
    unfold acc
    have key : (j + 32 - r) % 32 = p ↔ p < 32 ∧ (p + r) % 32 = j := by omega
    have step : (p + r) % 32 < j + 1 ↔ (p + r) % 32 < j ∨ (p + r) % 32 = j := by omega
    by_cases ht : n.testBit j = true
    · rw [if_pos ht, Nat.testBit_or, ih, Nat.testBit_two_pow]
      by_cases h1 : p < 32
      · by_cases h2 : (p + r) % 32 = j
        · have : (j + 32 - r) % 32 = p := key.2 ⟨h1, h2⟩
          simp [this, h1, h2, ht]
        · have : ¬ (j + 32 - r) % 32 = p := fun e => h2 (key.1 e).2
          simp [this, h1, h2, step]
      · have : ¬ (j + 32 - r) % 32 = p := fun e => h1 (key.1 e).1
        simp [this, h1]
    · rw [if_neg ht, ih]
      by_cases h2 : (p + r) % 32 = j
      · simp [h2, ht]
      · simp [h2, step]
theorem bit_rot (n r : Nat) (hn : n < 4294967296) (hr : r < 32) (p : Nat) : (rot n r).testBit p = (decide (p < 32) && n.testBit ((p + r) % 32)) := by
  have e : (4294967296 : Nat) = 2 ^ 32 := by decide
  unfold rot
  rw [Nat.testBit_or, Nat.testBit_div_two_pow, e, Nat.testBit_mod_two_pow, Nat.testBit_mul_two_pow]
  by_cases h1 : p < 32
  · by_cases h2 : p + r < 32
    · have : ¬ 32 - r ≤ p := by omega
      simp [h1, this, Nat.mod_eq_of_lt h2]
    · have h3 : 32 - r ≤ p := by omega
      have h4 : (p + r) % 32 = p - (32 - r) := by omega
      simp [h1, h3, h4, high_bit hn (show 32 ≤ p + r by omega)]
  · simp [h1, high_bit hn (show 32 ≤ p + r by omega)]
theorem acc_rot (n r : Nat) (hn : n < 4294967296) (hr : r < 32) : acc n r 32 = rot n r := by
  apply Nat.eq_of_testBit_eq
  intro p
  rw [bit_acc n r hr p 32 (Nat.le_refl _), bit_rot n r hn hr p]
  have : (p + r) % 32 < 32 := by omega
  simp [this]
theorem rot_lt (n r : Nat) (hn : n < 4294967296) : rot n r < 4294967296 := by
  unfold rot
  exact Nat.or_lt_two_pow (n := 32) (Nat.lt_of_le_of_lt (Nat.div_le_self _ _) hn) (Nat.mod_lt _ (by decide))
theorem acc_lt (n r : Nat) : ∀ j, acc n r j < 4294967296
  | 0 => by unfold acc; omega
  | j + 1 => by
    unfold acc
    have ih := acc_lt n r j
    split
    · exact Nat.or_lt_two_pow (n := 32) ih (Nat.pow_lt_pow_right (by decide) (by omega))
    · exact ih

theorem turn_val (n r : Nat) (hn : n < 4294967296) : bits BinOp.or IntKind.u32 ((n : Int) / 2 ^ r) ((n : Int) * 2 ^ (32 - r) % 4294967296) = (rot n r : Int) := by
  have e1 : (n : Int) / 2 ^ r = ((n / 2 ^ r : Nat) : Int) := by simp
  have e2 : (n : Int) * 2 ^ (32 - r) % 4294967296 = ((n * 2 ^ (32 - r) % 4294967296 : Nat) : Int) := by simp
  rw [e1, e2, u32_or_nat _ _ (Nat.lt_of_le_of_lt (Nat.div_le_self _ _) hn) (Nat.mod_lt _ (by decide))]
  rfl
theorem bit_test (n j : Nat) (hn : n < 4294967296) : (bits BinOp.and IntKind.u32 ((n : Int) / 2 ^ j) 1 == 1) = n.testBit j := by
  have e1 : (n : Int) / 2 ^ j = ((n / 2 ^ j : Nat) : Int) := by simp
  have e2 := u32_and_nat (n / 2 ^ j) 1 (Nat.lt_of_le_of_lt (Nat.div_le_self _ _) hn) (by decide)
  rw [e1]
  have e3 : (1 : Int) = ((1 : Nat) : Int) := rfl
  rw [e3, e2, Nat.and_one_is_mod, Nat.testBit_eq_decide_div_mod_eq]
  by_cases h : n / 2 ^ j % 2 = 1
  · simp [h]
  · have : n / 2 ^ j % 2 = 0 := by omega
    simp [this]
theorem or_val (n r j : Nat) (hr : r < 32) (hj : j < 32) (ht : n.testBit j = true) :
    bits BinOp.or IntKind.u32 ((acc n r j : Nat) : Int) (2 ^ (((j : Int) - (r : Int)) % 32).toNat % 4294967296) = ((acc n r (j + 1) : Nat) : Int) := by
  have e : (((j : Int) - (r : Int)) % 32).toNat = (j + 32 - r) % 32 := by omega
  rw [e]
  have hp : 2 ^ ((j + 32 - r) % 32) < 4294967296 := Nat.pow_lt_pow_right (n := 32) (by decide) (by omega)
  have e2 : (2 : Int) ^ ((j + 32 - r) % 32) % 4294967296 = ((2 ^ ((j + 32 - r) % 32) : Nat) : Int) := by
    have : (2 : Int) ^ ((j + 32 - r) % 32) = ((2 ^ ((j + 32 - r) % 32) : Nat) : Int) := by simp
    rw [this]
    generalize 2 ^ ((j + 32 - r) % 32) = y at hp
    omega
  rw [e2, u32_or_nat _ _ (acc_lt n r j) hp]
  conv => rhs; unfold acc
  rw [if_pos ht]

theorem turn_any (n : Nat) (hn : n < 4294967296) (b : Int) (w : World) :
    Calls Tryd.prog 98 #[.int .u32 (n : Int), .int .i64 b] w fun e w' => e = .returned (.int .u32 (rot n (places b) : Int)) ∧ w = w' := by
  have hb := places_u64 b
  have hr := places_lt b
  obtain ⟨r, hr'⟩ : ∃ r, r = places b := ⟨_, rfl⟩
  rw [← hr'] at hb hr ⊢
  clear hr'
  have hs : IntKind.u64.wrap (32 - (r : Int)) = ((32 - r : Nat) : Int) := by
    have := u64_nat (x := 32 - r) (by omega)
    rw [← this]; congr 1; omega
  go_enter Tryd.func98, Tryd.ntmps98
  go_wp2
  go_ret
  exact ⟨congrArg Ending.returned (int_eq (turn_val n r hn)), rfl⟩
end Go.Proofs.YteddogalmdgjlaaDoor
