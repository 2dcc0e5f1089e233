/- Contracts: a byte doubled, products, and bits of a byte turned, by the program. -/
import Derived.Test.YtlphbnbipbfclaaRTimes
import Derived.Test.YtlphbnbipbfclaaAesL
import Derived.Deep.QuietTactic
import Derived.BigQuiet
namespace Go.Proofs.Ytlphbnbipbfclaa
open Go.RowKit

theorem dbl_int : ∀ a : Nat, a < 256 → bits BinOp.xor IntKind.u8 ((a : Int) * 2 % 256) ((a : Int) / 128 * 27) = ((xt a : Nat) : Int) := by decide +kernel
theorem double_any (a : Nat) (ha : a < 256) (w : World) :
    Calls Try.prog 22 #[.int .u8 (a : Int)] w fun e w' => e = .returned (.int .u8 (xt a : Nat)) ∧ w = w' := by
  have he := dbl_int a ha
  go_enter Try.func22, Try.ntmps22
  go_wp2
  go_ret
  exact ⟨rfl, rfl⟩
/-- Where no bits are left, the product is whole. -/
theorem tmN_done (a b : Nat) : ∀ k j, b / 2 ^ j = 0 → tmN a b (j + k) = tmN a b j
  | 0, _, _ => rfl
  | k + 1, j, h => by
    rw [← Nat.add_assoc, tmN, tmN_done a b k j h]
    have : b.testBit (j + k) = false := by
      apply Nat.testBit_lt_two_pow
      have h1 : b < 2 ^ j := by
        rcases Nat.lt_or_ge b (2 ^ j) with h2 | h2
        · exact h2
        · have := Nat.div_pos h2 (Nat.two_pow_pos j); omega
      exact Nat.lt_of_lt_of_le h1 (Nat.pow_le_pow_right (by decide) (by omega))
    rw [this]
    simp [pickb]
theorem bit_ne (b j : Nat) (hb : b < 256) : (bits BinOp.and IntKind.u8 ((b / 2 ^ j : Nat) : Int) 1 == 0) = !b.testBit j := by
  have h1 : b / 2 ^ j < 256 := Nat.lt_of_le_of_lt (Nat.div_le_self _ _) hb
  have e : (1 : Int) = ((1 : Nat) : Int) := rfl
  conv => lhs; lhs; rw [e]
  rw [u8_and_nat _ _ h1 (by decide), Nat.and_one_is_mod, Nat.testBit_eq_decide_div_mod_eq]
  by_cases h : b / 2 ^ j % 2 = 1
  · simp [h]
  · have : b / 2 ^ j % 2 = 0 := by omega
    simp [this]
set_option maxHeartbeats 1000000 in
theorem Times_any (a b : Nat) (ha : a < 256) (hb : b < 256) (w : World) :
    Calls Try.prog 7 #[.int .u8 (a : Int), .int .u8 (b : Int)] w fun e w' => e = .returned (.int .u8 (tm a b : Nat)) ∧ w = w' := by
  have HD := Lib.hid (fun j (h : b / 2 ^ j = 0) (hj : j ≤ 8) => show tmN a b j = tm a b from by have := tmN_done a b (8 - j) j h; rw [show j + (8 - j) = 8 by omega] at this; exact this.symm)
  have HL := Lib.hid (fun j => tmN_lt ha b j)
  have HX := Lib.hid (fun j => xp_lt ha j)
  go_enter Try.func7, Try.ntmps7
  go_wp2
  go_loop [0, 1, 5] (fun x y p => ∃ j : Nat, j ≤ 8 ∧ x = .int .u8 (xp a j : Nat) ∧ y = .int .u8 ((b / 2 ^ j : Nat) : Int) ∧ p = .int .u8 (tmN a b j : Nat)) (fun _ y _ => (intOf y).toNat)
  case atStart => exact ⟨0, by omega, rfl, by simp, rfl⟩
  case round =>
    obtain ⟨j, hj, rfl, rfl, rfl⟩ := hrel
    have hxl := HX.out j
    have hpl := HL.out j
    have hbit := bit_ne b j hb
    have hn : tmN a b (j + 1) = tmN a b j ^^^ pickb (b.testBit j) (xp a j) := rfl
    have hx : xp a (j + 1) = xt (xp a j) := rfl
    have hy : b / 2 ^ j / 2 = b / 2 ^ (j + 1) := by rw [Nat.div_div_eq_div_mul, Nat.pow_succ]
    have HN := Lib.hid hn; have HY := Lib.hid hy; have HXX := Lib.hid hx
    have HDj := Lib.hid (HD.out j)
    have hmax : j = 8 → b / 2 ^ j = 0 := fun h => by subst h; omega
    have HM := Lib.hid hmax
    clear hn hy hx hmax
    have hbl : b / 2 ^ j < 256 := Nat.lt_of_le_of_lt (Nat.div_le_self _ _) hb
    generalize xp a j = X at *
    generalize tmN a b j = P at *
    generalize b / 2 ^ j = Y at *
    by_cases hy0 : Y = 0
    · have hD := HDj.out hy0 hj
      have HDD := Lib.hid hD
      clear hD
      subst hy0
      go_wp2
      go_ret
      exact ⟨by rw [← HDD.out]; rfl, rfl⟩
    · have hj8 : j < 8 := by
        rcases Nat.lt_or_ge j 8 with h | h
        · exact h
        · exact absurd (HM.out (by omega)) hy0
      have hyi : ((Y : Int) == 0) = false := by simp; omega
      have hxor := u8_xor_nat P X hpl hxl
      rcases hc : b.testBit j with _ | _
      · rw [hc] at hbit HN
        simp only [Bool.not_false] at hbit
        go_wp2_with (go_at_call 22; refine (double_any X hxl _).mono ?_; rintro e w1 ⟨rfl, rfl⟩)
        go_round
        case rel => exact ⟨j + 1, hj8, by rw [HXX.out], by rw [← HY.out]; exact int_eq (by omega), by rw [HN.out]; simp [pickb]⟩
        case measure => simp [intOf]; omega
      · rw [hc] at hbit HN
        simp only [Bool.not_true] at hbit
        go_wp2_with (go_at_call 22; refine (double_any X hxl _).mono ?_; rintro e w1 ⟨rfl, rfl⟩)
        go_round
        case rel => exact ⟨j + 1, hj8, by rw [HXX.out], by rw [← HY.out]; exact int_eq (by omega), by rw [HN.out]; first | rfl | exact int_eq hxor⟩
        case measure => simp [intOf]; omega
/-- A byte's bits turned by r places to the left. -/
def rlB (b r : Nat) : Nat := b * 2 ^ r % 256 ||| b / 2 ^ (8 - r)
theorem rlB_lt {b r : Nat} (hb : b < 256) : rlB b r < 256 := Nat.or_lt_two_pow (n := 8) (Nat.mod_lt _ (by decide)) (Nat.lt_of_le_of_lt (Nat.div_le_self _ _) hb)
theorem turned_any (b r : Nat) (hb : b < 256) (hr : r ≤ 8) (w : World) :
    Calls Try.prog 37 #[.int .u8 (b : Int), .int .i64 (r : Int)] w fun e w' => e = .returned (.int .u8 (rlB b r : Nat)) ∧ Ext w w' := by
  have he : bits BinOp.or IntKind.u8 ((b : Int) * 2 ^ r % 256) ((b : Int) / 2 ^ (8 - r)) = ((rlB b r : Nat) : Int) := by
    have e1 : (b : Int) * 2 ^ r % 256 = ((b * 2 ^ r % 256 : Nat) : Int) := by simp
    have e2 : (b : Int) / 2 ^ (8 - r) = ((b / 2 ^ (8 - r) : Nat) : Int) := by simp
    rw [e1, e2, u8_or_nat _ _ (Nat.mod_lt _ (by decide)) (Nat.lt_of_le_of_lt (Nat.div_le_self _ _) hb)]
    rfl
  have HE := Lib.hid he
  clear he
  go_enter Try.func37, Try.ntmps37
  go_wp2
  go_quiet (fail)
  go_wp2
  go_ret
  exact ⟨by rw [← HE.out]; rfl, (Ext.refl w).drewN _⟩
end Go.Proofs.Ytlphbnbipbfclaa
