/- Contracts: the product of two bytes, by the document's answer. -/
import Derived.Test.YtcjdnifckngcfaaGreatDoorProg
import Derived.Test.YtcjdnifckngcfaaGreatDoorM00
import Derived.Test.YtcjdnifckngcfaaGreatDoorM24
import Derived.WalkSpells
import Derived.Laws.BitsAllLaws
section
namespace Go.Proofs.YtcjdnifckngcfaaGreatDoor
open Go.RowKit

theorem i64_xor_nat (a b : Nat) (ha : a < 4294967296) (hb : b < 4294967296) : bits .xor .i64 (a : Int) (b : Int) = ((a ^^^ b : Nat) : Int) := by
  have hx : a ^^^ b < 2 ^ 32 := Nat.xor_lt_two_pow (by omega) (by omega)
  show IntKind.i64.wrap ((BitVec.ofInt 64 (a : Int) ^^^ BitVec.ofInt 64 (b : Int)).toNat : Int) = _
  rw [BitVec.toNat_xor, ofInt_u64 a (by omega), ofInt_u64 b (by omega), IntKind.wrap_i64]
  omega
theorem i64_and_nat (a b : Nat) (ha : a < 4294967296) (hb : b < 4294967296) : bits .and .i64 (a : Int) (b : Int) = ((a &&& b : Nat) : Int) := by
  have hx : a &&& b ≤ a := Nat.and_le_left
  show IntKind.i64.wrap ((BitVec.ofInt 64 (a : Int) &&& BitVec.ofInt 64 (b : Int)).toNat : Int) = _
  rw [BitVec.toNat_and, ofInt_u64 a (by omega), ofInt_u64 b (by omega), IntKind.wrap_i64]
  omega
theorem div_cast (b j : Nat) : (b : Int) / 2 ^ j = ((b / 2 ^ j : Nat) : Int) := by simp
theorem bit_is (b j : Nat) : (((b / 2 ^ j &&& 1 : Nat) : Int) == 1) = b.testBit j := by
  rw [Nat.and_one_is_mod, Nat.testBit_eq_decide_div_mod_eq]
  by_cases h : b / 2 ^ j % 2 = 1
  · simp [h]
  · have : b / 2 ^ j % 2 = 0 := by omega
    simp [this]
theorem bit_test8 (b j : Nat) (hb : b < 256) : (bits BinOp.and IntKind.u8 ((b : Int) / 2 ^ j) 1 == 1) = b.testBit j := by
  have h1 : b / 2 ^ j < 256 := Nat.lt_of_le_of_lt (Nat.div_le_self _ _) hb
  have e : (1 : Int) = ((1 : Nat) : Int) := rfl
  rw [div_cast]
  conv => lhs; lhs; rw [e]
  rw [u8_and_nat _ _ h1 (by decide)]
  exact bit_is b j
theorem bit_test64 (b j : Nat) (hb : b < 4294967296) : (bits BinOp.and IntKind.i64 ((b : Int) / 2 ^ j) 1 == 1) = b.testBit j := by
  have h1 : b / 2 ^ j < 4294967296 := Nat.lt_of_le_of_lt (Nat.div_le_self _ _) hb
  have e : (1 : Int) = ((1 : Nat) : Int) := rfl
  rw [div_cast]
  conv => lhs; lhs; rw [e]
  rw [i64_and_nat _ _ h1 (by decide)]
  exact bit_is b j
/-- The sum of the powers, not yet reduced. -/
def rt1 (a b : Nat) : Nat → Nat
  | 0 => 0
  | i + 1 => rt1 a b i ^^^ pickb (b.testBit i) (a * 2 ^ i)
/-- Reduced from the bit 14 down, i steps. -/
def rt2 (n : Nat) : Nat → Nat
  | 0 => n
  | i + 1 => rt2 n i ^^^ pickb ((rt2 n i).testBit (14 - i)) (283 * 2 ^ (6 - i))
theorem shl_lt {a i : Nat} (ha : a < 512) (hi : i < 8) : a * 2 ^ i < 65536 := by
  have : 2 ^ i ≤ 2 ^ 7 := Nat.pow_le_pow_right (by decide) (by omega)
  have h2 : a * 2 ^ i ≤ a * 2 ^ 7 := Nat.mul_le_mul_left _ this
  omega
theorem xor_lt16 {a b : Nat} (ha : a < 65536) (hb : b < 65536) : a ^^^ b < 65536 := Nat.xor_lt_two_pow (n := 16) ha hb
theorem rt1_lt {a : Nat} (ha : a < 256) (b : Nat) : ∀ i, i ≤ 8 → rt1 a b i < 65536
  | 0, _ => by simp [rt1]
  | i + 1, h => xor_lt16 (rt1_lt ha b i (by omega)) (pickb_lt _ _ (by decide) (shl_lt (by omega) (by omega)))
theorem rt2_lt {n : Nat} (hn : n < 65536) : ∀ i, i ≤ 7 → rt2 n i < 65536
  | 0, _ => hn
  | i + 1, h => xor_lt16 (rt2_lt hn i (by omega)) (pickb_lt _ _ (by decide) (shl_lt (by decide) (by omega)))
theorem rt1_right (a b d : Nat) : ∀ n, rt1 a (b ^^^ d) n = rt1 a b n ^^^ rt1 a d n
  | 0 => by simp [rt1]
  | n + 1 => by rw [rt1, rt1, rt1, rt1_right a b d n, Nat.testBit_xor, pickb_xor, xor4]
theorem mul_pow_xor (a c i : Nat) : (a ^^^ c) * 2 ^ i = a * 2 ^ i ^^^ c * 2 ^ i := by
  have h := Nat.shiftLeft_xor_distrib (a := a) (b := c) (i := i)
  simpa [Nat.shiftLeft_eq] using h
theorem rt1_left (a c b : Nat) : ∀ n, rt1 (a ^^^ c) b n = rt1 a b n ^^^ rt1 c b n
  | 0 => by simp [rt1]
  | n + 1 => by rw [rt1, rt1, rt1, rt1_left a c b n, mul_pow_xor, pickb_sum, xor4]
theorem rt2_xor (x y : Nat) : ∀ n, rt2 (x ^^^ y) n = rt2 x n ^^^ rt2 y n
  | 0 => rfl
  | n + 1 => by rw [rt2, rt2, rt2, rt2_xor x y n, Nat.testBit_xor, pickb_xor, xor4]
theorem rtm_bits : ∀ i, i < 8 → ∀ j, j < 8 → rt2 (rt1 (2 ^ i) (2 ^ j) 8) 7 = tm (2 ^ i) (2 ^ j) := by decide +kernel
/-- The document's product is the product. -/
theorem rtm_eq {a b : Nat} (ha : a < 256) (hb : b < 256) : rt2 (rt1 a b 8) 7 = tm a b := by
  refine linear_eq (f := fun b => rt2 (rt1 a b 8) 7) (g := fun b => tm a b) (fun x y _ _ => by simp only [rt1_right, rt2_xor]) (fun x y _ _ => tm_right _ _ _) (fun j hj => ?_) b hb
  exact linear_eq (f := fun a => rt2 (rt1 a (2 ^ j) 8) 7) (g := fun a => tm a (2 ^ j)) (fun x y _ _ => by simp only [rt1_left, rt2_xor]) (fun x y _ _ => tm_left _ _ _) (fun i hi => rtm_bits i hi j hj) a ha
theorem mul_cast (a j : Nat) : ((a * 2 ^ j : Nat) : Int) = (a : Int) * 2 ^ j := by simp
theorem shl_cast (a j : Nat) (h : a * 2 ^ j < 65536) : wrap64 ((a : Int) * 2 ^ j) = ((a * 2 ^ j : Nat) : Int) := by
  have e : (a : Int) * 2 ^ j = ((a * 2 ^ j : Nat) : Int) := by simp
  rw [e]
  unfold wrap64
  omega
set_option maxHeartbeats 1000000 in
theorem rTimes_any (a b : Nat) (ha : a < 256) (hb : b < 256) (w : World) :
    Calls Tryz.prog 210 #[.int .u8 (a : Int), .int .u8 (b : Int)] w fun e w' => e = .returned (.int .u8 (tm a b : Nat)) ∧ w = w' := by
  have H1 := Lib.hid (fun j (h : j ≤ 8) => rt1_lt ha b j h)
  have HE := Lib.hid (rtm_eq ha hb)
  have HT := Lib.hid (tm_lt ha b)
  go_enter Tryz.func210, Tryz.ntmps210
  go_wp2
  go_loop [5, 6] (fun n i => ∃ j : Nat, j ≤ 8 ∧ i = .int .i64 j ∧ n = .int .i64 (rt1 a b j : Nat)) (fun _ i => 8 - (intOf i).toNat)
  case atStart => exact ⟨0, by omega, rfl, rfl⟩
  case round =>
    obtain ⟨j, hj, rfl, rfl⟩ := hrel
    by_cases hlt : j < 8
    · have hj0 : (0 : Int) ≤ (j : Int) := by omega
      have ht := bit_test8 b j hb
      have hs := shl_cast a j (shl_lt (by omega) hlt)
      have hx := i64_xor_nat (rt1 a b j) (a * 2 ^ j) (by have := H1.out j hj; omega) (by have := shl_lt (a := a) (by omega) hlt; omega)
      rw [mul_cast] at hx
      have hn : rt1 a b (j + 1) = rt1 a b j ^^^ pickb (b.testBit j) (a * 2 ^ j) := rfl
      have HN := Lib.hid hn
      clear hn
      rcases hc : b.testBit j with _ | _
      · rw [hc] at ht HN
        go_wp2
        go_round
        case rel => exact ⟨j + 1, hlt, by go_num, by rw [HN.out]; simp [pickb]⟩
        case measure => simp [intOf]; omega
      · rw [hc] at ht HN
        go_wp2
        go_round
        case rel => exact ⟨j + 1, hlt, by go_num, by rw [HN.out]; first | rfl | exact int_eq hx⟩
        case measure => simp [intOf]; omega
    · obtain rfl : j = 8 := by omega
      have hN := H1.out 8 (by omega)
      generalize rt1 a b 8 = N at *
      have H2 := Lib.hid (fun j (h : j ≤ 7) => rt2_lt hN j h)
      go_wp2
      go_loop [5, 7] (fun n i => ∃ j m : Nat, j ≤ 7 ∧ m + j = 14 ∧ i = .int .i64 (m : Int) ∧ n = .int .i64 (rt2 N j : Nat)) (fun _ i => (intOf i).toNat)
      case atStart => exact ⟨0, 14, by omega, rfl, rfl, rfl⟩
      case round =>
        obtain ⟨j, m, hj, hmj, rfl, rfl⟩ := hrel
        have hlN := H2.out j hj
        by_cases hlt : j < 7
        · obtain ⟨r, rfl⟩ : ∃ r, m = r + 8 := ⟨m - 8, by omega⟩
          have hm0 : (8 : Int) ≤ (r : Int) + 8 := by omega
          have ht := bit_test64 (rt2 N j) (r + 8) (by omega)
          have hs : wrap64 ((283 : Int) * 2 ^ r) = (283 : Int) * 2 ^ r := by have h := shl_cast 283 r (shl_lt (by decide) (by omega)); rw [mul_cast] at h; exact h
          have hx := i64_xor_nat (rt2 N j) (283 * 2 ^ r) (by omega) (by have := shl_lt (a := 283) (by decide) (show r < 8 by omega); omega)
          rw [mul_cast] at hx
          have hx2 : bits BinOp.xor IntKind.i64 ((rt2 N j : Nat) : Int) ((283 : Int) * 2 ^ r) = ((rt2 N j ^^^ 283 * 2 ^ r : Nat) : Int) := hx
          clear hx
          have hn : rt2 N (j + 1) = rt2 N j ^^^ pickb ((rt2 N j).testBit (r + 8)) (283 * 2 ^ r) := by
            rw [rt2, show 14 - j = r + 8 by omega, show 6 - j = r by omega]
          have HN := Lib.hid hn
          clear hn
          rcases hc : (rt2 N j).testBit (r + 8) with _ | _
          · rw [hc] at ht HN
            go_wp2
            go_round
            case rel => exact ⟨j + 1, r + 7, by omega, by omega, by go_num, by rw [HN.out]; simp [pickb]⟩
            case measure => simp [intOf]; omega
          · rw [hc] at ht HN
            go_wp2
            go_round
            case rel => exact ⟨j + 1, r + 7, by omega, by omega, by go_num, by rw [HN.out]; first | rfl | exact int_eq hx2⟩
            case measure => simp [intOf]; omega
        · obtain rfl : j = 7 := by omega
          obtain rfl : m = 7 := by omega
          rw [HE.out]
          have ht := HT.out
          go_wp2
          go_ret
          exact ⟨by go_num, rfl⟩
end Go.Proofs.YtcjdnifckngcfaaGreatDoor
end
