/- Contracts: the product of two bytes, by the document's answer. Contracts: a byte doubled, products, and bits of a byte turned, by the program. Contracts: inverses, boxes, their table, and what they are boxes of, by the document's answer. Plain: new blocks of zeros. -/
import Derived.Test.YtdnpgmoiapkhnaaGreatDoorProg
import Derived.Test.YtdnpgmoiapkhnaaGreatDoorM00
import Derived.Test.YtdnpgmoiapkhnaaGreatDoorM05
import Derived.WalkSpells
import Derived.Laws.BitsAllLaws
import Derived.Test.YtdnpgmoiapkhnaaGreatDoorM06
import Derived.Deep.QuietTactic
import Derived.BigQuiet
import Derived.Test.YtdnpgmoiapkhnaaGreatDoorM03
import Derived.Test.YtdnpgmoiapkhnaaGreatDoorM12
section
namespace Go.Proofs.YtdnpgmoiapkhnaaGreatDoor
open Go.RowKit

theorem i64_xor_nat (a b : Nat) (ha : a < 4294967296) (hb : b < 4294967296) : bits .xor .i64 (a : Int) (b : Int) = ((a ^^^ b : Nat) : Int) := by
  have hx : a ^^^ b < 2 ^ 32 := Nat.xor_lt_two_pow (by omega) (by omega)
  show IntKind.i64.wrap ((BitVec.ofInt 64 (a : Int) ^^^ BitVec.ofInt 64 (b : Int)).toNat : Int) = _
  rw [BitVec.toNat_xor, ofInt_u64 a (by omega), ofInt_u64 b (by omega), IntKind.wrap_i64]
  omega
theorem i64_and_nat (a b : Nat) (ha : a < 4294967296) (hb : b < 4294967296) : bits .and .i64 (a : Int) (b : Int) = ((a &&& b : Nat) : Int) := by
  have hx : a &&& b ≤ a := Nat.and_le_left
  show IntKind.i64.wrap ((BitVec.ofInt 64 (a : Int) &&& BitVec.ofInt 64 (b : Int)).toNat : Int) = _
  rw [BitVec.toNat_and, ofInt_u64 a (by omega), ofInt_u64 b (by omega), IntKind.wrap_i64]
  omega
theorem div_cast (b j : Nat) : (b : Int) / 2 ^ j = ((b / 2 ^ j : Nat) : Int) := by simp
theorem bit_is (b j : Nat) : (((b / 2 ^ j &&& 1 : Nat) : Int) == 1) = b.testBit j := by
  rw [Nat.and_one_is_mod, Nat.testBit_eq_decide_div_mod_eq]
  by_cases h : b / 2 ^ j % 2 = 1
  · simp [h]
  · have : b / 2 ^ j % 2 = 0 := by omega
    simp [this]
theorem bit_test8 (b j : Nat) (hb : b < 256) : (bits BinOp.and IntKind.u8 ((b : Int) / 2 ^ j) 1 == 1) = b.testBit j := by
  have h1 : b / 2 ^ j < 256 := Nat.lt_of_le_of_lt (Nat.div_le_self _ _) hb
  have e : (1 : Int) = ((1 : Nat) : Int) := rfl
  rw [div_cast]
  conv => lhs; lhs; rw [e]
  rw [u8_and_nat _ _ h1 (by decide)]
  exact bit_is b j
theorem bit_test64 (b j : Nat) (hb : b < 4294967296) : (bits BinOp.and IntKind.i64 ((b : Int) / 2 ^ j) 1 == 1) = b.testBit j := by
  have h1 : b / 2 ^ j < 4294967296 := Nat.lt_of_le_of_lt (Nat.div_le_self _ _) hb
  have e : (1 : Int) = ((1 : Nat) : Int) := rfl
  rw [div_cast]
  conv => lhs; lhs; rw [e]
  rw [i64_and_nat _ _ h1 (by decide)]
  exact bit_is b j
/-- The sum of the powers, not yet reduced. -/
def rt1 (a b : Nat) : Nat → Nat
  | 0 => 0
  | i + 1 => rt1 a b i ^^^ pickb (b.testBit i) (a * 2 ^ i)
/-- Reduced from the bit 14 down, i steps. -/
def rt2 (n : Nat) : Nat → Nat
  | 0 => n
  | i + 1 => rt2 n i ^^^ pickb ((rt2 n i).testBit (14 - i)) (283 * 2 ^ (6 - i))
theorem shl_lt {a i : Nat} (ha : a < 512) (hi : i < 8) : a * 2 ^ i < 65536 := by
  have : 2 ^ i ≤ 2 ^ 7 := Nat.pow_le_pow_right (by decide) (by omega)
  have h2 : a * 2 ^ i ≤ a * 2 ^ 7 := Nat.mul_le_mul_left _ this
  omega
theorem xor_lt16 {a b : Nat} (ha : a < 65536) (hb : b < 65536) : a ^^^ b < 65536 := Nat.xor_lt_two_pow (n := 16) ha hb
theorem rt1_lt {a : Nat} (ha : a < 256) (b : Nat) : ∀ i, i ≤ 8 → rt1 a b i < 65536
  | 0, _ => by simp [rt1]
  | i + 1, h => xor_lt16 (rt1_lt ha b i (by omega)) (pickb_lt _ _ (by decide) (shl_lt (by omega) (by omega)))
theorem rt2_lt {n : Nat} (hn : n < 65536) : ∀ i, i ≤ 7 → rt2 n i < 65536
  | 0, _ => hn
  | i + 1, h => xor_lt16 (rt2_lt hn i (by omega)) (pickb_lt _ _ (by decide) (shl_lt (by decide) (by omega)))
theorem rt1_right (a b d : Nat) : ∀ n, rt1 a (b ^^^ d) n = rt1 a b n ^^^ rt1 a d n
  | 0 => by simp [rt1]
  | n + 1 => by rw [rt1, rt1, rt1, rt1_right a b d n, Nat.testBit_xor, pickb_xor, xor4]
theorem mul_pow_xor (a c i : Nat) : (a ^^^ c) * 2 ^ i = a * 2 ^ i ^^^ c * 2 ^ i := by
  have h := Nat.shiftLeft_xor_distrib (a := a) (b := c) (i := i)
  simpa [Nat.shiftLeft_eq] using h
theorem rt1_left (a c b : Nat) : ∀ n, rt1 (a ^^^ c) b n = rt1 a b n ^^^ rt1 c b n
  | 0 => by simp [rt1]
  | n + 1 => by rw [rt1, rt1, rt1, rt1_left a c b n, mul_pow_xor, pickb_sum, xor4]
theorem rt2_xor (x y : Nat) : ∀ n, rt2 (x ^^^ y) n = rt2 x n ^^^ rt2 y n
  | 0 => rfl
  | n + 1 => by rw [rt2, rt2, rt2, rt2_xor x y n, Nat.testBit_xor, pickb_xor, xor4]
theorem rtm_bits : ∀ i, i < 8 → ∀ j, j < 8 → rt2 (rt1 (2 ^ i) (2 ^ j) 8) 7 = tm (2 ^ i) (2 ^ j) := by decide +kernel
/-- The document's product is the product. -/
theorem rtm_eq {a b : Nat} (ha : a < 256) (hb : b < 256) : rt2 (rt1 a b 8) 7 = tm a b := by
  refine linear_eq (f := fun b => rt2 (rt1 a b 8) 7) (g := fun b => tm a b) (fun x y _ _ => by simp only [rt1_right, rt2_xor]) (fun x y _ _ => tm_right _ _ _) (fun j hj => ?_) b hb
  exact linear_eq (f := fun a => rt2 (rt1 a (2 ^ j) 8) 7) (g := fun a => tm a (2 ^ j)) (fun x y _ _ => by simp only [rt1_left, rt2_xor]) (fun x y _ _ => tm_left _ _ _) (fun i hi => rtm_bits i hi j hj) a ha
theorem mul_cast (a j : Nat) : ((a * 2 ^ j : Nat) : Int) = (a : Int) * 2 ^ j := by simp
theorem shl_cast (a j : Nat) (h : a * 2 ^ j < 65536) : wrap64 ((a : Int) * 2 ^ j) = ((a * 2 ^ j : Nat) : Int) := by
  have e : (a : Int) * 2 ^ j = ((a * 2 ^ j : Nat) : Int) := by simp
  rw [e]
  unfold wrap64
  omega
set_option maxHeartbeats 1000000 in
theorem rTimes_any (a b : Nat) (ha : a < 256) (hb : b < 256) (w : World) :
    Calls Tryz.prog 155 #[.int .u8 (a : Int), .int .u8 (b : Int)] w fun e w' => e = .returned (.int .u8 (tm a b : Nat)) ∧ w = w' := by
  have H1 := Lib.hid (fun j (h : j ≤ 8) => rt1_lt ha b j h)
  have HE := Lib.hid (rtm_eq ha hb)
  have HT := Lib.hid (tm_lt ha b)
  go_enter Tryz.func155, Tryz.ntmps155
  go_wp2
  go_loop [5, 6] (fun n i => ∃ j : Nat, j ≤ 8 ∧ i = .int .i64 j ∧ n = .int .i64 (rt1 a b j : Nat)) (fun _ i => 8 - (intOf i).toNat)
  case atStart => exact ⟨0, by omega, rfl, rfl⟩
  case round =>
    obtain ⟨j, hj, rfl, rfl⟩ := hrel
    by_cases hlt : j < 8
    · have hj0 : (0 : Int) ≤ (j : Int) := by omega
      have ht := bit_test8 b j hb
      have hs := shl_cast a j (shl_lt (by omega) hlt)
      have hx := i64_xor_nat (rt1 a b j) (a * 2 ^ j) (by have := H1.out j hj; omega) (by have := shl_lt (a := a) (by omega) hlt; omega)
      rw [mul_cast] at hx
      have hn : rt1 a b (j + 1) = rt1 a b j ^^^ pickb (b.testBit j) (a * 2 ^ j) := rfl
      have HN := Lib.hid hn
      clear hn
      rcases hc : b.testBit j with _ | _
      · rw [hc] at ht HN
        go_wp2
        go_round
        case rel => exact ⟨j + 1, hlt, by go_num, by rw [HN.out]; simp [pickb]⟩
        case measure => simp [intOf]; omega
      · rw [hc] at ht HN
        go_wp2
        go_round
        case rel => exact ⟨j + 1, hlt, by go_num, by rw [HN.out]; first | rfl | exact int_eq hx⟩
        case measure => simp [intOf]; omega
    · obtain rfl : j = 8 := by omega
      have hN := H1.out 8 (by omega)
      generalize rt1 a b 8 = N at *
      have H2 := Lib.hid (fun j (h : j ≤ 7) => rt2_lt hN j h)
      go_wp2
      go_loop [5, 7] (fun n i => ∃ j m : Nat, j ≤ 7 ∧ m + j = 14 ∧ i = .int .i64 (m : Int) ∧ n = .int .i64 (rt2 N j : Nat)) (fun _ i => (intOf i).toNat)
      case atStart => exact ⟨0, 14, by omega, rfl, rfl, rfl⟩
      case round =>
        obtain ⟨j, m, hj, hmj, rfl, rfl⟩ := hrel
        have hlN := H2.out j hj
        by_cases hlt : j < 7
        · obtain ⟨r, rfl⟩ : ∃ r, m = r + 8 := ⟨m - 8, by omega⟩
          have hm0 : (8 : Int) ≤ (r : Int) + 8 := by omega
          have ht := bit_test64 (rt2 N j) (r + 8) (by omega)
          have hs : wrap64 ((283 : Int) * 2 ^ r) = (283 : Int) * 2 ^ r := by have h := shl_cast 283 r (shl_lt (by decide) (by omega)); rw [mul_cast] at h; exact h
          have hx := i64_xor_nat (rt2 N j) (283 * 2 ^ r) (by omega) (by have := shl_lt (a := 283) (by decide) (show r < 8 by omega); omega)
          rw [mul_cast] at hx
          have hx2 : bits BinOp.xor IntKind.i64 ((rt2 N j : Nat) : Int) ((283 : Int) * 2 ^ r) = ((rt2 N j ^^^ 283 * 2 ^ r : Nat) : Int) := hx
          clear hx
          have hn : rt2 N (j + 1) = rt2 N j ^^^ pickb ((rt2 N j).testBit (r + 8)) (283 * 2 ^ r) := by
            rw [rt2, show 14 - j = r + 8 by omega, show 6 - j = r by omega]
          have HN := Lib.hid hn
          clear hn
          rcases hc : (rt2 N j).testBit (r + 8) with _ | _
          · rw [hc] at ht HN
            go_wp2
            go_round
            case rel => exact ⟨j + 1, r + 7, by omega, by omega, by go_num, by rw [HN.out]; simp [pickb]⟩
            case measure => simp [intOf]; omega
          · rw [hc] at ht HN
            go_wp2
            go_round
            case rel => exact ⟨j + 1, r + 7, by omega, by omega, by go_num, by rw [HN.out]; first | rfl | exact int_eq hx2⟩
            case measure => simp [intOf]; omega
        · obtain rfl : j = 7 := by omega
          obtain rfl : m = 7 := by omega
          rw [HE.out]
          have ht := HT.out
          go_wp2
          go_ret
          exact ⟨by go_num, rfl⟩
end Go.Proofs.YtdnpgmoiapkhnaaGreatDoor
end

section
namespace Go.Proofs.YtdnpgmoiapkhnaaGreatDoor
open Go.RowKit

theorem dbl_int : ∀ a : Nat, a < 256 → bits BinOp.xor IntKind.u8 ((a : Int) * 2 % 256) ((a : Int) / 128 * 27) = ((xt a : Nat) : Int) := by decide +kernel
theorem double_any (a : Nat) (ha : a < 256) (w : World) :
    Calls Tryz.prog 163 #[.int .u8 (a : Int)] w fun e w' => e = .returned (.int .u8 (xt a : Nat)) ∧ w = w' := by
  have he := dbl_int a ha
  go_enter Tryz.func163, Tryz.ntmps163
  go_wp2
  go_ret
  exact ⟨rfl, rfl⟩
/-- A byte's bits turned by r places to the left. -/
def rlB (b r : Nat) : Nat := b * 2 ^ r % 256 ||| b / 2 ^ (8 - r)
theorem rlB_lt {b r : Nat} (hb : b < 256) : rlB b r < 256 := Nat.or_lt_two_pow (n := 8) (Nat.mod_lt _ (by decide)) (Nat.lt_of_le_of_lt (Nat.div_le_self _ _) hb)
theorem turned_any (b r : Nat) (hb : b < 256) (hr : r ≤ 8) (w : World) :
    Calls Tryz.prog 141 #[.int .u8 (b : Int), .int .i64 (r : Int)] w fun e w' => e = .returned (.int .u8 (rlB b r : Nat)) ∧ Ext w w' := by
  have he : bits BinOp.or IntKind.u8 ((b : Int) * 2 ^ r % 256) ((b : Int) / 2 ^ (8 - r)) = ((rlB b r : Nat) : Int) := by
    have e1 : (b : Int) * 2 ^ r % 256 = ((b * 2 ^ r % 256 : Nat) : Int) := by simp
    have e2 : (b : Int) / 2 ^ (8 - r) = ((b / 2 ^ (8 - r) : Nat) : Int) := by simp
    rw [e1, e2, u8_or_nat _ _ (Nat.mod_lt _ (by decide)) (Nat.lt_of_le_of_lt (Nat.div_le_self _ _) hb)]
    rfl
  have HE := Lib.hid he
  clear he
  go_enter Tryz.func141, Tryz.ntmps141
  go_wp2
  go_quiet (fail)
  go_wp2
  go_ret
  exact ⟨by rw [← HE.out]; rfl, (Ext.refl w).drewN _⟩
end Go.Proofs.YtdnpgmoiapkhnaaGreatDoor
end

section
namespace Go.Proofs.YtdnpgmoiapkhnaaGreatDoor
open Go.RowKit

/-- The inverses; of 0 it is 0. -/
def invT : List Nat := [0, 1, 141, 246, 203, 82, 123, 209, 232, 79, 41, 192, 176, 225, 229, 199, 116, 180, 170, 75, 153, 43, 96, 95, 88, 63, 253, 204, 255, 64, 238, 178, 58, 110, 90, 241, 85, 77, 168, 201, 193, 10, 152, 21, 48, 68, 162, 194, 44, 69, 146, 108, 243, 57, 102, 66, 242, 53, 32, 111, 119, 187, 89, 25, 29, 254, 55, 103, 45, 49, 245, 105, 167, 100, 171, 19, 84, 37, 233, 9, 237, 92, 5, 202, 76, 36, 135, 191, 24, 62, 34, 240, 81, 236, 97, 23, 22, 94, 175, 211, 73, 166, 54, 67, 244, 71, 145, 223, 51, 147, 33, 59, 121, 183, 151, 133, 16, 181, 186, 60, 182, 112, 208, 6, 161, 250, 129, 130, 131, 126, 127, 128, 150, 115, 190, 86, 155, 158, 149, 217, 247, 2, 185, 164, 222, 106, 50, 109, 216, 138, 132, 114, 42, 20, 159, 136, 249, 220, 137, 154, 251, 124, 46, 195, 143, 184, 101, 72, 38, 200, 18, 74, 206, 231, 210, 98, 12, 224, 31, 239, 17, 117, 120, 113, 165, 142, 118, 61, 189, 188, 134, 87, 11, 40, 47, 163, 218, 212, 228, 15, 169, 39, 83, 4, 27, 252, 172, 230, 122, 7, 174, 99, 197, 219, 226, 234, 148, 139, 196, 213, 157, 248, 144, 107, 177, 13, 214, 235, 198, 14, 207, 173, 8, 78, 215, 227, 93, 80, 30, 179, 91, 35, 56, 52, 104, 70, 3, 140, 221, 156, 125, 160, 205, 26, 65, 28]
def invN (b : Nat) : Nat := invT.getD b 0
theorem invN_spec : ∀ b, b < 256 → invN b < 256 ∧ (b = 0 ∨ 1 ≤ invN b ∧ tm b (invN b) = 1) := by decide +kernel
theorem invN_zero : invN 0 = 0 := rfl
/-- No other byte than the inverse has the product 1. -/
theorem inv_only {b j : Nat} (hb : b < 256) (hj : j < 256) (h : tm b j = 1) : j = invN b := by
  obtain ⟨hi, h0 | ⟨_, h2⟩⟩ := invN_spec b hb
  · subst h0
    rw [tm_comm (by decide) hj, tm_zero] at h
    cases h
  · have e : j = tm j (tm b (invN b)) := by rw [h2, tm_one j hj]
    rw [e, tm_assoc hj hb hi, tm_comm hj hb, h, tm_comm (by decide) hi, tm_one _ hi]
/-- A box, bit by bit. -/
def nb (c i : Nat) : Nat := c / 2 ^ i ^^^ c / 2 ^ ((i + 4) % 8) ^^^ c / 2 ^ ((i + 5) % 8) ^^^ c / 2 ^ ((i + 6) % 8) ^^^ c / 2 ^ ((i + 7) % 8) ^^^ 99 / 2 ^ i
def rb (c : Nat) : Nat → Nat
  | 0 => 0
  | i + 1 => rb c i ||| (nb c i &&& 1) * 2 ^ i
theorem rb_box0 : ∀ b, b < 256 → rb (invN b) 8 = (boxB (UInt8.ofNat b)).toNat := by decide +kernel
attribute [irreducible] invN
set_option maxRecDepth 100000 in
set_option maxHeartbeats 1000000 in
theorem rinv_any (b : Nat) (hb : b < 256) (w : World) :
    Calls Tryz.prog 154 #[.int .u8 (b : Int)] w fun e w' => e = .returned (.int .u8 (invN b : Nat)) ∧ w = w' := by
  have HI := Lib.hid (invN_spec b hb)
  have HO := Lib.hid (fun j (hj : j < 256) (h : tm b j = 1) => inv_only hb hj h)
  have HT := Lib.hid (fun j (hj : j < 256) u => rTimes_any b j hb hj u)
  go_enter Tryz.func154, Tryz.ntmps154
  go_wp2
  go_loop [3] (fun i => ∃ j : Nat, 1 ≤ j ∧ j ≤ 256 ∧ i = .int .i64 j ∧ (b ≠ 0 → j ≤ invN b)) (fun i => 256 - (intOf i).toNat)
  case atStart => exact ⟨1, by omega, by omega, rfl, fun h => by have := HI.out.2; omega⟩
  case round =>
    obtain ⟨j, h1, hj, rfl, hb2⟩ := hrel
    have HB2 := Lib.hid hb2
    clear hb2
    by_cases hlt : j < 256
    · have HTj := Lib.hid (HT.out j hlt)
      have htl := tm_lt hb j
      have hji : (j : Int) < 256 := by omega
      have hwj : IntKind.u8.wrap (j : Int) = (j : Int) := IntWalk.u8_in _ ⟨by omega, by omega⟩
      by_cases he : tm b j = 1
      · have HJ2 := Lib.hid (HO.out j hlt he)
        have HT1 : Hid (∀ u, Calls Tryz.prog 155 #[.int .u8 (b : Int), .int .u8 (j : Int)] u fun e w' => e = .returned (.int .u8 1) ∧ u = w') := Lib.hid (fun u => by have h := HTj.out u; rw [he] at h; exact h)
        clear he
        go_wp2_with (go_at_call 155; (with_reducible refine (HT1.out _).mono ?_); rintro e w1 ⟨rfl, rfl⟩)
        go_ret
        exact ⟨by rw [← HJ2.out]; rfl, rfl⟩
      · have hne : ¬ ((tm b j : Nat) : Int) = 1 := by omega
        have HN := Lib.hid he
        clear he
        go_wp2_with (go_at_call 155; (with_reducible refine (HTj.out _).mono ?_); rintro e w1 ⟨rfl, rfl⟩)
        go_round
        case rel => exact ⟨j + 1, by omega, by omega, by go_num, fun hb0 => by
          have h3 := HB2.out hb0
          rcases Nat.lt_or_eq_of_le h3 with h4 | h4
          · exact h4
          · exfalso
            rcases HI.out.2 with h5 | ⟨_, h5⟩
            · exact hb0 h5
            · rw [← h4] at h5; exact HN.out h5⟩
        case measure => simp [intOf]; omega
    · obtain rfl : j = 256 := by omega
      have h0 : b = 0 := by
        have := HI.out.1
        rcases Nat.eq_zero_or_pos b with h | h
        · exact h
        · have := HB2.out (by omega); omega
      have e256 : ((256 : Nat) : Int) = 256 := rfl
      rw [e256]
      clear e256
      go_wp2
      go_ret
      exact ⟨by first | (rw [invN_zero]; rfl) | (rw [h0, invN_zero]; rfl), rfl⟩
theorem div_lt256 {c : Nat} (h : c < 256) (i : Nat) : c / 2 ^ i < 256 := Nat.lt_of_le_of_lt (Nat.div_le_self _ _) h
theorem nb_lt {c : Nat} (h : c < 256) (i : Nat) : nb c i < 256 := by
  unfold nb
  exact xor_lt256 (xor_lt256 (xor_lt256 (xor_lt256 (xor_lt256 (div_lt256 h _) (div_lt256 h _)) (div_lt256 h _)) (div_lt256 h _)) (div_lt256 h _)) (div_lt256 (by decide) _)
theorem bit_lt (n : Nat) {i : Nat} (hi : i < 8) : (n &&& 1) * 2 ^ i < 256 := by
  have h1 : n &&& 1 ≤ 1 := Nat.and_le_right
  have h2 : 2 ^ i ≤ 2 ^ 7 := Nat.pow_le_pow_right (by decide) (by omega)
  have h3 : (n &&& 1) * 2 ^ i ≤ 1 * 2 ^ i := Nat.mul_le_mul_right _ h1
  omega
theorem rb_lt (c : Nat) : ∀ i, i ≤ 8 → rb c i < 256
  | 0, _ => by simp [rb]
  | i + 1, h => Nat.or_lt_two_pow (n := 8) (rb_lt c i (by omega)) (bit_lt _ (by omega))
theorem nb_int (c i a b d e : Nat) (hc : c < 256) (ha : a = (i + 4) % 8) (hb : b = (i + 5) % 8) (hd : d = (i + 6) % 8) (he : e = (i + 7) % 8) :
    bits BinOp.xor IntKind.u8 (bits BinOp.xor IntKind.u8 (bits BinOp.xor IntKind.u8 (bits BinOp.xor IntKind.u8 (bits BinOp.xor IntKind.u8 ((c : Int) / 2 ^ i) ((c : Int) / 2 ^ a)) ((c : Int) / 2 ^ b)) ((c : Int) / 2 ^ d)) ((c : Int) / 2 ^ e)) ((99 : Int) / 2 ^ i) = ((nb c i : Nat) : Int) := by
  subst ha hb hd he
  have h99 : ((99 : Int) / 2 ^ i) = ((99 / 2 ^ i : Nat) : Int) := div_cast 99 i
  have l := div_lt256 hc
  rw [h99, div_cast, div_cast, div_cast, div_cast, div_cast, u8_xor_nat _ _ (l _) (l _), u8_xor_nat _ _ (xor_lt256 (l _) (l _)) (l _), u8_xor_nat _ _ (xor_lt256 (xor_lt256 (l _) (l _)) (l _)) (l _),
    u8_xor_nat _ _ (xor_lt256 (xor_lt256 (xor_lt256 (l _) (l _)) (l _)) (l _)) (l _), u8_xor_nat _ _ (xor_lt256 (xor_lt256 (xor_lt256 (xor_lt256 (l _) (l _)) (l _)) (l _)) (l _)) (div_lt256 (by decide) _)]
  rfl
set_option maxRecDepth 100000 in
set_option maxHeartbeats 2000000 in
theorem rbox_any (b : Nat) (hb : b < 256) (w : World) :
    Calls Tryz.prog 123 #[.int .u8 (b : Int)] w fun e w' => e = .returned (.int .u8 ((boxB (UInt8.ofNat b)).toNat : Int)) ∧ w = w' := by
  have HI := Lib.hid (rinv_any b hb)
  have HE := Lib.hid (rb_box0 b hb)
  have hc := (invN_spec b hb).1
  generalize invN b = c at *
  generalize (boxB (UInt8.ofNat b)).toNat = X at *
  go_enter Tryz.func123, Tryz.ntmps123
  go_wp2_with (go_at_call 154; refine (HI.out _).mono ?_; rintro e w1 ⟨rfl, rfl⟩)
  go_loop [4, 5] (fun o i => ∃ j : Nat, j ≤ 8 ∧ i = .int .i64 j ∧ o = .int .u8 (rb c j : Nat)) (fun _ i => 8 - (intOf i).toNat)
  case atStart => exact ⟨0, by omega, rfl, rfl⟩
  case round =>
    obtain ⟨j, hj, rfl, rfl⟩ := hrel
    by_cases hlt : j < 8
    · have hj0 : (0 : Int) ≤ (j : Int) := by omega
      obtain ⟨k4, q4⟩ : ∃ k : Nat, ((j : Int) + 4) % 8 = (k : Int) := ⟨(j + 4) % 8, by omega⟩
      obtain ⟨k5, q5⟩ : ∃ k : Nat, ((j : Int) + 5) % 8 = (k : Int) := ⟨(j + 5) % 8, by omega⟩
      obtain ⟨k6, q6⟩ : ∃ k : Nat, ((j : Int) + 6) % 8 = (k : Int) := ⟨(j + 6) % 8, by omega⟩
      obtain ⟨k7, q7⟩ : ∃ k : Nat, ((j : Int) + 7) % 8 = (k : Int) := ⟨(j + 7) % 8, by omega⟩
      have hx := nb_int c j k4 k5 k6 k7 hc (by omega) (by omega) (by omega) (by omega)
      have hnl := nb_lt hc j
      have hrl := rb_lt c j hj
      have hbl := bit_lt (nb c j) hlt
      have hn : rb c (j + 1) = rb c j ||| (nb c j &&& 1) * 2 ^ j := rfl
      have ha := u8_and_nat (nb c j) 1 hnl (by decide)
      have HN := Lib.hid hn
      clear hn
      generalize nb c j = N at *
      obtain ⟨t, ht⟩ : ∃ t, N &&& 1 = t := ⟨_, rfl⟩
      rw [ht] at ha hbl HN
      have ho := u8_or_nat (rb c j) (t * 2 ^ j) hrl hbl
      rw [mul_cast] at ho
      have hw : IntKind.u8.wrap ((t : Int) * 2 ^ j) = (t : Int) * 2 ^ j := by rw [← mul_cast]; exact IntWalk.u8_in _ ⟨by omega, by omega⟩
      have ha2 : bits BinOp.and IntKind.u8 (N : Int) 1 = (t : Int) := ha
      clear ha
      go_wp2
      go_round
      case rel => exact ⟨j + 1, hlt, by go_num, by rw [HN.out]⟩
      case measure => simp [intOf]; omega
    · obtain rfl : j = 8 := by omega
      rw [HE.out]
      go_wp2
      go_ret
      exact ⟨rfl, rfl⟩
end Go.Proofs.YtdnpgmoiapkhnaaGreatDoor
end

section
namespace Go.Proofs.YtdnpgmoiapkhnaaGreatDoor
open Go.RowKit

theorem zero255 : (Tryz.prog.info? 209).bind (·.zero) = some (.agg (zc 255)) := by kernel_rfl
theorem zero256 : (Tryz.prog.info? 155).bind (·.zero) = some (.agg (zc 256)) := by kernel_rfl
theorem zero512 : (Tryz.prog.info? 157).bind (·.zero) = some (.agg (zc 512)) := by kernel_rfl
theorem zero176 : (Tryz.prog.info? 161).bind (·.zero) = some (.agg (zc 176)) := by kernel_rfl
theorem zero16 : (Tryz.prog.info? 160).bind (·.zero) = some (.agg (zc 16)) := by kernel_rfl
theorem size255 : (Tryz.prog.info? 209).map (·.size) = some 255 := by kernel_rfl
theorem size256 : (Tryz.prog.info? 155).map (·.size) = some 256 := by kernel_rfl
theorem size512 : (Tryz.prog.info? 157).map (·.size) = some 512 := by kernel_rfl
theorem size176 : (Tryz.prog.info? 161).map (·.size) = some 176 := by kernel_rfl
theorem size16 : (Tryz.prog.info? 160).map (·.size) = some 16 := by kernel_rfl
end Go.Proofs.YtdnpgmoiapkhnaaGreatDoor
end
