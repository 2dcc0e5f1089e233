/- Contracts: inverses, boxes, their table, and what they are boxes of, by the document's answer. -/
import Derived.Test.YthglecfbcdikaaaRTimes
import Derived.Test.YthglecfbcdikaaaAesL
import Derived.Test.YthglecfbcdikaaaBuf
namespace Go.Proofs.Ythglecfbcdikaaa
open Go.RowKit

/-- The inverses; of 0 it is 0. -/
def invT : List Nat := [0, 1, 141, 246, 203, 82, 123, 209, 232, 79, 41, 192, 176, 225, 229, 199, 116, 180, 170, 75, 153, 43, 96, 95, 88, 63, 253, 204, 255, 64, 238, 178, 58, 110, 90, 241, 85, 77, 168, 201, 193, 10, 152, 21, 48, 68, 162, 194, 44, 69, 146, 108, 243, 57, 102, 66, 242, 53, 32, 111, 119, 187, 89, 25, 29, 254, 55, 103, 45, 49, 245, 105, 167, 100, 171, 19, 84, 37, 233, 9, 237, 92, 5, 202, 76, 36, 135, 191, 24, 62, 34, 240, 81, 236, 97, 23, 22, 94, 175, 211, 73, 166, 54, 67, 244, 71, 145, 223, 51, 147, 33, 59, 121, 183, 151, 133, 16, 181, 186, 60, 182, 112, 208, 6, 161, 250, 129, 130, 131, 126, 127, 128, 150, 115, 190, 86, 155, 158, 149, 217, 247, 2, 185, 164, 222, 106, 50, 109, 216, 138, 132, 114, 42, 20, 159, 136, 249, 220, 137, 154, 251, 124, 46, 195, 143, 184, 101, 72, 38, 200, 18, 74, 206, 231, 210, 98, 12, 224, 31, 239, 17, 117, 120, 113, 165, 142, 118, 61, 189, 188, 134, 87, 11, 40, 47, 163, 218, 212, 228, 15, 169, 39, 83, 4, 27, 252, 172, 230, 122, 7, 174, 99, 197, 219, 226, 234, 148, 139, 196, 213, 157, 248, 144, 107, 177, 13, 214, 235, 198, 14, 207, 173, 8, 78, 215, 227, 93, 80, 30, 179, 91, 35, 56, 52, 104, 70, 3, 140, 221, 156, 125, 160, 205, 26, 65, 28]
def invN (b : Nat) : Nat := invT.getD b 0
theorem invN_spec : ∀ b, b < 256 → invN b < 256 ∧ (b = 0 ∨ 1 ≤ invN b ∧ tm b (invN b) = 1) := by decide +kernel
theorem invN_zero : invN 0 = 0 := rfl
/-- No other byte than the inverse has the product 1. -/
theorem inv_only {b j : Nat} (hb : b < 256) (hj : j < 256) (h : tm b j = 1) : j = invN b := by
  obtain ⟨hi, h0 | ⟨_, h2⟩⟩ := invN_spec b hb
  · subst h0
    rw [tm_comm (by decide) hj, tm_zero] at h
    cases h
  · have e : j = tm j (tm b (invN b)) := by rw [h2, tm_one j hj]
    rw [e, tm_assoc hj hb hi, tm_comm hj hb, h, tm_comm (by decide) hi, tm_one _ hi]
/-- A box, bit by bit. -/
def nb (c i : Nat) : Nat := c / 2 ^ i ^^^ c / 2 ^ ((i + 4) % 8) ^^^ c / 2 ^ ((i + 5) % 8) ^^^ c / 2 ^ ((i + 6) % 8) ^^^ c / 2 ^ ((i + 7) % 8) ^^^ 99 / 2 ^ i
def rb (c : Nat) : Nat → Nat
  | 0 => 0
  | i + 1 => rb c i ||| (nb c i &&& 1) * 2 ^ i
theorem rb_box0 : ∀ b, b < 256 → rb (invN b) 8 = (boxB (UInt8.ofNat b)).toNat := by decide +kernel
attribute [irreducible] invN
set_option maxRecDepth 100000 in
set_option maxHeartbeats 1000000 in
theorem rinv_any (b : Nat) (hb : b < 256) (w : World) :
    Calls Try.prog 44 #[.int .u8 (b : Int)] w fun e w' => e = .returned (.int .u8 (invN b : Nat)) ∧ w = w' := by
  have HI := Lib.hid (invN_spec b hb)
  have HO := Lib.hid (fun j (hj : j < 256) (h : tm b j = 1) => inv_only hb hj h)
  have HT := Lib.hid (fun j (hj : j < 256) u => rTimes_any b j hb hj u)
  go_enter Try.func44, Try.ntmps44
  go_wp2
  go_loop [3] (fun i => ∃ j : Nat, 1 ≤ j ∧ j ≤ 256 ∧ i = .int .i64 j ∧ (b ≠ 0 → j ≤ invN b)) (fun i => 256 - (intOf i).toNat)
  case atStart => exact ⟨1, by omega, by omega, rfl, fun h => by have := HI.out.2; omega⟩
  case round =>
    obtain ⟨j, h1, hj, rfl, hb2⟩ := hrel
    have HB2 := Lib.hid hb2
    clear hb2
    by_cases hlt : j < 256
    · have HTj := Lib.hid (HT.out j hlt)
      have htl := tm_lt hb j
      have hji : (j : Int) < 256 := by omega
      have hwj : IntKind.u8.wrap (j : Int) = (j : Int) := IntWalk.u8_in _ ⟨by omega, by omega⟩
      by_cases he : tm b j = 1
      · have HJ2 := Lib.hid (HO.out j hlt he)
        have HT1 : Hid (∀ u, Calls Try.prog 45 #[.int .u8 (b : Int), .int .u8 (j : Int)] u fun e w' => e = .returned (.int .u8 1) ∧ u = w') := Lib.hid (fun u => by have h := HTj.out u; rw [he] at h; exact h)
        clear he
        go_wp2_with (go_at_call 45; (with_reducible refine (HT1.out _).mono ?_); rintro e w1 ⟨rfl, rfl⟩)
        go_ret
        exact ⟨by rw [← HJ2.out]; rfl, rfl⟩
      · have hne : ¬ ((tm b j : Nat) : Int) = 1 := by omega
        have HN := Lib.hid he
        clear he
        go_wp2_with (go_at_call 45; (with_reducible refine (HTj.out _).mono ?_); rintro e w1 ⟨rfl, rfl⟩)
        go_round
        case rel => exact ⟨j + 1, by omega, by omega, by go_num, fun hb0 => by
          have h3 := HB2.out hb0
          rcases Nat.lt_or_eq_of_le h3 with h4 | h4
          · exact h4
          · exfalso
            rcases HI.out.2 with h5 | ⟨_, h5⟩
            · exact hb0 h5
            · rw [← h4] at h5; exact HN.out h5⟩
        case measure => simp [intOf]; omega
    · obtain rfl : j = 256 := by omega
      have h0 : b = 0 := by
        have := HI.out.1
        rcases Nat.eq_zero_or_pos b with h | h
        · exact h
        · have := HB2.out (by omega); omega
      have e256 : ((256 : Nat) : Int) = 256 := rfl
      rw [e256]
      clear e256
      go_wp2
      go_ret
      exact ⟨by first | (rw [invN_zero]; rfl) | (rw [h0, invN_zero]; rfl), rfl⟩
theorem div_lt256 {c : Nat} (h : c < 256) (i : Nat) : c / 2 ^ i < 256 := Nat.lt_of_le_of_lt (Nat.div_le_self _ _) h
theorem nb_lt {c : Nat} (h : c < 256) (i : Nat) : nb c i < 256 := by
  unfold nb
  exact xor_lt256 (xor_lt256 (xor_lt256 (xor_lt256 (xor_lt256 (div_lt256 h _) (div_lt256 h _)) (div_lt256 h _)) (div_lt256 h _)) (div_lt256 h _)) (div_lt256 (by decide) _)
theorem bit_lt (n : Nat) {i : Nat} (hi : i < 8) : (n &&& 1) * 2 ^ i < 256 := by
  have h1 : n &&& 1 ≤ 1 := Nat.and_le_right
  have h2 : 2 ^ i ≤ 2 ^ 7 := Nat.pow_le_pow_right (by decide) (by omega)
  have h3 : (n &&& 1) * 2 ^ i ≤ 1 * 2 ^ i := Nat.mul_le_mul_right _ h1
  omega
theorem rb_lt (c : Nat) : ∀ i, i ≤ 8 → rb c i < 256
  | 0, _ => by simp [rb]
  | i + 1, h => Nat.or_lt_two_pow (n := 8) (rb_lt c i (by omega)) (bit_lt _ (by omega))
theorem nb_int (c i a b d e : Nat) (hc : c < 256) (ha : a = (i + 4) % 8) (hb : b = (i + 5) % 8) (hd : d = (i + 6) % 8) (he : e = (i + 7) % 8) :
    bits BinOp.xor IntKind.u8 (bits BinOp.xor IntKind.u8 (bits BinOp.xor IntKind.u8 (bits BinOp.xor IntKind.u8 (bits BinOp.xor IntKind.u8 ((c : Int) / 2 ^ i) ((c : Int) / 2 ^ a)) ((c : Int) / 2 ^ b)) ((c : Int) / 2 ^ d)) ((c : Int) / 2 ^ e)) ((99 : Int) / 2 ^ i) = ((nb c i : Nat) : Int) := by
  subst ha hb hd he
  have h99 : ((99 : Int) / 2 ^ i) = ((99 / 2 ^ i : Nat) : Int) := div_cast 99 i
  have l := div_lt256 hc
  rw [h99, div_cast, div_cast, div_cast, div_cast, div_cast, u8_xor_nat _ _ (l _) (l _), u8_xor_nat _ _ (xor_lt256 (l _) (l _)) (l _), u8_xor_nat _ _ (xor_lt256 (xor_lt256 (l _) (l _)) (l _)) (l _),
    u8_xor_nat _ _ (xor_lt256 (xor_lt256 (xor_lt256 (l _) (l _)) (l _)) (l _)) (l _), u8_xor_nat _ _ (xor_lt256 (xor_lt256 (xor_lt256 (xor_lt256 (l _) (l _)) (l _)) (l _)) (l _)) (div_lt256 (by decide) _)]
  rfl
set_option maxRecDepth 100000 in
set_option maxHeartbeats 2000000 in
theorem rbox_any (b : Nat) (hb : b < 256) (w : World) :
    Calls Try.prog 30 #[.int .u8 (b : Int)] w fun e w' => e = .returned (.int .u8 ((boxB (UInt8.ofNat b)).toNat : Int)) ∧ w = w' := by
  have HI := Lib.hid (rinv_any b hb)
  have HE := Lib.hid (rb_box0 b hb)
  have hc := (invN_spec b hb).1
  generalize invN b = c at *
  generalize (boxB (UInt8.ofNat b)).toNat = X at *
  go_enter Try.func30, Try.ntmps30
  go_wp2_with (go_at_call 44; refine (HI.out _).mono ?_; rintro e w1 ⟨rfl, rfl⟩)
  go_loop [4, 5] (fun o i => ∃ j : Nat, j ≤ 8 ∧ i = .int .i64 j ∧ o = .int .u8 (rb c j : Nat)) (fun _ i => 8 - (intOf i).toNat)
  case atStart => exact ⟨0, by omega, rfl, rfl⟩
  case round =>
    obtain ⟨j, hj, rfl, rfl⟩ := hrel
    by_cases hlt : j < 8
    · have hj0 : (0 : Int) ≤ (j : Int) := by omega
      obtain ⟨k4, q4⟩ : ∃ k : Nat, ((j : Int) + 4) % 8 = (k : Int) := ⟨(j + 4) % 8, by omega⟩
      obtain ⟨k5, q5⟩ : ∃ k : Nat, ((j : Int) + 5) % 8 = (k : Int) := ⟨(j + 5) % 8, by omega⟩
      obtain ⟨k6, q6⟩ : ∃ k : Nat, ((j : Int) + 6) % 8 = (k : Int) := ⟨(j + 6) % 8, by omega⟩
      obtain ⟨k7, q7⟩ : ∃ k : Nat, ((j : Int) + 7) % 8 = (k : Int) := ⟨(j + 7) % 8, by omega⟩
      have hx := nb_int c j k4 k5 k6 k7 hc (by omega) (by omega) (by omega) (by omega)
      have hnl := nb_lt hc j
      have hrl := rb_lt c j hj
      have hbl := bit_lt (nb c j) hlt
      have hn : rb c (j + 1) = rb c j ||| (nb c j &&& 1) * 2 ^ j := rfl
      have ha := u8_and_nat (nb c j) 1 hnl (by decide)
      have HN := Lib.hid hn
      clear hn
      generalize nb c j = N at *
      obtain ⟨t, ht⟩ : ∃ t, N &&& 1 = t := ⟨_, rfl⟩
      rw [ht] at ha hbl HN
      have ho := u8_or_nat (rb c j) (t * 2 ^ j) hrl hbl
      rw [mul_cast] at ho
      have hw : IntKind.u8.wrap ((t : Int) * 2 ^ j) = (t : Int) * 2 ^ j := by rw [← mul_cast]; exact IntWalk.u8_in _ ⟨by omega, by omega⟩
      have ha2 : bits BinOp.and IntKind.u8 (N : Int) 1 = (t : Int) := ha
      clear ha
      go_wp2
      go_round
      case rel => exact ⟨j + 1, hlt, by go_num, by rw [HN.out]⟩
      case measure => simp [intOf]; omega
    · obtain rfl : j = 8 := by omega
      rw [HE.out]
      go_wp2
      go_ret
      exact ⟨rfl, rfl⟩
end Go.Proofs.Ythglecfbcdikaaa
