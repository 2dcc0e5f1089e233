/- Contracts: a byte gone over, by the program. -/
import Derived.Test.YthnoegipadnmeaaRSum
namespace Go.Proofs.Ythnoegipadnmeaa
open Go.RowKit

/-- All bits, or none. -/
theorem mask_yes (n : Nat) (hn : n < 4294967296) : bits .and .u32 (n : Int) 4294967295 = (n : Int) := by
  rw [show (4294967295 : Int) = ((4294967295 : Nat) : Int) from rfl, u32_and_nat _ _ hn (by decide)]
  congr 1
  have := Nat.and_two_pow_sub_one_eq_mod n 32
  simp at this
  rw [this]; omega
theorem mask_no (n : Nat) (hn : n < 4294967296) : bits .and .u32 (n : Int) 0 = 0 := by
  rw [show (0 : Int) = ((0 : Nat) : Int) from rfl, u32_and_nat _ _ hn (by decide), Nat.and_zero]
theorem xor_no (n : Nat) (hn : n < 4294967296) : bits .xor .u32 (n : Int) 0 = (n : Int) := by
  rw [show (0 : Int) = ((0 : Nat) : Int) from rfl, u32_xor_nat _ _ hn (by decide), Nat.xor_zero]
theorem low_and (n : Nat) (hn : n < 4294967296) : bits .and .u32 (n : Int) 1 = ((n % 2 : Nat) : Int) := by
  rw [show (1 : Int) = ((1 : Nat) : Int) from rfl, u32_and_nat _ _ hn (by decide), Nat.and_one_is_mod]
theorem gone_step (c : BitVec 32) : bits .xor .u32 ((c.toNat : Int) / 2) (bits .and .u32 3988292384 (-(bits .and .u32 (c.toNat : Int) 1) % 4294967296)) = ((hf c).toNat : Int) := by
  have hl := low_and c.toNat c.isLt
  rw [show ((c.toNat % 2 : Nat) : Int) = (c.toNat : Int) % 2 by omega] at hl
  rw [hl]
  have hb := bit0_int c
  have hlt := c.isLt
  cases hc : c.getLsbD 0
  · rw [hc] at hb
    have e : (c.toNat : Int) % 2 = 0 := by
      have : ¬ (c.toNat : Int) % 2 = 1 := by simpa using hb
      omega
    rw [e, half_int, show bits .and .u32 3988292384 (-(0 : Int) % 4294967296) = 0 from mask_no 3988292384 (by decide), xor_no _ (BitVec.isLt _)]
    unfold hf; rw [hc]; simp
  · rw [hc] at hb
    have e : (c.toNat : Int) % 2 = 1 := by simpa using hb
    rw [e, half_int, show bits .and .u32 3988292384 (-(1 : Int) % 4294967296) = 3988292384 from mask_yes 3988292384 (by decide), bx_poly]
    unfold hf; rw [hc]; simp
theorem gone_any (c : BitVec 32) (w : World) : Calls Try.prog 69 #[.int .u32 (c.toNat : Int)] w fun e w' => e = .returned (.int .u32 ((hfN 8 c).toNat : Int)) ∧ w = w' := by
  go_enter Try.func69, Try.ntmps69
  go_wp2
  go_loop [0, 3] (fun cv iv => ∃ j : Nat, j ≤ 8 ∧ iv = .int .i64 (j : Int) ∧ cv = .int .u32 ((hfN j c).toNat : Int)) (fun _ iv => 8 - (intOf iv).toNat)
  case atStart => exact ⟨0, Nat.zero_le _, rfl, rfl⟩
  case round =>
    obtain ⟨j, hj, rfl, rfl⟩ := hrel
    by_cases hlt : j < 8
    · have HN := Lib.hid (hfN_succ j c)
      have HG := Lib.hid (gone_step (hfN j c))
      generalize hfN j c = d at *
      generalize d.toNat = n at *
      go_wp2
      exact ⟨⟨j + 1, by omega, by go_num, by rw [HN.out, HG.out]⟩, by simp [intOf]; omega⟩
    · obtain rfl : j = 8 := by omega
      go_wp2
      go_ret
      exact ⟨rfl, rfl⟩
/-- A row put together, if a bit is 1. -/
theorem of_step (x f c : BitVec 32) (k : Nat) : bits .xor .u32 (x.toNat : Int) (bits .and .u32 (f.toNat : Int) (-(bits .and .u32 ((c.toNat : Int) / 2 ^ k) 1) % 4294967296)) = ((x ^^^ ifB (c.getLsbD k) f).toNat : Int) := by
  have hb := bit_int c k
  have hq : (c.toNat : Int) / 2 ^ k = ((c.toNat / 2 ^ k : Nat) : Int) := by simp
  have hlt : c.toNat / 2 ^ k < 4294967296 := Nat.lt_of_le_of_lt (Nat.div_le_self _ _) c.isLt
  have hl := low_and (c.toNat / 2 ^ k) hlt
  rw [hq] at hb ⊢
  rw [hl]
  cases hc : c.getLsbD k
  · rw [hc] at hb
    have e : ((c.toNat / 2 ^ k % 2 : Nat) : Int) = 0 := by
      have : ¬ ((c.toNat / 2 ^ k : Nat) : Int) % 2 = 1 := by simpa using hb
      omega
    rw [e, show (-(0 : Int) % 4294967296) = 0 by decide, mask_no _ f.isLt, xor_no _ x.isLt]
    simp [ifB]
  · rw [hc] at hb
    have e : ((c.toNat / 2 ^ k % 2 : Nat) : Int) = 1 := by
      have : ((c.toNat / 2 ^ k : Nat) : Int) % 2 = 1 := by simpa using hb
      omega
    rw [e, show (-(1 : Int) % 4294967296) = 4294967295 by decide, mask_yes _ f.isLt, bx]
    simp [ifB]
end Go.Proofs.Ythnoegipadnmeaa
