/- Plain: a whole number as a number, and back: bits. -/
import Derived.Test.YthnoegipadnmeaaWireL
import Derived.Laws.BitsAllLaws
import Derived.IntWalk
import Derived.Outline
namespace Go.Proofs.Ythnoegipadnmeaa
open Go.RowKit
theorem xor_ones (a : Nat) (h : a < 18446744073709551616) : a ^^^ 18446744073709551615 = 18446744073709551615 - a := by
  have e1 : a ^^^ 18446744073709551615 = (BitVec.ofNat 64 a ^^^ BitVec.allOnes 64).toNat := by
    rw [BitVec.toNat_xor, BitVec.toNat_ofNat, BitVec.toNat_allOnes, Nat.mod_eq_of_lt (by simpa using h)]
  rw [e1, BitVec.xor_allOnes, BitVec.toNat_not, BitVec.toNat_ofNat, Nat.mod_eq_of_lt (by simpa using h)]
theorem wrap_u64 (n : Int) : IntKind.u64.wrap n = n % 18446744073709551616 := by
  simp [IntKind.wrap, IntKind.bits, IntKind.signed]
theorem fold_pos (n : Int) (h0 : 0 ≤ n) (h1 : n ≤ 9223372036854775807) : bits .xor .u64 (n * 2) (n / 9223372036854775808) = (zig n : Int) := by
  obtain ⟨m, rfl⟩ := Int.eq_ofNat_of_zero_le h0
  have h := u64_xor_nat (m * 2) 0 (by omega) (by omega)
  rw [Nat.xor_zero] at h
  have e1 : (m : Int) / 9223372036854775808 = ((0 : Nat) : Int) := by omega
  have e2 : (m : Int) * 2 = ((m * 2 : Nat) : Int) := by omega
  rw [e1, e2, h]
  unfold zig
  rw [if_pos (by omega)]
  omega
theorem fold_neg (n : Int) (h0 : -9223372036854775808 ≤ n) (h1 : n < 0) : bits .xor .u64 (IntKind.u64.wrap (IntKind.u64.wrap n * 2)) (IntKind.u64.wrap (n / 9223372036854775808)) = (zig n : Int) := by
  obtain ⟨A, hA⟩ : ∃ A : Nat, (A : Int) = 2 * n + 18446744073709551616 := ⟨(2 * n + 18446744073709551616).toNat, by omega⟩
  have e1 : IntKind.u64.wrap (IntKind.u64.wrap n * 2) = (A : Int) := by rw [wrap_u64, wrap_u64]; omega
  have e2 : IntKind.u64.wrap (n / 9223372036854775808) = ((18446744073709551615 : Nat) : Int) := by rw [wrap_u64]; omega
  have h := u64_xor_nat A 18446744073709551615 (by omega) (by omega)
  rw [xor_ones A (by omega)] at h
  rw [e1, e2, h]
  unfold zig
  rw [if_neg (by omega)]
  omega
theorem xor_i64 (a b : Int) : bits .xor .i64 a b = IntKind.i64.wrap ((BitVec.ofInt 64 a ^^^ BitVec.ofInt 64 b).toNat : Int) := rfl
theorem unfold_even (m : Nat) (h : m < 18446744073709551616) (h2 : m % 2 = 0) : bits .xor .i64 ((m : Int) / 2) (wrap64 (-wrap64 (bits .and .u64 (m : Int) 1))) = zag m := by
  have h1 := u64_and_nat m 1 h (by omega)
  rw [Nat.and_one_is_mod, h2] at h1
  have e1 : bits .and .u64 (m : Int) 1 = 0 := h1
  have e2 : (m : Int) / 2 = ((m / 2 : Nat) : Int) := by omega
  rw [e1, IntWalk.wrap64_in 0 (by omega), IntWalk.wrap64_in (-0) (by omega), e2, xor_i64, BitVec.toNat_xor, BitVec.ofInt_natCast]
  have e3 : (BitVec.ofInt 64 (-0)).toNat = 0 := by decide
  rw [e3, Nat.xor_zero, BitVec.toNat_ofNat, Nat.mod_eq_of_lt (by omega), IntWalk.i64_left, IntWalk.wrap64_in _ (by omega)]
  unfold zag
  rw [if_pos h2]
theorem unfold_odd (m : Nat) (h : m < 18446744073709551616) (h2 : ¬ m % 2 = 0) : bits .xor .i64 ((m : Int) / 2) (wrap64 (-wrap64 (bits .and .u64 (m : Int) 1))) = zag m := by
  have h1 := u64_and_nat m 1 h (by omega)
  rw [Nat.and_one_is_mod, show m % 2 = 1 by omega] at h1
  have e1 : bits .and .u64 (m : Int) 1 = 1 := h1
  have e2 : (m : Int) / 2 = ((m / 2 : Nat) : Int) := by omega
  rw [e1, IntWalk.wrap64_in 1 (by omega), IntWalk.wrap64_in (-1) (by omega), e2, xor_i64, BitVec.ofInt_natCast]
  have e3 : BitVec.ofInt 64 (-1) = BitVec.allOnes 64 := by decide
  rw [e3, BitVec.xor_allOnes, BitVec.toNat_not, BitVec.toNat_ofNat, Nat.mod_eq_of_lt (by omega), IntWalk.i64_left]
  unfold zag wrap64
  rw [if_neg h2]
  omega
end Go.Proofs.Ythnoegipadnmeaa
