/- Contracts: a whole number as a number, and back, by the program. -/
import Derived.Test.YtcmmcaoidmldkaaPutW
import Derived.Outline
namespace Go.Proofs.Ytcmmcaoidmldkaa
open Go.RowKit
theorem xor_ones (a : Nat) (h : a < 18446744073709551616) : a ^^^ 18446744073709551615 = 18446744073709551615 - a := by
  have e1 : a ^^^ 18446744073709551615 = (BitVec.ofNat 64 a ^^^ BitVec.allOnes 64).toNat := by
    rw [BitVec.toNat_xor, BitVec.toNat_ofNat, BitVec.toNat_allOnes, Nat.mod_eq_of_lt (by simpa using h)]
  rw [e1, BitVec.xor_allOnes, BitVec.toNat_not, BitVec.toNat_ofNat, Nat.mod_eq_of_lt (by simpa using h)]
theorem wrap_u64 (n : Int) : IntKind.u64.wrap n = n % 18446744073709551616 := by
  simp [IntKind.wrap, IntKind.bits, IntKind.signed]
theorem fold_pos (n : Int) (h0 : 0 ≤ n) (h1 : n ≤ 9223372036854775807) : bits .xor .u64 (n * 2) (n / 9223372036854775808) = (zig n : Int) := by
  obtain ⟨m, rfl⟩ := Int.eq_ofNat_of_zero_le h0
  have h := u64_xor_nat (m * 2) 0 (by omega) (by omega)
  rw [Nat.xor_zero] at h
  have e1 : (m : Int) / 9223372036854775808 = ((0 : Nat) : Int) := by omega
  have e2 : (m : Int) * 2 = ((m * 2 : Nat) : Int) := by omega
  rw [e1, e2, h]
  unfold zig
  rw [if_pos (by omega)]
  omega
theorem fold_neg (n : Int) (h0 : -9223372036854775808 ≤ n) (h1 : n < 0) : bits .xor .u64 (IntKind.u64.wrap (IntKind.u64.wrap n * 2)) (IntKind.u64.wrap (n / 9223372036854775808)) = (zig n : Int) := by
  obtain ⟨A, hA⟩ : ∃ A : Nat, (A : Int) = 2 * n + 18446744073709551616 := ⟨(2 * n + 18446744073709551616).toNat, by omega⟩
  have e1 : IntKind.u64.wrap (IntKind.u64.wrap n * 2) = (A : Int) := by rw [wrap_u64, wrap_u64]; omega
  have e2 : IntKind.u64.wrap (n / 9223372036854775808) = ((18446744073709551615 : Nat) : Int) := by rw [wrap_u64]; omega
  have h := u64_xor_nat A 18446744073709551615 (by omega) (by omega)
  rw [xor_ones A (by omega)] at h
  rw [e1, e2, h]
  unfold zig
  rw [if_neg (by omega)]
  omega
theorem xor_i64 (a b : Int) : bits .xor .i64 a b = IntKind.i64.wrap ((BitVec.ofInt 64 a ^^^ BitVec.ofInt 64 b).toNat : Int) := rfl
theorem unfold_even (m : Nat) (h : m < 18446744073709551616) (h2 : m % 2 = 0) : bits .xor .i64 ((m : Int) / 2) (wrap64 (-wrap64 (bits .and .u64 (m : Int) 1))) = zag m := by
  have h1 := u64_and_nat m 1 h (by omega)
  rw [Nat.and_one_is_mod, h2] at h1
  have e1 : bits .and .u64 (m : Int) 1 = 0 := h1
  have e2 : (m : Int) / 2 = ((m / 2 : Nat) : Int) := by omega
  rw [e1, IntWalk.wrap64_in 0 (by omega), IntWalk.wrap64_in (-0) (by omega), e2, xor_i64, BitVec.toNat_xor, BitVec.ofInt_natCast]
  have e3 : (BitVec.ofInt 64 (-0)).toNat = 0 := by decide
  rw [e3, Nat.xor_zero, BitVec.toNat_ofNat, Nat.mod_eq_of_lt (by omega), IntWalk.i64_left, IntWalk.wrap64_in _ (by omega)]
  unfold zag
  rw [if_pos h2]
theorem unfold_odd (m : Nat) (h : m < 18446744073709551616) (h2 : ¬ m % 2 = 0) : bits .xor .i64 ((m : Int) / 2) (wrap64 (-wrap64 (bits .and .u64 (m : Int) 1))) = zag m := by
  have h1 := u64_and_nat m 1 h (by omega)
  rw [Nat.and_one_is_mod, show m % 2 = 1 by omega] at h1
  have e1 : bits .and .u64 (m : Int) 1 = 1 := h1
  have e2 : (m : Int) / 2 = ((m / 2 : Nat) : Int) := by omega
  rw [e1, IntWalk.wrap64_in 1 (by omega), IntWalk.wrap64_in (-1) (by omega), e2, xor_i64, BitVec.ofInt_natCast]
  have e3 : BitVec.ofInt 64 (-1) = BitVec.allOnes 64 := by decide
  rw [e3, BitVec.xor_allOnes, BitVec.toNat_not, BitVec.toNat_ofNat, Nat.mod_eq_of_lt (by omega), IntWalk.i64_left]
  unfold zag wrap64
  rw [if_neg h2]
  omega
theorem fold_any (n : Int) (h0 : -9223372036854775808 ≤ n) (h1 : n ≤ 9223372036854775807) (w : World) :
    Calls Try.prog 51 #[.int .i64 n] w fun e w' => e = .returned (.int .u64 (zig n : Int)) ∧ w = w' := by
  go_enter Try.func51, Try.ntmps51
  by_cases hn : 0 ≤ n
  · have HF := Lib.hid (fold_pos n hn h1)
    go_wp2
    rw [HF.out]
    go_ret
    exact ⟨rfl, rfl⟩
  · have HF := Lib.hid (fold_neg n h0 (by omega))
    go_wp2
    rw [HF.out]
    go_ret
    exact ⟨rfl, rfl⟩
theorem unfold_any (m : Nat) (h : m < 18446744073709551616) (w : World) :
    Calls Try.prog 41 #[.int .u64 (m : Int)] w fun e w' => e = .returned (.int .i64 (zag m)) ∧ w = w' := by
  have hz : bits .xor .i64 ((m : Int) / 2) (wrap64 (-wrap64 (bits .and .u64 (m : Int) 1))) = zag m := by
    by_cases h2 : m % 2 = 0
    · exact unfold_even m h h2
    · exact unfold_odd m h h2
  have HZ := Lib.hid hz
  clear hz
  go_enter Try.func41, Try.ntmps41
  go_wp2
  rw [HZ.out]
  go_ret
  exact ⟨rfl, rfl⟩
/-! ### What the others write -/
theorem putInt_any (B b : Nat) (l : List UInt8) (n : Int) (h0 : -9223372036854775808 ≤ n) (h1 : n ≤ 9223372036854775807) (w : World) (h : IsB w B b l) (hlen : l.length ≤ 1000000) (hBw : B ≤ w.heap.size) :
    Calls Try.prog 32 #[.pointer (some ⟨b, 0, none⟩), .int .i64 n] w fun e w' => e = .returned (.tuple #[]) ∧ IsB w' B b (l ++ wn (zig n)) ∧ Below B w w' := by
  have HF := Lib.hid (fun u => fold_any n h0 h1 u)
  have HP := Lib.hid (putUint_any B b l (zig n) (zig_lt n h0 h1) w h hlen hBw)
  generalize zig n = m at *
  clear h hlen h0 h1
  go_enter Try.func32, Try.ntmps32
  go_wp2_with (first
    | (go_at_call 51; refine (HF.out _).mono ?_; rintro e w1 ⟨rfl, rfl⟩)
    | (go_at_call 30; refine (HP.out).mono ?_; rintro e w2 ⟨rfl, hb2, x2⟩; have HB2 := Lib.hid hb2; have X2 := Lib.hid x2; clear hb2 x2))
  go_end0
  exact ⟨rfl, HB2.out, X2.out⟩
theorem putText_any (B b : Nat) (l : List UInt8) (s : ByteArray) (hs : s.size ≤ 1000000) (w : World) (h : IsB w B b l) (hlen : l.length ≤ 1000000) (hBw : B ≤ w.heap.size) :
    Calls Try.prog 34 #[.pointer (some ⟨b, 0, none⟩), .string s] w fun e w' => e = .returned (.tuple #[]) ∧ IsB w' B b (l ++ wt s) ∧ Below B w w' := by
  have HP := Lib.hid (putUint_any B b l s.size (by omega) w h hlen hBw)
  have HW : Hid (∀ u, IsB u B b (l ++ wn s.size) → B ≤ u.heap.size → Calls Try.prog 52 #[.pointer (some ⟨b, 0, none⟩), .string s] u fun e w' => e = .returned (.tuple #[.int .i64 (s.data.toList.length : Int), .nilIface]) ∧ IsB w' B b (l ++ wt s) ∧ Below B u w') := Lib.hid (fun u hu hB => by
    have := write_b B b (l ++ wn s.size) s.data.toList u hu (by have := wn_length s.size; rw [List.length_append, size_list]; omega) hB
    rw [List.append_assoc] at this
    exact this)
  have HS := Lib.hid hBw
  clear h hlen
  go_enter Try.func34, Try.ntmps34
  go_wp2_with (first
    | (go_at_call 30; refine (HP.out).mono ?_; rintro e w2 ⟨rfl, hb2, x2⟩; have HB2 := Lib.hid hb2; have X2 := Lib.hid x2; clear hb2 x2)
    | (go_at_call 52; refine (HW.out _ HB2.out (Nat.le_trans HS.out X2.out.size)).mono ?_; rintro e w3 ⟨rfl, hb3, x3⟩; have HB3 := Lib.hid hb3; have X3 := Lib.hid (X2.out.trans x3); clear hb3 x3))
  go_end0
  exact ⟨rfl, HB3.out, X3.out⟩
theorem putBool_any (B b : Nat) (l : List UInt8) (x : Bool) (w : World) (h : IsB w B b l) (hlen : l.length ≤ 1000000) (hBw : B ≤ w.heap.size) :
    Calls Try.prog 36 #[.pointer (some ⟨b, 0, none⟩), .bool x] w fun e w' => e = .returned (.tuple #[]) ∧ IsB w' B b (l ++ wb x) ∧ Below B w w' := by
  have H1 := Lib.hid (byte_b B b l 1 1 (by decide) w h (by omega) hBw)
  have H0 := Lib.hid (byte_b B b l 0 0 (by decide) w h (by omega) hBw)
  clear h hlen
  cases x
  · go_enter Try.func36, Try.ntmps36
    go_wp2_with (go_at_call 50; refine (H0.out).mono ?_; rintro e w2 ⟨rfl, hb2, x2⟩; have HB2 := Lib.hid hb2; have X2 := Lib.hid x2; clear hb2 x2)
    go_end0
    exact ⟨rfl, HB2.out, X2.out⟩
  · go_enter Try.func36, Try.ntmps36
    go_wp2_with (go_at_call 50; refine (H1.out).mono ?_; rintro e w2 ⟨rfl, hb2, x2⟩; have HB2 := Lib.hid hb2; have X2 := Lib.hid x2; clear hb2 x2)
    go_end0
    exact ⟨rfl, HB2.out, X2.out⟩
end Go.Proofs.Ytcmmcaoidmldkaa
