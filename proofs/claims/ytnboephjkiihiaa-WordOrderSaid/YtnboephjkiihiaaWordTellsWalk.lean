/- The walk of WordTells. -/
import Derived.Test.YtnboephjkiihiaaWorks
namespace Go.Proofs.Ytnboephjkiihiaa
open Go.RowKit

theorem heavy_yes (a b : ByteArray) (w : World) (ha : a.size ≤ 140737488351232) (hb : b.size ≤ 140737488351232) (h : 8192 < a.size + b.size) :
    Calls Try.prog 7 #[.string a, .string b] w fun e w' => e = .returned (.bool true) ∧ w = w' := by
  have := heavy_any a b w ha hb
  rwa [decide_eq_true (by omega)] at this
theorem heavy_no (a b : ByteArray) (w : World) (ha : a.size ≤ 140737488351232) (hb : b.size ≤ 140737488351232) (h : ¬ 8192 < a.size + b.size) :
    Calls Try.prog 7 #[.string a, .string b] w fun e w' => e = .returned (.bool false) ∧ w = w' := by
  have := heavy_any a b w ha hb
  rwa [decide_eq_false (by omega)] at this
theorem getv4_lt (s : ByteArray) (a : Int) : getv s a 4 < 4294967296 := by
  by_cases h : 0 ≤ a ∧ a ≤ (s.size : Int) - 4
  · obtain ⟨b, rfl⟩ : ∃ b : Nat, a = (b : Int) := ⟨a.toNat, by omega⟩
    rw [getv_yes h]
    exact num_lt 4 _ (sub_length s b 4 (by omega))
  · rw [getv_no h]; decide
theorem mask32 (m : Nat) (hm : m < 2 ^ 64) : bits BinOp.and IntKind.u64 (m : Int) 4294967295 = ((m % 4294967296 : Nat) : Int) := by
  have := u64_and_nat m 4294967295 (by omega) (by decide)
  rw [show (4294967295 : Int) = ((4294967295 : Nat) : Int) from rfl, this]
  congr 1
  exact Nat.and_two_pow_sub_one_eq_mod m 32
theorem nat_of_u64 {n : Int} (h : (Lit.int .u64 n).wf = true) : ∃ m : Nat, n = (m : Int) ∧ Hid (m < 2 ^ 64) := by
  have hx : 0 ≤ n ∧ n ≤ 18446744073709551615 := by simpa [Lit.wf, IntKind.min, IntKind.max, IntKind.signed, IntKind.bits] using h
  exact ⟨n.toNat, by omega, by show n.toNat < 2 ^ 64; omega⟩

theorem rGet4 (s : ByteArray) (a : Int) (hs : s.size ≤ 140737488351232) (w : World) :
    Calls Try.prog 11 #[.string s, .int .i64 a, .int .i64 4] w fun e w' => e = .returned (.tuple #[.int .u64 (getv s a 4 : Int), .bool (gets s a 4)]) ∧ w = w' := rGet_any s a 4 (by omega) hs w
theorem rGet8 (s : ByteArray) (a : Int) (hs : s.size ≤ 140737488351232) (w : World) :
    Calls Try.prog 11 #[.string s, .int .i64 a, .int .i64 8] w fun e w' => e = .returned (.tuple #[.int .u64 (getv s a 8 : Int), .bool (gets s a 8)]) ∧ w = w' := rGet_any s a 8 (by omega) hs w
theorem rPut8 (n : Nat) (hn : Hid (n < 2 ^ 64)) (w : World) :
    Calls Try.prog 13 #[.int .u64 (n : Int), .int .i64 8] w fun e w' => e = .returned (.string ⟨(be 8 n).toArray⟩) ∧ Ext w w' := rPut_any n hn 8 (by omega) w
theorem rPut4 (n : Nat) (hn : Hid (n < 2 ^ 64)) (w : World) :
    Calls Try.prog 13 #[.int .u64 (n : Int), .int .i64 4] w fun e w' => e = .returned (.string ⟨(be 4 n).toArray⟩) ∧ Ext w w' := rPut_any n hn 4 (by omega) w
theorem WordTells_walk (a0 : Int) (a1 : ByteArray) (a2 : Int) (w0 : (Lit.int .u64 a0).wf = true) (z1 : a1.size ≤ 140737488351232) (_w2 : (Lit.int .i64 a2).wf = true) (w : World) :
    Calls Try.prog 3 #[.int .u64 a0, .string a1, .int .i64 a2] w fun e w' => e = .returned (.bool true) ∧ Ext w w' := by
  obtain ⟨m, rfl, hm⟩ := nat_of_u64 w0
  clear w0
  by_cases hh : 8192 < a1.size
  · go_enter Try.func3, Try.ntmps3
    go_wp2_with (first
      | (go_at_call 7; refine (heavy_yes a1 ⟨#[]⟩ _ z1 (Nat.zero_le _) hh).mono ?_; rintro e w1 ⟨rfl, rfl⟩)
      | (go_at_call 8; refine (works_any _).mono ?_; rintro e w1 ⟨rfl, h1⟩))
    go_ret
    exact ⟨rfl, h1⟩
  · have hx := mask32 m hm.out
    have hy : (m : Int) % 4294967296 = ((m % 4294967296 : Nat) : Int) := by omega
    have hk : m % 4294967296 < 4294967296 := by omega
    have hg := getv4_lt a1 a2
    generalize m % 4294967296 = k at hx hy hk
    have hk2 : Hid (k < 2 ^ 64) := by show k < 2 ^ 64; omega
    obtain ⟨g, hg2⟩ : ∃ g, g = getv a1 a2 4 := ⟨_, rfl⟩
    rw [← hg2] at hg
    have hwg : IntKind.u64.wrap (g : Int) = (g : Int) := u64_nat (by omega)
    have c1 := Get32_any a1 a2 z1
    have c2 := rGet4 a1 a2 z1
    rw [← hg2] at c1 c2
    clear hg2
    have C1 := Lib.hid c1; clear c1
    have C2 := Lib.hid c2; clear c2
    go_enter Try.func3, Try.ntmps3
    go_wp2_with (first
      | (go_at_call 7; refine (heavy_no a1 ⟨#[]⟩ _ z1 (Nat.zero_le _) hh).mono ?_; rintro e w1 ⟨rfl, rfl⟩)
      | (go_at_call 9; refine (C1.out _).mono ?_; rintro e w1 ⟨rfl, rfl⟩)
      | (go_at_call 10; refine (Get64_any a1 a2 z1 _).mono ?_; rintro e w1 ⟨rfl, rfl⟩)
      | (go_at_call 11; (with_reducible refine (C2.out _).mono ?_); rintro e w1 ⟨rfl, rfl⟩)
      | (go_at_call 11; (with_reducible refine (rGet8 a1 a2 z1 _).mono ?_); rintro e w1 ⟨rfl, rfl⟩)
      | (go_at_call 12; refine (Put64_any _ _).mono ?_; rintro e w1 ⟨rfl, h1⟩)
      | (go_at_call 13; (with_reducible refine (rPut8 m hm _).mono ?_); rintro e w2 ⟨rfl, h2⟩)
      | (go_at_call 14; refine (Put32_any _ _).mono ?_; rintro e w3 ⟨rfl, h3⟩)
      | (go_at_call 13; (with_reducible refine (rPut4 k hk2 _).mono ?_); rintro e w4 ⟨rfl, h4⟩)
      | (go_at_call 8; refine (works_any _).mono ?_; rintro e w5 ⟨rfl, h5⟩))
    go_ret
    exact ⟨rfl, (((h1.trans h2).trans h3).trans h4).trans h5⟩
end Go.Proofs.Ytnboephjkiihiaa
