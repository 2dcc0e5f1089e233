/- The walk of layer 7's statement CrcTells. -/
import Derived.Test.YtnecafoickjleaaCrcAlive
namespace Go.Proofs.Ytnecafoickjleaa
open Go.RowKit

theorem bv_of (a : Int) (h : 0 ≤ a ∧ a ≤ 4294967295) : ∃ A : BitVec 32, a = (A.toNat : Int) := ⟨BitVec.ofNat 32 a.toNat, by rw [BitVec.toNat_ofNat]; omega⟩
set_option maxRecDepth 100000 in
set_option maxHeartbeats 2000000 in
theorem CrcTells_walk (s : ByteArray) (a b n : Int) (W : World) (z0 : s.size ≤ 140737488351232) (za : 0 ≤ a ∧ a ≤ 4294967295) (zb : 0 ≤ b ∧ b ≤ 4294967295) (zn : 0 ≤ n ∧ n ≤ 18446744073709551615) :
    Calls Try.prog 3 #[.string s, .int .u32 a, .int .u32 b, .int .u64 n] W fun e W' => e = .returned (.bool true) ∧ Ext W W' := by
  by_cases hh : 8192 < s.size
  · have hhi : (8192 : Int) < (s.size : Int) := by omega
    go_enter Try.func3, Try.ntmps3
    go_wp2_with (go_at_call 7; refine (alive_any _).mono ?_; rintro e w1 ⟨rfl, h1⟩)
    go_ret
    exact ⟨rfl, h1⟩
  · have hhi : (s.size : Int) ≤ 8192 := by omega
    obtain ⟨A, rfl⟩ := bv_of a za
    obtain ⟨B, rfl⟩ := bv_of b zb
    obtain ⟨N, rfl⟩ : ∃ N : Nat, n = (N : Int) := ⟨n.toNat, by omega⟩
    obtain ⟨k, hk, hk600⟩ : ∃ k : Nat, (N : Int) % 600 = (k : Int) ∧ k < 600 := ⟨N % 600, by omega, by omega⟩
    have HS := Lib.hid (sum_any s z0)
    have HR := Lib.hid (rsum_any s z0)
    have HM := Lib.hid (more_any A s z0)
    have HN := Lib.hid (rmore_any A s z0)
    have HJ := Lib.hid (join_any A B N (by omega))
    have HK := Lib.hid (rjoin_any A B N (by omega))
    have HL := Lib.hid (join_any A B k (by omega))
    have HO := Lib.hid (rslow_any A B k (by omega))
    generalize (moreC 0#32 s.data.toList).toNat = x1 at *
    generalize (moreC A s.data.toList).toNat = x2 at *
    generalize (joinC A B N).toNat = x3 at *
    generalize (joinC A B k).toNat = x4 at *
    generalize A.toNat = a at *
    generalize B.toNat = b at *
    clear hh
    go_enter Try.func3, Try.ntmps3
    have x0 := Ext.refl W
    go_wp2_with (first
      | (go_at_call 8; (with_reducible refine (HS.out _).mono ?_); rintro e w1 ⟨rfl, x1⟩; replace x0 := x0.trans x1; clear x1)
      | (go_at_call 9; (with_reducible refine (HR.out _).mono ?_); rintro e w1 ⟨rfl, rfl⟩)
      | (go_at_call 10; (with_reducible refine (HM.out _).mono ?_); rintro e w1 ⟨rfl, x1⟩; replace x0 := x0.trans x1; clear x1)
      | (go_at_call 11; (with_reducible refine (HN.out _).mono ?_); rintro e w1 ⟨rfl, rfl⟩)
      | (go_at_call 12; (with_reducible refine (HJ.out _).mono ?_); rintro e w1 ⟨rfl, x1⟩; replace x0 := x0.trans x1; clear x1)
      | (go_at_call 13; (with_reducible refine (HK.out _).mono ?_); rintro e w1 ⟨rfl, rfl⟩)
      | (go_at_call 12; (with_reducible refine (HL.out _).mono ?_); rintro e w1 ⟨rfl, x1⟩; replace x0 := x0.trans x1; clear x1)
      | (go_at_call 14; (with_reducible refine (HO.out _).mono ?_); rintro e w1 ⟨rfl, x1⟩; replace x0 := x0.trans x1; clear x1)
      | (go_at_call 7; refine (alive_any _).mono ?_; rintro e w1 ⟨rfl, x1⟩; replace x0 := x0.trans x1; clear x1))
    go_ret
    exact ⟨rfl, x0⟩
end Go.Proofs.Ytnecafoickjleaa
