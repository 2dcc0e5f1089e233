/- The walk of WordTurns. -/
import Derived.Test.YtnboephjkiihiaaWordTellsWalk
import Derived.Test.YtnboephjkiihiaaXor
import Derived.Test.YtnboephjkiihiaaRUnhex
namespace Go.Proofs.Ytnboephjkiihiaa
open Go.RowKit

theorem nat_of_u32 {n : Int} (h : (Lit.int .u32 n).wf = true) : ∃ m : Nat, n = (m : Int) ∧ m < 4294967296 := by
  have hx : 0 ≤ n ∧ n ≤ 4294967295 := by simpa [Lit.wf, IntKind.min, IntKind.max, IntKind.signed, IntKind.bits] using h
  exact ⟨n.toNat, by omega, by omega⟩

theorem same_test (a b : ByteArray) : decide (a = b) = (a.toList == b.toList) := by
  rw [ByteArray.toList_eq, ByteArray.toList_eq]
  by_cases h : a = b
  · simp [h]
  · have : ¬ a.data.toList = b.data.toList := by
      intro e
      apply h
      cases a; cases b
      congr
      exact Array.toList_inj.1 e
    rw [decide_eq_false h]
    exact (beq_eq_false_iff_ne.2 this).symm
theorem same_false (a b : ByteArray) (h : ¬ a.size = b.size) : (a.toList == b.toList) = false := by
  rw [← same_test]
  exact decide_eq_false (fun e => h (by rw [e]))
theorem WordTurns_walk (a0 a1 : Int) (a2 a3 : ByteArray) (w0 : (Lit.int .u32 a0).wf = true) (_w1 : (Lit.int .i64 a1).wf = true) (z2 : a2.size ≤ 140737488351232) (z3 : a3.size ≤ 140737488351232) (w : World) :
    Calls Try.prog 4 #[.int .u32 a0, .int .i64 a1, .string a2, .string a3] w fun e w' => e = .returned (.bool true) ∧ Ext w w' := by
  obtain ⟨m, rfl, hm⟩ := nat_of_u32 w0
  clear w0
  by_cases hh : 8192 < a2.size + a3.size
  · go_enter Try.func4, Try.ntmps4
    go_wp2_with (first
      | (go_at_call 7; refine (heavy_yes a2 a3 _ z2 z3 hh).mono ?_; rintro e w1 ⟨rfl, rfl⟩)
      | (go_at_call 8; refine (works_any _).mono ?_; rintro e w1 ⟨rfl, h1⟩))
    go_ret
    exact ⟨rfl, h1⟩
  · have y2 : a2.size ≤ 1099511627776 := by omega
    by_cases hs : a2.size = a3.size
    · have hs1 : ((a2.size : Int) == (a3.size : Int)) = true := by rw [hs]; simp
      have Hs := Lib.hid hs; clear hs
      have he := same_test a2 a3
      go_enter Try.func4, Try.ntmps4
      go_wp2_with (first
        | (go_at_call 7; refine (heavy_no a2 a3 _ z2 z3 hh).mono ?_; rintro e w1 ⟨rfl, rfl⟩)
        | (go_at_call 15; refine (xor_yes a2 a3 Hs.out z2 _).mono ?_; rintro e w1 ⟨rfl, h1⟩)
        | (go_at_call 16; refine (rXor_yes a2 a3 Hs.out z2 _).mono ?_; rintro e w2 ⟨rfl, h2⟩)
        | (go_at_call 17; refine (unhex_any a2 y2 _).mono ?_; rintro e w3 ⟨rfl, h3⟩)
        | (go_at_call 18; refine (runhex_any a2 y2 _).mono ?_; rintro e w4 ⟨rfl, h4⟩)
        | (go_at_call 19; refine (turn_any m hm a1 _).mono ?_; rintro e w5 ⟨rfl, rfl⟩)
        | (go_at_call 20; refine (rTurn_any m hm a1 _).mono ?_; rintro e w5 ⟨rfl, rfl⟩)
        | (go_at_call 21; refine (equal_like a2 a3 Hs.out z2 _).mono ?_; rintro e w5 ⟨rfl, h5⟩)
        | (go_at_call 22; refine (hex_any a2 y2 _).mono ?_; rintro e w6 ⟨rfl, h6⟩)
        | (go_at_call 23; refine (rHex_any a2 y2 _).mono ?_; rintro e w7 ⟨rfl, h7⟩)
        | (go_at_call 8; refine (works_any _).mono ?_; rintro e w8 ⟨rfl, h8⟩))
      go_ret
      exact ⟨rfl, ((((((h1.trans h2).trans h3).trans h4).trans h5).trans h6).trans h7).trans h8⟩
    · have hs1 : ((a2.size : Int) == (a3.size : Int)) = false := by simp; omega
      have he := same_false a2 a3 hs
      have Hs := Lib.hid hs; clear hs
      go_enter Try.func4, Try.ntmps4
      go_wp2_with (first
        | (go_at_call 7; refine (heavy_no a2 a3 _ z2 z3 hh).mono ?_; rintro e w1 ⟨rfl, rfl⟩)
        | (go_at_call 15; refine (xor_no a2 a3 Hs.out _).mono ?_; rintro e w1 ⟨rfl, h1⟩)
        | (go_at_call 17; refine (unhex_any a2 y2 _).mono ?_; rintro e w3 ⟨rfl, h3⟩)
        | (go_at_call 18; refine (runhex_any a2 y2 _).mono ?_; rintro e w4 ⟨rfl, h4⟩)
        | (go_at_call 19; refine (turn_any m hm a1 _).mono ?_; rintro e w5 ⟨rfl, rfl⟩)
        | (go_at_call 20; refine (rTurn_any m hm a1 _).mono ?_; rintro e w5 ⟨rfl, rfl⟩)
        | (go_at_call 21; refine (equal_not a2 a3 Hs.out _).mono ?_; rintro e w5 ⟨rfl, h5⟩)
        | (go_at_call 22; refine (hex_any a2 y2 _).mono ?_; rintro e w6 ⟨rfl, h6⟩)
        | (go_at_call 23; refine (rHex_any a2 y2 _).mono ?_; rintro e w7 ⟨rfl, h7⟩)
        | (go_at_call 8; refine (works_any _).mono ?_; rintro e w8 ⟨rfl, h8⟩))
      go_ret
      exact ⟨rfl, (((((h1.trans h3).trans h4).trans h5).trans h6).trans h7).trans h8⟩
end Go.Proofs.Ytnboephjkiihiaa
