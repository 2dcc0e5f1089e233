/- Contracts of the library's sort at numbers of 32 bits: numbers that scatter. Contracts of the library's sort at numbers of 32 bits: how many bits; a greater power of two. -/
import Derived.Test.YteddogalmdgjlaaDoorM34
import Derived.Laws.BitsAllLaws
import Derived.Test.YteddogalmdgjlaaDoorShelf
import Derived.Lib.BitFns
section
namespace Go.Proofs.YteddogalmdgjlaaDoor
open Go.RowKit

theorem wrap_range (z : Int) : 0 ≤ IntKind.u64.wrap z ∧ IntKind.u64.wrap z < 18446744073709551616 := by
  rw [IntKind.wrap_u64]
  omega
theorem xor_some (a : Nat) (b : Int) (ha : a < 18446744073709551616) (hb : 0 ≤ b ∧ b < 18446744073709551616) : ∃ Y : Nat, Y < 18446744073709551616 ∧ bits BinOp.xor IntKind.u64 (a : Int) b = (Y : Int) := by
  refine ⟨a ^^^ b.toNat, ?_, ?_⟩
  · exact Nat.xor_lt_two_pow (n := 64) ha (by omega)
  · have := u64_xor (a : Int) b (by omega) (by omega) hb.1 hb.2
    simpa using this
theorem and_some (a m : Nat) (ha : a < 18446744073709551616) (hm : m < 18446744073709551616) : ∃ Y : Nat, Y ≤ m ∧ bits BinOp.and IntKind.u64 (a : Int) (m : Int) = (Y : Int) :=
  ⟨a &&& m, Nat.and_le_right, u64_and_nat a m ha hm⟩
set_option maxRecDepth 100000 in
set_option maxHeartbeats 4000000 in
theorem xnext_any (r : Nat) (X : Nat) (hX : X < 18446744073709551616) (w : World) (h : Blk w r 125 [.int .u64 (X : Int)]) :
    Calls Tryd.prog 80 #[.pointer (some ⟨r, 0, none⟩)] w fun e w' => ∃ Y : Nat, Y < 18446744073709551616 ∧ e = .returned (.int .u64 (Y : Int)) ∧ Cnt w w' r 125 (.int .u64 (Y : Int)) := by
  have c0 := h.cell 0 _ rfl
  have f0 := h.frozen 0
  have HC := Lib.hid (Cnt.refl h)
  clear h
  go_enter Tryd.func80, Tryd.ntmps80
  obtain ⟨Y1, hY1, eY1⟩ := xor_some X (IntKind.u64.wrap ((X : Int) * 8192)) hX (wrap_range _)
  go_upto_region 1 with (fail)
  go_region
  (try simp only [eY1])
  generalize hW0 : World.setCell _ _ _ = W0
  have HC0 : Hid (Cnt w W0 r 125 (.int .u64 (Y1 : Int))) := Lib.hid (by rw [← hW0]; first | exact HC.out.set_ _ | exact (HC.out.drewN 1).set_ _)
  clear hW0 eY1 c0 f0
  have c0 := HC0.out.blk.cell 0 _ rfl
  have f0 := HC0.out.blk.frozen 0
  obtain ⟨Y2, hY2, eY2⟩ := xor_some Y1 ((Y1 : Int) / 128) hY1 (⟨by omega, by omega⟩)
  go_upto_region 2 with (fail)
  go_region
  (try simp only [eY2])
  generalize hW1 : World.setCell _ _ _ = W1
  have HC1 : Hid (Cnt w W1 r 125 (.int .u64 (Y2 : Int))) := Lib.hid (by rw [← hW1]; first | exact HC0.out.set_ _ | exact (HC0.out.drewN 1).set_ _)
  clear hW1 eY2 c0 f0
  have c0 := HC1.out.blk.cell 0 _ rfl
  have f0 := HC1.out.blk.frozen 0
  obtain ⟨Y3, hY3, eY3⟩ := xor_some Y2 (IntKind.u64.wrap ((Y2 : Int) * 131072)) hY2 (wrap_range _)
  go_upto_region 3 with (fail)
  go_region
  (try simp only [eY3])
  generalize hW2 : World.setCell _ _ _ = W2
  have HC2 : Hid (Cnt w W2 r 125 (.int .u64 (Y3 : Int))) := Lib.hid (by rw [← hW2]; first | exact HC1.out.set_ _ | exact (HC1.out.drewN 1).set_ _)
  clear hW2 eY3 c0 f0
  have c0 := HC2.out.blk.cell 0 _ rfl
  have f0 := HC2.out.blk.frozen 0
  go_wp2
  go_ret
  exact ⟨Y3, hY3, rfl, by first | exact HC2.out | exact ((HC2.out.drewN 1).drewN 1).drewN 1⟩
end Go.Proofs.YteddogalmdgjlaaDoor
end

section
namespace Go.Proofs.YteddogalmdgjlaaDoor
open Go.RowKit

theorem bitLen_hi : ∀ (n x : Nat), x ≤ n → x < 2 ^ 64 → x < 2 ^ Lib.bitLen x
  | 0, x, h, _ => by
    obtain rfl : x = 0 := by omega
    exact Nat.two_pow_pos _
  | n + 1, x, h, hx => by
    by_cases h0 : x = 0
    · subst h0; exact Nat.two_pow_pos _
    · have := bitLen_hi n (x / 2) (by omega) (by omega)
      rw [Lib.bitLen_half x h0 hx, Nat.add_comm, Nat.pow_succ]
      omega
theorem bitLen_lo : ∀ (n x : Nat), x ≤ n → x < 2 ^ 64 → x ≠ 0 → 2 ^ Lib.bitLen x ≤ 2 * x
  | 0, x, h, _, h0 => absurd (by omega) h0
  | n + 1, x, h, hx, h0 => by
    rw [Lib.bitLen_half x h0 hx, Nat.add_comm, Nat.pow_succ]
    by_cases h1 : x / 2 = 0
    · rw [h1]
      have : Lib.bitLen 0 = 0 := by decide
      rw [this]
      omega
    · have := bitLen_lo n (x / 2) (by omega) (by omega) h1
      omega
theorem blen_any (n : Nat) (w : World) (h0 : 1 ≤ n) (h1 : n ≤ 1000000) : Calls Tryd.prog 56 #[.int .u64 (n : Int)] w fun e w' => ∃ k : Nat, e = .returned (.int .i64 (k : Int)) ∧ n < 2 ^ k ∧ 2 ^ k ≤ 2 * n ∧ k ≤ 20 ∧ w' = w := by
  refine (Tryd.bits_Len (n : Int) w (by omega) (by omega)).mono ?_
  rintro e w' ⟨rfl, rfl⟩
  rw [Int.toNat_natCast]
  exact ⟨_, rfl, bitLen_hi n n (Nat.le_refl _) (by omega), bitLen_lo n n (Nat.le_refl _) (by omega) (by omega), Lib.bitLen_le n 20 (by decide) (by omega), rfl⟩
set_option maxRecDepth 100000 in
theorem npow_any (n : Nat) (w : World) (h0 : 1 ≤ n) (h1 : n ≤ 1000000) : Calls Tryd.prog 79 #[.int .i64 (n : Int)] w fun e w' => ∃ m : Nat, e = .returned (.int .u64 (m : Int)) ∧ n < m ∧ m ≤ 2 * n ∧ w' = w := by
  have HL := Lib.hid (blen_any n w h0 h1)
  go_enter Tryd.func79, Tryd.ntmps79
  go_wp2_with (go_at_call 56; refine (HL.out).mono ?_; rintro e w1 ⟨k, rfl, k1, k2, k3, rfl⟩)
  have e2 : IntKind.u64.wrap ((2 : Int) ^ k) = ((2 ^ k : Nat) : Int) := by
    rw [IntKind.wrap_u64]
    have : ((2 : Int) ^ k) = ((2 ^ k : Nat) : Int) := by simp
    rw [this]
    omega
  rw [e2]
  go_ret
  exact ⟨2 ^ k, rfl, k1, k2, rfl⟩
end Go.Proofs.YteddogalmdgjlaaDoor
end
