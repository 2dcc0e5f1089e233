/- Contract: the number in front of a text, by the document. -/
import Derived.Test.YtoffjkeejnldlaaNumber
import Derived.Outline
namespace Go.Proofs.Ytoffjkeejnldlaa
open Go.RowKit

theorem numG_ten (acc : Nat) (l : List UInt8) : numG 10 acc l = (0, 0, 7) := by
  cases l with
  | nil => rw [numG]; simp
  | cons b r => rw [numG, if_pos rfl]
theorem wrap_nat (n : Nat) (h : n < 18446744073709551616) : IntKind.u64.wrap (n : Int) = (n : Int) := by rw [wrap_u64]; omega
theorem wrap_some (z : Int) : ∃ q : Nat, IntKind.u64.wrap z = (q : Int) := ⟨(z % 18446744073709551616).toNat, by rw [wrap_u64]; omega⟩
attribute [local irreducible] numG
set_option maxRecDepth 100000 in
set_option maxHeartbeats 2000000 in
theorem rNumber8_any (s : ByteArray) (hs : s.size ≤ 1000000) (w : World) :
    Calls Try.prog 35 #[.string s] w fun e w' => e = .returned (.tuple #[.int .u64 ((numR s.data.toList).1 : Int), .int .i64 ((numR s.data.toList).2.1 : Int), .int .i64 ((numR s.data.toList).2.2 : Int)]) ∧ w = w' := by
  obtain ⟨v, sz, f, hR⟩ : ∃ v sz f, numR s.data.toList = (v, sz, f) := ⟨_, _, _, rfl⟩
  rw [hR]
  have HR := Lib.hid hR
  clear hR
  go_enter Try.func35, Try.ntmps35
  go_wp2
  go_loop [5, 6, 7] (fun nv pv i => ∃ j a q : Nat, j ≤ s.size ∧ j ≤ 9 ∧ i = .int .i64 (j : Int) ∧ nv = .int .u64 (a : Int) ∧ pv = .int .u64 (q : Int) ∧ Hid (numG j a (s.data.toList.drop j) = (v, sz, f)) ∧ Hid (a < 128 ^ j ∧ q = 128 ^ j)) (fun _ _ i => s.size - (intOf i).toNat)
  case atStart => exact ⟨0, 0, 1, Nat.zero_le _, Nat.zero_le _, rfl, rfl, rfl, HR, Lib.hid ⟨by decide, rfl⟩⟩
  case round =>
    obtain ⟨j, a, q, hj, hj9, rfl, rfl, rfl, hg, ha⟩ := hrel
    by_cases hlt : j < s.size
    · have hjl : j < s.data.toList.length := by rw [size_list]; omega
      obtain ⟨x, hx⟩ : ∃ x, s.data.toList[j]? = some x := ⟨_, List.getElem?_eq_getElem hjl⟩
      have hi : ∀ u, (Instr.index 9 (.string s) (.int .i64 (j : Int))).run Try.prog u = .ok (.int .u8 (x.toNat : Int)) u := fun u => index_text s j x hx u
      have hb256 := x.toNat_lt
      obtain ⟨hal, hq⟩ := ha.out
      have hgx := hg.out
      rw [drop_at _ _ _ hx, numG, if_neg (by omega)] at hgx
      have hp : 128 ^ j ≤ 128 ^ 9 := Nat.pow_le_pow_right (by decide) hj9
      have hm : x.toNat % 128 * q ≤ 127 * 128 ^ j := by rw [hq]; exact Nat.mul_le_mul_right _ (by omega)
      obtain ⟨m, hmm⟩ : ∃ m, m = x.toNat % 128 * q := ⟨_, rfl⟩
      obtain ⟨q2, hq2⟩ := wrap_some ((q : Int) * 128)
      have HX := Lib.hid hx
      clear hx hjl hg ha
      generalize x.toNat = b at *
      by_cases h0 : 0 < j ∧ b = 0
      · rw [if_neg (by omega), if_pos (.inl h0)] at hgx
        simp only [Prod.mk.injEq] at hgx
        obtain ⟨rfl, rfl, rfl⟩ := hgx
        have hj0 := h0.1
        have hb0 : ((b : Int) == 0) = true := by rw [beq_iff_eq]; omega
        clear h0 hal hq hp hm hmm hq2
        go_wp2
        go_ret3
        exact ⟨rfl, rfl⟩
      by_cases h9 : j = 9 ∧ 1 < b
      · have hz : v = 0 ∧ sz = 0 ∧ f = 7 := by
          obtain ⟨rfl, h1⟩ := h9
          by_cases h128 : 128 ≤ b
          · rw [if_pos h128, numG_ten] at hgx
            simpa [eq_comm] using hgx
          · rw [if_neg h128, if_pos (.inr ⟨rfl, h1⟩)] at hgx
            simpa [eq_comm] using hgx
        obtain ⟨rfl, rfl, rfl⟩ := hz
        have hj0 : 0 < j := by omega
        have hb0 : ((b : Int) == 0) = false := by rw [beq_eq_false_iff_ne]; omega
        have hj9b : ((j : Int) == 9) = true := by rw [beq_iff_eq]; omega
        have hb1 : (1 : Int) < (b : Int) := by omega
        clear h0 h9 hal hq hp hm hmm hq2 hgx
        go_wp2
        go_ret3
        exact ⟨rfl, rfl⟩
      have hm64 : m < 18446744073709551616 ∧ a + m < 18446744073709551616 := by
        rw [← hmm] at hm
        by_cases hj8 : j = 9
        · have hb2 : b ≤ 1 := by omega
          have : m ≤ 1 * 128 ^ j := by rw [hmm, hq]; exact Nat.mul_le_mul_right _ (by omega)
          rw [hj8] at this hal
          omega
        · have hp8 : 128 ^ j ≤ 128 ^ 8 := Nat.pow_le_pow_right (by decide) (by omega)
          omega
      have hw1 : IntKind.u64.wrap ((b : Int) % 128 * (q : Int)) = (m : Int) := by
        have : (b : Int) % 128 * (q : Int) = (m : Int) := by rw [hmm]; simp
        rw [this, wrap_nat _ hm64.1]
      have hw2 : IntKind.u64.wrap ((a : Int) + (m : Int)) = ((a + m : Nat) : Int) := by
        rw [← Int.natCast_add, wrap_nat _ hm64.2]
      have hor : j = 0 ∨ (0 < j ∧ ¬ b = 0 ∧ j = 9 ∧ b ≤ 1) ∨ (0 < j ∧ ¬ b = 0 ∧ ¬ j = 9) := by omega
      have hG : Hid (if 128 ≤ b then (j ≤ 8 ∧ numG (j + 1) (a + m) (s.data.toList.drop (j + 1)) = (v, sz, f) ∧ a + m < 128 ^ (j + 1) ∧ q2 = 128 ^ (j + 1)) else (v = a + m ∧ sz = j + 1 ∧ f = 0)) := by
        refine Lib.hid ?_
        by_cases h128 : 128 ≤ b
        · rw [if_pos h128] at hgx ⊢
          rw [hq] at hmm
          rw [hmm]
          have hp8 : 128 ^ j ≤ 128 ^ 8 := Nat.pow_le_pow_right (by decide) (by omega)
          refine ⟨by omega, hgx, ?_, ?_⟩
          · rw [pow_step]; rw [hq] at hm; omega
          · have e : (q : Int) * 128 = ((q * 128 : Nat) : Int) := by simp
            rw [e, wrap_nat _ (by rw [hq]; omega)] at hq2
            rw [pow_step, ← hq]; omega
        · rw [if_neg h128] at hgx ⊢
          rw [if_neg (by omega)] at hgx
          simp only [Prod.mk.injEq] at hgx
          rw [Nat.mod_eq_of_lt (by omega)] at hmm
          rw [hmm, hq]
          exact ⟨hgx.1.symm, hgx.2.1.symm, hgx.2.2.symm⟩
      clear h0 h9 hal hq hp hm hmm hgx hm64
      generalize a + m = a2 at *
      by_cases h128 : 128 ≤ b
      · rw [if_pos h128] at hG
        have h128i : ¬ (b : Int) < 128 := by omega
        rcases hor with h1 | ⟨h1, h2, h3, h4⟩ | ⟨h1, h2, h3⟩
        · have hj0 : ¬ 0 < j := by omega
          have hj9b : ((j : Int) == 9) = false := by rw [beq_eq_false_iff_ne]; omega
          clear h1
          go_wp2
          go_round
          case rel => exact ⟨j + 1, a2, q2, hlt, by have := hG.out.1; omega, by go_num, rfl, rfl, Lib.hid hG.out.2.1, Lib.hid hG.out.2.2⟩
          case measure => simp [intOf]; omega
        · omega
        · have hj9b : ((j : Int) == 9) = false := by rw [beq_eq_false_iff_ne]; omega
          have hb0 : ((b : Int) == 0) = false := by rw [beq_eq_false_iff_ne]; omega
          clear h2 h3
          go_wp2
          go_round
          case rel => exact ⟨j + 1, a2, q2, hlt, by have := hG.out.1; omega, by go_num, rfl, rfl, Lib.hid hG.out.2.1, Lib.hid hG.out.2.2⟩
          case measure => simp [intOf]; omega
      · rw [if_neg h128] at hG
        have h128i : (b : Int) < 128 := by omega
        rcases hor with h1 | ⟨h1, h2, h3, h4⟩ | ⟨h1, h2, h3⟩
        · have hj0 : ¬ 0 < j := by omega
          have hj9b : ((j : Int) == 9) = false := by rw [beq_eq_false_iff_ne]; omega
          clear h1
          go_wp2
          go_ret3
          exact ⟨by obtain ⟨h1, h2, h3⟩ := hG.out; rw [h1, h2, h3]; rfl, rfl⟩
        · have hj9b : ((j : Int) == 9) = true := by rw [beq_iff_eq]; omega
          have hb0 : ((b : Int) == 0) = false := by rw [beq_eq_false_iff_ne]; omega
          have hb1 : ¬ (1 : Int) < (b : Int) := by omega
          clear h2 h3
          go_wp2
          go_ret3
          exact ⟨by obtain ⟨h1, h2, h3⟩ := hG.out; rw [h1, h2, h3]; rfl, rfl⟩
        · have hj9b : ((j : Int) == 9) = false := by rw [beq_eq_false_iff_ne]; omega
          have hb0 : ((b : Int) == 0) = false := by rw [beq_eq_false_iff_ne]; omega
          clear h2 h3
          go_wp2
          go_ret3
          exact ⟨by obtain ⟨h1, h2, h3⟩ := hG.out; rw [h1, h2, h3]; rfl, rfl⟩
    · obtain rfl : j = s.size := by omega
      have hgx := hg.out
      rw [List.drop_eq_nil_of_le (by rw [size_list]; omega), numG, if_pos (by omega)] at hgx
      simp only [Prod.mk.injEq] at hgx
      obtain ⟨rfl, rfl, rfl⟩ := hgx
      go_wp2
      go_ret3
      exact ⟨rfl, rfl⟩
end Go.Proofs.Ytoffjkeejnldlaa
