/- Contracts: the number in front of a text, and one that counts what is behind it, by the program. -/
import Derived.Test.YthnoegipadnmeaaWireL
import Derived.Test.YthnoegipadnmeaaTextAt
import Derived.Test.YthnoegipadnmeaaBlk
import Derived.Test.YthnoegipadnmeaaFoldN
import Derived.Laws.BitsAllLaws
import Derived.IntWalk
import Derived.Outline
namespace Go.Proofs.Ythnoegipadnmeaa
open Go.RowKit

theorem run_min10 (ts : Array TypeId) (t : TypeId) (a n : Nat) (hn : n = min a 10) (u : World) : (Builtin.min_ ts t #[.int .i64 (a : Int), .int .i64 10]).run Try.prog u = .ok (.int .i64 (n : Int)) u := by
  simp [Builtin.min_, Builtin.min2]
  split <;> omega
theorem num_or (n j b : Nat) (hj : j ≤ 9) (hn : n < 128 ^ j) :
    ∃ n' : Nat, bits BinOp.or IntKind.u64 (n : Int) (IntKind.u64.wrap ((b : Int) % 128 * 2 ^ (7 * j))) = (n' : Int) ∧ (b % 128 * 128 ^ j < 18446744073709551616 → n' = n + b % 128 * 128 ^ j) := by
  have e7 : (2 : Nat) ^ (7 * j) = 128 ^ j := by rw [Nat.pow_mul]
  have hp : 128 ^ j ≤ 128 ^ 9 := Nat.pow_le_pow_right (by decide) hj
  have e1 : IntKind.u64.wrap ((b : Int) % 128 * 2 ^ (7 * j)) = ((b % 128 * 128 ^ j % 18446744073709551616 : Nat) : Int) := by
    rw [wrap_u64]
    have : (b : Int) % 128 * 2 ^ (7 * j) = ((b % 128 * 128 ^ j : Nat) : Int) := by
      rw [← e7]; simp
    rw [this]
    omega
  rw [e1, u64_or_nat _ _ (by omega) (by omega)]
  refine ⟨_, rfl, fun hlt => ?_⟩
  rw [Nat.mod_eq_of_lt hlt]
  have := Nat.two_pow_add_eq_or_of_lt (i := 7 * j) (b := n) (by rw [e7]; exact hn) (b % 128)
  rw [e7, Nat.mul_comm] at this
  rw [Nat.or_comm, ← this, Nat.add_comm]
theorem drop_at (l : List UInt8) (j : Nat) (x : UInt8) (h : l[j]? = some x) : l.drop j = x :: l.drop (j + 1) := by
  obtain ⟨hj, rfl⟩ := List.getElem?_eq_some_iff.1 h
  exact List.drop_eq_getElem_cons hj
attribute [local irreducible] numG
set_option maxRecDepth 100000 in
set_option maxHeartbeats 2000000 in
theorem wnumber_any (s : ByteArray) (hs : s.size ≤ 1000000) (w : World) :
    Calls Try.prog 65 #[.string s] w fun e w' => e = .returned (.tuple #[.int .u64 ((numR s.data.toList).1 : Int), .int .i64 ((numR s.data.toList).2.1 : Int), .int .i64 ((numR s.data.toList).2.2 : Int)]) ∧ w = w' := by
  obtain ⟨m, hm⟩ : ∃ m, m = min s.size 10 := ⟨_, rfl⟩
  have hmin := fun ts t u => run_min10 ts t s.size m hm u
  have HM := Lib.hid hm
  obtain ⟨v, sz, f, hR⟩ : ∃ v sz f, numR s.data.toList = (v, sz, f) := ⟨_, _, _, rfl⟩
  rw [hR]
  have HR := Lib.hid hR
  clear hm hR
  go_enter Try.func65, Try.ntmps65
  go_wp2
  go_loop [2, 10] (fun nv i => ∃ (j a n : Nat), j ≤ m ∧ i = .int .i64 (j : Int) ∧ nv = .int .u64 (n : Int) ∧ Hid (numG j a (s.data.toList.drop j) = (v, sz, f)) ∧ Hid (j ≤ 9 → n = a ∧ a < 128 ^ j)) (fun _ i => m - (intOf i).toNat)
  case atStart => exact ⟨0, 0, 0, Nat.zero_le _, rfl, rfl, HR, Lib.hid (fun _ => ⟨rfl, by decide⟩)⟩
  case round =>
    obtain ⟨j, a, n, hj, rfl, rfl, hg, ha⟩ := hrel
    by_cases hlt : j < m
    · have hj9 : j ≤ 9 := by have := HM.out; omega
      have hjl : j < s.data.toList.length := by have := HM.out; rw [size_list]; omega
      obtain ⟨x, hx⟩ : ∃ x, s.data.toList[j]? = some x := ⟨_, List.getElem?_eq_getElem hjl⟩
      have hi : ∀ u, (Instr.index 9 (.string s) (.int .i64 (j : Int))).run Try.prog u = .ok (.int .u8 (x.toNat : Int)) u := fun u => index_text s j x hx u
      have hb256 := x.toNat_lt
      obtain ⟨rfl, hal⟩ := ha.out hj9
      have hgx := hg.out
      rw [drop_at _ _ _ hx, numG, if_neg (by omega)] at hgx
      obtain ⟨n', hor, hn'⟩ := num_or n j x.toNat hj9 hal
      have HN := Lib.hid hn'
      clear hn' hx hjl hg ha
      generalize x.toNat = b at *
      by_cases h128 : 128 ≤ b
      · rw [if_pos h128] at hgx
        have HG := Lib.hid hgx
        have HA := Lib.hid hal
        have h128i : (128 : Int) ≤ (b : Int) := by omega
        clear hgx hal
        go_wp2
        go_round
        case rel =>
          refine ⟨j + 1, _, n', hlt, by go_num, rfl, HG, Lib.hid fun h9 => ?_⟩
          have hp : 128 ^ j ≤ 128 ^ 8 := Nat.pow_le_pow_right (by decide) (by omega)
          have h1 : b % 128 * 128 ^ j ≤ 127 * 128 ^ j := Nat.mul_le_mul_right _ (by omega)
          have e := HN.out (by omega)
          refine ⟨e, ?_⟩
          have := HA.out
          rw [pow_step]
          omega
        case measure => simp [intOf]; omega
      · rw [if_neg h128] at hgx
        by_cases hbad : (0 < j ∧ b = 0) ∨ (j = 9 ∧ 1 < b)
        · rw [if_pos hbad] at hgx
          simp only [Prod.mk.injEq] at hgx
          obtain ⟨rfl, rfl, rfl⟩ := hgx
          rcases hbad with ⟨h0, hz⟩ | ⟨h9, h1⟩
          · have hb0 : ((b : Int) == 0) = true := by rw [beq_iff_eq]; omega
            have hb1 : (b : Int) < 128 := by omega
            clear hal hz
            go_wp2
            go_ret3
            exact ⟨rfl, rfl⟩
          · have hb1 : (1 : Int) < (b : Int) := by omega
            have hb0 : ((b : Int) == 0) = false := by rw [beq_eq_false_iff_ne]; omega
            have hj9 : ((j : Int) == 9) = true := by rw [beq_iff_eq]; omega
            have hj0 : 0 < j := by omega
            clear hal h9
            go_wp2
            go_ret3
            exact ⟨rfl, rfl⟩
        · rw [if_neg hbad] at hgx
          simp only [Prod.mk.injEq] at hgx
          have hb : b % 128 * 128 ^ j < 18446744073709551616 := by
            by_cases h9 : j = 9
            · subst h9
              have : b % 128 ≤ 1 := by omega
              have := Nat.mul_le_mul_right (128 ^ 9) this
              omega
            · have hp : 128 ^ j ≤ 128 ^ 8 := Nat.pow_le_pow_right (by decide) (by omega)
              have h1 : b % 128 * 128 ^ j ≤ 127 * 128 ^ j := Nat.mul_le_mul_right _ (by omega)
              omega
          have e := HN.out hb
          rw [Nat.mod_eq_of_lt (by omega : b < 128)] at e
          have HV : Hid (v = n' ∧ sz = j + 1 ∧ f = 0) := Lib.hid ⟨by rw [e]; exact hgx.1.symm, hgx.2.1.symm, hgx.2.2.symm⟩
          have hcase : j = 0 ∨ (0 < j ∧ j = 9 ∧ ¬ b = 0 ∧ b ≤ 1) ∨ (0 < j ∧ ¬ j = 9 ∧ ¬ b = 0) := by omega
          clear hbad hb hal e hgx
          rcases hcase with q0 | ⟨q1, q2, q3, q4⟩ | ⟨q1, q2, q3⟩
          · have hj9b : ((j : Int) == 9) = false := by rw [beq_eq_false_iff_ne]; omega
            have hj0 : ¬ 0 < j := by omega
            clear q0
            go_wp2
            go_ret3
            exact ⟨by obtain ⟨h1, h2, h3⟩ := HV.out; rw [h1, h2, h3]; rfl, rfl⟩
          · have hb1 : (b : Int) ≤ 1 := by omega
            have hb0 : ((b : Int) == 0) = false := by rw [beq_eq_false_iff_ne]; omega
            have hj9b : ((j : Int) == 9) = true := by rw [beq_iff_eq]; omega
            clear q2
            go_wp2
            go_ret3
            exact ⟨by obtain ⟨h1, h2, h3⟩ := HV.out; rw [h1, h2, h3]; rfl, rfl⟩
          · have hj9b : ((j : Int) == 9) = false := by rw [beq_eq_false_iff_ne]; omega
            have hb0 : ((b : Int) == 0) = false := by rw [beq_eq_false_iff_ne]; omega
            go_wp2
            go_ret3
            exact ⟨by obtain ⟨h1, h2, h3⟩ := HV.out; rw [h1, h2, h3]; rfl, rfl⟩
    · obtain rfl : j = m := by omega
      have hgx := hg.out
      have hmm := HM.out
      by_cases h10 : s.size < 10
      · rw [List.drop_eq_nil_of_le (by rw [size_list]; omega), numG, if_pos (by omega)] at hgx
        simp only [Prod.mk.injEq] at hgx
        obtain ⟨rfl, rfl, rfl⟩ := hgx
        clear hmm
        go_wp2
        go_ret3
        exact ⟨rfl, rfl⟩
      · have h10j : j = 10 := by omega
        have hz : v = 0 ∧ sz = 0 ∧ f = 7 := by
          subst h10j
          cases hd : s.data.toList.drop 10 with
          | nil => rw [hd, numG] at hgx; simpa [eq_comm] using hgx
          | cons x r => rw [hd, numG, if_pos rfl] at hgx; simpa [eq_comm] using hgx
        obtain ⟨rfl, rfl, rfl⟩ := hz
        clear hmm hgx h10j
        go_wp2
        go_ret3
        exact ⟨rfl, rfl⟩
end Go.Proofs.Ythnoegipadnmeaa
