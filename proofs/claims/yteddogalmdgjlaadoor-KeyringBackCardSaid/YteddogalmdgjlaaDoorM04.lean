/- Contracts: bytes read as numbers, by the program. Contracts: bytes read as numbers, by the document's answer. -/
import Derived.Test.YteddogalmdgjlaaDoorProg
import Derived.Test.YteddogalmdgjlaaDoorBytes
import Derived.WalkSpells
import Derived.Laws.BitsAllLaws
section
namespace Go.Proofs.YteddogalmdgjlaaDoor
open Go.RowKit

/-- k bytes of s from a on. -/
def sub (s : ByteArray) (a k : Nat) : List UInt8 := (s.data.toList.drop a).take k
theorem sub_zero (s : ByteArray) (a : Nat) : sub s a 0 = [] := by simp [sub]
theorem sub_length (s : ByteArray) (a k : Nat) (h : a + k ≤ s.size) : (sub s a k).length = k := by
  have : s.data.toList.length = s.size := by rw [Array.length_toList]; rfl
  simp only [sub, List.length_take, List.length_drop]; omega
theorem sub_snoc (s : ByteArray) (a k : Nat) (h : a + k < s.size) : sub s a (k + 1) = sub s a k ++ [s[a + k]] := by
  have hl : s.data.toList.length = s.size := by rw [Array.length_toList]; rfl
  unfold sub
  rw [List.take_succ_eq_append_getElem (by simp only [List.length_drop]; omega)]
  simp
  rfl
theorem num_sub_snoc (s : ByteArray) (a k : Nat) (h : a + k < s.size) : num (sub s a (k + 1)) = num (sub s a k) * 256 + s[a + k].toNat := by rw [sub_snoc s a k h, num_snoc]
/-- The number that stands in k bytes of s from a on; 0, if they are not all there. -/
def getv (s : ByteArray) (a : Int) (k : Nat) : Nat := if 0 ≤ a ∧ a ≤ (s.size : Int) - k then num (sub s a.toNat k) else 0
def gets (s : ByteArray) (a : Int) (k : Nat) : Bool := if 0 ≤ a ∧ a ≤ (s.size : Int) - k then true else false
theorem getv_yes {s : ByteArray} {b k : Nat} (h : 0 ≤ (b : Int) ∧ (b : Int) ≤ (s.size : Int) - k) : getv s b k = num (sub s b k) := by unfold getv; rw [if_pos h]; rfl
theorem gets_yes {s : ByteArray} {a : Int} {k : Nat} (h : 0 ≤ a ∧ a ≤ (s.size : Int) - k) : gets s a k = true := by unfold gets; rw [if_pos h]
theorem getv_no {s : ByteArray} {a : Int} {k : Nat} (h : ¬ (0 ≤ a ∧ a ≤ (s.size : Int) - k)) : getv s a k = 0 := by unfold getv; rw [if_neg h]
theorem gets_no {s : ByteArray} {a : Int} {k : Nat} (h : ¬ (0 ≤ a ∧ a ≤ (s.size : Int) - k)) : gets s a k = false := by unfold gets; rw [if_neg h]

theorem or_add (m c : Nat) (hc : c < 256) : m * 256 ||| c = m * 256 + c := by
  have := Nat.two_pow_add_eq_or_of_lt (i := 8) (b := c) hc m
  rw [Nat.mul_comm] at this
  exact this.symm
theorem pow_le (j : Nat) (n : Nat) (h : j ≤ n) : 256 ^ j ≤ 256 ^ n := Nat.pow_le_pow_right (by decide) h
theorem u64_or_step {s : ByteArray} {a j k m : Nat} (hk : k ≤ 8) (hlt : j < k) (hi : a + j < s.size) (hm : m = num (sub s a j)) :
    Value.int .u64 (bits BinOp.or .u64 (IntKind.u64.wrap ((m : Int) * 256)) (IntKind.u64.wrap (s[a + j].toNat : Int))) = Value.int .u64 ((num (sub s a (j + 1)) : Nat) : Int) := by
  have hl := num_lt j (sub s a j) (sub_length s a j (by omega))
  have hp := pow_le j 7 (by omega)
  have hc := s[a + j].toNat_lt
  have e1 : IntKind.u64.wrap ((m : Int) * 256) = ((m * 256 : Nat) : Int) := by have := u64_nat (x := m * 256) (by omega); simpa using this
  have e2 := u64_nat (x := s[a + j].toNat) (by omega)
  rw [e1, e2, u64_or_nat _ _ (by omega) (by omega), or_add _ _ hc, num_sub_snoc _ _ _ hi, hm]
theorem u32_nat {x : Nat} (h : x < 2 ^ 32) : IntKind.u32.wrap (x : Int) = (x : Int) := IntWalk.u32_in _ ⟨by omega, by omega⟩
theorem u32_or_step {s : ByteArray} {a j k m : Nat} (hk : k ≤ 4) (hlt : j < k) (hi : a + j < s.size) (hm : m = num (sub s a j)) :
    Value.int .u32 (bits BinOp.or .u32 (IntKind.u32.wrap ((m : Int) * 256)) (IntKind.u32.wrap (s[a + j].toNat : Int))) = Value.int .u32 ((num (sub s a (j + 1)) : Nat) : Int) := by
  have hl := num_lt j (sub s a j) (sub_length s a j (by omega))
  have hp := pow_le j 3 (by omega)
  have hc := s[a + j].toNat_lt
  have e1 : IntKind.u32.wrap ((m : Int) * 256) = ((m * 256 : Nat) : Int) := by have := u32_nat (x := m * 256) (by omega); simpa using this
  have e2 := u32_nat (x := s[a + j].toNat) (by omega)
  rw [e1, e2, u32_or_nat _ _ (by omega) (by omega), or_add _ _ hc, num_sub_snoc _ _ _ hi, hm]
theorem u64_add_step {s : ByteArray} {a j k m : Nat} (hk : k ≤ 8) (hlt : j < k) (hi : a + j < s.size) (hm : m = num (sub s a j)) :
    Value.int .u64 (IntKind.u64.wrap (IntKind.u64.wrap ((m : Int) * 256) + IntKind.u64.wrap (s[a + j].toNat : Int))) = Value.int .u64 ((num (sub s a (j + 1)) : Nat) : Int) := by
  have hl := num_lt j (sub s a j) (sub_length s a j (by omega))
  have hp := pow_le j 7 (by omega)
  have hc := s[a + j].toNat_lt
  have e1 : IntKind.u64.wrap ((m : Int) * 256) = ((m * 256 : Nat) : Int) := by have := u64_nat (x := m * 256) (by omega); simpa using this
  have e2 := u64_nat (x := s[a + j].toNat) (by omega)
  have e3 := u64_nat (x := m * 256 + s[a + j].toNat) (by omega)
  rw [e1, e2, num_sub_snoc _ _ _ hi, ← hm, ← e3]
  rfl

theorem get32_yes (s : ByteArray) (a k : Nat) (hk : k ≤ 4) (h : a + k ≤ s.size) (hs : s.size ≤ 140737488351232) (w : World) :
    Calls Tryd.prog 40 #[.string s, .int .i64 (a : Int), .int .i64 (k : Int)] w fun e w' => e = .returned (.tuple #[.int .u32 (num (sub s a k) : Int), .bool true]) ∧ w = w' := by
  go_enter Tryd.func40, Tryd.ntmps40
  go_wp2
  go_loop [8, 21] (fun n i => ∃ j : Nat, j ≤ k ∧ i = .int .i64 j ∧ n = .int .u32 (num (sub s a j) : Int)) (fun _ i => k - (intOf i).toNat)
  case atStart => exact ⟨0, Nat.zero_le _, rfl, by simp [sub_zero, num]⟩
  case round =>
    obtain ⟨j, hj, rfl, rfl⟩ := hrel
    by_cases hlt : j < k
    · obtain ⟨m, hm⟩ : ∃ m : Nat, m = num (sub s a j) := ⟨_, rfl⟩
      rw [← hm]
      have Hm := Lib.hid hm; clear hm
      have hi : a + j < s.size := by omega
      go_wp2
      go_round
      case rel => exact ⟨j + 1, by omega, by go_num, u32_or_step hk hlt hi Hm.out⟩
      case measure => simp [intOf]; omega
    · obtain rfl : j = k := by omega
      go_wp2
      go_ret2
      exact ⟨rfl, rfl⟩
theorem get32_no (s : ByteArray) (a : Int) (k : Nat) (hk : k ≤ 4) (h : a < 0 ∨ (s.size : Int) - k < a) (hs : s.size ≤ 140737488351232) (w : World) :
    Calls Tryd.prog 40 #[.string s, .int .i64 a, .int .i64 (k : Int)] w fun e w' => e = .returned (.tuple #[.int .u32 0, .bool false]) ∧ w = w' := by
  by_cases h0 : a < 0
  all_goals
    go_enter Tryd.func40, Tryd.ntmps40
    go_wp2
    go_ret2
    exact ⟨rfl, rfl⟩
theorem get32_any (s : ByteArray) (a : Int) (k : Nat) (hk : k ≤ 4) (hs : s.size ≤ 140737488351232) (w : World) :
    Calls Tryd.prog 40 #[.string s, .int .i64 a, .int .i64 (k : Int)] w fun e w' => e = .returned (.tuple #[.int .u32 (getv s a k : Int), .bool (gets s a k)]) ∧ w = w' := by
  by_cases h : 0 ≤ a ∧ a ≤ (s.size : Int) - k
  · obtain ⟨b, rfl⟩ : ∃ b : Nat, a = (b : Int) := ⟨a.toNat, by omega⟩
    rw [getv_yes h, gets_yes h]
    exact get32_yes s b k hk (by omega) hs w
  · rw [getv_no h, gets_no h]
    exact get32_no s a k hk (by omega) hs w

theorem Get32_any (s : ByteArray) (a : Int) (hs : s.size ≤ 140737488351232) (w : World) :
    Calls Tryd.prog 27 #[.string s, .int .i64 a] w fun e w' => e = .returned (.tuple #[.int .u32 (getv s a 4 : Int), .bool (gets s a 4)]) ∧ w = w' := by
  go_enter Tryd.func27, Tryd.ntmps27
  go_wp2_with (go_at_call 40; refine (get32_any s a 4 (by omega) hs _).mono ?_; rintro e w1 ⟨rfl, rfl⟩)
  go_ret2
  exact ⟨rfl, rfl⟩
end Go.Proofs.YteddogalmdgjlaaDoor
end

section
namespace Go.Proofs.YteddogalmdgjlaaDoor
open Go.RowKit

theorem rGet_yes (s : ByteArray) (a k : Nat) (hk : k ≤ 8) (h : a + k ≤ s.size) (hs : s.size ≤ 140737488351232) (w : World) :
    Calls Tryd.prog 29 #[.string s, .int .i64 (a : Int), .int .i64 (k : Int)] w fun e w' => e = .returned (.tuple #[.int .u64 (num (sub s a k) : Int), .bool true]) ∧ w = w' := by
  go_enter Tryd.func29, Tryd.ntmps29
  go_wp2
  go_loop [8, 9] (fun n i => ∃ j : Nat, j ≤ k ∧ i = .int .i64 j ∧ n = .int .u64 (num (sub s a j) : Int)) (fun _ i => k - (intOf i).toNat)
  case atStart => exact ⟨0, Nat.zero_le _, rfl, by simp [sub_zero, num]⟩
  case round =>
    obtain ⟨j, hj, rfl, rfl⟩ := hrel
    by_cases hlt : j < k
    · obtain ⟨m, hm⟩ : ∃ m : Nat, m = num (sub s a j) := ⟨_, rfl⟩
      rw [← hm]
      have Hm := Lib.hid hm; clear hm
      have hi : a + j < s.size := by omega
      go_wp2
      go_round
      case rel => exact ⟨j + 1, by omega, by go_num, u64_add_step hk hlt hi Hm.out⟩
      case measure => simp [intOf]; omega
    · obtain rfl : j = k := by omega
      go_wp2
      go_ret2
      exact ⟨rfl, rfl⟩
theorem rGet_no (s : ByteArray) (a : Int) (k : Nat) (hk : k ≤ 8) (h : a < 0 ∨ (s.size : Int) - k < a) (hs : s.size ≤ 140737488351232) (w : World) :
    Calls Tryd.prog 29 #[.string s, .int .i64 a, .int .i64 (k : Int)] w fun e w' => e = .returned (.tuple #[.int .u64 0, .bool false]) ∧ w = w' := by
  by_cases h0 : a < 0
  all_goals
    go_enter Tryd.func29, Tryd.ntmps29
    go_wp2
    go_ret2
    exact ⟨rfl, rfl⟩
theorem rGet_any (s : ByteArray) (a : Int) (k : Nat) (hk : k ≤ 8) (hs : s.size ≤ 140737488351232) (w : World) :
    Calls Tryd.prog 29 #[.string s, .int .i64 a, .int .i64 (k : Int)] w fun e w' => e = .returned (.tuple #[.int .u64 (getv s a k : Int), .bool (gets s a k)]) ∧ w = w' := by
  by_cases h : 0 ≤ a ∧ a ≤ (s.size : Int) - k
  · obtain ⟨b, rfl⟩ : ∃ b : Nat, a = (b : Int) := ⟨a.toNat, by omega⟩
    rw [getv_yes h, gets_yes h]
    exact rGet_yes s b k hk (by omega) hs w
  · rw [getv_no h, gets_no h]
    exact rGet_no s a k hk (by omega) hs w
end Go.Proofs.YteddogalmdgjlaaDoor
end
