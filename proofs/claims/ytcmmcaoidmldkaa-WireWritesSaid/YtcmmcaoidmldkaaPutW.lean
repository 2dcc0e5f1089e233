/- Contracts: what each brick writes to a builder. -/
import Derived.Test.YtcmmcaoidmldkaaWireL
import Derived.Test.YtcmmcaoidmldkaaBuilderB
import Derived.Laws.BitsAllLaws
import Derived.IntWalk
import Derived.Outline
namespace Go.Proofs.Ytcmmcaoidmldkaa
open Go.RowKit
attribute [local irreducible] wnF

theorem or_high (m : Nat) (h : m < 256) : m ||| 128 = m % 128 + 128 := by
  have e : m ||| 128 = m % 128 ||| 128 := by
    apply Nat.eq_of_testBit_eq
    intro i
    have e7 : ∀ i, Nat.testBit 128 i = decide (7 = i) := fun i => by rw [show 128 = 2 ^ 7 by rfl, Nat.testBit_two_pow]
    rw [Nat.testBit_or, Nat.testBit_or, e7, show m % 128 = m % 2 ^ 7 by rfl, Nat.testBit_mod_two_pow]
    by_cases h7 : 7 = i
    · simp [h7]
    · by_cases hi : i < 7
      · simp [hi]
      · have : m.testBit i = false := Nat.testBit_lt_two_pow (Nat.lt_of_lt_of_le h (by exact Nat.pow_le_pow_right (n := 2) (by decide) (show 8 ≤ i by omega)))
        simp [this]
  have e2 := Nat.shiftLeft_add_eq_or_of_lt (show m % 128 < 2 ^ 7 by omega) 1
  rw [e, Nat.or_comm]
  have e3 : (1 <<< 7 : Nat) = 128 := rfl
  rw [e3] at e2
  omega
theorem or_u8 (m : Nat) : bits BinOp.or IntKind.u8 ((m : Int) % 256) 128 = ((UInt8.ofNat (m % 128 + 128)).toNat : Int) := by
  rw [ofNat_toNat _ (by omega)]
  have e : (m : Int) % 256 = ((m % 256 : Nat) : Int) := by omega
  have h := u8_or_nat (m % 256) 128 (by omega) (by omega)
  rw [or_high _ (by omega)] at h
  rw [e]
  refine Eq.trans h ?_
  congr 1
  omega
set_option maxRecDepth 100000 in
set_option maxHeartbeats 1000000 in
theorem putUint_any (B b : Nat) (l : List UInt8) (n : Nat) (hn : n < 18446744073709551616) (w : World) (h : IsB w B b l) (hlen : l.length ≤ 1000000) (hBw : B ≤ w.heap.size) :
    Calls Try.prog 30 #[.pointer (some ⟨b, 0, none⟩), .int .u64 (n : Int)] w fun e w' => e = .returned (.tuple #[]) ∧ IsB w' B b (l ++ wn n) ∧ Below B w w' := by
  have HB := Lib.hid h; have HL := Lib.hid hlen; have HS := Lib.hid hBw; have HN := Lib.hid hn
  clear h hlen hn
  go_enter Try.func30, Try.ntmps30
  go_wp2
  go_loopw [1] (fun v wr => ∃ (k m : Nat) (z : List UInt8), v = .int .u64 (m : Int) ∧ Hid (z ++ wnF k m = wn n ∧ m < 2 * 128 ^ k ∧ m < 18446744073709551616 ∧ z.length ≤ 9 - k ∧ k ≤ 9) ∧ Hid (IsB wr B b (l ++ z)) ∧ Hid (Below B w wr)) (fun v _ => (intOf v).toNat)
  case atStart => exact ⟨9, n, [], rfl, Lib.hid ⟨rfl, by have := HN.out; omega, HN.out, by simp, by omega⟩, Lib.hid (by rw [List.append_nil]; exact HB.out), Lib.hid (Below.refl _ _)⟩
  case round =>
    obtain ⟨k, m, z, rfl, hk, hb, hx⟩ := hrel
    obtain ⟨hz, hm, hm64, hzl, hk9⟩ := hk.out
    clear hk
    by_cases h128 : m < 128
    · have h128i : (m : Int) < 128 := by omega
      rw [wnF_low _ _ h128] at hz
      have HZ := Lib.hid hz
      clear hz
      have hx1 : (m : Int) = ((UInt8.ofNat m).toNat : Int) := by rw [ofNat_toNat _ (by omega)]
      generalize UInt8.ofNat m = c at *
      have HX1 := Lib.hid hx1
      have hl1 : (l ++ z).length + 1 ≤ 140737488355328 := by have := HL.out; rw [List.length_append]; omega
      have HL1 := Lib.hid hl1
      clear hx1 hl1
      go_wp2_with (go_at_call 50; refine (byte_b B b (l ++ z) _ c HX1.out _ hb.out HL1.out (Nat.le_trans HS.out hx.out.size)).mono ?_; rintro e w2 ⟨rfl, hb2, x2⟩; have HB2 := Lib.hid hb2; have X2 := Lib.hid x2; clear hb2 x2)
      go_end0
      exact ⟨rfl, by rw [← HZ.out, ← List.append_assoc]; exact HB2.out, hx.out.trans X2.out⟩
    · obtain ⟨k', rfl⟩ : ∃ k', k = k' + 1 := by
        cases k with
        | zero => simp at hm; omega
        | succ k' => exact ⟨k', rfl⟩
      rw [wnF_high _ _ h128] at hz
      have h128i : ¬ (m : Int) < 128 := by omega
      have HZ := Lib.hid hz
      have hor : bits BinOp.or IntKind.u8 ((m : Int) % 256) 128 = ((UInt8.ofNat (m % 128 + 128)).toNat : Int) := by
        exact or_u8 m
      have HO := Lib.hid hor
      clear hz hor
      generalize UInt8.ofNat (m % 128 + 128) = c at *
      have hl1 : (l ++ z).length + 1 ≤ 140737488355328 := by have := HL.out; rw [List.length_append]; omega
      have HL1 := Lib.hid hl1
      clear hl1
      go_wp2_with (go_at_call 50; refine (byte_b B b (l ++ z) _ c HO.out _ hb.out HL1.out (Nat.le_trans HS.out hx.out.size)).mono ?_; rintro e w2 ⟨rfl, hb2, x2⟩; have HB2 := Lib.hid hb2; have X2 := Lib.hid x2; clear hb2 x2)
      go_roundw
      case rel =>
        refine ⟨k', m / 128, z ++ [c], by go_num, Lib.hid ⟨?_, ?_, by omega, ?_, by omega⟩, Lib.hid ?_, Lib.hid (hx.out.trans X2.out)⟩
        · rw [← HZ.out, List.append_assoc, List.singleton_append]
        · rw [pow_step] at hm; omega
        · rw [List.length_append, List.length_singleton]; omega
        · rw [← List.append_assoc]; exact HB2.out
      case measure => simp [intOf]; omega
end Go.Proofs.Ytcmmcaoidmldkaa
