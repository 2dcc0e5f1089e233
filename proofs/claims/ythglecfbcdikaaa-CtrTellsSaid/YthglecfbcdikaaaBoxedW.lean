/- Contracts: a word, each byte of it boxed, by the program. -/
import Derived.Test.YthglecfbcdikaaaKw
import Derived.Test.YthglecfbcdikaaaBlkAdd
import Derived.Outline
namespace Go.Proofs.Ythglecfbcdikaaa
open Go.RowKit
theorem pow8_le {j : Nat} (h : j < 4) : 2 ^ (8 * j) ≤ 16777216 := by
  have : 2 ^ (8 * j) ≤ 2 ^ 24 := Nat.pow_le_pow_right (by decide) (by omega)
  simpa using this
set_option maxRecDepth 100000 in
set_option maxHeartbeats 1000000 in
theorem boxedWord_any (w : World) (k o n : Nat) (_hn : n < 4294967296) (hb : Bytes w k o boxT) :
    Calls Try.prog 48 #[.pointer (some ⟨k, o, none⟩), .int .u32 (n : Int)] w fun e w' => e = .returned (.int .u32 (bw n 4 : Nat)) ∧ ∃ q, w' = w.drewN q := by
  have HB := Lib.hid hb
  clear hb
  go_enter Try.func48, Try.ntmps48
  go_wp2
  go_loopw [7, 5] (fun i r wr => ∃ j : Nat, j ≤ 4 ∧ i = .int .i64 j ∧ r = .int .u32 (bw n j : Nat) ∧ (∃ q, wr = w.drewN q)) (fun i _ _ => 4 - (intOf i).toNat)
  case atStart => exact ⟨0, Nat.zero_le _, rfl, rfl, 0, rfl⟩
  case round =>
    obtain ⟨j, hj, rfl, rfl, q, rfl⟩ := hrel
    by_cases hlt : j < 4
    · obtain ⟨m, hm⟩ : ∃ m : Nat, 8 * (j : Int) = (m : Int) := ⟨8 * j, by omega⟩
      have hm2 : 8 * j = m := by omega
      have hm3 : m ≤ 24 := by omega
      have hmi : (m : Int) < 32 := by omega
      have hp := pow8_le hlt
      have hbl := bw_lt n j
      have hsucc : bw n (j + 1) = bw n j ||| (boxB (UInt8.ofNat (n / 2 ^ (8 * j)))).toNat * 2 ^ (8 * j) := rfl
      rw [hm2] at hp hbl hsucc
      have hwm : IntKind.i64.wrap (m : Int) = (m : Int) := IntWalk.i64_in _ ⟨by omega, by omega⟩
      obtain ⟨t, ht⟩ : ∃ t : Nat, t = n / 2 ^ m % 256 := ⟨_, rfl⟩
      have htl : t < 256 := by omega
      have hti : (t : Int) < 256 := by omega
      have hcell : w.cell? ⟨k, o + t, none⟩ = some (.int .u8 ((boxB (UInt8.ofNat (n / 2 ^ m))).toNat : Int)) := by
        have h1 := HB.out t _ (boxT_at _ htl)
        have e : UInt8.ofNat t = UInt8.ofNat (n / 2 ^ m) := UInt8.toNat_inj.1 (by rw [UInt8.toNat_ofNat', UInt8.toNat_ofNat']; omega)
        rw [e] at h1
        exact h1
      have hx := (boxB (UInt8.ofNat (n / 2 ^ m))).toNat_lt
      generalize (boxB (UInt8.ofNat (n / 2 ^ m))).toNat = x at *
      have hd : (n : Int) / 2 ^ m = ((n / 2 ^ m : Nat) : Int) := by simp
      have hw8 : IntKind.u8.wrap ((n : Int) / 2 ^ m) = (t : Int) := by rw [hd, IntKind.wrap_u8]; omega
      have hm8 : ((n : Int) / 2 ^ m) % 256 = (t : Int) := by rw [hd]; omega
      clear hd
      have hxw : IntKind.u32.wrap (x : Int) = (x : Int) := IntWalk.u32_in _ ⟨by omega, by omega⟩
      have hxm : x * 2 ^ m < 4294967296 := by
        have : x * 2 ^ m ≤ 255 * 16777216 := Nat.mul_le_mul (by omega) hp
        omega
      have hxs : ((x : Int) * 2 ^ m) % 4294967296 = ((x * 2 ^ m : Nat) : Int) := by
        have e : (x : Int) * 2 ^ m = ((x * 2 ^ m : Nat) : Int) := by simp
        rw [e]; omega
      have hor := u32_or_nat (bw n j) (x * 2 ^ m) (by omega) hxm
      have HS := Lib.hid hsucc; have HM := Lib.hid hm2; have HT := Lib.hid ht
      clear hsucc hm2 ht hp
      go_wp2
      go_quiet (fail)
      go_wp2
      go_roundw
      case rel => exact ⟨j + 1, by omega, by go_num, by rw [HS.out]; first | rfl | exact int_eq hor, _, rfl⟩
      case measure => simp [intOf]; omega
    · obtain rfl : j = 4 := by omega
      go_wp2
      go_ret
      exact ⟨rfl, q, rfl⟩
end Go.Proofs.Ythglecfbcdikaaa
