/- Contracts: steps and sums, by the document's answer. -/
import Derived.Test.YthnoegipadnmeaaProg
import Derived.Test.YthnoegipadnmeaaCrcR
import Derived.Test.YthnoegipadnmeaaMake
import Derived.Test.YthnoegipadnmeaaTextAt
import Derived.WalkSpells
import Derived.Laws.BitsAllLaws
import Derived.Outline
namespace Go.Proofs.Ythnoegipadnmeaa
open Go.RowKit

/-- A row of bits as a value. -/
def w32 (c : BitVec 32) : Value := .int .u32 (c.toNat : Int)
theorem bx (a b : BitVec 32) : bits .xor .u32 (a.toNat : Int) (b.toNat : Int) = ((a ^^^ b).toNat : Int) := by
  rw [u32_xor_nat _ _ a.isLt b.isLt, BitVec.toNat_xor]
theorem bx_ones (a : BitVec 32) : bits .xor .u32 (a.toNat : Int) 4294967295 = ((a ^^^ ones).toNat : Int) := bx a ones
theorem bx_poly (a : BitVec 32) : bits .xor .u32 (a.toNat : Int) 3988292384 = ((a ^^^ crcPoly).toNat : Int) := bx a crcPoly
theorem bt_nat (x : UInt8) : (bt x).toNat = x.toNat := by
  unfold bt
  rw [BitVec.toNat_ofNat]
  have := x.toNat_lt
  omega
theorem bx_byte (a : BitVec 32) (x : UInt8) : bits .xor .u32 (a.toNat : Int) (x.toNat : Int) = ((a ^^^ bt x).toNat : Int) := by
  rw [← bx, bt_nat]
theorem half_nat (c : BitVec 32) : (c >>> 1).toNat = c.toNat / 2 := by
  rw [BitVec.toNat_ushiftRight, Nat.shiftRight_eq_div_pow]
theorem half_int (c : BitVec 32) : (c.toNat : Int) / (2 : Int) = ((c >>> 1).toNat : Int) := by rw [half_nat]; omega
theorem bit_int (c : BitVec 32) (i : Nat) : ((c.toNat : Int) / 2 ^ i % 2 == 1) = c.getLsbD i := by
  have e : (c.toNat : Int) / 2 ^ i % 2 = ((c.toNat / 2 ^ i % 2 : Nat) : Int) := by simp
  rw [e]
  show _ = c.toNat.testBit i
  rw [Nat.testBit_eq_decide_div_mod_eq]
  rw [Bool.eq_iff_iff]
  simp
  omega
theorem bit_tmod (c : BitVec 32) (i : Nat) : (((c.toNat : Int) / 2 ^ i).tmod 2 == 1) = c.getLsbD i := by
  rw [Int.tmod_eq_emod_of_nonneg (Int.ediv_nonneg (by omega) (Int.pow_nonneg (by decide))), bit_int]
theorem bit0_int (c : BitVec 32) : ((c.toNat : Int) % 2 == 1) = c.getLsbD 0 := by
  have := bit_int c 0
  simpa using this
theorem rhalf_any (c : BitVec 32) (w : World) : Calls Try.prog 68 #[.int .u32 (c.toNat : Int)] w fun e w' => e = .returned (.int .u32 ((hf c).toNat : Int)) ∧ w = w' := by
  have hb := bit0_int c
  have hi := half_int c
  have hp := bx_poly (c >>> 1)
  rw [← hi] at hp
  have hlt := c.isLt
  cases hc : c.getLsbD 0
  · rw [hc] at hb
    have e : ((c.toNat : Int) / 2) = ((hf c).toNat : Int) := by rw [hi]; unfold hf; rw [hc]; simp
    clear hp hi hc
    generalize c.toNat = n at *
    generalize (hf c).toNat = m at *
    go_enter Try.func68, Try.ntmps68
    go_wp2
    go_ret
    exact ⟨rfl, rfl⟩
  · rw [hc] at hb
    have e : ((c >>> 1) ^^^ crcPoly) = hf c := by unfold hf; rw [hc]; simp
    rw [e] at hp
    clear e hi hc
    generalize c.toNat = n at *
    generalize (hf c).toNat = m at *
    go_enter Try.func68, Try.ntmps68
    go_wp2
    go_ret
    exact ⟨by rw [← hp]; rfl, rfl⟩
theorem rmore_any (c : BitVec 32) (s : ByteArray) (hs : s.size ≤ 140737488351232) (w : World) : Calls Try.prog 58 #[.int .u32 (c.toNat : Int), .string s] w fun e w' => e = .returned (.int .u32 ((moreC c s.data.toList).toNat : Int)) ∧ w = w' := by
  have h0 := bx_ones c
  have HS := Lib.hid (fun j x (h : s.data.toList[j]? = some x) => rowC_step (c ^^^ ones) s.data.toList j x h)
  have HE : Hid (moreC c s.data.toList = rowC (c ^^^ ones) s.data.toList ^^^ ones) := Lib.hid rfl
  have HZ : Hid (rowC (c ^^^ ones) (s.data.toList.take 0) = c ^^^ ones) := Lib.hid rfl
  have HL := Lib.hid (size_list s)
  generalize rowC (c ^^^ ones) = R at *
  generalize c ^^^ ones = c0 at *
  go_enter Try.func58, Try.ntmps58
  go_wp2
  go_loop [0, 5] (fun cv iv => ∃ j : Nat, j ≤ s.size ∧ iv = .int .i64 (j : Int) ∧ cv = w32 (R (s.data.toList.take j))) (fun _ iv => s.size - (intOf iv).toNat)
  case atStart => exact ⟨0, Nat.zero_le _, rfl, by rw [HZ.out]; rfl⟩
  case round =>
    obtain ⟨j, hj, rfl, rfl⟩ := hrel
    by_cases hlt : j < s.size
    · obtain ⟨x, hx⟩ : ∃ x, s.data.toList[j]? = some x := ⟨_, byte_at s j hlt⟩
      have hix := fun u => index_text s j x hx u
      have hbx := bx_byte (R (s.data.toList.take j)) x
      have HSj := Lib.hid (HS.out j x hx)
      have hx8 := x.toNat_lt
      clear hx
      have HD : Hid (R (s.data.toList.take (j + 1)) = hfN 8 (R (s.data.toList.take j) ^^^ bt x)) := HSj
      unfold w32
      generalize (R (s.data.toList.take j) ^^^ bt x) = D at *
      generalize (R (s.data.toList.take j)).toNat = n at *
      generalize x.toNat = b at *
      go_wp2
      go_loop [0, 6] (fun cv kv => ∃ k : Nat, k ≤ 8 ∧ kv = .int .i64 (k : Int) ∧ cv = .int .u32 ((hfN k D).toNat : Int)) (fun _ kv => 8 - (intOf kv).toNat)
      case atStart => exact ⟨0, Nat.zero_le _, rfl, rfl⟩
      case round =>
        obtain ⟨k, hk, rfl, rfl⟩ := hrel
        by_cases hk8 : k < 8
        · have HN := Lib.hid (hfN_succ k D)
          have HC := Lib.hid (rhalf_any (hfN k D))
          generalize (hfN k D).toNat = m at *
          go_wp2_with (go_at_call 68; refine (HC.out _).mono ?_; rintro e w1 ⟨rfl, rfl⟩)
          go_round
          case rel => exact ⟨k + 1, by omega, by go_num, by rw [HN.out]⟩
          case measure => simp [intOf]; omega
        · obtain rfl : k = 8 := by omega
          rw [← HD.out]
          go_wp2
          go_round
          case rel => exact ⟨j + 1, by omega, by go_num, rfl⟩
          case measure => simp [intOf]; omega
    · obtain rfl : j = s.size := by omega
      have ht := List.take_of_length_le (show s.data.toList.length ≤ s.size by rw [HL.out]; exact Nat.le_refl _)
      rw [ht]
      clear ht
      have h1 := bx_ones (R s.data.toList)
      rw [← HE.out] at h1
      unfold w32
      generalize (R s.data.toList).toNat = n at *
      go_wp2
      go_ret
      exact ⟨rfl, rfl⟩
theorem rsum_any (s : ByteArray) (hs : s.size ≤ 140737488351232) (w : World) : Calls Try.prog 45 #[.string s] w fun e w' => e = .returned (.int .u32 ((moreC 0#32 s.data.toList).toNat : Int)) ∧ w = w' := by
  have HM := Lib.hid (fun u => (show Calls Try.prog 58 #[.int .u32 0, .string s] u fun e w' => e = .returned (.int .u32 ((moreC 0#32 s.data.toList).toNat : Int)) ∧ u = w' from rmore_any 0#32 s hs u))
  go_enter Try.func45, Try.ntmps45
  go_wp2_with (go_at_call 58; refine (HM.out _).mono ?_; rintro e w1 ⟨rfl, rfl⟩)
  go_ret
  exact ⟨rfl, rfl⟩
end Go.Proofs.Ythnoegipadnmeaa
