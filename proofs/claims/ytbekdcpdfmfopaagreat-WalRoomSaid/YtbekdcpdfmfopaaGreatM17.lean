/- Contracts: numbers laid into an array's bytes, and read of them, by the program. Plain: bits as values. Contracts: a byte gone over, by the program. Contracts: sums, gone on, by the program. Contracts: a frame's sum, and what stands ahead of a record's text, by the program. Texts spelt as lists: how long; one behind another. -/
import Derived.Test.YtbekdcpdfmfopaaGreatProg
import Derived.Test.YtbekdcpdfmfopaaGreatM00
import Derived.Test.YtbekdcpdfmfopaaGreatM03
import Derived.WalkSpells
import Derived.Laws.BitsAllLaws
import Derived.Test.YtbekdcpdfmfopaaGreatM15
import Derived.Outline
import Derived.Laws.Rows
import Derived.Laws.Tables
import Derived.StillTailTactics
import Derived.BigQuiet
import Derived.Deep.QuietTactic
section
namespace Go.Proofs.YtbekdcpdfmfopaaGreat
open Go.RowKit

theorem Row.at_ {w : World} {g : Nat} {t : TypeId} {l : List UInt8} (h : Row w g t l) (i : Nat) (hi : i < l.length) : ∃ b, l[i]? = some b ∧ w.cell? ⟨g, i, none⟩ = some (.int .u8 (b.toNat : Int)) ∧ w.frozen? ⟨g, i, none⟩ = false :=
  ⟨l[i], List.getElem?_eq_getElem hi, h.cell i _ (List.getElem?_eq_getElem hi), h.frozen i⟩
/-- A number's bytes laid in, the last one first: what stands there after j rounds. -/
def laid (L : List UInt8) (o k n j : Nat) : List UInt8 := L.take (o + (k - j)) ++ be j n ++ L.drop (o + k)
theorem laid_zero (L : List UInt8) (o k n : Nat) : laid L o k n 0 = L := by simp [laid, be]
theorem laid_all (L : List UInt8) (o k n : Nat) : laid L o k n k = L.take o ++ be k n ++ L.drop (o + k) := by simp [laid]
theorem laid_length (L : List UInt8) (o k n j : Nat) (hj : j ≤ k) (h : o + k ≤ L.length) : (laid L o k n j).length = L.length := by
  simp only [laid, List.length_append, be_length, List.length_take, List.length_drop]; omega
theorem laid_succ (L : List UInt8) (o k n j : Nat) (hj : j < k) (h : o + k ≤ L.length) (b : UInt8) (hb : b = UInt8.ofNat (n / 256 ^ j)) : (laid L o k n j).set (o + (k - 1 - j)) b = laid L o k n (j + 1) := by
  subst hb
  unfold laid
  obtain ⟨m, hm⟩ : ∃ m, k - j = m + 1 := ⟨k - j - 1, by omega⟩
  have e1 : k - 1 - j = m := by omega
  have e2 : k - (j + 1) = m := by omega
  rw [e1, e2, hm, List.append_assoc, List.append_assoc, List.set_append_left _ _ (by rw [List.length_take]; omega)]
  rw [show o + (m + 1) = (o + m) + 1 by omega, List.take_add_one, List.getElem?_eq_getElem (show o + m < L.length by omega)]
  rw [Option.toList_some, List.set_append_right _ _ (by rw [List.length_take]; omega), List.length_take, Nat.min_eq_left (by omega), Nat.sub_self]
  simp [be]
theorem lay_any (g o k n c : Nat) (hk : k ≤ 8) (hn : n < 18446744073709551616) (t : TypeId) (L : List UInt8) (hL : o + k ≤ L.length) (w : World) (h : Row w g t L) :
    Calls Tryz.prog 107 #[.slice (some ⟨g, o, none⟩) k c, .int .u64 (n : Int)] w fun e w' => e = .returned (.tuple #[]) ∧ Row w' g t (L.take o ++ be k n ++ L.drop (o + k)) ∧ Below g w w' := by
  go_enter Tryz.func107, Tryz.ntmps107
  go_wp2
  have H0 : Hid (Row w g t (laid L o k n 0)) := Lib.hid (by rw [laid_zero]; exact h)
  go_loopw [1, 4] (fun nv iv wr => ∃ (j m : Nat), j ≤ k ∧ iv = .int .i64 (((k - j : Nat) : Int) - 1) ∧ nv = .int .u64 (m : Int) ∧ m = n / 256 ^ j ∧ Row wr g t (laid L o k n j) ∧ Below g w wr) (fun _ iv _ => (intOf iv + 1).toNat)
  case atStart => exact ⟨0, n, Nat.zero_le _, by simp, rfl, by simp, H0.out, Below.refl _ _⟩
  case round =>
    obtain ⟨j, m, hj, rfl, rfl, hm, hrow, hbe⟩ := hrel
    by_cases hlt : j < k
    · obtain ⟨q, hq⟩ : ∃ q, k - j = q + 1 := ⟨k - j - 1, by omega⟩
      obtain ⟨b0, _, hc, hf⟩ := hrow.at_ (o + q) (by rw [laid_length _ _ _ _ _ hj hL]; omega)
      have hb8 : UInt8.ofNat ((m : Int) % 256).toNat = UInt8.ofNat (n / 256 ^ j) := by
        have e : ((m : Int) % 256).toNat = m % 256 := by omega
        rw [e, hm]
        apply UInt8.toNat_inj.1
        simp
      have HS := Lib.hid (hrow.set_ (o + q) ((m : Int) % 256) (by omega) (by omega))
      rw [hb8, show q = k - 1 - j by omega, laid_succ L o k n j hlt hL _ rfl, show k - 1 - j = q by omega] at HS
      have HB := Lib.hid (hbe.setCell (p := ⟨g, o + q, none⟩) (Nat.le_refl _) (.int .u8 ((m : Int) % 256)))
      have HM : Hid (m / 256 = n / 256 ^ (j + 1)) := Lib.hid (by rw [hm, div_step])
      have hm64 : m < 18446744073709551616 := by rw [hm]; exact Nat.lt_of_le_of_lt (Nat.div_le_self _ _) hn
      have e1 : (((q + 1 : Nat) : Int) - 1) = (q : Int) := by omega
      have Hq := Lib.hid hq
      have hqk : q < k := by omega
      have hqk2 : (q : Int) < (k : Int) := by omega
      rw [hq, e1]
      clear hrow hbe hm hb8 h H0 hq e1
      go_wp2
      go_roundw
      case rel => exact ⟨j + 1, m / 256, by omega, by rw [show k - (j + 1) = q by have := Hq.out; omega], by go_num, HM.out, HS.out, HB.out⟩
      case measure => simp [intOf]
    · obtain rfl : j = k := by omega
      rw [laid_all] at hrow
      have e1 : (((j - j : Nat) : Int) - 1) = -1 := by omega
      rw [e1]
      clear h H0 e1
      go_wp2
      go_end0
      exact ⟨rfl, hrow, hbe⟩
theorem number_step (l : List UInt8) (b : UInt8) (hl : l.length < 8) :
    bits .or .u64 (IntKind.u64.wrap ((num l : Int) * 256)) (b.toNat : Int) = ((num (l ++ [b]) : Nat) : Int) := by
  have h1 := num_lt l.length l rfl
  have hp : 256 ^ l.length ≤ 256 ^ 7 := Nat.pow_le_pow_right (by decide) (by omega)
  have hc := b.toNat_lt
  have e1 : IntKind.u64.wrap ((num l : Int) * 256) = ((num l * 256 : Nat) : Int) := by have := u64_nat (x := num l * 256) (by omega); simpa using this
  have hor : num l * 256 ||| b.toNat = num l * 256 + b.toNat := by
    have := Nat.two_pow_add_eq_or_of_lt (i := 8) (b := b.toNat) hc (num l)
    rw [Nat.mul_comm] at this
    exact this.symm
  rw [e1, u64_or_nat _ _ (by omega) (by omega), hor, num_snoc]
theorem number_any (g o k c : Nat) (hk : k ≤ 8) (t : TypeId) (L : List UInt8) (hL : o + k ≤ L.length) (w : World) (h : Row w g t L) :
    Calls Tryz.prog 100 #[.slice (some ⟨g, o, none⟩) k c] w fun e w' => e = .returned (.int .u64 (num ((L.drop o).take k) : Int)) ∧ w = w' := by
  obtain ⟨R, hR⟩ : ∃ R, R = (L.drop o).take k := ⟨_, rfl⟩
  have hRl : R.length = k := by rw [hR, List.length_take, List.length_drop]; omega
  have HC : Hid (∀ j b, R[j]? = some b → w.cell? ⟨g, o + j, none⟩ = some (.int .u8 (b.toNat : Int))) := Lib.hid (fun j b hb => h.cell (o + j) b (by
    have hj : j < k := by have := (List.getElem?_eq_some_iff.1 hb).1; omega
    rw [hR, List.getElem?_take, if_pos hj, List.getElem?_drop] at hb
    exact hb))
  rw [← hR]
  clear hR h
  go_enter Tryz.func100, Tryz.ntmps100
  go_wp2
  go_loop [3, 8] (fun nv iv => ∃ j : Nat, j ≤ k ∧ iv = .int .i64 (j : Int) ∧ nv = .int .u64 (num (R.take j) : Int)) (fun _ iv => k - (intOf iv).toNat)
  case atStart => exact ⟨0, Nat.zero_le _, rfl, by simp [num]⟩
  case round =>
    obtain ⟨j, hj, rfl, rfl⟩ := hrel
    by_cases hlt : j < k
    · obtain ⟨b, hb⟩ : ∃ b, R[j]? = some b := ⟨_, List.getElem?_eq_getElem (show j < R.length by omega)⟩
      have hc := HC.out j b hb
      have hst := number_step (R.take j) b (by rw [List.length_take]; omega)
      have HT : Hid (R.take (j + 1) = R.take j ++ [b]) := Lib.hid (by rw [List.take_add_one, hb]; rfl)
      have hw8 : IntKind.u64.wrap (b.toNat : Int) = (b.toNat : Int) := by have := u64_nat (x := b.toNat) (by have := b.toNat_lt; omega); exact this
      have hb8 := b.toNat_lt
      rw [← HT.out] at hst
      clear hb
      generalize num (R.take j) = m at *
      generalize hm2 : num (R.take (j + 1)) = m2 at *
      have HM2 := Lib.hid hm2
      clear hm2
      generalize b.toNat = x at *
      go_wp2
      exact ⟨⟨j + 1, hlt, by go_num, by rw [HM2.out, ← hst]⟩, by simp [intOf]; omega⟩
    · obtain rfl : j = k := by omega
      rw [List.take_of_length_le (by omega)]
      go_wp2
      go_ret
      exact ⟨rfl, rfl⟩
end Go.Proofs.YtbekdcpdfmfopaaGreat
end

section
namespace Go.Proofs.YtbekdcpdfmfopaaGreat
open Go.RowKit

/-- A row of bits as a value. -/
def w32 (c : BitVec 32) : Value := .int .u32 (c.toNat : Int)
theorem bx (a b : BitVec 32) : bits .xor .u32 (a.toNat : Int) (b.toNat : Int) = ((a ^^^ b).toNat : Int) := by
  rw [u32_xor_nat _ _ a.isLt b.isLt, BitVec.toNat_xor]
theorem bx_ones (a : BitVec 32) : bits .xor .u32 (a.toNat : Int) 4294967295 = ((a ^^^ ones).toNat : Int) := bx a ones
theorem bx_poly (a : BitVec 32) : bits .xor .u32 (a.toNat : Int) 3988292384 = ((a ^^^ crcPoly).toNat : Int) := bx a crcPoly
theorem bt_nat (x : UInt8) : (bt x).toNat = x.toNat := by
  unfold bt
  rw [BitVec.toNat_ofNat]
  have := x.toNat_lt
  omega
theorem bx_byte (a : BitVec 32) (x : UInt8) : bits .xor .u32 (a.toNat : Int) (x.toNat : Int) = ((a ^^^ bt x).toNat : Int) := by
  rw [← bx, bt_nat]
theorem half_nat (c : BitVec 32) : (c >>> 1).toNat = c.toNat / 2 := by
  rw [BitVec.toNat_ushiftRight, Nat.shiftRight_eq_div_pow]
theorem half_int (c : BitVec 32) : (c.toNat : Int) / (2 : Int) = ((c >>> 1).toNat : Int) := by rw [half_nat]; omega
theorem bit_int (c : BitVec 32) (i : Nat) : ((c.toNat : Int) / 2 ^ i % 2 == 1) = c.getLsbD i := by
  have e : (c.toNat : Int) / 2 ^ i % 2 = ((c.toNat / 2 ^ i % 2 : Nat) : Int) := by simp
  rw [e]
  show _ = c.toNat.testBit i
  rw [Nat.testBit_eq_decide_div_mod_eq]
  rw [Bool.eq_iff_iff]
  simp
  omega
theorem bit_tmod (c : BitVec 32) (i : Nat) : (((c.toNat : Int) / 2 ^ i).tmod 2 == 1) = c.getLsbD i := by
  rw [Int.tmod_eq_emod_of_nonneg (Int.ediv_nonneg (by omega) (Int.pow_nonneg (by decide))), bit_int]
theorem bit0_int (c : BitVec 32) : ((c.toNat : Int) % 2 == 1) = c.getLsbD 0 := by
  have := bit_int c 0
  simpa using this
end Go.Proofs.YtbekdcpdfmfopaaGreat
end

section
namespace Go.Proofs.YtbekdcpdfmfopaaGreat
open Go.RowKit

/-- All bits, or none. -/
theorem mask_yes (n : Nat) (hn : n < 4294967296) : bits .and .u32 (n : Int) 4294967295 = (n : Int) := by
  rw [show (4294967295 : Int) = ((4294967295 : Nat) : Int) from rfl, u32_and_nat _ _ hn (by decide)]
  congr 1
  have := Nat.and_two_pow_sub_one_eq_mod n 32
  simp at this
  rw [this]; omega
theorem mask_no (n : Nat) (hn : n < 4294967296) : bits .and .u32 (n : Int) 0 = 0 := by
  rw [show (0 : Int) = ((0 : Nat) : Int) from rfl, u32_and_nat _ _ hn (by decide), Nat.and_zero]
theorem xor_no (n : Nat) (hn : n < 4294967296) : bits .xor .u32 (n : Int) 0 = (n : Int) := by
  rw [show (0 : Int) = ((0 : Nat) : Int) from rfl, u32_xor_nat _ _ hn (by decide), Nat.xor_zero]
theorem low_and (n : Nat) (hn : n < 4294967296) : bits .and .u32 (n : Int) 1 = ((n % 2 : Nat) : Int) := by
  rw [show (1 : Int) = ((1 : Nat) : Int) from rfl, u32_and_nat _ _ hn (by decide), Nat.and_one_is_mod]
theorem gone_step (c : BitVec 32) : bits .xor .u32 ((c.toNat : Int) / 2) (bits .and .u32 3988292384 (-(bits .and .u32 (c.toNat : Int) 1) % 4294967296)) = ((hf c).toNat : Int) := by
  have hl := low_and c.toNat c.isLt
  rw [show ((c.toNat % 2 : Nat) : Int) = (c.toNat : Int) % 2 by omega] at hl
  rw [hl]
  have hb := bit0_int c
  have hlt := c.isLt
  cases hc : c.getLsbD 0
  · rw [hc] at hb
    have e : (c.toNat : Int) % 2 = 0 := by
      have : ¬ (c.toNat : Int) % 2 = 1 := by simpa using hb
      omega
    rw [e, half_int, show bits .and .u32 3988292384 (-(0 : Int) % 4294967296) = 0 from mask_no 3988292384 (by decide), xor_no _ (BitVec.isLt _)]
    unfold hf; rw [hc]; simp
  · rw [hc] at hb
    have e : (c.toNat : Int) % 2 = 1 := by simpa using hb
    rw [e, half_int, show bits .and .u32 3988292384 (-(1 : Int) % 4294967296) = 3988292384 from mask_yes 3988292384 (by decide), bx_poly]
    unfold hf; rw [hc]; simp
theorem gone_any (c : BitVec 32) (w : World) : Calls Tryz.prog 121 #[.int .u32 (c.toNat : Int)] w fun e w' => e = .returned (.int .u32 ((hfN 8 c).toNat : Int)) ∧ w = w' := by
  go_enter Tryz.func121, Tryz.ntmps121
  go_wp2
  go_loop [0, 3] (fun cv iv => ∃ j : Nat, j ≤ 8 ∧ iv = .int .i64 (j : Int) ∧ cv = .int .u32 ((hfN j c).toNat : Int)) (fun _ iv => 8 - (intOf iv).toNat)
  case atStart => exact ⟨0, Nat.zero_le _, rfl, rfl⟩
  case round =>
    obtain ⟨j, hj, rfl, rfl⟩ := hrel
    by_cases hlt : j < 8
    · have HN := Lib.hid (hfN_succ j c)
      have HG := Lib.hid (gone_step (hfN j c))
      generalize hfN j c = d at *
      generalize d.toNat = n at *
      go_wp2
      exact ⟨⟨j + 1, by omega, by go_num, by rw [HN.out, HG.out]⟩, by simp [intOf]; omega⟩
    · obtain rfl : j = 8 := by omega
      go_wp2
      go_ret
      exact ⟨rfl, rfl⟩
/-- A row put together, if a bit is 1. -/
theorem of_step (x f c : BitVec 32) (k : Nat) : bits .xor .u32 (x.toNat : Int) (bits .and .u32 (f.toNat : Int) (-(bits .and .u32 ((c.toNat : Int) / 2 ^ k) 1) % 4294967296)) = ((x ^^^ ifB (c.getLsbD k) f).toNat : Int) := by
  have hb := bit_int c k
  have hq : (c.toNat : Int) / 2 ^ k = ((c.toNat / 2 ^ k : Nat) : Int) := by simp
  have hlt : c.toNat / 2 ^ k < 4294967296 := Nat.lt_of_le_of_lt (Nat.div_le_self _ _) c.isLt
  have hl := low_and (c.toNat / 2 ^ k) hlt
  rw [hq] at hb ⊢
  rw [hl]
  cases hc : c.getLsbD k
  · rw [hc] at hb
    have e : ((c.toNat / 2 ^ k % 2 : Nat) : Int) = 0 := by
      have : ¬ ((c.toNat / 2 ^ k : Nat) : Int) % 2 = 1 := by simpa using hb
      omega
    rw [e, show (-(0 : Int) % 4294967296) = 0 by decide, mask_no _ f.isLt, xor_no _ x.isLt]
    simp [ifB]
  · rw [hc] at hb
    have e : ((c.toNat / 2 ^ k % 2 : Nat) : Int) = 1 := by
      have : ((c.toNat / 2 ^ k : Nat) : Int) % 2 = 1 := by simpa using hb
      omega
    rw [e, show (-(1 : Int) % 4294967296) = 4294967295 by decide, mask_yes _ f.isLt, bx]
    simp [ifB]
end Go.Proofs.YtbekdcpdfmfopaaGreat
end

section
namespace Go.Proofs.YtbekdcpdfmfopaaGreat
open Go.RowKit

theorem not_ones (a : BitVec 32) : bits .xor .u32 IntKind.u32.max (a.toNat : Int) = ((a ^^^ ones).toNat : Int) := by
  rw [BitVec.xor_comm]
  exact bx ones a
theorem pmore_any (c : BitVec 32) (s : ByteArray) (hs : s.size ≤ 140737488351232) (w : World) : Calls Tryz.prog 113 #[.int .u32 (c.toNat : Int), .string s] w fun e w' => e = .returned (.int .u32 ((moreC c s.data.toList).toNat : Int)) ∧ w = w' := by
  have h0 := not_ones c
  have HS := Lib.hid (fun j x (h : s.data.toList[j]? = some x) => rowC_step (c ^^^ ones) s.data.toList j x h)
  have HE : Hid (moreC c s.data.toList = rowC (c ^^^ ones) s.data.toList ^^^ ones) := Lib.hid rfl
  have HZ : Hid (rowC (c ^^^ ones) (s.data.toList.take 0) = c ^^^ ones) := Lib.hid rfl
  have HL := Lib.hid (size_list s)
  generalize rowC (c ^^^ ones) = R at *
  generalize c ^^^ ones = c0 at *
  go_enter Tryz.func113, Tryz.ntmps113
  go_wp2
  go_loop [5, 6, 11] (fun cv _ iv => ∃ j : Nat, j ≤ s.size ∧ iv = .int .i64 (j : Int) ∧ cv = w32 (R (s.data.toList.take j))) (fun _ _ iv => s.size - (intOf iv).toNat)
  case atStart => exact ⟨0, Nat.zero_le _, rfl, by rw [HZ.out]; rfl⟩
  case round =>
    obtain ⟨j, hj, rfl, rfl⟩ := hrel
    by_cases hlt : j < s.size
    · obtain ⟨x, hx⟩ : ∃ x, s.data.toList[j]? = some x := ⟨_, byte_at s j hlt⟩
      have hix := fun u => index_text s j x hx u
      have hbx := bx_byte (R (s.data.toList.take j)) x
      have HSj := Lib.hid (HS.out j x hx)
      have hx8 := x.toNat_lt
      clear hx
      have HD : Hid (R (s.data.toList.take (j + 1)) = hfN 8 (R (s.data.toList.take j) ^^^ bt x)) := HSj
      have HC := Lib.hid (gone_any (R (s.data.toList.take j) ^^^ bt x))
      unfold w32
      generalize (R (s.data.toList.take j) ^^^ bt x) = D at *
      generalize (R (s.data.toList.take j)).toNat = n at *
      generalize x.toNat = b at *
      go_wp2_with (go_at_call 121; refine (HC.out _).mono ?_; rintro e w1 ⟨rfl, rfl⟩)
      go_round
      case rel => exact ⟨j + 1, by omega, by go_num, by rw [HD.out]⟩
      case measure => simp [intOf]; omega
    · obtain rfl : j = s.size := by omega
      have ht := List.take_of_length_le (show s.data.toList.length ≤ s.size by rw [HL.out]; exact Nat.le_refl _)
      rw [ht]
      clear ht
      have h1 := not_ones (R s.data.toList)
      rw [← HE.out] at h1
      unfold w32
      generalize (R s.data.toList).toNat = n at *
      go_wp2
      go_ret
      exact ⟨rfl, rfl⟩
theorem psum_any (s : ByteArray) (hs : s.size ≤ 140737488351232) (w : World) : Calls Tryz.prog 114 #[.string s] w fun e w' => e = .returned (.int .u32 ((moreC 0#32 s.data.toList).toNat : Int)) ∧ w = w' := by
  have HM := Lib.hid (fun u => (show Calls Tryz.prog 113 #[.int .u32 0, .string s] u fun e w' => e = .returned (.int .u32 ((moreC 0#32 s.data.toList).toNat : Int)) ∧ u = w' from pmore_any 0#32 s hs u))
  go_enter Tryz.func114, Tryz.ntmps114
  go_wp2_with (go_at_call 113; refine (HM.out _).mono ?_; rintro e w1 ⟨rfl, rfl⟩)
  go_ret
  exact ⟨rfl, rfl⟩
/-- What later texts lean on. -/
theorem sum_any (s : ByteArray) (hs : s.size ≤ 140737488351232) (w : World) : Calls Tryz.prog 114 #[.string s] w fun e w' => e = .returned (.int .u32 ((moreC 0#32 s.data.toList).toNat : Int)) ∧ Ext w w' := (psum_any s hs w).mono fun e w' h => ⟨h.1, by rw [← h.2]; exact Ext.refl w⟩
theorem more_any (c : BitVec 32) (s : ByteArray) (hs : s.size ≤ 140737488351232) (w : World) : Calls Tryz.prog 113 #[.int .u32 (c.toNat : Int), .string s] w fun e w' => e = .returned (.int .u32 ((moreC c s.data.toList).toNat : Int)) ∧ Ext w w' := (pmore_any c s hs w).mono fun e w' h => ⟨h.1, by rw [← h.2]; exact Ext.refl w⟩
end Go.Proofs.YtbekdcpdfmfopaaGreat
end

section
namespace Go.Proofs.YtbekdcpdfmfopaaGreat
open Go.RowKit

set_option maxRecDepth 100000 in
/-- The text of a block's first bytes. -/
theorem Row.text_to {w : World} {g : Nat} {t : TypeId} {l : List UInt8} (h : Row w g t l) (n c : Nat) (hn : n ≤ l.length) :
    (convert 41 9 (.slice (some ⟨g, 0, none⟩) n c)).run Tryz.prog w = .ok (.string ⟨(l.take n).toArray⟩) w := by
  have hc := run_convert_bytes_arg (P := Tryz.prog) w 41 5 Tryz.underlying41 Tryz.underlying5 g 0 n c ((l.take n).map fun c => (c.toNat : Int)) (by simp; omega) (by
    intro i hi
    have hi2 : i < l.length := by omega
    have := h.cell i l[i] (List.getElem?_eq_getElem hi2)
    simpa [List.getD, hi, List.getElem?_eq_getElem hi2] using this) 9 Tryz.underlying9
  rw [hc]
  have e : strOfNums ((l.take n).map fun c => (c.toNat : Int)) = ⟨(l.take n).toArray⟩ := by
    unfold strOfNums
    congr 2
    rw [List.map_map]
    conv => rhs; rw [← List.map_id (l.take n)]
    apply List.map_congr_left
    intro b _
    simp
  rw [e]
/-- A frame's head as a value. -/
def headV (l : List UInt8) : Value := .agg (l.map cellOf).toArray
theorem sizeH : (Tryz.prog.info? 150).map (·.size) = some 16 := by kernel_rfl
theorem sizedH {l : List UInt8} (hl : l.length = 16) : (Tryz.prog.info? 150).map (·.size) = some ((l.map cellOf).toArray).size := by simp [sizeH, hl]
set_option maxHeartbeats 1000000 in
theorem fsum_any (l : List UInt8) (hl : l.length = 16) (s : ByteArray) (hs : s.size ≤ 140737488351232) (w : World) :
    Calls Tryz.prog 101 #[headV l, .string s] w fun e w' => e = .returned (.int .u64 (sumN (l.take 12 ++ s.data.toList) : Int)) ∧ Ext w w' := by
  have hr0 : Row (w.alloc (.cells (l.map cellOf).toArray 150)) w.heap.size 150 l := Blk.new w _ _
  have ht := hr0.text_to 12 16 (by omega)
  have hx0 : Ext w (w.alloc (.cells (l.map cellOf).toArray 150)) := (Ext.refl w).alloc _
  have HS := Lib.hid (fun u => psum_any ⟨(l.take 12).toArray⟩ (by show (l.take 12).length ≤ _; rw [List.length_take]; omega) u)
  have HM := Lib.hid (fun u => pmore_any (moreC 0#32 (l.take 12)) s hs u)
  rw [moreC_append] at HM
  have HE : Hid (sumN (l.take 12 ++ s.data.toList) = (moreC 0#32 (l.take 12 ++ s.data.toList)).toNat) := Lib.hid rfl
  have hlt := (moreC 0#32 (l.take 12 ++ s.data.toList)).isLt
  rw [HE.out]
  clear hr0 HE
  unfold headV
  generalize (moreC 0#32 (l.take 12 ++ s.data.toList)).toNat = m at *
  generalize hc1 : (moreC 0#32 (l.take 12)) = c1 at *
  go_enter Tryz.func101, Tryz.ntmps101
  go_wp2_with (first
    | (go_at_call 114; refine (HS.out _).mono ?_; rintro e w1 ⟨rfl, rfl⟩)
    | (go_at_call 113; refine (HM.out _).mono ?_; rintro e w1 ⟨rfl, rfl⟩))
  go_ret
  exact ⟨rfl, hx0⟩
end Go.Proofs.YtbekdcpdfmfopaaGreat
end

section
namespace Go.Proofs.YtbekdcpdfmfopaaGreat
open Go.RowKit

theorem txt_size (l : List UInt8) : ((⟨l.toArray⟩ : ByteArray)).size = l.length := by simp [ByteArray.size]
theorem str_append (a b : List UInt8) : (⟨a.toArray⟩ : ByteArray) ++ ⟨b.toArray⟩ = ⟨(a ++ b).toArray⟩ := by
  apply ByteArray.ext
  rw [ByteArray.data_append]
  simp
theorem txt_cat (s : ByteArray) (b : List UInt8) : s ++ ⟨b.toArray⟩ = ⟨(s.data.toList ++ b).toArray⟩ := by
  apply ByteArray.ext
  rw [ByteArray.data_append]
  simp
theorem txt_extract (l : List UInt8) (n : Nat) : (⟨l.toArray⟩ : ByteArray).extract 0 n = ⟨(l.take n).toArray⟩ := by
  apply ByteArray.ext
  simp
/-- The first n bytes of a text. -/
theorem slice_upto (X : ByteArray) (c : Nat) (h : c ≤ X.size) (u : World) : (Instr.slice 9 (.string X) none (some (.int .i64 (c : Int))) none).run Tryz.prog u = .ok (.string (X.extract 0 c)) u := by
  have hj : (0 : Int) ≤ (c : Int) ∧ (c : Int) ≤ (X.size : Int) := by omega
  simp [Instr.slice, Instr.sliceBounds, Instr.sliceBound, asIntOf, run_underlying Tryz.underlying9, hj]
  intro hgt
  omega
end Go.Proofs.YtbekdcpdfmfopaaGreat
end
