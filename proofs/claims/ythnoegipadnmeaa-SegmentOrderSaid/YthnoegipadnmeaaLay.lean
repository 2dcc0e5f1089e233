/- Contracts: numbers laid into an array's bytes, and read of them, by the program. -/
import Derived.Test.YthnoegipadnmeaaProg
import Derived.Test.YthnoegipadnmeaaBlk
import Derived.Test.YthnoegipadnmeaaFrameL
import Derived.WalkSpells
import Derived.Laws.BitsAllLaws
namespace Go.Proofs.Ythnoegipadnmeaa
open Go.RowKit

theorem Row.at_ {w : World} {g : Nat} {t : TypeId} {l : List UInt8} (h : Row w g t l) (i : Nat) (hi : i < l.length) : ∃ b, l[i]? = some b ∧ w.cell? ⟨g, i, none⟩ = some (.int .u8 (b.toNat : Int)) ∧ w.frozen? ⟨g, i, none⟩ = false :=
  ⟨l[i], List.getElem?_eq_getElem hi, h.cell i _ (List.getElem?_eq_getElem hi), h.frozen i⟩
/-- A number's bytes laid in, the last one first: what stands there after j rounds. -/
def laid (L : List UInt8) (o k n j : Nat) : List UInt8 := L.take (o + (k - j)) ++ be j n ++ L.drop (o + k)
theorem laid_zero (L : List UInt8) (o k n : Nat) : laid L o k n 0 = L := by simp [laid, be]
theorem laid_all (L : List UInt8) (o k n : Nat) : laid L o k n k = L.take o ++ be k n ++ L.drop (o + k) := by simp [laid]
theorem laid_length (L : List UInt8) (o k n j : Nat) (hj : j ≤ k) (h : o + k ≤ L.length) : (laid L o k n j).length = L.length := by
  simp only [laid, List.length_append, be_length, List.length_take, List.length_drop]; omega
theorem laid_succ (L : List UInt8) (o k n j : Nat) (hj : j < k) (h : o + k ≤ L.length) (b : UInt8) (hb : b = UInt8.ofNat (n / 256 ^ j)) : (laid L o k n j).set (o + (k - 1 - j)) b = laid L o k n (j + 1) := by
  subst hb
  unfold laid
  obtain ⟨m, hm⟩ : ∃ m, k - j = m + 1 := ⟨k - j - 1, by omega⟩
  have e1 : k - 1 - j = m := by omega
  have e2 : k - (j + 1) = m := by omega
  rw [e1, e2, hm, List.append_assoc, List.append_assoc, List.set_append_left _ _ (by rw [List.length_take]; omega)]
  rw [show o + (m + 1) = (o + m) + 1 by omega, List.take_add_one, List.getElem?_eq_getElem (show o + m < L.length by omega)]
  rw [Option.toList_some, List.set_append_right _ _ (by rw [List.length_take]; omega), List.length_take, Nat.min_eq_left (by omega), Nat.sub_self]
  simp [be]
theorem lay_any (g o k n c : Nat) (hk : k ≤ 8) (hn : n < 18446744073709551616) (t : TypeId) (L : List UInt8) (hL : o + k ≤ L.length) (w : World) (h : Row w g t L) :
    Calls Try.prog 56 #[.slice (some ⟨g, o, none⟩) k c, .int .u64 (n : Int)] w fun e w' => e = .returned (.tuple #[]) ∧ Row w' g t (L.take o ++ be k n ++ L.drop (o + k)) ∧ Below g w w' := by
  go_enter Try.func56, Try.ntmps56
  go_wp2
  have H0 : Hid (Row w g t (laid L o k n 0)) := Lib.hid (by rw [laid_zero]; exact h)
  go_loopw [1, 4] (fun nv iv wr => ∃ (j m : Nat), j ≤ k ∧ iv = .int .i64 (((k - j : Nat) : Int) - 1) ∧ nv = .int .u64 (m : Int) ∧ m = n / 256 ^ j ∧ Row wr g t (laid L o k n j) ∧ Below g w wr) (fun _ iv _ => (intOf iv + 1).toNat)
  case atStart => exact ⟨0, n, Nat.zero_le _, by simp, rfl, by simp, H0.out, Below.refl _ _⟩
  case round =>
    obtain ⟨j, m, hj, rfl, rfl, hm, hrow, hbe⟩ := hrel
    by_cases hlt : j < k
    · obtain ⟨q, hq⟩ : ∃ q, k - j = q + 1 := ⟨k - j - 1, by omega⟩
      obtain ⟨b0, _, hc, hf⟩ := hrow.at_ (o + q) (by rw [laid_length _ _ _ _ _ hj hL]; omega)
      have hb8 : UInt8.ofNat ((m : Int) % 256).toNat = UInt8.ofNat (n / 256 ^ j) := by
        have e : ((m : Int) % 256).toNat = m % 256 := by omega
        rw [e, hm]
        apply UInt8.toNat_inj.1
        simp
      have HS := Lib.hid (hrow.set_ (o + q) ((m : Int) % 256) (by omega) (by omega))
      rw [hb8, show q = k - 1 - j by omega, laid_succ L o k n j hlt hL _ rfl, show k - 1 - j = q by omega] at HS
      have HB := Lib.hid (hbe.setCell (p := ⟨g, o + q, none⟩) (Nat.le_refl _) (.int .u8 ((m : Int) % 256)))
      have HM : Hid (m / 256 = n / 256 ^ (j + 1)) := Lib.hid (by rw [hm, div_step])
      have hm64 : m < 18446744073709551616 := by rw [hm]; exact Nat.lt_of_le_of_lt (Nat.div_le_self _ _) hn
      have e1 : (((q + 1 : Nat) : Int) - 1) = (q : Int) := by omega
      have Hq := Lib.hid hq
      have hqk : q < k := by omega
      have hqk2 : (q : Int) < (k : Int) := by omega
      rw [hq, e1]
      clear hrow hbe hm hb8 h H0 hq e1
      go_wp2
      go_roundw
      case rel => exact ⟨j + 1, m / 256, by omega, by rw [show k - (j + 1) = q by have := Hq.out; omega], by go_num, HM.out, HS.out, HB.out⟩
      case measure => simp [intOf]
    · obtain rfl : j = k := by omega
      rw [laid_all] at hrow
      have e1 : (((j - j : Nat) : Int) - 1) = -1 := by omega
      rw [e1]
      clear h H0 e1
      go_wp2
      go_end0
      exact ⟨rfl, hrow, hbe⟩
theorem number_step (l : List UInt8) (b : UInt8) (hl : l.length < 8) :
    bits .or .u64 (IntKind.u64.wrap ((num l : Int) * 256)) (b.toNat : Int) = ((num (l ++ [b]) : Nat) : Int) := by
  have h1 := num_lt l.length l rfl
  have hp : 256 ^ l.length ≤ 256 ^ 7 := Nat.pow_le_pow_right (by decide) (by omega)
  have hc := b.toNat_lt
  have e1 : IntKind.u64.wrap ((num l : Int) * 256) = ((num l * 256 : Nat) : Int) := by have := u64_nat (x := num l * 256) (by omega); simpa using this
  have hor : num l * 256 ||| b.toNat = num l * 256 + b.toNat := by
    have := Nat.two_pow_add_eq_or_of_lt (i := 8) (b := b.toNat) hc (num l)
    rw [Nat.mul_comm] at this
    exact this.symm
  rw [e1, u64_or_nat _ _ (by omega) (by omega), hor, num_snoc]
theorem number_any (g o k c : Nat) (hk : k ≤ 8) (t : TypeId) (L : List UInt8) (hL : o + k ≤ L.length) (w : World) (h : Row w g t L) :
    Calls Try.prog 47 #[.slice (some ⟨g, o, none⟩) k c] w fun e w' => e = .returned (.int .u64 (num ((L.drop o).take k) : Int)) ∧ w = w' := by
  obtain ⟨R, hR⟩ : ∃ R, R = (L.drop o).take k := ⟨_, rfl⟩
  have hRl : R.length = k := by rw [hR, List.length_take, List.length_drop]; omega
  have HC : Hid (∀ j b, R[j]? = some b → w.cell? ⟨g, o + j, none⟩ = some (.int .u8 (b.toNat : Int))) := Lib.hid (fun j b hb => h.cell (o + j) b (by
    have hj : j < k := by have := (List.getElem?_eq_some_iff.1 hb).1; omega
    rw [hR, List.getElem?_take, if_pos hj, List.getElem?_drop] at hb
    exact hb))
  rw [← hR]
  clear hR h
  go_enter Try.func47, Try.ntmps47
  go_wp2
  go_loop [3, 8] (fun nv iv => ∃ j : Nat, j ≤ k ∧ iv = .int .i64 (j : Int) ∧ nv = .int .u64 (num (R.take j) : Int)) (fun _ iv => k - (intOf iv).toNat)
  case atStart => exact ⟨0, Nat.zero_le _, rfl, by simp [num]⟩
  case round =>
    obtain ⟨j, hj, rfl, rfl⟩ := hrel
    by_cases hlt : j < k
    · obtain ⟨b, hb⟩ : ∃ b, R[j]? = some b := ⟨_, List.getElem?_eq_getElem (show j < R.length by omega)⟩
      have hc := HC.out j b hb
      have hst := number_step (R.take j) b (by rw [List.length_take]; omega)
      have HT : Hid (R.take (j + 1) = R.take j ++ [b]) := Lib.hid (by rw [List.take_add_one, hb]; rfl)
      have hw8 : IntKind.u64.wrap (b.toNat : Int) = (b.toNat : Int) := by have := u64_nat (x := b.toNat) (by have := b.toNat_lt; omega); exact this
      have hb8 := b.toNat_lt
      rw [← HT.out] at hst
      clear hb
      generalize num (R.take j) = m at *
      generalize hm2 : num (R.take (j + 1)) = m2 at *
      have HM2 := Lib.hid hm2
      clear hm2
      generalize b.toNat = x at *
      go_wp2
      exact ⟨⟨j + 1, hlt, by go_num, by rw [HM2.out, ← hst]⟩, by simp [intOf]; omega⟩
    · obtain rfl : j = k := by omega
      rw [List.take_of_length_le (by omega)]
      go_wp2
      go_ret
      exact ⟨rfl, rfl⟩
end Go.Proofs.Ythnoegipadnmeaa
