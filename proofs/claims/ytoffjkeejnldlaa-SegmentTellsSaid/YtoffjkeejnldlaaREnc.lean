/- Contracts: numbers' bytes, numbers of bytes, frames, by the document's answer. -/
import Derived.Test.YtoffjkeejnldlaaProg
import Derived.Test.YtoffjkeejnldlaaFrameL
import Derived.Test.YtoffjkeejnldlaaRSum
import Derived.Test.YtoffjkeejnldlaaTxt
import Derived.BigQuiet
import Derived.Deep.QuietTactic
namespace Go.Proofs.Ytoffjkeejnldlaa
open Go.RowKit

theorem rBytes_any (n k : Nat) (hn : n < 18446744073709551616) (hk : k ≤ 8) (w : World) :
    Calls Try.prog 44 #[.int .u64 (n : Int), .int .i64 (k : Int)] w fun e w' => e = .returned (.string ⟨(be k n).toArray⟩) ∧ Ext w w' := by
  have hmk := make_bytes k (by omega)
  have HN := Lib.hid hn
  go_enter Try.func44, Try.ntmps44
  go_wp2
  go_loopw [0, 6] (fun nv i wr => ∃ j m : Nat, j ≤ k ∧ i = .int .i64 (((k - j : Nat) : Int) - 1) ∧ nv = .int .u64 (m : Int) ∧ m = n / 256 ^ j ∧ Row wr w.heap.size 5 (List.replicate (k - j) 0 ++ be j n) ∧ Ext w wr) (fun _ i _ => (intOf i + 1).toNat)
  case atStart => exact ⟨0, n, Nat.zero_le _, by simp, rfl, by simp, by simpa [be] using Row.made w 5 k, (Ext.refl w).alloc _⟩
  case round =>
    obtain ⟨j, m, hj, rfl, rfl, hm, hrow, hext⟩ := hrel
    by_cases hlt : j < k
    · obtain ⟨q, hq⟩ : ∃ q, k - j = q + 1 := ⟨k - j - 1, by omega⟩
      have hc := put_cell hlt hrow
      have hf := hrow.frozen (k - 1 - j)
      have HS := Lib.hid (quo_step hm hlt hrow)
      have HM : Hid (m / 256 = n / 256 ^ (j + 1)) := Lib.hid (by rw [hm, div_step])
      have hm64 : m < 18446744073709551616 := by rw [hm]; exact Nat.lt_of_le_of_lt (Nat.div_le_self _ _) HN.out
      rw [show k - 1 - j = q by omega] at hc hf HS
      have HB := Lib.hid (hext.setCell (p := ⟨w.heap.size, q, none⟩) (Nat.le_refl _) (.int .u8 ((m : Int) % 256)))
      have e1 : (((q + 1 : Nat) : Int) - 1) = (q : Int) := by omega
      have hqk : q < k := by omega
      have hqk2 : (q : Int) < (k : Int) := by omega
      have Hq := Lib.hid hq
      have hmd : ((m : Int).tmod 256) = (m : Int) % 256 := Int.tmod_eq_emod_of_nonneg (by omega)
      have hdv : ((m : Int).tdiv 256) = (m : Int) / 256 := Int.tdiv_eq_ediv_of_nonneg (by omega)
      rw [hq, e1]
      clear hrow hext hm hq e1
      go_wp2
      go_roundw
      case rel => exact ⟨j + 1, m / 256, by omega, by rw [show k - (j + 1) = q by have := Hq.out; omega], by go_num, HM.out, HS.out, HB.out⟩
      case measure => simp [intOf]
    · obtain rfl : j = k := by omega
      have ht := hrow.text (P := Try.prog) 55 5 9 Try.underlying55 Try.underlying5 Try.underlying9 j j (by simp [be_length])
      have e1 : (((j - j : Nat) : Int) - 1) = -1 := by omega
      rw [e1]
      clear hrow e1
      go_wp2
      go_ret
      exact ⟨by simp, hext⟩
theorem rBytes4_any (n : Nat) (hn : n < 18446744073709551616) (w : World) :
    Calls Try.prog 44 #[.int .u64 (n : Int), .int .i64 4] w fun e w' => e = .returned (.string ⟨(be 4 n).toArray⟩) ∧ Ext w w' := rBytes_any n 4 hn (by decide) w
theorem rBytes8_any (n : Nat) (hn : n < 18446744073709551616) (w : World) :
    Calls Try.prog 44 #[.int .u64 (n : Int), .int .i64 8] w fun e w' => e = .returned (.string ⟨(be 8 n).toArray⟩) ∧ Ext w w' := rBytes_any n 8 hn (by decide) w
theorem num_more (l : List UInt8) (b : UInt8) (hl : l.length < 8) :
    IntKind.u64.wrap (IntKind.u64.wrap (256 * (num l : Int)) + (b.toNat : Int)) = ((num (l ++ [b]) : Nat) : Int) := by
  have h1 := num_lt l.length l rfl
  have hp : 256 ^ l.length ≤ 256 ^ 7 := Nat.pow_le_pow_right (by decide) (by omega)
  have hc := b.toNat_lt
  have e1 : IntKind.u64.wrap (256 * (num l : Int)) = ((num l * 256 : Nat) : Int) := by
    have := u64_nat (x := num l * 256) (by omega)
    rw [← this]; congr 1; omega
  rw [e1, num_snoc]
  have := u64_nat (x := num l * 256 + b.toNat) (by omega)
  rw [← this]; congr 1
theorem rNumber_any (s : ByteArray) (hs : s.size ≤ 8) (w : World) :
    Calls Try.prog 55 #[.string s] w fun e w' => e = .returned (.int .u64 (num s.data.toList : Int)) ∧ w = w' := by
  have HL := Lib.hid (size_list s)
  go_enter Try.func55, Try.ntmps55
  go_wp2
  go_loop [3, 4] (fun nv iv => ∃ j : Nat, j ≤ s.size ∧ iv = .int .i64 (j : Int) ∧ nv = .int .u64 (num (s.data.toList.take j) : Int)) (fun _ iv => s.size - (intOf iv).toNat)
  case atStart => exact ⟨0, Nat.zero_le _, rfl, by simp [num]⟩
  case round =>
    obtain ⟨j, hj, rfl, rfl⟩ := hrel
    by_cases hlt : j < s.size
    · obtain ⟨b, hb⟩ : ∃ b, s.data.toList[j]? = some b := ⟨_, byte_at s j hlt⟩
      have hix := fun u => index_text s j b hb u
      have hst := num_more (s.data.toList.take j) b (by rw [List.length_take]; omega)
      have HT : Hid (s.data.toList.take (j + 1) = s.data.toList.take j ++ [b]) := Lib.hid (by rw [List.take_add_one, hb]; rfl)
      have hw8 : IntKind.u64.wrap (b.toNat : Int) = (b.toNat : Int) := by have := u64_nat (x := b.toNat) (by have := b.toNat_lt; omega); exact this
      have hb8 := b.toNat_lt
      rw [← HT.out] at hst
      clear hb
      generalize num (s.data.toList.take j) = m at *
      generalize hm2 : num (s.data.toList.take (j + 1)) = m2 at *
      have HM2 := Lib.hid hm2
      clear hm2
      generalize b.toNat = x at *
      go_wp2
      exact ⟨⟨j + 1, hlt, by go_num, by rw [HM2.out, ← hst]⟩, by simp [intOf]; omega⟩
    · obtain rfl : j = s.size := by omega
      rw [List.take_of_length_le (by rw [HL.out]; omega)]
      go_wp2
      go_ret
      exact ⟨rfl, rfl⟩
end Go.Proofs.Ytoffjkeejnldlaa
