/- Contract: numbers written as bytes, by the document's answer. -/
import Derived.Test.YthglecfbcdikaaaPut32
namespace Go.Proofs.Ythglecfbcdikaaa
open Go.RowKit

theorem quo_wrap {n j m : Nat} (hn : Hid (n < 2 ^ 64)) (hm : m = n / 256 ^ j) : IntKind.u64.wrap ((m : Int) / 256) = ((m / 256 : Nat) : Int) := by
  have h1 : m ≤ n := by rw [hm]; exact Nat.div_le_self _ _
  have := u64_nat (x := m / 256) (by have := hn.out; omega)
  simpa using this
set_option maxRecDepth 100000 in
theorem rPut_any (n : Nat) (hn : Hid (n < 2 ^ 64)) (k : Nat) (hk : k ≤ 8) (w : World) :
    Calls Try.prog 19 #[.int .u64 (n : Int), .int .i64 (k : Int)] w fun e w' => e = .returned (.string ⟨(be k n).toArray⟩) ∧ Ext w w' := by
  have hmk := make_bytes k (by omega)
  go_enter Try.func19, Try.ntmps19
  go_wp2
  go_loopw [6, 0] (fun i m wr => ∃ j : Nat, j ≤ k ∧ i = .int .i64 ((k : Int) - 1 - (j : Int)) ∧ m = .int .u64 ((n / 256 ^ j : Nat) : Int) ∧ Row wr w.heap.size 5 (List.replicate (k - j) 0 ++ be j n) ∧ Ext w wr) (fun i _ _ => (intOf i + 1).toNat)
  case atStart => exact ⟨0, Nat.zero_le _, by simp, by simp, by simpa [be] using Row.made w 5 k, (Ext.refl w).alloc _⟩
  case round =>
    obtain ⟨j, hj, rfl, rfl, hrow, hext⟩ := hrel
    by_cases hlt : j < k
    · have hc := put_cell hlt hrow
      have hf := hrow.frozen (k - 1 - j)
      obtain ⟨m, hm⟩ : ∃ m : Nat, m = n / 256 ^ j := ⟨_, rfl⟩
      rw [← hm]
      have Hm := Lib.hid hm; clear hm
      go_wp2
      go_roundw
      case rel => exact ⟨j + 1, by omega, int_eq (by omega), by rw [← div_step, ← Hm.out]; exact int_eq (quo_wrap hn Hm.out), quo_step Hm.out hlt hrow, hext.setCell (Nat.le_refl _) _⟩
      case measure => simp [intOf]; omega
    · obtain rfl : j = k := by omega
      have ht := hrow.text (P := Try.prog) 30 5 9 Try.underlying30 Try.underlying5 Try.underlying9 j j (by simp [be_length])
      clear hrow
      go_wp2
      go_ret
      exact ⟨by simp, hext⟩
end Go.Proofs.Ythglecfbcdikaaa
