/- Contracts: numbers of 32 bits written as bytes, by the program. -/
import Derived.Test.YthglecfbcdikaaaProg
import Derived.Test.YthglecfbcdikaaaMake
import Derived.WalkSpells
namespace Go.Proofs.Ythglecfbcdikaaa
open Go.RowKit

theorem put32_any (n : Nat) (k : Nat) (hk : k ≤ 4) (w : World) :
    Calls Try.prog 43 #[.int .u32 (n : Int), .int .i64 (k : Int)] w fun e w' => e = .returned (.string ⟨(be k n).toArray⟩) ∧ Ext w w' := by
  have hmk := make_bytes k (by omega)
  go_enter Try.func43, Try.ntmps43
  go_wp2
  go_loopw [10] (fun i wr => ∃ j : Nat, j ≤ k ∧ i = .int .i64 j ∧ Row wr w.heap.size 5 (List.replicate (k - j) 0 ++ be j n) ∧ Ext w wr) (fun i _ => k - (intOf i).toNat)
  case atStart => exact ⟨0, Nat.zero_le _, rfl, by simpa [be] using Row.made w 5 k, (Ext.refl w).alloc _⟩
  case round =>
    obtain ⟨j, hj, rfl, hrow, hext⟩ := hrel
    by_cases hlt : j < k
    · have hc := put_cell hlt hrow
      have hf := hrow.frozen (k - 1 - j)
      go_wp2
      go_roundw
      case rel => exact ⟨j + 1, by omega, by go_num, put_step hlt hrow, hext.setCell (Nat.le_refl _) _⟩
      case measure => simp [intOf]; omega
    · obtain rfl : j = k := by omega
      have ht := hrow.text (P := Try.prog) 30 5 9 Try.underlying30 Try.underlying5 Try.underlying9 j j (by simp [be_length])
      clear hrow
      go_wp2
      go_ret
      exact ⟨by simp, hext⟩

theorem Put32_any (n : Nat) (w : World) :
    Calls Try.prog 29 #[.int .u32 (n : Int)] w fun e w' => e = .returned (.string ⟨(be 4 n).toArray⟩) ∧ Ext w w' := by
  go_enter Try.func29, Try.ntmps29
  go_wp2_with (go_at_call 43; refine (put32_any n 4 (by omega) _).mono ?_; rintro e w1 ⟨rfl, h1⟩)
  go_ret
  exact ⟨rfl, h1⟩
end Go.Proofs.Ythglecfbcdikaaa
