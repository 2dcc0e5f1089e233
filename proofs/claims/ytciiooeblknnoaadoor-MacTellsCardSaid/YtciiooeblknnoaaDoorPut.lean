/- Contracts: numbers written as bytes, by the program and by the document's answer. -/
import Derived.Test.YtciiooeblknnoaaDoorProg
import Derived.Test.YtciiooeblknnoaaDoorBytes
import Derived.WalkSpells
namespace Go.Proofs.YtciiooeblknnoaaDoor
open Go.RowKit

theorem info5 : (Tryd.prog.info? 5).map (fun i => (i.zero, i.size, i.bytes)) = some (some (.int .u8 0), 1, 1) := by kernel_rfl

/-- make([]byte, n): a new block of n zeros. -/
theorem make_bytes (n : Nat) (hn : n ≤ 281474976710656) : ∀ u : World, (Instr.makeSlice 29 (.int .i64 (n : Int)) (.int .i64 (n : Int))).run Tryd.prog u =
      .ok (.slice (some ⟨u.heap.size, 0, none⟩) n n) (u.alloc (.cells (madeCells #[.int .u8 0] n) 5)) := fun u => by
  obtain ⟨i0, hi, hz0, hz1, hz2⟩ := info_parts info5
  have h := run_make (P := Tryd.prog) u 29 5 i0 (.int .u8 0) Tryd.underlying29 hi hz0 .i64 .i64 (n : Int) (n : Int) (by omega) (Int.le_refl _) (by rw [hz2]; omega) (by omega)
  simpa [hz1, Value.cells] using h

theorem put64_any (n : Nat) (k : Nat) (hk : k ≤ 8) (w : World) :
    Calls Tryd.prog 62 #[.int .u64 (n : Int), .int .i64 (k : Int)] w fun e w' => e = .returned (.string ⟨(be k n).toArray⟩) ∧ Ext w w' := by
  have hmk := make_bytes k (by omega)
  go_enter Tryd.func62, Tryd.ntmps62
  go_wp2
  go_loopw [10] (fun i wr => ∃ j : Nat, j ≤ k ∧ i = .int .i64 j ∧ Row wr w.heap.size 5 (List.replicate (k - j) 0 ++ be j n) ∧ Ext w wr) (fun i _ => k - (intOf i).toNat)
  case atStart => exact ⟨0, Nat.zero_le _, rfl, by simpa [be] using Row.made w 5 k, (Ext.refl w).alloc _⟩
  case round =>
    obtain ⟨j, hj, rfl, hrow, hext⟩ := hrel
    by_cases hlt : j < k
    · have hc := put_cell hlt hrow
      have hf := hrow.frozen (k - 1 - j)
      go_wp2
      go_roundw
      case rel => exact ⟨j + 1, by omega, by go_num, put_step hlt hrow, hext.setCell (Nat.le_refl _) _⟩
      case measure => simp [intOf]; omega
    · obtain rfl : j = k := by omega
      have ht := hrow.text (P := Tryd.prog) 29 5 9 Tryd.underlying29 Tryd.underlying5 Tryd.underlying9 j j (by simp [be_length])
      clear hrow
      go_wp2
      go_ret
      exact ⟨by simp, hext⟩
theorem put32_any (n : Nat) (k : Nat) (hk : k ≤ 4) (w : World) :
    Calls Tryd.prog 63 #[.int .u32 (n : Int), .int .i64 (k : Int)] w fun e w' => e = .returned (.string ⟨(be k n).toArray⟩) ∧ Ext w w' := by
  have hmk := make_bytes k (by omega)
  go_enter Tryd.func63, Tryd.ntmps63
  go_wp2
  go_loopw [10] (fun i wr => ∃ j : Nat, j ≤ k ∧ i = .int .i64 j ∧ Row wr w.heap.size 5 (List.replicate (k - j) 0 ++ be j n) ∧ Ext w wr) (fun i _ => k - (intOf i).toNat)
  case atStart => exact ⟨0, Nat.zero_le _, rfl, by simpa [be] using Row.made w 5 k, (Ext.refl w).alloc _⟩
  case round =>
    obtain ⟨j, hj, rfl, hrow, hext⟩ := hrel
    by_cases hlt : j < k
    · have hc := put_cell hlt hrow
      have hf := hrow.frozen (k - 1 - j)
      go_wp2
      go_roundw
      case rel => exact ⟨j + 1, by omega, by go_num, put_step hlt hrow, hext.setCell (Nat.le_refl _) _⟩
      case measure => simp [intOf]; omega
    · obtain rfl : j = k := by omega
      have ht := hrow.text (P := Tryd.prog) 29 5 9 Tryd.underlying29 Tryd.underlying5 Tryd.underlying9 j j (by simp [be_length])
      clear hrow
      go_wp2
      go_ret
      exact ⟨by simp, hext⟩

theorem Put64_any (n : Nat) (w : World) :
    Calls Tryd.prog 55 #[.int .u64 (n : Int)] w fun e w' => e = .returned (.string ⟨(be 8 n).toArray⟩) ∧ Ext w w' := by
  go_enter Tryd.func55, Tryd.ntmps55
  go_wp2_with (go_at_call 62; refine (put64_any n 8 (by omega) _).mono ?_; rintro e w1 ⟨rfl, h1⟩)
  go_ret
  exact ⟨rfl, h1⟩
theorem Put32_any (n : Nat) (w : World) :
    Calls Tryd.prog 56 #[.int .u32 (n : Int)] w fun e w' => e = .returned (.string ⟨(be 4 n).toArray⟩) ∧ Ext w w' := by
  go_enter Tryd.func56, Tryd.ntmps56
  go_wp2_with (go_at_call 63; refine (put32_any n 4 (by omega) _).mono ?_; rintro e w1 ⟨rfl, h1⟩)
  go_ret
  exact ⟨rfl, h1⟩

theorem quo_wrap {n j m : Nat} (hn : Hid (n < 2 ^ 64)) (hm : m = n / 256 ^ j) : IntKind.u64.wrap ((m : Int) / 256) = ((m / 256 : Nat) : Int) := by
  have h1 : m ≤ n := by rw [hm]; exact Nat.div_le_self _ _
  have := u64_nat (x := m / 256) (by have := hn.out; omega)
  simpa using this
set_option maxRecDepth 100000 in
theorem rPut_any (n : Nat) (hn : Hid (n < 2 ^ 64)) (k : Nat) (hk : k ≤ 8) (w : World) :
    Calls Tryd.prog 26 #[.int .u64 (n : Int), .int .i64 (k : Int)] w fun e w' => e = .returned (.string ⟨(be k n).toArray⟩) ∧ Ext w w' := by
  have hmk := make_bytes k (by omega)
  go_enter Tryd.func26, Tryd.ntmps26
  go_wp2
  go_loopw [6, 0] (fun i m wr => ∃ j : Nat, j ≤ k ∧ i = .int .i64 ((k : Int) - 1 - (j : Int)) ∧ m = .int .u64 ((n / 256 ^ j : Nat) : Int) ∧ Row wr w.heap.size 5 (List.replicate (k - j) 0 ++ be j n) ∧ Ext w wr) (fun i _ _ => (intOf i + 1).toNat)
  case atStart => exact ⟨0, Nat.zero_le _, by simp, by simp, by simpa [be] using Row.made w 5 k, (Ext.refl w).alloc _⟩
  case round =>
    obtain ⟨j, hj, rfl, rfl, hrow, hext⟩ := hrel
    by_cases hlt : j < k
    · have hc := put_cell hlt hrow
      have hf := hrow.frozen (k - 1 - j)
      obtain ⟨m, hm⟩ : ∃ m : Nat, m = n / 256 ^ j := ⟨_, rfl⟩
      rw [← hm]
      have Hm := Lib.hid hm; clear hm
      go_wp2
      go_roundw
      case rel => exact ⟨j + 1, by omega, int_eq (by omega), by rw [← div_step, ← Hm.out]; exact int_eq (quo_wrap hn Hm.out), quo_step Hm.out hlt hrow, hext.setCell (Nat.le_refl _) _⟩
      case measure => simp [intOf]; omega
    · obtain rfl : j = k := by omega
      have ht := hrow.text (P := Tryd.prog) 29 5 9 Tryd.underlying29 Tryd.underlying5 Tryd.underlying9 j j (by simp [be_length])
      clear hrow
      go_wp2
      go_ret
      exact ⟨by simp, hext⟩
end Go.Proofs.YtciiooeblknnoaaDoor
