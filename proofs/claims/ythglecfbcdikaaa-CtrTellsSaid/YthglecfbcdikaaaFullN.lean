/- Contract: so many bytes out of a text, by layer 5's law. -/
import Derived.Test.YthglecfbcdikaaaFullL
import Derived.Test.YthglecfbcdikaaaMake
import Derived.Test.YthglecfbcdikaaaZero
import Derived.Test.YthglecfbcdikaaaCopyT
namespace Go.Proofs.Ythglecfbcdikaaa
open Go.RowKit

theorem fulln_any (s : ByteArray) (n : Nat) (hn : n ≤ 1048576) (w : World) : Calls Try.prog 8 #[.string s, .int .i64 (n : Int)] w fun e w' => e = .returned (.string ⟨(fullN s n).toArray⟩) ∧ Ext w w' := by
  have hmk := make_bytes n (by omega)
  have hr0 := Row.made w 5 n
  obtain ⟨C, hC⟩ : ∃ C, madeCells #[Value.int .u8 0] n = C := ⟨_, rfl⟩
  rw [hC] at hmk hr0
  obtain ⟨k, hk⟩ : ∃ k, k = min s.size n := ⟨_, rfl⟩
  have hcp := fun ty => run_copy_text (w.alloc (.cells C 5)) ty w.heap.size 0 n n s _ 5 hr0.blk (by simp) k hk
  have e : ((List.replicate n (0 : UInt8)).map cellOf).take 0 ++ (s.data.toList.take k).map cellOf ++ ((List.replicate n (0 : UInt8)).map cellOf).drop (0 + k) = (fullN s n).map cellOf := by
    rw [List.take_zero, List.nil_append, ← List.map_drop, ← List.map_append]
    congr 1
    unfold fullN
    rw [List.drop_replicate, List.take_append, size_list, List.take_replicate]
    congr 1
    · rcases Nat.le_total s.size n with h | h
      · rw [List.take_of_length_le (by rw [size_list]; omega), List.take_of_length_le (by rw [size_list]; omega)]
      · rw [show k = n by omega]
    · congr 1; omega
  rw [e] at hcp
  have hr1 : Row ((w.alloc (.cells C 5)).setRow w.heap.size ((fullN s n).map cellOf).toArray) w.heap.size 5 (fullN s n) := setRow_heap _ _ _ _ _ _ hr0
  have ht := hr1.text (P := Try.prog) 30 5 9 Try.underlying30 Try.underlying5 Try.underlying9 n n (fullN_length s n)
  have hx : Ext w ((w.alloc (.cells C 5)).setRow w.heap.size ((fullN s n).map cellOf).toArray) := ((Ext.refl w).alloc _).setRow (Nat.le_refl _) _
  have HX := Lib.hid hx
  clear hr0 hr1 e hk hx hC
  go_enter Try.func8, Try.ntmps8
  go_wp2
  go_ret
  exact ⟨rfl, HX.out⟩
theorem full16_any (s : ByteArray) (w : World) : Calls Try.prog 8 #[.string s, .int .i64 16] w fun e w' => e = .returned (.string ⟨(fullN s 16).toArray⟩) ∧ Ext w w' := fulln_any s 16 (by omega) w
theorem full12_any (s : ByteArray) (w : World) : Calls Try.prog 8 #[.string s, .int .i64 12] w fun e w' => e = .returned (.string ⟨(fullN s 12).toArray⟩) ∧ Ext w w' := fulln_any s 12 (by omega) w
end Go.Proofs.Ythglecfbcdikaaa
