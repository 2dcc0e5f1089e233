/- Contracts: the box of a byte, and the byte of a box, by the program. -/
import Derived.Test.YtlphbnbipbfclaaBoxes
namespace Go.Proofs.Ytlphbnbipbfclaa
open Go.RowKit

set_option maxRecDepth 100000 in
set_option maxHeartbeats 1000000 in
theorem Box_any (b : Nat) (hb : b < 256) (w : World) : Calls Try.prog 9 #[.int .u8 (b : Int)] w fun e w' => e = .returned (.int .u8 ((boxB (UInt8.ofNat b)).toNat : Int)) ∧ Ext w w' := by
  have hz := zero_run zero512
  have HB := Lib.hid (boxesL_at b hb)
  go_enter Try.func9, Try.ntmps9
  go_wp2_with (first
    | (go_at_call 23; refine (newBoxes_any _).mono ?_; rintro e w1 ⟨rfl, h1⟩)
    | (refine wpList_store_row rfl 45 (.tmp 3) (.tmp 4) rfl w1.heap.size _ rfl rfl 45 _ (Row.zero w1 _ 512) (sized size512 boxesL_length) (by simp [boxesL_length]) (cells8_one _) ?_; have hR : Row ((w1.alloc (.cells (zc 512) 45)).setRow w1.heap.size (boxesL.map cellOf).toArray) w1.heap.size 45 boxesL := setRow_heap _ _ _ _ _ _ (Row.zero w1 _ 512); have hc := hR.cell b _ HB.out; have hx2 := Lib.hid ((h1.alloc (.cells (zc 512) 45)).setRow h1.size (boxesL.map cellOf).toArray); clear hR h1))
  go_ret
  exact ⟨rfl, hx2.out⟩
set_option maxRecDepth 100000 in
set_option maxHeartbeats 1000000 in
theorem Unbox_any (b : Nat) (hb : b < 256) (w : World) : Calls Try.prog 11 #[.int .u8 (b : Int)] w fun e w' => e = .returned (.int .u8 ((unboxB (UInt8.ofNat b)).toNat : Int)) ∧ Ext w w' := by
  have hz := zero_run zero512
  have HB := Lib.hid (boxesL_un b hb)
  go_enter Try.func11, Try.ntmps11
  go_wp2_with (first
    | (go_at_call 23; refine (newBoxes_any _).mono ?_; rintro e w1 ⟨rfl, h1⟩)
    | (refine wpList_store_row rfl 45 (.tmp 3) (.tmp 4) rfl w1.heap.size _ rfl rfl 45 _ (Row.zero w1 _ 512) (sized size512 boxesL_length) (by simp [boxesL_length]) (cells8_one _) ?_; have hR : Row ((w1.alloc (.cells (zc 512) 45)).setRow w1.heap.size (boxesL.map cellOf).toArray) w1.heap.size 45 boxesL := setRow_heap _ _ _ _ _ _ (Row.zero w1 _ 512); have hc := hR.cell (256 + b) _ HB.out; have hx2 := Lib.hid ((h1.alloc (.cells (zc 512) 45)).setRow h1.size (boxesL.map cellOf).toArray); clear hR h1))
  go_ret
  exact ⟨rfl, hx2.out⟩
end Go.Proofs.Ytlphbnbipbfclaa
