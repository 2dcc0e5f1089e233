/- Contracts: a block's bytes through a table; its rows turned; by the program. -/
import Derived.Test.YthglecfbcdikaaaBlkAdd
namespace Go.Proofs.Ythglecfbcdikaaa
open Go.RowKit

theorem below_drewN {B : Nat} {a b : World} (h : Below B a b) (n : Nat) : Below B a (b.drewN n) := ⟨h.os, h.tape, h.output, h.size, h.block⟩
set_option maxRecDepth 100000 in
set_option maxHeartbeats 1000000 in
theorem put_any (w : World) (g k o : Nat) (t : TypeId) (l T : List UInt8) (f : UInt8 → UInt8) (hr : Row w g t l) (hl : l.length = 16) (hT : ∀ b : UInt8, T[b.toNat]? = some (f b)) (hkb : Bytes w k o T) (hkg : k < g) :
    Calls Try.prog 40 #[.pointer (some ⟨g, 0, none⟩), .pointer (some ⟨k, o, none⟩)] w fun e w' => e = .returned (.tuple #[]) ∧ Below g w w' ∧ Row w' g t (l.map f) := by
  have HL := Lib.hid hl; have HT := Lib.hid hT; have HKB := Lib.hid hkb
  have HA : Hid ((l.map f).length = 16) := Lib.hid (by rw [List.length_map]; exact hl)
  clear hl hT hkb
  go_enter Try.func40, Try.ntmps40
  go_wp2
  go_loopw [7] (fun i wr => ∃ j : Nat, j ≤ 16 ∧ i = .int .i64 j ∧ Row wr g t (mixd (l.map f) l j) ∧ Below g w wr) (fun i _ => 16 - (intOf i).toNat)
  case atStart => exact ⟨0, Nat.zero_le _, rfl, by rw [mixd_zero]; exact hr, Below.refl _ _⟩
  case round =>
    obtain ⟨j, hj, rfl, hrow, hb⟩ := hrel
    by_cases hlt : j < 16
    · obtain ⟨x, hx⟩ : ∃ x, l[j]? = some x := ⟨_, List.getElem?_eq_getElem (by rw [HL.out]; exact hlt)⟩
      have hn : (l.map f)[j]? = some (f x) := by rw [List.getElem?_map, hx]; rfl
      have c1 := hrow.cell j x (by rw [mixd_at HA.out j j (by omega) (Nat.le_refl _)]; exact hx)
      have c2 := (HKB.out.below hb hkg) x.toNat _ (HT.out x)
      have f1 := hrow.frozen j
      have HS := Lib.hid (fun n => fun v hv => row_mixd HA.out HL.out j hlt (hrow.drewN n) _ hn v hv)
      have HB := Lib.hid hb
      have hxl := x.toNat_lt
      clear hx hn hrow hb
      generalize x.toNat = xn at *
      generalize f x = y at *
      go_wp2
      go_quiet (fail)
      go_wp2
      go_region
      go_wp2
      go_roundw
      case rel => exact ⟨j + 1, by omega, by go_num, HS.out _ _ rfl, (below_drewN HB.out _).setCell (p := ⟨g, _, none⟩) (Nat.le_refl _) _⟩
      case measure => simp [intOf]; omega
    · obtain rfl : j = 16 := by omega
      rw [mixd_all HA.out HL.out] at hrow
      have e16 : ((16 : Nat) : Int) = 16 := rfl
      rw [e16]
      clear e16
      go_wp2
      go_end0
      exact ⟨rfl, hb, hrow⟩
/-- Row i turned by i places to the left. -/
def shL (l : List UInt8) : List UInt8 := (List.range 16).map fun i => l.getD ((i + 4 * (i % 4)) % 16) 0
theorem shL_length (l : List UInt8) : (shL l).length = 16 := by simp [shL]
theorem shL_sub {l : List UInt8} (h : l.length = 16) : shL (l.map boxB) = subShift l := by
  obtain ⟨a0, a1, a2, a3, a4, a5, a6, a7, a8, a9, a10, a11, a12, a13, a14, a15, rfl⟩ := sixteen h
  rfl
set_option maxRecDepth 100000 in
set_option maxHeartbeats 1000000 in
theorem turnLeft_any (w : World) (g : Nat) (l : List UInt8) (hr : Row w g 54 l) (hl : l.length = 16) :
    Calls Try.prog 41 #[.pointer (some ⟨g, 0, none⟩)] w fun e w' => e = .returned (.tuple #[]) ∧ Below g w w' ∧ Row w' g 54 (shL l) := by
  have hz := zero_run zero16
  have HL := Lib.hid hl; have HA := Lib.hid (shL_length l)
  have hgl := hr.lt
  have hr0 : Row ((w.alloc (.cells (zc 16) 54)).setRow w.heap.size (l.map cellOf).toArray) g 54 l := (setRow_other _ _ _ _ (by omega)).trans (hr.alloc _)
  have hw0 : Row ((w.alloc (.cells (zc 16) 54)).setRow w.heap.size (l.map cellOf).toArray) w.heap.size 54 l := setRow_heap _ _ _ _ _ _ (Row.zero w _ 16)
  have hb0 : Below g w ((w.alloc (.cells (zc 16) 54)).setRow w.heap.size (l.map cellOf).toArray) := below_setRow ((Below.refl g w).alloc (by omega) _) (by omega) _
  have HR0 := Lib.hid hr0; have HW0 := Lib.hid hw0; have HB0 := Lib.hid hb0
  clear hr0 hw0 hb0 hl
  go_enter Try.func41, Try.ntmps41
  go_wp2_with (first
    | (refine wpList_load_row rfl 54 (.tmp 5) rfl _ rfl 54 _ (0, 0) _ hr Try.underlying54 rfl (sized size16 HL.out) ?_)
    | (refine wpList_store_row rfl 54 (.tmp 2) (.tmp 6) rfl w.heap.size _ rfl rfl 54 _ (Row.zero w _ 16) (sized size16 HL.out) (by simp [HL.out]) (cells8_one _) ?_))
  go_loopw [7] (fun i wr => ∃ j : Nat, j ≤ 16 ∧ i = .int .i64 j ∧ Row wr g 54 (mixd (shL l) l j) ∧ Row wr w.heap.size 54 l ∧ Below g w wr) (fun i _ => 16 - (intOf i).toNat)
  case atStart => exact ⟨0, Nat.zero_le _, rfl, by rw [mixd_zero]; exact HR0.out, HW0.out, HB0.out⟩
  case round =>
    obtain ⟨j, hj, rfl, hrow, hwas, hb⟩ := hrel
    by_cases hlt : j < 16
    · obtain ⟨q, hq⟩ : ∃ q : Nat, ((j : Int) + 4 * ((j : Int) % 4)) % 16 = (q : Int) := ⟨(j + 4 * (j % 4)) % 16, by omega⟩
      have hq2 : (j + 4 * (j % 4)) % 16 = q := by omega
      have hq3 : q < 16 := by omega
      obtain ⟨x, hx⟩ : ∃ x, l[q]? = some x := ⟨_, List.getElem?_eq_getElem (by rw [HL.out]; exact hq3)⟩
      obtain ⟨y, hy⟩ : ∃ y, l[j]? = some y := ⟨_, List.getElem?_eq_getElem (by rw [HL.out]; exact hlt)⟩
      have hn : (shL l)[j]? = some x := by unfold shL; simp [hlt, hq2, hx]
      have c1 := hrow.cell j y (by rw [mixd_at HA.out j j (by omega) (Nat.le_refl _)]; exact hy)
      have c2 := hwas.cell q x hx
      have f1 := hrow.frozen j
      have HS := Lib.hid (fun v hv => row_mixd HA.out HL.out j hlt hrow _ hn v hv)
      have HB := Lib.hid hb; have HW := Lib.hid hwas
      have HG := Lib.hid hgl
      clear hx hy hn hrow hb hq2 hwas hgl
      generalize x.toNat = xn at *
      go_wp2
      go_region
      go_wp2
      go_roundw
      case rel => exact ⟨j + 1, by omega, by go_num, HS.out _ rfl, (HW.out.other (by have := HG.out; omega) _ _).drew, (HB.out.setCell (p := ⟨g, _, none⟩) (Nat.le_refl _) _).drew⟩
      case measure => simp [intOf]; omega
    · obtain rfl : j = 16 := by omega
      rw [mixd_all HA.out HL.out] at hrow
      have e16 : ((16 : Nat) : Int) = 16 := rfl
      rw [e16]
      clear e16
      go_wp2
      go_end0
      exact ⟨rfl, hb, hrow⟩
end Go.Proofs.Ythglecfbcdikaaa
