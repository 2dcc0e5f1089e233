/- Contract of the library's sort at numbers of 32 bits: a few numbers scattered. -/
import Derived.Test.YteddogalmdgjlaaDoorM41
import Derived.Deep.CutBlock
namespace Go.Proofs.YteddogalmdgjlaaDoor
open Go.RowKit

theorem RowN.cnt {w0 w w' : World} {g r : Nat} {T U : TypeId} {pos : List Value} {d : Array Nat} {v : Value} (h : RowN w0 w g T pos d) (c : Cnt w w' r U v) (hr : w0.heap.size ≤ r) (hn : g ≠ r) : RowN w0 w' g T pos d :=
  ⟨c.other h.blk hn, h.grown.andThen c.grown (fun j hj => .inl (by cases hj; exact hr)), h.lt⟩
theorem size_set2 (w : World) (p q : Addr) (u v : Value) : ((w.setCell p u).setCell q v).heap.size = w.heap.size := by simp [World.setCell]
set_option maxRecDepth 100000 in
set_option maxHeartbeats 8000000 in
theorem brk_any (g : Nat) (T : TypeId) (pos : List Value) (d : Array Nat) (a l b cap : Nat) (w : World) (h : Blk w g T (d.toList.map cN ++ pos)) (hl12 : 12 < l) (hbl : b = a + l) (hb : b ≤ d.size) (hs : d.size ≤ 1000000) :
    Calls Tryd.prog 63 #[.slice (some ⟨g, 0, none⟩) d.size cap, .int .i64 (a : Int), .int .i64 (b : Int)] w fun e w' => e = .returned (.tuple #[]) ∧ ∃ d', RowN w w' g T pos d' ∧ Sort.PermIn a b d d' := by
  have HX := Lib.hid xnext_any
  have hgw : g ≠ w.heap.size := by have := h.lt; omega
  have HN := Lib.hid (Blk.new w [.int .u64 (l : Int)] 125)
  have HR1 := Lib.hid ((RowN.refl h).ext ((Ext.refl w).alloc (.cells #[.int .u64 (l : Int)] 125)))
  have HP := Lib.hid (fun (u : World) => npow_any l u (by omega) (by omega))
  clear h
  have e0 : (b : Int) - (a : Int) = (l : Int) := by omega
  have HBL := Lib.hid hbl
  obtain ⟨q, hq⟩ : ∃ q, l / 4 = q := ⟨_, rfl⟩
  have hqd : (l : Int) / 4 = (q : Int) := by omega
  have q3 : 3 ≤ q := by omega
  have q4 : 4 * q ≤ l := by omega
  have hab : a + l ≤ d.size := by omega
  obtain ⟨z, hz⟩ : ∃ z, a + q * 2 = z := ⟨_, rfl⟩
  have hz1 : (a : Int) + (q : Int) * 2 = (z : Int) := by omega
  have hza : a + 1 ≤ z := by omega
  have hzb : z + 1 < a + l := by omega
  clear hbl hq hz q4
  go_enter Tryd.func63, Tryd.ntmps63
  have h8 : decide ((8 : Int) ≤ (l : Int)) = true := by rw [decide_eq_true_iff]; omega
  go_upto_region 3 with (fail)
  (try simp only [h8])
  go_upto_region 4 with (go_at_call 79; refine (HP.out _).mono ?_; rintro e w1 ⟨m, rfl, m1, m2, rfl⟩)
  have em : ((m - 1 : Nat) : Int) = (m : Int) - 1 := by omega
  have HM := Lib.hid em
  clear em
  go_wp2
  go_loopw [9, 10] (fun iv _ wr => ∃ (ix X : Nat) (dk : Array Nat), iv = .int .i64 (ix : Int) ∧ z ≤ ix + 1 ∧ ix ≤ z + 2 ∧ dk.size = d.size ∧ X < 18446744073709551616 ∧ Hid (RowN w wr g T pos dk) ∧ Hid (Blk wr w.heap.size 125 [.int .u64 (X : Int)]) ∧ Hid (Sort.PermIn a b d dk)) (fun iv _ _ => z + 2 - (intOf iv).toNat)
  case atStart => exact ⟨z - 1, l, d, by go_num, by omega, by omega, rfl, by omega, HR1, HN, Lib.hid (Sort.permIn_refl _ _ _)⟩
  case round =>
    obtain ⟨ix, X, dk, rfl, hi1, hi2, hdk, hXX, hR, hB, hP⟩ := hrel
    by_cases hle : ix ≤ z + 1
    · have hlei : (ix : Int) ≤ (z : Int) + 1 := by omega
      go_upto_if 43 with (go_at_call 80; refine (HX.out w.heap.size X hXX _ hB.out).mono ?_; rintro e w2 ⟨Y, hY, rfl, cY⟩; obtain ⟨Z, hZ, eZ⟩ := and_some Y (m - 1) hY (by omega); rw [HM.out] at eZ; have hZ2 : Z < 2 * l := (by omega); have HR2 := Lib.hid (hR.out.cnt cY (Nat.le_refl _) hgw); have HB2 := Lib.hid cY.blk; clear cY)
      go_cut [10] (fun ov wx => ∃ o : Nat, ov = .int .i64 (o : Int) ∧ o < l ∧ wx = w2)
      case first =>
        by_cases hzl : l ≤ Z
        · have hzi : (l : Int) ≤ (Z : Int) := by omega
          go_wp2
          go_meet
          case rel => exact ⟨Z - l, by go_num, by omega, rfl⟩
        · have hzi : ¬ (l : Int) ≤ (Z : Int) := by omega
          go_wp2
          go_meet
          case rel => exact ⟨Z, rfl, by omega, rfl⟩
      case rest =>
        obtain ⟨o, rfl, ho, rfl⟩ := hcut
        have a0w : IntKind.i64.wrap ((a : Int) + (o : Int)) = (a : Int) + (o : Int) := IntWalk.i64_in _ ⟨by omega, by omega⟩
        have a0n : ((a : Int) + (o : Int)).toNat = a + o := by omega
        have a0l : (0 : Int) ≤ (a : Int) + (o : Int) := by omega
        have a0u : (a : Int) + (o : Int) < (d.size : Int) := by omega
        have b1 : ix < d.size := by omega
        have b0 : a + o < d.size := by omega
        have HBb := Lib.hid (show b = a + l from HBL.out)
        have hbb : b = a + l := HBL.out
        by_cases hio : a + o = ix
        · have hoi : (a : Int) + (o : Int) = (ix : Int) := by omega
          have HIO := Lib.hid hio
          clear a0w a0n a0l a0u b0
          have a0w : IntKind.i64.wrap ((ix : Int)) = (ix : Int) := IntWalk.i64_in _ ⟨by omega, by omega⟩
          have s1 := HR2.out.cell ix (by omega)
          have fs1 := HR2.out.frozen ix
          obtain ⟨sx, hsx⟩ : ∃ x, dk[ix]! = x := ⟨_, rfl⟩
          have HW0 := Lib.hid (HR2.out.swap ix ix (by omega) (by omega) hsx hsx)
          have HWn := Lib.hid (fun n => (HR2.out.drewN n).swap ix ix (by omega) (by omega) hsx hsx)
          rw [hsx] at s1
          clear hsx
          go_upto_region 10 with (fail)
          go_region
          generalize hW : World.setCell (World.setCell _ _ _) _ _ = W
          have HW2 : Hid (RowN w W g T pos (Sort.swp dk ix ix)) := Lib.hid (by rw [← hW]; first | exact HW0.out | exact HWn.out _)
          have HB3 : Hid (Blk W w.heap.size 125 [.int .u64 (Y : Int)]) := Lib.hid (by rw [← hW]; exact (Blk.other (Blk.other HB2.out (fun e => hgw e.symm) _ _) (fun e => hgw e.symm) _ _))
          clear hW HW0 HWn s1 fs1
          go_wp2
          go_roundw
          case rel => exact ⟨ix + 1, Y, Sort.swp dk ix ix, by go_num, by omega, by omega, by rw [Sort.size_swp]; exact hdk, hY, by first | exact HW2 | exact Lib.hid HW2.out.drew | exact Lib.hid (HW2.out.drewN _), HB3, Lib.hid (Sort.permIn_trans _ _ _ _ _ hP.out (Sort.swp_permIn _ _ _ _ _ (by omega) (by omega) (by omega) (by omega) (by omega)))⟩
          case measure => first | (simp [intOf]; omega) | simp [intOf]
        · have hoi : ¬ ix = a + o := fun e => hio e.symm
          have s1 := HR2.out.cell ix (by omega)
          have s0 := HR2.out.cell (a + o) (by omega)
          have fs1 := HR2.out.frozen ix
          have fs0 := HR2.out.frozen (a + o)
          obtain ⟨sx, hsx⟩ : ∃ x, dk[ix]! = x := ⟨_, rfl⟩
          obtain ⟨sy, hsy⟩ : ∃ y, dk[(a + o)]! = y := ⟨_, rfl⟩
          have HW0 := Lib.hid (HR2.out.swap ix (a + o) (by omega) (by omega) hsx hsy)
          have HWn := Lib.hid (fun n => (HR2.out.drewN n).swap ix (a + o) (by omega) (by omega) hsx hsy)
          rw [hsx] at s1
          rw [hsy] at s0
          clear hsx hsy
          go_upto_region 10 with (fail)
          go_region
          generalize hW : World.setCell (World.setCell _ _ _) _ _ = W
          have HW2 : Hid (RowN w W g T pos (Sort.swp dk ix (a + o))) := Lib.hid (by rw [← hW]; first | exact HW0.out | exact HWn.out _)
          have HB3 : Hid (Blk W w.heap.size 125 [.int .u64 (Y : Int)]) := Lib.hid (by rw [← hW]; exact (Blk.other (Blk.other HB2.out (fun e => hgw e.symm) _ _) (fun e => hgw e.symm) _ _))
          clear hW HW0 HWn s1 s0 fs1 fs0
          go_wp2
          go_roundw
          case rel => exact ⟨ix + 1, Y, Sort.swp dk ix (a + o), by go_num, by omega, by omega, by rw [Sort.size_swp]; exact hdk, hY, by first | exact HW2 | exact Lib.hid HW2.out.drew | exact Lib.hid (HW2.out.drewN _), HB3, Lib.hid (Sort.permIn_trans _ _ _ _ _ hP.out (Sort.swp_permIn _ _ _ _ _ (by omega) (by omega) (by omega) (by omega) (by omega)))⟩
          case measure => first | (simp [intOf]; omega) | simp [intOf]
    · have hlei : ¬ (ix : Int) ≤ (z : Int) + 1 := by omega
      go_wp2
      go_end0
      exact ⟨rfl, dk, hR.out, hP.out⟩
end Go.Proofs.YteddogalmdgjlaaDoor
