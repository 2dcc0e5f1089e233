/- Contracts of the library's sort at numbers of 32 bits: numbers that scatter. Contracts of the library's sort at numbers of 32 bits: how many bits; a greater power of two. Contract of the library's sort at numbers of 32 bits: a few numbers scattered. -/
import Derived.Test.YtcjdnifckngcfaaGreatDoorM16
import Derived.Laws.BitsAllLaws
import Derived.Test.YtcjdnifckngcfaaGreatDoorShelf
import Derived.Lib.BitFns
import Derived.Deep.CutBlock
section
namespace Go.Proofs.YtcjdnifckngcfaaGreatDoor
open Go.RowKit

theorem wrap_range (z : Int) : 0 ≤ IntKind.u64.wrap z ∧ IntKind.u64.wrap z < 18446744073709551616 := by
  rw [IntKind.wrap_u64]
  omega
theorem xor_some (a : Nat) (b : Int) (ha : a < 18446744073709551616) (hb : 0 ≤ b ∧ b < 18446744073709551616) : ∃ Y : Nat, Y < 18446744073709551616 ∧ bits BinOp.xor IntKind.u64 (a : Int) b = (Y : Int) := by
  refine ⟨a ^^^ b.toNat, ?_, ?_⟩
  · exact Nat.xor_lt_two_pow (n := 64) ha (by omega)
  · have := u64_xor (a : Int) b (by omega) (by omega) hb.1 hb.2
    simpa using this
theorem and_some (a m : Nat) (ha : a < 18446744073709551616) (hm : m < 18446744073709551616) : ∃ Y : Nat, Y ≤ m ∧ bits BinOp.and IntKind.u64 (a : Int) (m : Int) = (Y : Int) :=
  ⟨a &&& m, Nat.and_le_right, u64_and_nat a m ha hm⟩
set_option maxRecDepth 100000 in
set_option maxHeartbeats 4000000 in
theorem xnext_any (r : Nat) (X : Nat) (hX : X < 18446744073709551616) (w : World) (h : Blk w r 250 [.int .u64 (X : Int)]) :
    Calls Tryz.prog 202 #[.pointer (some ⟨r, 0, none⟩)] w fun e w' => ∃ Y : Nat, Y < 18446744073709551616 ∧ e = .returned (.int .u64 (Y : Int)) ∧ Cnt w w' r 250 (.int .u64 (Y : Int)) := by
  have c0 := h.cell 0 _ rfl
  have f0 := h.frozen 0
  have HC := Lib.hid (Cnt.refl h)
  clear h
  go_enter Tryz.func202, Tryz.ntmps202
  obtain ⟨Y1, hY1, eY1⟩ := xor_some X (IntKind.u64.wrap ((X : Int) * 8192)) hX (wrap_range _)
  go_upto_region 1 with (fail)
  go_region
  (try simp only [eY1])
  generalize hW0 : World.setCell _ _ _ = W0
  have HC0 : Hid (Cnt w W0 r 250 (.int .u64 (Y1 : Int))) := Lib.hid (by rw [← hW0]; first | exact HC.out.set_ _ | exact (HC.out.drewN 1).set_ _)
  clear hW0 eY1 c0 f0
  have c0 := HC0.out.blk.cell 0 _ rfl
  have f0 := HC0.out.blk.frozen 0
  obtain ⟨Y2, hY2, eY2⟩ := xor_some Y1 ((Y1 : Int) / 128) hY1 (⟨by omega, by omega⟩)
  go_upto_region 2 with (fail)
  go_region
  (try simp only [eY2])
  generalize hW1 : World.setCell _ _ _ = W1
  have HC1 : Hid (Cnt w W1 r 250 (.int .u64 (Y2 : Int))) := Lib.hid (by rw [← hW1]; first | exact HC0.out.set_ _ | exact (HC0.out.drewN 1).set_ _)
  clear hW1 eY2 c0 f0
  have c0 := HC1.out.blk.cell 0 _ rfl
  have f0 := HC1.out.blk.frozen 0
  obtain ⟨Y3, hY3, eY3⟩ := xor_some Y2 (IntKind.u64.wrap ((Y2 : Int) * 131072)) hY2 (wrap_range _)
  go_upto_region 3 with (fail)
  go_region
  (try simp only [eY3])
  generalize hW2 : World.setCell _ _ _ = W2
  have HC2 : Hid (Cnt w W2 r 250 (.int .u64 (Y3 : Int))) := Lib.hid (by rw [← hW2]; first | exact HC1.out.set_ _ | exact (HC1.out.drewN 1).set_ _)
  clear hW2 eY3 c0 f0
  have c0 := HC2.out.blk.cell 0 _ rfl
  have f0 := HC2.out.blk.frozen 0
  go_wp2
  go_ret
  exact ⟨Y3, hY3, rfl, by first | exact HC2.out | exact ((HC2.out.drewN 1).drewN 1).drewN 1⟩
end Go.Proofs.YtcjdnifckngcfaaGreatDoor
end

section
namespace Go.Proofs.YtcjdnifckngcfaaGreatDoor
open Go.RowKit

theorem bitLen_hi : ∀ (n x : Nat), x ≤ n → x < 2 ^ 64 → x < 2 ^ Lib.bitLen x
  | 0, x, h, _ => by
    obtain rfl : x = 0 := by omega
    exact Nat.two_pow_pos _
  | n + 1, x, h, hx => by
    by_cases h0 : x = 0
    · subst h0; exact Nat.two_pow_pos _
    · have := bitLen_hi n (x / 2) (by omega) (by omega)
      rw [Lib.bitLen_half x h0 hx, Nat.add_comm, Nat.pow_succ]
      omega
theorem bitLen_lo : ∀ (n x : Nat), x ≤ n → x < 2 ^ 64 → x ≠ 0 → 2 ^ Lib.bitLen x ≤ 2 * x
  | 0, x, h, _, h0 => absurd (by omega) h0
  | n + 1, x, h, hx, h0 => by
    rw [Lib.bitLen_half x h0 hx, Nat.add_comm, Nat.pow_succ]
    by_cases h1 : x / 2 = 0
    · rw [h1]
      have : Lib.bitLen 0 = 0 := by decide
      rw [this]
      omega
    · have := bitLen_lo n (x / 2) (by omega) (by omega) h1
      omega
theorem blen_any (n : Nat) (w : World) (h0 : 1 ≤ n) (h1 : n ≤ 1000000) : Calls Tryz.prog 151 #[.int .u64 (n : Int)] w fun e w' => ∃ k : Nat, e = .returned (.int .i64 (k : Int)) ∧ n < 2 ^ k ∧ 2 ^ k ≤ 2 * n ∧ k ≤ 20 ∧ w' = w := by
  refine (Tryz.bits_Len (n : Int) w (by omega) (by omega)).mono ?_
  rintro e w' ⟨rfl, rfl⟩
  rw [Int.toNat_natCast]
  exact ⟨_, rfl, bitLen_hi n n (Nat.le_refl _) (by omega), bitLen_lo n n (Nat.le_refl _) (by omega) (by omega), Lib.bitLen_le n 20 (by decide) (by omega), rfl⟩
set_option maxRecDepth 100000 in
theorem npow_any (n : Nat) (w : World) (h0 : 1 ≤ n) (h1 : n ≤ 1000000) : Calls Tryz.prog 201 #[.int .i64 (n : Int)] w fun e w' => ∃ m : Nat, e = .returned (.int .u64 (m : Int)) ∧ n < m ∧ m ≤ 2 * n ∧ w' = w := by
  have HL := Lib.hid (blen_any n w h0 h1)
  go_enter Tryz.func201, Tryz.ntmps201
  go_wp2_with (go_at_call 151; refine (HL.out).mono ?_; rintro e w1 ⟨k, rfl, k1, k2, k3, rfl⟩)
  have e2 : IntKind.u64.wrap ((2 : Int) ^ k) = ((2 ^ k : Nat) : Int) := by
    rw [IntKind.wrap_u64]
    have : ((2 : Int) ^ k) = ((2 ^ k : Nat) : Int) := by simp
    rw [this]
    omega
  rw [e2]
  go_ret
  exact ⟨2 ^ k, rfl, k1, k2, rfl⟩
end Go.Proofs.YtcjdnifckngcfaaGreatDoor
end

section
namespace Go.Proofs.YtcjdnifckngcfaaGreatDoor
open Go.RowKit

theorem RowN.cnt {w0 w w' : World} {g r : Nat} {T U : TypeId} {pos : List Value} {d : Array Nat} {v : Value} (h : RowN w0 w g T pos d) (c : Cnt w w' r U v) (hr : w0.heap.size ≤ r) (hn : g ≠ r) : RowN w0 w' g T pos d :=
  ⟨c.other h.blk hn, h.grown.andThen c.grown (fun j hj => .inl (by cases hj; exact hr)), h.lt⟩
theorem size_set2 (w : World) (p q : Addr) (u v : Value) : ((w.setCell p u).setCell q v).heap.size = w.heap.size := by simp [World.setCell]
set_option maxRecDepth 100000 in
set_option maxHeartbeats 8000000 in
theorem brk_any (g : Nat) (T : TypeId) (pos : List Value) (d : Array Nat) (a l b cap : Nat) (w : World) (h : Blk w g T (d.toList.map cN ++ pos)) (hl12 : 12 < l) (hbl : b = a + l) (hb : b ≤ d.size) (hs : d.size ≤ 1000000) :
    Calls Tryz.prog 172 #[.slice (some ⟨g, 0, none⟩) d.size cap, .int .i64 (a : Int), .int .i64 (b : Int)] w fun e w' => e = .returned (.tuple #[]) ∧ ∃ d', RowN w w' g T pos d' ∧ Sort.PermIn a b d d' := by
  have HX := Lib.hid xnext_any
  have hgw : g ≠ w.heap.size := by have := h.lt; omega
  have HN := Lib.hid (Blk.new w [.int .u64 (l : Int)] 250)
  have HR1 := Lib.hid ((RowN.refl h).ext ((Ext.refl w).alloc (.cells #[.int .u64 (l : Int)] 250)))
  have HP := Lib.hid (fun (u : World) => npow_any l u (by omega) (by omega))
  clear h
  have e0 : (b : Int) - (a : Int) = (l : Int) := by omega
  have HBL := Lib.hid hbl
  obtain ⟨q, hq⟩ : ∃ q, l / 4 = q := ⟨_, rfl⟩
  have hqd : (l : Int) / 4 = (q : Int) := by omega
  have q3 : 3 ≤ q := by omega
  have q4 : 4 * q ≤ l := by omega
  have hab : a + l ≤ d.size := by omega
  obtain ⟨z, hz⟩ : ∃ z, a + q * 2 = z := ⟨_, rfl⟩
  have hz1 : (a : Int) + (q : Int) * 2 = (z : Int) := by omega
  have hza : a + 1 ≤ z := by omega
  have hzb : z + 1 < a + l := by omega
  clear hbl hq hz q4
  go_enter Tryz.func172, Tryz.ntmps172
  have h8 : decide ((8 : Int) ≤ (l : Int)) = true := by rw [decide_eq_true_iff]; omega
  go_upto_region 3 with (fail)
  (try simp only [h8])
  go_upto_region 4 with (go_at_call 201; refine (HP.out _).mono ?_; rintro e w1 ⟨m, rfl, m1, m2, rfl⟩)
  have em : ((m - 1 : Nat) : Int) = (m : Int) - 1 := by omega
  have HM := Lib.hid em
  clear em
  go_wp2
  go_loopw [9, 10] (fun iv _ wr => ∃ (ix X : Nat) (dk : Array Nat), iv = .int .i64 (ix : Int) ∧ z ≤ ix + 1 ∧ ix ≤ z + 2 ∧ dk.size = d.size ∧ X < 18446744073709551616 ∧ Hid (RowN w wr g T pos dk) ∧ Hid (Blk wr w.heap.size 250 [.int .u64 (X : Int)]) ∧ Hid (Sort.PermIn a b d dk)) (fun iv _ _ => z + 2 - (intOf iv).toNat)
  case atStart => exact ⟨z - 1, l, d, by go_num, by omega, by omega, rfl, by omega, HR1, HN, Lib.hid (Sort.permIn_refl _ _ _)⟩
  case round =>
    obtain ⟨ix, X, dk, rfl, hi1, hi2, hdk, hXX, hR, hB, hP⟩ := hrel
    by_cases hle : ix ≤ z + 1
    · have hlei : (ix : Int) ≤ (z : Int) + 1 := by omega
      go_upto_if 43 with (go_at_call 202; refine (HX.out w.heap.size X hXX _ hB.out).mono ?_; rintro e w2 ⟨Y, hY, rfl, cY⟩; obtain ⟨Z, hZ, eZ⟩ := and_some Y (m - 1) hY (by omega); rw [HM.out] at eZ; have hZ2 : Z < 2 * l := (by omega); have HR2 := Lib.hid (hR.out.cnt cY (Nat.le_refl _) hgw); have HB2 := Lib.hid cY.blk; clear cY)
      go_cut [10] (fun ov wx => ∃ o : Nat, ov = .int .i64 (o : Int) ∧ o < l ∧ wx = w2)
      case first =>
        by_cases hzl : l ≤ Z
        · have hzi : (l : Int) ≤ (Z : Int) := by omega
          go_wp2
          go_meet
          case rel => exact ⟨Z - l, by go_num, by omega, rfl⟩
        · have hzi : ¬ (l : Int) ≤ (Z : Int) := by omega
          go_wp2
          go_meet
          case rel => exact ⟨Z, rfl, by omega, rfl⟩
      case rest =>
        obtain ⟨o, rfl, ho, rfl⟩ := hcut
        have a0w : IntKind.i64.wrap ((a : Int) + (o : Int)) = (a : Int) + (o : Int) := IntWalk.i64_in _ ⟨by omega, by omega⟩
        have a0n : ((a : Int) + (o : Int)).toNat = a + o := by omega
        have a0l : (0 : Int) ≤ (a : Int) + (o : Int) := by omega
        have a0u : (a : Int) + (o : Int) < (d.size : Int) := by omega
        have b1 : ix < d.size := by omega
        have b0 : a + o < d.size := by omega
        have HBb := Lib.hid (show b = a + l from HBL.out)
        have hbb : b = a + l := HBL.out
        by_cases hio : a + o = ix
        · have hoi : (a : Int) + (o : Int) = (ix : Int) := by omega
          have HIO := Lib.hid hio
          clear a0w a0n a0l a0u b0
          have a0w : IntKind.i64.wrap ((ix : Int)) = (ix : Int) := IntWalk.i64_in _ ⟨by omega, by omega⟩
          have s1 := HR2.out.cell ix (by omega)
          have fs1 := HR2.out.frozen ix
          obtain ⟨sx, hsx⟩ : ∃ x, dk[ix]! = x := ⟨_, rfl⟩
          have HW0 := Lib.hid (HR2.out.swap ix ix (by omega) (by omega) hsx hsx)
          have HWn := Lib.hid (fun n => (HR2.out.drewN n).swap ix ix (by omega) (by omega) hsx hsx)
          rw [hsx] at s1
          clear hsx
          go_upto_region 10 with (fail)
          go_region
          generalize hW : World.setCell (World.setCell _ _ _) _ _ = W
          have HW2 : Hid (RowN w W g T pos (Sort.swp dk ix ix)) := Lib.hid (by rw [← hW]; first | exact HW0.out | exact HWn.out _)
          have HB3 : Hid (Blk W w.heap.size 250 [.int .u64 (Y : Int)]) := Lib.hid (by rw [← hW]; exact (Blk.other (Blk.other HB2.out (fun e => hgw e.symm) _ _) (fun e => hgw e.symm) _ _))
          clear hW HW0 HWn s1 fs1
          go_wp2
          go_roundw
          case rel => exact ⟨ix + 1, Y, Sort.swp dk ix ix, by go_num, by omega, by omega, by rw [Sort.size_swp]; exact hdk, hY, by first | exact HW2 | exact Lib.hid HW2.out.drew | exact Lib.hid (HW2.out.drewN _), HB3, Lib.hid (Sort.permIn_trans _ _ _ _ _ hP.out (Sort.swp_permIn _ _ _ _ _ (by omega) (by omega) (by omega) (by omega) (by omega)))⟩
          case measure => first | (simp [intOf]; omega) | simp [intOf]
        · have hoi : ¬ ix = a + o := fun e => hio e.symm
          have s1 := HR2.out.cell ix (by omega)
          have s0 := HR2.out.cell (a + o) (by omega)
          have fs1 := HR2.out.frozen ix
          have fs0 := HR2.out.frozen (a + o)
          obtain ⟨sx, hsx⟩ : ∃ x, dk[ix]! = x := ⟨_, rfl⟩
          obtain ⟨sy, hsy⟩ : ∃ y, dk[(a + o)]! = y := ⟨_, rfl⟩
          have HW0 := Lib.hid (HR2.out.swap ix (a + o) (by omega) (by omega) hsx hsy)
          have HWn := Lib.hid (fun n => (HR2.out.drewN n).swap ix (a + o) (by omega) (by omega) hsx hsy)
          rw [hsx] at s1
          rw [hsy] at s0
          clear hsx hsy
          go_upto_region 10 with (fail)
          go_region
          generalize hW : World.setCell (World.setCell _ _ _) _ _ = W
          have HW2 : Hid (RowN w W g T pos (Sort.swp dk ix (a + o))) := Lib.hid (by rw [← hW]; first | exact HW0.out | exact HWn.out _)
          have HB3 : Hid (Blk W w.heap.size 250 [.int .u64 (Y : Int)]) := Lib.hid (by rw [← hW]; exact (Blk.other (Blk.other HB2.out (fun e => hgw e.symm) _ _) (fun e => hgw e.symm) _ _))
          clear hW HW0 HWn s1 s0 fs1 fs0
          go_wp2
          go_roundw
          case rel => exact ⟨ix + 1, Y, Sort.swp dk ix (a + o), by go_num, by omega, by omega, by rw [Sort.size_swp]; exact hdk, hY, by first | exact HW2 | exact Lib.hid HW2.out.drew | exact Lib.hid (HW2.out.drewN _), HB3, Lib.hid (Sort.permIn_trans _ _ _ _ _ hP.out (Sort.swp_permIn _ _ _ _ _ (by omega) (by omega) (by omega) (by omega) (by omega)))⟩
          case measure => first | (simp [intOf]; omega) | simp [intOf]
    · have hlei : ¬ (ix : Int) ≤ (z : Int) + 1 := by omega
      go_wp2
      go_end0
      exact ⟨rfl, dk, hR.out, hP.out⟩
end Go.Proofs.YtcjdnifckngcfaaGreatDoor
end
