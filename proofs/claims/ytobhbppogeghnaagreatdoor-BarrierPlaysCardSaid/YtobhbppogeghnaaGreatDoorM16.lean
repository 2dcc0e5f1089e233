/- Contracts of the library's sort at numbers of 32 bits: numbers that scatter. Contracts of the library's sort at numbers of 32 bits: how many bits; a greater power of two. Contract of the library's sort at numbers of 32 bits: a few numbers scattered. Contract of the library's sort at numbers of 32 bits: the sort itself, which calls itself. -/
import Derived.Test.YtobhbppogeghnaaGreatDoorM11
import Derived.Laws.BitsAllLaws
import Derived.Test.YtobhbppogeghnaaGreatDoorShelf
import Derived.Lib.BitFns
import Derived.Deep.CutBlock
import Derived.Test.YtobhbppogeghnaaGreatDoorM12
import Derived.Test.YtobhbppogeghnaaGreatDoorM13
import Derived.Test.YtobhbppogeghnaaGreatDoorM15
import Derived.Sort.AssemblyPlain
section
namespace Go.Proofs.YtobhbppogeghnaaGreatDoor
open Go.RowKit

theorem wrap_range (z : Int) : 0 ≤ IntKind.u64.wrap z ∧ IntKind.u64.wrap z < 18446744073709551616 := by
  rw [IntKind.wrap_u64]
  omega
theorem xor_some (a : Nat) (b : Int) (ha : a < 18446744073709551616) (hb : 0 ≤ b ∧ b < 18446744073709551616) : ∃ Y : Nat, Y < 18446744073709551616 ∧ bits BinOp.xor IntKind.u64 (a : Int) b = (Y : Int) := by
  refine ⟨a ^^^ b.toNat, ?_, ?_⟩
  · exact Nat.xor_lt_two_pow (n := 64) ha (by omega)
  · have := u64_xor (a : Int) b (by omega) (by omega) hb.1 hb.2
    simpa using this
theorem and_some (a m : Nat) (ha : a < 18446744073709551616) (hm : m < 18446744073709551616) : ∃ Y : Nat, Y ≤ m ∧ bits BinOp.and IntKind.u64 (a : Int) (m : Int) = (Y : Int) :=
  ⟨a &&& m, Nat.and_le_right, u64_and_nat a m ha hm⟩
set_option maxRecDepth 100000 in
set_option maxHeartbeats 4000000 in
theorem xnext_any (r : Nat) (X : Nat) (hX : X < 18446744073709551616) (w : World) (h : Blk w r 250 [.int .u64 (X : Int)]) :
    Calls Tryz.prog 202 #[.pointer (some ⟨r, 0, none⟩)] w fun e w' => ∃ Y : Nat, Y < 18446744073709551616 ∧ e = .returned (.int .u64 (Y : Int)) ∧ Cnt w w' r 250 (.int .u64 (Y : Int)) := by
  have c0 := h.cell 0 _ rfl
  have f0 := h.frozen 0
  have HC := Lib.hid (Cnt.refl h)
  clear h
  go_enter Tryz.func202, Tryz.ntmps202
  obtain ⟨Y1, hY1, eY1⟩ := xor_some X (IntKind.u64.wrap ((X : Int) * 8192)) hX (wrap_range _)
  go_upto_region 1 with (fail)
  go_region
  (try simp only [eY1])
  generalize hW0 : World.setCell _ _ _ = W0
  have HC0 : Hid (Cnt w W0 r 250 (.int .u64 (Y1 : Int))) := Lib.hid (by rw [← hW0]; first | exact HC.out.set_ _ | exact (HC.out.drewN 1).set_ _)
  clear hW0 eY1 c0 f0
  have c0 := HC0.out.blk.cell 0 _ rfl
  have f0 := HC0.out.blk.frozen 0
  obtain ⟨Y2, hY2, eY2⟩ := xor_some Y1 ((Y1 : Int) / 128) hY1 (⟨by omega, by omega⟩)
  go_upto_region 2 with (fail)
  go_region
  (try simp only [eY2])
  generalize hW1 : World.setCell _ _ _ = W1
  have HC1 : Hid (Cnt w W1 r 250 (.int .u64 (Y2 : Int))) := Lib.hid (by rw [← hW1]; first | exact HC0.out.set_ _ | exact (HC0.out.drewN 1).set_ _)
  clear hW1 eY2 c0 f0
  have c0 := HC1.out.blk.cell 0 _ rfl
  have f0 := HC1.out.blk.frozen 0
  obtain ⟨Y3, hY3, eY3⟩ := xor_some Y2 (IntKind.u64.wrap ((Y2 : Int) * 131072)) hY2 (wrap_range _)
  go_upto_region 3 with (fail)
  go_region
  (try simp only [eY3])
  generalize hW2 : World.setCell _ _ _ = W2
  have HC2 : Hid (Cnt w W2 r 250 (.int .u64 (Y3 : Int))) := Lib.hid (by rw [← hW2]; first | exact HC1.out.set_ _ | exact (HC1.out.drewN 1).set_ _)
  clear hW2 eY3 c0 f0
  have c0 := HC2.out.blk.cell 0 _ rfl
  have f0 := HC2.out.blk.frozen 0
  go_wp2
  go_ret
  exact ⟨Y3, hY3, rfl, by first | exact HC2.out | exact ((HC2.out.drewN 1).drewN 1).drewN 1⟩
end Go.Proofs.YtobhbppogeghnaaGreatDoor
end

section
namespace Go.Proofs.YtobhbppogeghnaaGreatDoor
open Go.RowKit

theorem bitLen_hi : ∀ (n x : Nat), x ≤ n → x < 2 ^ 64 → x < 2 ^ Lib.bitLen x
  | 0, x, h, _ => by
    obtain rfl : x = 0 := by omega
    exact Nat.two_pow_pos _
  | n + 1, x, h, hx => by
    by_cases h0 : x = 0
    · subst h0; exact Nat.two_pow_pos _
    · have := bitLen_hi n (x / 2) (by omega) (by omega)
      rw [Lib.bitLen_half x h0 hx, Nat.add_comm, Nat.pow_succ]
      omega
theorem bitLen_lo : ∀ (n x : Nat), x ≤ n → x < 2 ^ 64 → x ≠ 0 → 2 ^ Lib.bitLen x ≤ 2 * x
  | 0, x, h, _, h0 => absurd (by omega) h0
  | n + 1, x, h, hx, h0 => by
    rw [Lib.bitLen_half x h0 hx, Nat.add_comm, Nat.pow_succ]
    by_cases h1 : x / 2 = 0
    · rw [h1]
      have : Lib.bitLen 0 = 0 := by decide
      rw [this]
      omega
    · have := bitLen_lo n (x / 2) (by omega) (by omega) h1
      omega
theorem blen_any (n : Nat) (w : World) (h0 : 1 ≤ n) (h1 : n ≤ 1000000) : Calls Tryz.prog 151 #[.int .u64 (n : Int)] w fun e w' => ∃ k : Nat, e = .returned (.int .i64 (k : Int)) ∧ n < 2 ^ k ∧ 2 ^ k ≤ 2 * n ∧ k ≤ 20 ∧ w' = w := by
  refine (Tryz.bits_Len (n : Int) w (by omega) (by omega)).mono ?_
  rintro e w' ⟨rfl, rfl⟩
  rw [Int.toNat_natCast]
  exact ⟨_, rfl, bitLen_hi n n (Nat.le_refl _) (by omega), bitLen_lo n n (Nat.le_refl _) (by omega) (by omega), Lib.bitLen_le n 20 (by decide) (by omega), rfl⟩
set_option maxRecDepth 100000 in
theorem npow_any (n : Nat) (w : World) (h0 : 1 ≤ n) (h1 : n ≤ 1000000) : Calls Tryz.prog 201 #[.int .i64 (n : Int)] w fun e w' => ∃ m : Nat, e = .returned (.int .u64 (m : Int)) ∧ n < m ∧ m ≤ 2 * n ∧ w' = w := by
  have HL := Lib.hid (blen_any n w h0 h1)
  go_enter Tryz.func201, Tryz.ntmps201
  go_wp2_with (go_at_call 151; refine (HL.out).mono ?_; rintro e w1 ⟨k, rfl, k1, k2, k3, rfl⟩)
  have e2 : IntKind.u64.wrap ((2 : Int) ^ k) = ((2 ^ k : Nat) : Int) := by
    rw [IntKind.wrap_u64]
    have : ((2 : Int) ^ k) = ((2 ^ k : Nat) : Int) := by simp
    rw [this]
    omega
  rw [e2]
  go_ret
  exact ⟨2 ^ k, rfl, k1, k2, rfl⟩
end Go.Proofs.YtobhbppogeghnaaGreatDoor
end

section
namespace Go.Proofs.YtobhbppogeghnaaGreatDoor
open Go.RowKit

theorem RowN.cnt {w0 w w' : World} {g r : Nat} {T U : TypeId} {pos : List Value} {d : Array Nat} {v : Value} (h : RowN w0 w g T pos d) (c : Cnt w w' r U v) (hr : w0.heap.size ≤ r) (hn : g ≠ r) : RowN w0 w' g T pos d :=
  ⟨c.other h.blk hn, h.grown.andThen c.grown (fun j hj => .inl (by cases hj; exact hr)), h.lt⟩
set_option maxRecDepth 100000 in
set_option maxHeartbeats 8000000 in
theorem brk_any (g : Nat) (T : TypeId) (pos : List Value) (d : Array Nat) (a l b cap : Nat) (w : World) (h : Blk w g T (d.toList.map cN ++ pos)) (hl12 : 12 < l) (hbl : b = a + l) (hb : b ≤ d.size) (hs : d.size ≤ 1000000) :
    Calls Tryz.prog 172 #[.slice (some ⟨g, 0, none⟩) d.size cap, .int .i64 (a : Int), .int .i64 (b : Int)] w fun e w' => e = .returned (.tuple #[]) ∧ ∃ d', RowN w w' g T pos d' ∧ Sort.PermIn a b d d' := by
  have HX := Lib.hid xnext_any
  have hgw : g ≠ w.heap.size := by have := h.lt; omega
  have HN := Lib.hid (Blk.new w [.int .u64 (l : Int)] 250)
  have HR1 := Lib.hid ((RowN.refl h).ext ((Ext.refl w).alloc (.cells #[.int .u64 (l : Int)] 250)))
  have HP := Lib.hid (fun (u : World) => npow_any l u (by omega) (by omega))
  clear h
  have e0 : (b : Int) - (a : Int) = (l : Int) := by omega
  have HBL := Lib.hid hbl
  obtain ⟨q, hq⟩ : ∃ q, l / 4 = q := ⟨_, rfl⟩
  have hqd : (l : Int) / 4 = (q : Int) := by omega
  have q3 : 3 ≤ q := by omega
  have q4 : 4 * q ≤ l := by omega
  have hab : a + l ≤ d.size := by omega
  obtain ⟨z, hz⟩ : ∃ z, a + q * 2 = z := ⟨_, rfl⟩
  have hz1 : (a : Int) + (q : Int) * 2 = (z : Int) := by omega
  have hza : a + 1 ≤ z := by omega
  have hzb : z + 1 < a + l := by omega
  clear hbl hq hz q4
  go_enter Tryz.func172, Tryz.ntmps172
  have h8 : decide ((8 : Int) ≤ (l : Int)) = true := by rw [decide_eq_true_iff]; omega
  go_upto_region 3 with (fail)
  (try simp only [h8])
  go_upto_region 4 with (go_at_call 201; refine (HP.out _).mono ?_; rintro e w1 ⟨m, rfl, m1, m2, rfl⟩)
  have em : ((m - 1 : Nat) : Int) = (m : Int) - 1 := by omega
  have HM := Lib.hid em
  clear em
  go_wp2
  go_loopw [9, 10] (fun iv _ wr => ∃ (ix X : Nat) (dk : Array Nat), iv = .int .i64 (ix : Int) ∧ z ≤ ix + 1 ∧ ix ≤ z + 2 ∧ dk.size = d.size ∧ X < 18446744073709551616 ∧ Hid (RowN w wr g T pos dk) ∧ Hid (Blk wr w.heap.size 250 [.int .u64 (X : Int)]) ∧ Hid (Sort.PermIn a b d dk)) (fun iv _ _ => z + 2 - (intOf iv).toNat)
  case atStart => exact ⟨z - 1, l, d, by go_num, by omega, by omega, rfl, by omega, HR1, HN, Lib.hid (Sort.permIn_refl _ _ _)⟩
  case round =>
    obtain ⟨ix, X, dk, rfl, hi1, hi2, hdk, hXX, hR, hB, hP⟩ := hrel
    by_cases hle : ix ≤ z + 1
    · have hlei : (ix : Int) ≤ (z : Int) + 1 := by omega
      go_upto_if 43 with (go_at_call 202; refine (HX.out w.heap.size X hXX _ hB.out).mono ?_; rintro e w2 ⟨Y, hY, rfl, cY⟩; obtain ⟨Z, hZ, eZ⟩ := and_some Y (m - 1) hY (by omega); rw [HM.out] at eZ; have hZ2 : Z < 2 * l := (by omega); have HR2 := Lib.hid (hR.out.cnt cY (Nat.le_refl _) hgw); have HB2 := Lib.hid cY.blk; clear cY)
      go_cut [10] (fun ov wx => ∃ o : Nat, ov = .int .i64 (o : Int) ∧ o < l ∧ wx = w2)
      case first =>
        by_cases hzl : l ≤ Z
        · have hzi : (l : Int) ≤ (Z : Int) := by omega
          go_wp2
          go_meet
          case rel => exact ⟨Z - l, by go_num, by omega, rfl⟩
        · have hzi : ¬ (l : Int) ≤ (Z : Int) := by omega
          go_wp2
          go_meet
          case rel => exact ⟨Z, rfl, by omega, rfl⟩
      case rest =>
        obtain ⟨o, rfl, ho, rfl⟩ := hcut
        have a0w : IntKind.i64.wrap ((a : Int) + (o : Int)) = (a : Int) + (o : Int) := IntWalk.i64_in _ ⟨by omega, by omega⟩
        have a0n : ((a : Int) + (o : Int)).toNat = a + o := by omega
        have a0l : (0 : Int) ≤ (a : Int) + (o : Int) := by omega
        have a0u : (a : Int) + (o : Int) < (d.size : Int) := by omega
        have b1 : ix < d.size := by omega
        have b0 : a + o < d.size := by omega
        have HBb := Lib.hid (show b = a + l from HBL.out)
        have hbb : b = a + l := HBL.out
        by_cases hio : a + o = ix
        · have hoi : (a : Int) + (o : Int) = (ix : Int) := by omega
          have HIO := Lib.hid hio
          clear a0w a0n a0l a0u b0
          have a0w : IntKind.i64.wrap ((ix : Int)) = (ix : Int) := IntWalk.i64_in _ ⟨by omega, by omega⟩
          have s1 := HR2.out.cell ix (by omega)
          have fs1 := HR2.out.frozen ix
          obtain ⟨sx, hsx⟩ : ∃ x, dk[ix]! = x := ⟨_, rfl⟩
          have HW0 := Lib.hid (HR2.out.swap ix ix (by omega) (by omega) hsx hsx)
          have HWn := Lib.hid (fun n => (HR2.out.drewN n).swap ix ix (by omega) (by omega) hsx hsx)
          rw [hsx] at s1
          clear hsx
          go_upto_region 10 with (fail)
          go_region
          generalize hW : World.setCell (World.setCell _ _ _) _ _ = W
          have HW2 : Hid (RowN w W g T pos (Sort.swp dk ix ix)) := Lib.hid (by rw [← hW]; first | exact HW0.out | exact HWn.out _)
          have HB3 : Hid (Blk W w.heap.size 250 [.int .u64 (Y : Int)]) := Lib.hid (by rw [← hW]; exact (Blk.other (Blk.other HB2.out (fun e => hgw e.symm) _ _) (fun e => hgw e.symm) _ _))
          clear hW HW0 HWn s1 fs1
          go_wp2
          go_roundw
          case rel => exact ⟨ix + 1, Y, Sort.swp dk ix ix, by go_num, by omega, by omega, by rw [Sort.size_swp]; exact hdk, hY, by first | exact HW2 | exact Lib.hid HW2.out.drew | exact Lib.hid (HW2.out.drewN _), HB3, Lib.hid (Sort.permIn_trans _ _ _ _ _ hP.out (Sort.swp_permIn _ _ _ _ _ (by omega) (by omega) (by omega) (by omega) (by omega)))⟩
          case measure => first | (simp [intOf]; omega) | simp [intOf]
        · have hoi : ¬ ix = a + o := fun e => hio e.symm
          have s1 := HR2.out.cell ix (by omega)
          have s0 := HR2.out.cell (a + o) (by omega)
          have fs1 := HR2.out.frozen ix
          have fs0 := HR2.out.frozen (a + o)
          obtain ⟨sx, hsx⟩ : ∃ x, dk[ix]! = x := ⟨_, rfl⟩
          obtain ⟨sy, hsy⟩ : ∃ y, dk[(a + o)]! = y := ⟨_, rfl⟩
          have HW0 := Lib.hid (HR2.out.swap ix (a + o) (by omega) (by omega) hsx hsy)
          have HWn := Lib.hid (fun n => (HR2.out.drewN n).swap ix (a + o) (by omega) (by omega) hsx hsy)
          rw [hsx] at s1
          rw [hsy] at s0
          clear hsx hsy
          go_upto_region 10 with (fail)
          go_region
          generalize hW : World.setCell (World.setCell _ _ _) _ _ = W
          have HW2 : Hid (RowN w W g T pos (Sort.swp dk ix (a + o))) := Lib.hid (by rw [← hW]; first | exact HW0.out | exact HWn.out _)
          have HB3 : Hid (Blk W w.heap.size 250 [.int .u64 (Y : Int)]) := Lib.hid (by rw [← hW]; exact (Blk.other (Blk.other HB2.out (fun e => hgw e.symm) _ _) (fun e => hgw e.symm) _ _))
          clear hW HW0 HWn s1 s0 fs1 fs0
          go_wp2
          go_roundw
          case rel => exact ⟨ix + 1, Y, Sort.swp dk ix (a + o), by go_num, by omega, by omega, by rw [Sort.size_swp]; exact hdk, hY, by first | exact HW2 | exact Lib.hid HW2.out.drew | exact Lib.hid (HW2.out.drewN _), HB3, Lib.hid (Sort.permIn_trans _ _ _ _ _ hP.out (Sort.swp_permIn _ _ _ _ _ (by omega) (by omega) (by omega) (by omega) (by omega)))⟩
          case measure => first | (simp [intOf]; omega) | simp [intOf]
    · have hlei : ¬ (ix : Int) ≤ (z : Int) + 1 := by omega
      go_wp2
      go_end0
      exact ⟨rfl, dk, hR.out, hP.out⟩
end Go.Proofs.YtobhbppogeghnaaGreatDoor
end

section
namespace Go.Proofs.YtobhbppogeghnaaGreatDoor
open Go.RowKit

theorem pivot_any' (g : Nat) (T : TypeId) (pos : List Value) (d : Array Nat) (a l b cap : Nat) (w : World) (h : Blk w g T (d.toList.map cN ++ pos)) (hl : 12 < l) (hbl : b = a + l) (hb : b ≤ d.size) (hs : d.size ≤ 1000000) :
    Calls Tryz.prog 173 #[.slice (some ⟨g, 0, none⟩) d.size cap, .int .i64 (a : Int), .int .i64 (b : Int)] w fun e w' => ∃ x hint : Nat, e = .returned (.tuple #[.int .i64 (x : Int), .int .i64 (hint : Int)]) ∧ (a ≤ x ∧ x < b) ∧ (hint = 0 ∨ hint = 1 ∨ hint = 2) ∧ Ext w w' := by
  subst hbl
  exact pivot_any g T pos d a l cap w h hl hb hs
/-- What a call of the sort leaves. -/
def Sorts (N : Nat) : Prop := ∀ (g : Nat) (T : TypeId) (pos : List Value) (d : Array Nat) (a b limit n cap : Nat) (w : World), b - a < N → Blk w g T (d.toList.map cN ++ pos) → a ≤ b → b ≤ d.size → n = d.size → n ≤ 1000000 → limit ≤ 1000000 → Sort.Below ltN a b d →
  Calls Tryz.prog 150 #[.slice (some ⟨g, 0, none⟩) n cap, .int .i64 (a : Int), .int .i64 (b : Int), .int .i64 (limit : Int)] w fun e w' => e = .returned (.tuple #[]) ∧ ∃ d', RowN w w' g T pos d' ∧ Sort.PermIn a b d d' ∧ Sort.SortedIn ltN a b d'
set_option maxRecDepth 100000 in
set_option maxHeartbeats 16000000 in
theorem pdq_step (N : Nat) (ih : Sorts N) : Sorts (N + 1) := by
  intro g T pos d a b limit n cap w hN h hab hb hn hs hlim hB0
  have HI := Lib.hid ih
  have HR := Lib.hid (RowN.refl h)
  have HB0 := Lib.hid hB0
  have HNN := Lib.hid hN
  have HSZ := Lib.hid hn
  clear h hB0 ih
  have hbn : b ≤ n := by omega
  clear hn hb
  go_enter Tryz.func150, Tryz.ntmps150
  go_wp2
  go_loopw [1, 2, 3, 8, 9] (fun s1 s2 s3 s8 s9 wr => ∃ (x y lim : Nat) (wb wp : Bool) (dk : Array Nat), s1 = .int .i64 (x : Int) ∧ s2 = .int .i64 (y : Int) ∧ s3 = .int .i64 (lim : Int) ∧ s8 = .bool wb ∧ s9 = .bool wp ∧ a ≤ x ∧ x ≤ y ∧ y ≤ b ∧ lim ≤ 1000000 ∧ Hid (dk.size = n) ∧ Hid (RowN w wr g T pos dk) ∧ Hid (Sort.Below ltN x y dk) ∧ Hid (∀ R, Sort.PermIn x y dk R → Sort.SortedIn ltN x y R → Sort.PermIn a b d R ∧ Sort.SortedIn ltN a b R)) (fun s1 s2 _ _ _ _ => (intOf s2).toNat - (intOf s1).toNat)
  case atStart => exact ⟨a, b, limit, true, true, d, rfl, rfl, rfl, rfl, rfl, Nat.le_refl _, hab, Nat.le_refl _, hlim, Lib.hid HSZ.out.symm, HR, HB0, Lib.hid (fun R h1 h2 => ⟨h1, h2⟩)⟩
  case round =>
    obtain ⟨x, y, lim, wb, wp, dk, rfl, rfl, rfl, rfl, rfl, hax, hxy, hyb, hlm, hdk, hR, hBl, hG⟩ := hrel
    obtain ⟨l, hl⟩ : ∃ l, y - x = l := ⟨_, rfl⟩
    have HYL := Lib.hid (show y = x + l by omega)
    have e0 : (y : Int) - (x : Int) = (l : Int) := by omega
    have hyn : y ≤ n := by omega
    clear hl
    by_cases h12 : l ≤ 12
    · have h12i : (l : Int) ≤ 12 := by omega
      have hc := ins_any g T pos dk x y cap wr hR.out.blk hxy (by rw [hdk.out]; exact hyn) (by rw [hdk.out]; exact hs)
      rw [hdk.out] at hc
      have HC := Lib.hid hc
      clear hc
      go_wp2_with (go_at_call 170; refine (HC.out).mono ?_; rintro e w1 ⟨rfl, r1⟩; have R1 := Lib.hid (hR.out.trans r1); clear r1)
      (try simp only [Exit.inBlock, Exit.then])
      refine bodyPost_ret (results_none rfl _ _ _) rfl ?_
      have hi := Sort.insertionSort_holds ltN_swo dk x y hxy (by rw [hdk.out]; exact hyn)
      have hg := hG.out _ hi.1 hi.2
      exact ⟨rfl, _, R1.out, hg.1, hg.2⟩
    · have h12i : ¬ (l : Int) ≤ 12 := by omega
      have hl12 : 12 < l := by omega
      rcases lim with _ | lim
      · have hc := heap_any g T pos dk x l y cap wr hR.out.blk hl12 HYL.out (by rw [hdk.out, ← HYL.out]; exact hyn) (by rw [hdk.out]; exact hs)
        rw [hdk.out] at hc
        have HC := Lib.hid hc
        clear hc
        go_wp2_with (go_at_call 171; refine (HC.out).mono ?_; rintro e w1 ⟨rfl, r1⟩; have R1 := Lib.hid (hR.out.trans r1); clear r1)
        (try simp only [Exit.inBlock, Exit.then])
        refine bodyPost_ret (results_none rfl _ _ _) rfl ?_
        have hi := Sort.heapSort_holds ltN_swo dk x y hxy (by rw [hdk.out]; exact hyn)
        have hg := hG.out _ hi.1 hi.2
        exact ⟨rfl, _, R1.out, hg.1, hg.2⟩
      · have hz : ((lim : Int) + 1 == 0) = false := by rw [beq_eq_false_iff_ne]; omega
        have hz' : ¬ (lim : Int) + 1 = 0 := by omega
        go_upto_if 35 with (fail)
        go_cut [3] (fun s3 wx => ∃ (lim2 : Nat) (d1 : Array Nat), s3 = .int .i64 (lim2 : Int) ∧ lim2 ≤ 1000000 ∧ Hid (d1.size = n) ∧ Hid (RowN w wx g T pos d1) ∧ Hid (Sort.PermIn x y dk d1))
        case first =>
          cases wb
          · have hc := brk_any g T pos dk x l y cap wr hR.out.blk hl12 HYL.out (by rw [hdk.out]; exact hyn) (by rw [hdk.out]; exact hs)
            rw [hdk.out] at hc
            have HC := Lib.hid hc
            clear hc
            go_wp2_with (go_at_call 172; refine (HC.out).mono ?_; rintro e w1 ⟨rfl, d1, r1, p1⟩; have R1 := Lib.hid (hR.out.trans r1); have P1 := Lib.hid p1; clear r1 p1)
            go_meet
            case rel => exact ⟨lim, d1, by first | rfl | go_num, by omega, Lib.hid (P1.out.1.trans hdk.out), R1, P1⟩
          · go_wp2
            go_meet
            case rel => exact ⟨lim + 1, dk, by first | rfl | go_num, hlm, hdk, hR, Lib.hid (Sort.permIn_refl _ _ _)⟩
        case rest =>
          obtain ⟨lim2, d1, rfl, hlm2, hd1, hR1, hP1⟩ := hcut
          have hc := pivot_any' g T pos d1 x l y cap wc hR1.out.blk hl12 HYL.out (by rw [hd1.out]; exact hyn) (by rw [hd1.out]; exact hs)
          rw [hd1.out] at hc
          have HC := Lib.hid hc
          clear hc
          go_upto_if 50 with (go_at_call 173; refine (HC.out).mono ?_; rintro e w2 ⟨p, hint, rfl, pp, hh, x2⟩; have R2 := Lib.hid (hR1.out.ext x2); clear x2)
          clear HC
          go_cut [11, 12] (fun s11 s12 wx => ∃ (p2 h2 : Nat) (d2 : Array Nat), s11 = .int .i64 (p2 : Int) ∧ s12 = .int .i64 (h2 : Int) ∧ x ≤ p2 ∧ p2 < y ∧ Hid (d2.size = n) ∧ Hid (RowN w wx g T pos d2) ∧ Hid (Sort.PermIn x y dk d2))
          case first =>
            by_cases h2 : hint = 2
            · have hq : ((hint : Int) == 2) = true := by rw [beq_iff_eq]; omega
              have hc := rev_any g T pos d1 x y cap w2 R2.out.blk (by omega) (by rw [hd1.out]; exact hyn) (by rw [hd1.out]; exact hs)
              rw [hd1.out] at hc
              have HC := Lib.hid hc
              clear hc
              go_wp2_with (go_at_call 174; refine (HC.out).mono ?_; rintro e w3 ⟨rfl, d2, r2, q2⟩; have R3 := Lib.hid (R2.out.trans r2); have Q2 := Lib.hid q2; clear r2 q2)
              go_meet
              case rel => exact ⟨y - 1 - (p - x), 1, d2, by first | rfl | go_num, by first | rfl | go_num, by omega, by omega, Lib.hid (Q2.out.1.trans hd1.out), R3, Lib.hid (Sort.permIn_trans _ _ _ _ _ hP1.out Q2.out)⟩
            · have hq : ((hint : Int) == 2) = false := by rw [beq_eq_false_iff_ne]; omega
              go_wp2
              go_meet
              case rel => exact ⟨p, hint, d1, rfl, rfl, pp.1, pp.2, hd1, R2, hP1⟩
          case rest =>
            obtain ⟨p2, h2, d2, rfl, rfl, hp1, hp2, hd2, hR2, hP2⟩ := hcut
            have HB2 := Lib.hid (hBl.out.perm (by rw [hdk.out]; exact hyn) hP2.out)
            go_upto_region 15 with (fail)
            go_cut [68] (fun c wx => ∃ cb : Bool, c = .bool cb ∧ wx = wc)
            case first =>
              by_cases hq : h2 = 1
              · have hqi : ((h2 : Int) == 1) = true := by rw [beq_iff_eq]; omega
                cases wb <;> cases wp <;> (go_wp2; go_meet; exact ⟨_, rfl, rfl⟩)
              · have hqi : ((h2 : Int) == 1) = false := by rw [beq_eq_false_iff_ne]; omega
                cases wb <;> cases wp <;> (go_wp2; go_meet; exact ⟨_, rfl, rfl⟩)
            case rest =>
              obtain ⟨cb, rfl, rfl⟩ := hcut
              go_upto_if 68 with (fail)
              go_cut [68] (fun _ wx => ∃ d3 : Array Nat, Hid (d3.size = n) ∧ Hid (RowN w wx g T pos d3) ∧ Hid (Sort.PermIn x y dk d3))
              case first =>
                cases cb
                · go_wp2
                  go_meet
                  case rel => exact ⟨d2, hd2, hR2, hP2⟩
                · have hc := pis_any g T pos d2 x l y cap wc hR2.out.blk hl12 HYL.out (by rw [hd2.out]; exact hyn) (by rw [hd2.out]; exact hs)
                  have hpi := Sort.partialInsertionSort_holds (lt := ltN) ltN_swo d2 x y (by omega) (by rw [hd2.out]; exact hyn) HB2.out
                  obtain ⟨d3, ok, hres⟩ : ∃ d3 ok, Sort.partialInsertionSort ltN d2 x y = (d3, ok) := ⟨_, _, rfl⟩
                  rw [hres] at hc hpi
                  have HPI := Lib.hid hpi
                  clear hpi hres
                  rw [hd2.out] at hc
                  have HC := Lib.hid hc
                  clear hc
                  cases ok
                  · go_wp2_with (go_at_call 175; refine (HC.out).mono ?_; rintro e w3 ⟨rfl, r3⟩; have R3 := Lib.hid (hR2.out.trans r3); clear r3)
                    go_meet
                    case rel => exact ⟨d3, Lib.hid (HPI.out.1.1.trans hd2.out), R3, Lib.hid (Sort.permIn_trans _ _ _ _ _ hP2.out HPI.out.1)⟩
                  · go_wp2_with (go_at_call 175; refine (HC.out).mono ?_; rintro e w3 ⟨rfl, r3⟩; have R3 := Lib.hid (hR2.out.trans r3); clear r3)
                    (try simp only [Exit.inBlock, Exit.then])
                    refine bodyPost_ret (results_none rfl _ _ _) rfl ?_
                    have hg := hG.out _ (Sort.permIn_trans _ _ _ _ _ hP2.out HPI.out.1) (HPI.out.2 (by first | rfl | trivial))
                    exact ⟨rfl, _, R3.out, hg.1, hg.2⟩
              case rest =>
                obtain ⟨d3, hd3, hR3, hP3⟩ := hcut
                have HB3 := Lib.hid (hBl.out.perm (by rw [hdk.out]; exact hyn) hP3.out)
                clear HB2 hd2 hR2 hP2
                go_upto_region 17 with (fail)
                go_cut [87] (fun c wx => ∃ cb : Bool, c = .bool cb ∧ Hid (cb = true → 0 < x ∧ ltN d3[x - 1]! d3[p2]! = false) ∧ Hid (RowN w wx g T pos d3))
                case first =>
                  by_cases hx0 : 0 < x
                  · have hx0i : (0 : Int) < (x : Int) := by omega
                    have axw : IntKind.i64.wrap ((x : Int) - 1) = (x : Int) - 1 := IntWalk.i64_in _ ⟨by omega, by omega⟩
                    have axn : ((x : Int) - 1).toNat = x - 1 := by omega
                    have axl : (0 : Int) ≤ (x : Int) - 1 := by omega
                    have axu : (x : Int) - 1 < (n : Int) := by omega
                    have s1 := hR3.out.cell (x - 1) (by rw [hd3.out]; omega)
                    have s0 := hR3.out.cell p2 (by rw [hd3.out]; omega)
                    have bp : p2 < n := by omega
                    obtain ⟨u, hu⟩ : ∃ u, d3[x - 1]! = u := ⟨_, rfl⟩
                    obtain ⟨v, hv⟩ : ∃ u, d3[p2]! = u := ⟨_, rfl⟩
                    rw [hu] at s1
                    rw [hv] at s0
                    have HU := Lib.hid hu
                    have HV := Lib.hid hv
                    clear hu hv
                    rcases hll : ltN u v with _ | _
                    · go_quiet ((go_at_call 176; first | exact Calls.quiet_of_same (less_of hll _) | exact quiet_of_same2 (less_of hll _)))
                      go_wp2
                      go_meet
                      case rel => exact ⟨true, rfl, Lib.hid (fun _ => ⟨hx0, by rw [HU.out, HV.out]; exact hll⟩), Lib.hid (hR3.out.drewN _)⟩
                    · go_quiet ((go_at_call 176; first | exact Calls.quiet_of_same (less_of hll _) | exact quiet_of_same2 (less_of hll _)))
                      go_wp2
                      go_meet
                      case rel => exact ⟨false, rfl, Lib.hid (fun h => by cases h), Lib.hid (hR3.out.drewN _)⟩
                  · have hx0i : ¬ (0 : Int) < (x : Int) := by omega
                    go_quiet (fail)
                    go_wp2
                    go_meet
                    case rel => exact ⟨false, rfl, Lib.hid (fun h => by cases h), Lib.hid (hR3.out.drewN _)⟩
                case rest =>
                  obtain ⟨cb, rfl, hcb, hR4⟩ := hcut
                  clear hR3
                  cases cb
                  · have hc := part_any g T pos d3 x y p2 cap wc hR4.out.blk (by omega) hp1 hp2 (by rw [hd3.out]; exact hyn) (by rw [hd3.out]; exact hs)
                    obtain ⟨mid, ap, d4, hx⟩ : ∃ mid ap d4, Sort.partition ltN d3 x y p2 = (mid, ap, d4) := ⟨_, _, _, rfl⟩
                    have hrp := Sort.round_part ltN_swo (Sort.partition_holds ltN) hp1 hp2 (by rw [hd3.out]; exact hyn) HB3.out hx
                    rw [hx] at hc
                    have hm1 := hrp.1
                    have hm2 := hrp.2.1
                    have HRP := Lib.hid hrp
                    clear hrp hx
                    rw [hd3.out] at hc
                    have HC := Lib.hid hc
                    clear hc
                    obtain ⟨t, ht⟩ : ∃ t : Nat, l / 8 = t := ⟨_, rfl⟩
                    have hti : (l : Int) / 8 = (t : Int) := by omega
                    obtain ⟨ll, hll⟩ : ∃ ll : Nat, mid - x = ll := ⟨_, rfl⟩
                    have hlli : (mid : Int) - (x : Int) = (ll : Int) := by omega
                    obtain ⟨rl, hrl⟩ : ∃ rl : Nat, y - mid = rl := ⟨_, rfl⟩
                    have hrli : (y : Int) - (mid : Int) = (rl : Int) := by omega
                    have hrl1 : rl ≤ 1000000 := by omega
                    have hll1 : ll ≤ 1000000 := by omega
                    have hsz4 := Lib.hid (HRP.out.2.2.1.trans hd3.out)
                    have hnb1 : mid - x < N := by have := HNN.out; omega
                    have hnb2 : y - (mid + 1) < N := by have := HNN.out; omega
                    have hmn : mid ≤ n := by omega
                    clear ht hll hrl hN
                    by_cases hlt : ll < rl
                    · have hlti : (ll : Int) < (rl : Int) := by omega
                      have HQ := Lib.hid (fun (u : World) (hu : RowN w u g T pos d4) => HI.out g T pos d4 x mid lim2 n cap u hnb1 hu.blk hm1 (by rw [hsz4.out]; exact hmn) hsz4.out.symm hs hlm2 HRP.out.2.2.2.1)
                      go_wp2_with (first
                        | (go_at_call 178; refine (HC.out).mono ?_; rintro e w3 ⟨rfl, r3⟩; have R3 := Lib.hid (hR4.out.trans r3); clear r3)
                        | (go_at_call 150; refine (HQ.out _ R3.out).mono ?_; rintro e w5 ⟨rfl, d5, r5, p5, s5⟩; have R5 := Lib.hid (R3.out.trans r5); have P5 := Lib.hid p5; have S5 := Lib.hid s5; clear r5 p5 s5))
                      have HL := Lib.hid (HRP.out.2.2.2.2.2.1 d5 P5.out S5.out)
                      go_roundw
                      case rel => exact ⟨mid + 1, y, lim2, _, ap, d5, by first | rfl | go_num, rfl, rfl, rfl, rfl, by omega, by omega, hyb, hlm2, Lib.hid (P5.out.1.trans hsz4.out), R5, Lib.hid HL.out.1, Lib.hid (fun R q1 q2 => have k := HL.out.2 R q1 q2; hG.out R (Sort.permIn_trans _ _ _ _ _ hP3.out k.1) k.2)⟩
                      case measure => first | (simp [intOf]; omega) | simp [intOf]
                    · have hlti : ¬ (ll : Int) < (rl : Int) := by omega
                      have hmi : IntKind.i64.wrap ((mid : Int) + 1) = ((mid + 1 : Nat) : Int) := by rw [IntWalk.i64_in _ ⟨by omega, by omega⟩]; omega
                      have HQ := Lib.hid (fun (u : World) (hu : RowN w u g T pos d4) => HI.out g T pos d4 (mid + 1) y lim2 n cap u hnb2 hu.blk (by omega) (by rw [hsz4.out]; exact hyn) hsz4.out.symm hs hlm2 HRP.out.2.2.2.2.1)
                      simp only [Int.natCast_add, Int.cast_ofNat_Int] at HQ
                      go_wp2_with (first
                        | (go_at_call 178; refine (HC.out).mono ?_; rintro e w3 ⟨rfl, r3⟩; have R3 := Lib.hid (hR4.out.trans r3); clear r3)
                        | (go_at_call 150; refine (HQ.out _ R3.out).mono ?_; rintro e w5 ⟨rfl, d5, r5, p5, s5⟩; have R5 := Lib.hid (R3.out.trans r5); have P5 := Lib.hid p5; have S5 := Lib.hid s5; clear r5 p5 s5))
                      have HL := Lib.hid (HRP.out.2.2.2.2.2.2 d5 P5.out S5.out)
                      go_roundw
                      case rel => exact ⟨x, mid, lim2, _, ap, d5, rfl, rfl, rfl, rfl, rfl, hax, hm1, by omega, hlm2, Lib.hid (P5.out.1.trans hsz4.out), R5, Lib.hid HL.out.1, Lib.hid (fun R q1 q2 => have k := HL.out.2 R q1 q2; hG.out R (Sort.permIn_trans _ _ _ _ _ hP3.out k.1) k.2)⟩
                      case measure => first | (simp [intOf]; omega) | simp [intOf]
                  · have hcc := hcb.out rfl
                    have hc := peq_any g T pos d3 x y p2 cap wc hR4.out.blk (by omega) hp1 hp2 (by rw [hd3.out]; exact hyn) (by rw [hd3.out]; exact hs)
                    obtain ⟨mid, d4, hx⟩ : ∃ mid d4, Sort.partitionEqual ltN d3 x y p2 = (mid, d4) := ⟨_, _, rfl⟩
                    have hre := Sort.round_eq ltN_swo (Sort.partitionEqual_holds ltN) hcc.1 hp1 hp2 (by rw [hd3.out]; exact hyn) HB3.out hcc.2 hx
                    rw [hx] at hc
                    have hm1 := hre.1
                    have hm2 := hre.2.1
                    have HRE := Lib.hid hre
                    clear hre hx hcc
                    rw [hd3.out] at hc
                    have HC := Lib.hid hc
                    clear hc
                    go_wp2_with (go_at_call 177; refine (HC.out).mono ?_; rintro e w3 ⟨rfl, r3⟩; have R3 := Lib.hid (hR4.out.trans r3); clear r3)
                    go_roundw
                    case rel => exact ⟨mid, y, lim2, wb, wp, d4, rfl, rfl, rfl, rfl, rfl, by omega, hm2, hyb, hlm2, Lib.hid (HRE.out.2.2.1.trans hd3.out), R3, Lib.hid HRE.out.2.2.2.1, Lib.hid (fun R q1 q2 => have k := HRE.out.2.2.2.2 R q1 q2; hG.out R (Sort.permIn_trans _ _ _ _ _ hP3.out k.1) k.2)⟩
                    case measure => first | (simp [intOf]; omega) | simp [intOf]
theorem pdq_any : ∀ N, Sorts N
  | 0 => fun _ _ _ _ _ _ _ _ _ _ h => absurd h (Nat.not_lt_zero _)
  | N + 1 => pdq_step N (pdq_any N)
end Go.Proofs.YtobhbppogeghnaaGreatDoor
end
