/- Contracts of the library's sort at numbers of 32 bits: how many bits; a greater power of two; numbers that scatter. Contract of the library's sort at numbers of 32 bits: the pivot, chosen. Contracts of the library's sort at numbers of 32 bits: a heap's step. -/
import Derived.Test.YtcjdnifckngcfaaGreatDoorM16
import Derived.Sort.LotD1
section
namespace Go.Proofs.YtcjdnifckngcfaaGreatDoor
open Go.RowKit

set_option maxRecDepth 100000 in
set_option maxHeartbeats 4000000 in
theorem order2_any (g : Nat) (T : TypeId) (pos : List Value) (d : Array Nat) (a b cap s k : Nat) (w : World) (h : Blk w g T (d.toList.map cN ++ pos)) (ha : a < d.size) (hb : b < d.size) (_ : d.size ≤ 1000000) (hk : Blk w s 3 [.int .i64 (k : Int)]) (hk1 : k ≤ 1000000) :
    Calls Tryz.prog 216 #[.slice (some ⟨g, 0, none⟩) d.size cap, .int .i64 (a : Int), .int .i64 (b : Int), .pointer (some ⟨s, 0, none⟩)] w fun e w' => ∃ x y k' : Nat, e = .returned (.tuple #[.int .i64 (x : Int), .int .i64 (y : Int)]) ∧ (x = a ∧ y = b ∨ x = b ∧ y = a) ∧ k' ≤ k + 1 ∧ Cnt w w' s 3 (.int .i64 (k' : Int)) := by
  have HR := RowN.refl h
  have c1 := HR.cell a ha
  have c0 := HR.cell b hb
  obtain ⟨x, hx⟩ : ∃ x, d[a]! = x := ⟨_, rfl⟩
  obtain ⟨y, hy⟩ : ∃ y, d[b]! = y := ⟨_, rfl⟩
  rw [hx] at c1
  rw [hy] at c0
  have c2 := hk.cell 0 _ rfl
  have f2 := hk.frozen 0
  have HK := Lib.hid hk
  clear h HR hx hy hk
  go_enter Tryz.func216, Tryz.ntmps216
  rcases hl : ltN y x with _ | _
  · go_upto_region 1 with (fail)
    go_quiet ((go_at_call 176; exact Calls.quiet_of_same (less_of hl _)))
    go_wp2
    go_ret2
    exact ⟨a, b, k, rfl, .inl ⟨rfl, rfl⟩, by omega, (Cnt.refl HK.out).drewN _⟩
  · go_upto_region 1 with (fail)
    go_quiet ((go_at_call 176; exact Calls.quiet_of_same (less_of hl _)))
    go_wp2
    go_ret2
    exact ⟨b, a, k + 1, rfl, .inr ⟨rfl, rfl⟩, by omega, ((Cnt.refl HK.out).drewN _).set_ _⟩
set_option maxRecDepth 100000 in
set_option maxHeartbeats 4000000 in
theorem median_any (g : Nat) (T : TypeId) (pos : List Value) (d : Array Nat) (a b c cap s k : Nat) (w : World) (h : Blk w g T (d.toList.map cN ++ pos)) (ha : a < d.size) (hb : b < d.size) (hc : c < d.size) (hs : d.size ≤ 1000000) (hk : Blk w s 3 [.int .i64 (k : Int)]) (hk1 : k ≤ 900000) (hn : g ≠ s) :
    Calls Tryz.prog 204 #[.slice (some ⟨g, 0, none⟩) d.size cap, .int .i64 (a : Int), .int .i64 (b : Int), .int .i64 (c : Int), .pointer (some ⟨s, 0, none⟩)] w fun e w' => ∃ x k' : Nat, e = .returned (.int .i64 (x : Int)) ∧ (x = a ∨ x = b ∨ x = c) ∧ k' ≤ k + 3 ∧ Cnt w w' s 3 (.int .i64 (k' : Int)) := by
  have HO := Lib.hid (fun (u : World) (x y k0 : Nat) (hx : x < d.size) (hy : y < d.size) (h0 : k0 ≤ 1000000) (hu : Cnt w u s 3 (.int .i64 (k0 : Int))) => order2_any g T pos d x y cap s k0 u (hu.other h hn) hx hy hs hu.blk h0)
  have H0 := Lib.hid (Cnt.refl hk)
  clear h hk
  go_enter Tryz.func204, Tryz.ntmps204
  go_upto_region 2 with (go_at_call 216; refine (HO.out _ a b k ha hb (by omega) H0.out).mono ?_; rintro e w1 ⟨x1, y1, k1, rfl, m1, l1, i1⟩; have H1 := Lib.hid i1; clear i1)
  have hx1 : x1 < d.size := by omega
  have hy1 : y1 < d.size := by omega
  go_upto_region 3 with (go_at_call 216; refine (HO.out _ y1 c k1 hy1 hc (by omega) H1.out).mono ?_; rintro e w2 ⟨x2, y2, k2, rfl, m2, l2, i2⟩; have H2 := Lib.hid (H1.out.trans i2); clear i2)
  have hx2 : x2 < d.size := by omega
  go_wp2_with (go_at_call 216; refine (HO.out _ x1 x2 k2 hx1 hx2 (by omega) H2.out).mono ?_; rintro e w3 ⟨x3, y3, k3, rfl, m3, l3, i3⟩; have H3 := Lib.hid (H2.out.trans i3); clear i3)
  go_ret
  exact ⟨y3, k3, rfl, by omega, by omega, H3.out⟩
theorem medianAdj_any (g : Nat) (T : TypeId) (pos : List Value) (d : Array Nat) (a cap s k : Nat) (w : World) (h : Blk w g T (d.toList.map cN ++ pos)) (ha : 1 ≤ a) (hb : a + 1 < d.size) (hs : d.size ≤ 1000000) (hk : Blk w s 3 [.int .i64 (k : Int)]) (hk1 : k ≤ 900000) (hn : g ≠ s) :
    Calls Tryz.prog 203 #[.slice (some ⟨g, 0, none⟩) d.size cap, .int .i64 (a : Int), .pointer (some ⟨s, 0, none⟩)] w fun e w' => ∃ x k' : Nat, e = .returned (.int .i64 (x : Int)) ∧ (a - 1 ≤ x ∧ x ≤ a + 1) ∧ k' ≤ k + 3 ∧ Cnt w w' s 3 (.int .i64 (k' : Int)) := by
  obtain ⟨m, rfl⟩ : ∃ m, a = m + 1 := ⟨a - 1, by omega⟩
  have HM := Lib.hid (median_any g T pos d m (m + 1) (m + 1 + 1) cap s k w h (by omega) (by omega) (by omega) hs hk hk1 hn)
  simp only [Int.natCast_add, Int.cast_ofNat_Int] at HM
  clear h hk
  go_enter Tryz.func203, Tryz.ntmps203
  go_wp2_with (go_at_call 204; refine (HM.out).mono ?_; rintro e w1 ⟨x1, k1, rfl, m1, l1, i1⟩; have H1 := Lib.hid i1; clear i1)
  go_ret
  exact ⟨x1, k1, rfl, by omega, by omega, H1.out⟩
end Go.Proofs.YtcjdnifckngcfaaGreatDoor
end

section
namespace Go.Proofs.YtcjdnifckngcfaaGreatDoor
open Go.RowKit

set_option maxRecDepth 100000 in
set_option maxHeartbeats 4000000 in
theorem pivot_any (g : Nat) (T : TypeId) (pos : List Value) (d : Array Nat) (a l cap : Nat) (w : World) (h : Blk w g T (d.toList.map cN ++ pos)) (hl : 12 < l) (hb : a + l ≤ d.size) (hs : d.size ≤ 1000000) :
    Calls Tryz.prog 173 #[.slice (some ⟨g, 0, none⟩) d.size cap, .int .i64 (a : Int), .int .i64 ((a + l : Nat) : Int)] w fun e w' => ∃ x hint : Nat, e = .returned (.tuple #[.int .i64 (x : Int), .int .i64 (hint : Int)]) ∧ (a ≤ x ∧ x < a + l) ∧ (hint = 0 ∨ hint = 1 ∨ hint = 2) ∧ Ext w w' := by
  have hgs : g ≠ w.heap.size := by have := h.lt; omega
  have HO := Lib.hid (fun (u : World) (x y z k0 : Nat) (hx : x < d.size) (hy : y < d.size) (hz : z < d.size) (h0 : k0 ≤ 900000) (hg : Blk u g T (d.toList.map cN ++ pos)) (hu : Blk u w.heap.size 3 [.int .i64 (k0 : Int)]) => median_any g T pos d x y z cap w.heap.size k0 u hg hx hy hz hs hu h0 hgs)
  have HA := Lib.hid (fun (u : World) (x k0 : Nat) (hx : 1 ≤ x) (hy : x + 1 < d.size) (h0 : k0 ≤ 900000) (hg : Blk u g T (d.toList.map cN ++ pos)) (hu : Blk u w.heap.size 3 [.int .i64 (k0 : Int)]) => medianAdj_any g T pos d x cap w.heap.size k0 u hg hx hy hs hu h0 hgs)
  have HN := Lib.hid (Blk.new w [.int .i64 0] 3)
  have HG := Lib.hid (h.alloc (.cells #[.int .i64 0] 3))
  have HX := Lib.hid ((Ext.refl w).alloc (.cells #[.int .i64 0] 3))
  clear h
  obtain ⟨q, hq⟩ : ∃ q, l / 4 = q := ⟨_, rfl⟩
  have hq2 : (l : Int).tdiv 4 = (q : Int) := by rw [Int.tdiv_eq_ediv_of_nonneg (by omega)]; omega
  have hqd : (l : Int) / 4 = (q : Int) := by omega
  go_enter Tryz.func173, Tryz.ntmps173
  go_upto_region 7 with (fail)
  have e0 : (a : Int) + (l : Int) - (a : Int) = (l : Int) := by omega
  obtain ⟨i, hi⟩ : ∃ i, a + q = i := ⟨_, rfl⟩
  obtain ⟨j, hj⟩ : ∃ j, a + q * 2 = j := ⟨_, rfl⟩
  obtain ⟨k, hk⟩ : ∃ k, a + q * 3 = k := ⟨_, rfl⟩
  have hi1 : (a : Int) + (q : Int) = (i : Int) := by omega
  have hj1 : (a : Int) + (q : Int) * 2 = (j : Int) := by omega
  have hk1 : (a : Int) + (q : Int) * 3 = (k : Int) := by omega
  have q3 : 3 ≤ q := by omega
  have q4 : 4 * q ≤ l := by omega
  have hl8 : decide ((8 : Int) ≤ (l : Int)) = true := by rw [decide_eq_true_iff]; omega
  simp only [e0, hqd, hi1, hj1, hk1, hl8]
  have HI := Lib.hid hi1
  have HJ := Lib.hid hj1
  have HK := Lib.hid hk1
  have hki : k < d.size := by omega
  clear hq2 hqd hi1 hj1 hk1 e0
  by_cases h50 : 50 ≤ l
  · have h50i : (50 : Int) ≤ (l : Int) := by omega
    have h12 : 12 ≤ q := by omega
    go_upto_region 9 with (go_at_call 203; refine (HA.out _ i 0 (by omega) (by omega) (by omega) HG.out HN.out).mono ?_; rintro e w1 ⟨x1, k1, rfl, m1, l1, i1⟩; have H1 := Lib.hid i1; clear i1)
    go_upto_region 10 with (go_at_call 203; refine (HA.out _ j k1 (by omega) (by omega) (by omega) (H1.out.other HG.out hgs) H1.out.blk).mono ?_; rintro e w2 ⟨x2, k2, rfl, m2, l2, i2⟩; have H2 := Lib.hid (H1.out.trans i2); clear i2)
    go_upto_region 11 with (go_at_call 203; refine (HA.out _ k k2 (by omega) (by omega) (by omega) (H2.out.other HG.out hgs) H2.out.blk).mono ?_; rintro e w3 ⟨x3, k3, rfl, m3, l3, i3⟩; have H3 := Lib.hid (H2.out.trans i3); clear i3)
    go_upto_region 12 with (go_at_call 204; refine (HO.out _ x1 x2 x3 k3 (by omega) (by omega) (by omega) (by omega) (H3.out.other HG.out hgs) H3.out.blk).mono ?_; rintro e w4 ⟨x4, k4, rfl, m4, l4, i4⟩; have H4 := Lib.hid (H3.out.trans i4); clear i4)
    have cc := H4.out.blk.cell 0 _ rfl
    have HE := Lib.hid (H4.out.ext HX.out (Nat.le_refl _))
    rcases (show k4 = 0 ∨ k4 = 12 ∨ (k4 ≠ 0 ∧ k4 ≠ 12) by omega) with hkk | hkk | hkk
    · have z0 : ((k4 : Int) == 0) = true := by rw [beq_iff_eq]; omega
      go_wp2
      go_ret2
      exact ⟨x4, 1, rfl, by omega, by omega, HE.out⟩
    · have z0 : ((k4 : Int) == 0) = false := by rw [beq_eq_false_iff_ne]; omega
      have z1 : ((k4 : Int) == 12) = true := by rw [beq_iff_eq]; omega
      go_wp2
      go_ret2
      exact ⟨x4, 2, rfl, by omega, by omega, HE.out⟩
    · have z0 : ((k4 : Int) == 0) = false := by rw [beq_eq_false_iff_ne]; omega
      have z1 : ((k4 : Int) == 12) = false := by rw [beq_eq_false_iff_ne]; omega
      go_wp2
      go_ret2
      exact ⟨x4, 0, rfl, by omega, by omega, HE.out⟩
  · have h50i : ¬ (50 : Int) ≤ (l : Int) := by omega
    go_upto_region 12 with (go_at_call 204; refine (HO.out _ i j k 0 (by omega) (by omega) (by omega) (by omega) HG.out HN.out).mono ?_; rintro e w4 ⟨x4, k4, rfl, m4, l4, i4⟩; have H4 := Lib.hid i4; clear i4)
    have cc := H4.out.blk.cell 0 _ rfl
    have HE := Lib.hid (H4.out.ext HX.out (Nat.le_refl _))
    rcases (show k4 = 0 ∨ k4 = 12 ∨ (k4 ≠ 0 ∧ k4 ≠ 12) by omega) with hkk | hkk | hkk
    · have z0 : ((k4 : Int) == 0) = true := by rw [beq_iff_eq]; omega
      go_wp2
      go_ret2
      exact ⟨x4, 1, rfl, by omega, by omega, HE.out⟩
    · have z0 : ((k4 : Int) == 0) = false := by rw [beq_eq_false_iff_ne]; omega
      have z1 : ((k4 : Int) == 12) = true := by rw [beq_iff_eq]; omega
      go_wp2
      go_ret2
      exact ⟨x4, 2, rfl, by omega, by omega, HE.out⟩
    · have z0 : ((k4 : Int) == 0) = false := by rw [beq_eq_false_iff_ne]; omega
      have z1 : ((k4 : Int) == 12) = false := by rw [beq_eq_false_iff_ne]; omega
      go_wp2
      go_ret2
      exact ⟨x4, 0, rfl, by omega, by omega, HE.out⟩
end Go.Proofs.YtcjdnifckngcfaaGreatDoor
end

section
namespace Go.Proofs.YtcjdnifckngcfaaGreatDoor
open Go.RowKit

/-- The step of a heap, by the child that was chosen. -/
theorem sift_end {lt : Nat → Nat → Bool} (hi f r : Nat) (d : Array Nat) (h : ¬ 2 * r + 1 < hi) : Sort.siftDown lt hi f r d = d := by
  rw [Sort.siftDown, dif_pos (by omega)]
theorem sift_two {lt : Nat → Nat → Bool} (hi f r : Nat) (d : Array Nat) (h : 2 * r + 2 < hi) (hl : lt d[f + (2 * r + 1)]! d[f + (2 * r + 2)]! = true) :
    Sort.siftDown lt hi f r d = if !lt d[f + r]! d[f + (2 * r + 2)]! then d else Sort.siftDown lt hi f (2 * r + 2) (Sort.swp d (f + r) (f + (2 * r + 2))) := by
  have h2 : f + (2 * r + 1) + 1 = f + (2 * r + 2) := by omega
  conv => lhs; rw [Sort.siftDown]
  rw [dif_neg (by omega), if_pos (by rw [h2, hl]; simp; omega)]
  split
  · rfl
  · first | rfl | rw [dif_pos h]
theorem sift_one {lt : Nat → Nat → Bool} (hi f r : Nat) (d : Array Nat) (h : 2 * r + 1 < hi) (hl : ¬ 2 * r + 2 < hi ∨ lt d[f + (2 * r + 1)]! d[f + (2 * r + 2)]! = false) :
    Sort.siftDown lt hi f r d = if !lt d[f + r]! d[f + (2 * r + 1)]! then d else Sort.siftDown lt hi f (2 * r + 1) (Sort.swp d (f + r) (f + (2 * r + 1))) := by
  have h2 : f + (2 * r + 1) + 1 = f + (2 * r + 2) := by omega
  conv => lhs; rw [Sort.siftDown]
  rw [dif_neg (by omega), if_neg (by
    rw [h2]
    rcases hl with hl | hl
    · simp; omega
    · simp [hl])]
set_option maxRecDepth 100000 in
set_option maxHeartbeats 4000000 in
theorem sift_any (g : Nat) (T : TypeId) (pos : List Value) (d : Array Nat) (lo hi f cap : Nat) (w : World) (h : Blk w g T (d.toList.map cN ++ pos)) (hlo : lo ≤ 1000000) (hb : f + hi ≤ d.size) (hs : d.size ≤ 1000000) :
    Calls Tryz.prog 200 #[.slice (some ⟨g, 0, none⟩) d.size cap, .int .i64 (lo : Int), .int .i64 (hi : Int), .int .i64 (f : Int)] w fun e w' => e = .returned (.tuple #[]) ∧ RowN w w' g T pos (Sort.siftDown ltN hi f lo d) := by
  have HL := Lib.hid less_any
  have HR := Lib.hid (RowN.refl h)
  clear h
  go_enter Tryz.func200, Tryz.ntmps200
  go_wp2
  go_loopw [8, 9] (fun rv _ wr => ∃ (r : Nat) (dk : Array Nat), rv = .int .i64 (r : Int) ∧ r ≤ 1000000 ∧ dk.size = d.size ∧ Hid (RowN w wr g T pos dk) ∧ Hid (Sort.siftDown ltN hi f r dk = Sort.siftDown ltN hi f lo d)) (fun rv _ _ => hi - (intOf rv).toNat)
  case atStart => exact ⟨lo, d, rfl, hlo, rfl, HR, Lib.hid rfl⟩
  case round =>
    obtain ⟨r, dk, rfl, hr, hdk, hR, hO⟩ := hrel
    by_cases h1 : 2 * r + 1 < hi
    · have h1i : 2 * (r : Int) + 1 < (hi : Int) := by omega
      have h1j : ¬ (hi : Int) ≤ 2 * (r : Int) + 1 := by omega
      obtain ⟨x1, hx1⟩ : ∃ x, dk[f + (2 * r + 1)]! = x := ⟨_, rfl⟩
      obtain ⟨x2, hx2⟩ : ∃ x, dk[f + (2 * r + 2)]! = x := ⟨_, rfl⟩
      obtain ⟨x0, hx0⟩ : ∃ x, dk[f + r]! = x := ⟨_, rfl⟩
      have c1 := hR.out.cell (f + (2 * r + 1)) (by omega)
      have c0 := hR.out.cell (f + r) (by omega)
      have f1 := hR.out.frozen (f + (2 * r + 1))
      have f2 := hR.out.frozen (f + (2 * r + 2))
      have f0 := hR.out.frozen (f + r)
      have HC2 := Lib.hid (fun hh => hR.out.cell (f + (2 * r + 2)) hh)
      rw [hx1] at c1
      rw [hx0] at c0
      have HS1 := Lib.hid (fun n => (hR.out.drewN n).swap (f + r) (f + (2 * r + 1)) (by omega) (by omega) hx0 hx1)
      have HS2 := Lib.hid (fun n (hh : f + (2 * r + 2) < dk.size) => (hR.out.drewN n).swap (f + r) (f + (2 * r + 2)) (by omega) hh hx0 hx2)
      have HX0 := Lib.hid hx0
      have HX1 := Lib.hid hx1
      have HX2 := Lib.hid hx2
      have a1w : IntKind.i64.wrap ((f : Int) + (2 * (r : Int) + 1)) = (f : Int) + (2 * (r : Int) + 1) := IntWalk.i64_in _ ⟨by omega, by omega⟩
      have a1n : ((f : Int) + (2 * (r : Int) + 1)).toNat = f + (2 * r + 1) := by omega
      have a1l : (0 : Int) ≤ (f : Int) + (2 * (r : Int) + 1) := by omega
      have a1u : (f : Int) + (2 * (r : Int) + 1) < (d.size : Int) := by omega
      have a0w : IntKind.i64.wrap ((f : Int) + (r : Int)) = (f : Int) + (r : Int) := IntWalk.i64_in _ ⟨by omega, by omega⟩
      have a0n : ((f : Int) + (r : Int)).toNat = f + r := by omega
      have a0l : (0 : Int) ≤ (f : Int) + (r : Int) := by omega
      have a0u : (f : Int) + (r : Int) < (d.size : Int) := by omega
      clear hx0 hx1 hx2
      by_cases h2 : 2 * r + 2 < hi
      · have h2i : 2 * (r : Int) + 1 + 1 < (hi : Int) := by omega
        have c2 := HC2.out (by omega)
        rw [HX2.out] at c2
        have a2w : IntKind.i64.wrap ((f : Int) + (2 * (r : Int) + 1) + 1) = (f : Int) + (2 * (r : Int) + 1) + 1 := IntWalk.i64_in _ ⟨by omega, by omega⟩
        have a2n : ((f : Int) + (2 * (r : Int) + 1) + 1).toNat = f + (2 * r + 2) := by omega
        have a2l : (0 : Int) ≤ (f : Int) + (2 * (r : Int) + 1) + 1 := by omega
        have a2u : (f : Int) + (2 * (r : Int) + 1) + 1 < (d.size : Int) := by omega
        have a3w : IntKind.i64.wrap ((f : Int) + (2 * (r : Int) + 1 + 1)) = (f : Int) + (2 * (r : Int) + 1 + 1) := IntWalk.i64_in _ ⟨by omega, by omega⟩
        have a3n : ((f : Int) + (2 * (r : Int) + 1 + 1)).toNat = f + (2 * r + 2) := by omega
        have a3l : (0 : Int) ≤ (f : Int) + (2 * (r : Int) + 1 + 1) := by omega
        have a3u : (f : Int) + (2 * (r : Int) + 1 + 1) < (d.size : Int) := by omega
        rcases hl : ltN x1 x2 with _ | _
        · go_upto_region 3 with (fail)
          go_quiet ((go_at_call 176; first | exact Calls.quiet_of_same (HL.out _ _ _) | exact quiet_of_same2 (HL.out _ _ _)))
          rcases hk : ltN x0 x1 with _ | _
          · go_upto_region 5 with (fail)
            go_quiet ((go_at_call 176; first | exact Calls.quiet_of_same (HL.out _ _ _) | exact quiet_of_same2 (HL.out _ _ _)))
            go_wp2
            (try simp only [Exit.inBlock, Exit.then])
            refine bodyPost_ret (results_none rfl _ _ _) rfl ?_
            exact ⟨rfl, by rw [← hO.out, sift_one _ _ _ _ h1 (.inr (by rw [HX1.out, HX2.out]; exact hl)), if_pos (by rw [HX0.out, HX1.out, hk]; rfl)]; first | exact hR.out.drewN _ | exact (hR.out.drewN _).drewN _⟩
          · go_upto_region 5 with (fail)
            go_quiet ((go_at_call 176; first | exact Calls.quiet_of_same (HL.out _ _ _) | exact quiet_of_same2 (HL.out _ _ _)))
            go_upto_region 6 with (fail)
            go_region
            go_wp2
            go_roundw
            case rel => exact ⟨2 * r + 1, Sort.swp dk (f + r) (f + (2 * r + 1)), by go_num, by omega, by rw [Sort.size_swp]; exact hdk, Lib.hid (HS1.out _), Lib.hid (by rw [← hO.out, sift_one _ _ _ _ h1 (.inr (by rw [HX1.out, HX2.out]; exact hl)), if_neg (by rw [HX0.out, HX1.out, hk]; decide)])⟩
            case measure => first | (simp [intOf]; omega) | simp [intOf]
        · go_upto_region 3 with (fail)
          go_quiet ((go_at_call 176; first | exact Calls.quiet_of_same (HL.out _ _ _) | exact quiet_of_same2 (HL.out _ _ _)))
          rcases hk : ltN x0 x2 with _ | _
          · go_upto_region 5 with (fail)
            go_quiet ((go_at_call 176; first | exact Calls.quiet_of_same (HL.out _ _ _) | exact quiet_of_same2 (HL.out _ _ _)))
            go_wp2
            (try simp only [Exit.inBlock, Exit.then])
            refine bodyPost_ret (results_none rfl _ _ _) rfl ?_
            exact ⟨rfl, by rw [← hO.out, sift_two _ _ _ _ h2 (by rw [HX1.out, HX2.out]; exact hl), if_pos (by rw [HX0.out, HX2.out, hk]; rfl)]; first | exact hR.out.drewN _ | exact (hR.out.drewN _).drewN _⟩
          · go_upto_region 5 with (fail)
            go_quiet ((go_at_call 176; first | exact Calls.quiet_of_same (HL.out _ _ _) | exact quiet_of_same2 (HL.out _ _ _)))
            go_upto_region 6 with (fail)
            go_region
            go_wp2
            go_roundw
            case rel => exact ⟨2 * r + 2, Sort.swp dk (f + r) (f + (2 * r + 2)), by go_num, by omega, by rw [Sort.size_swp]; exact hdk, Lib.hid (HS2.out _ (by omega)), Lib.hid (by rw [← hO.out, sift_two _ _ _ _ h2 (by rw [HX1.out, HX2.out]; exact hl), if_neg (by rw [HX0.out, HX2.out, hk]; decide)])⟩
            case measure => first | (simp [intOf]; omega) | simp [intOf]
      · have h2i : ¬ 2 * (r : Int) + 1 + 1 < (hi : Int) := by omega
        go_upto_region 3 with (fail)
        go_quiet (fail)
        rcases hk : ltN x0 x1 with _ | _
        · go_upto_region 5 with (fail)
          go_quiet ((go_at_call 176; first | exact Calls.quiet_of_same (HL.out _ _ _) | exact quiet_of_same2 (HL.out _ _ _)))
          go_wp2
          (try simp only [Exit.inBlock, Exit.then])
          refine bodyPost_ret (results_none rfl _ _ _) rfl ?_
          exact ⟨rfl, by rw [← hO.out, sift_one _ _ _ _ h1 (.inl h2), if_pos (by rw [HX0.out, HX1.out, hk]; rfl)]; first | exact hR.out.drewN _ | exact (hR.out.drewN _).drewN _⟩
        · go_upto_region 5 with (fail)
          go_quiet ((go_at_call 176; first | exact Calls.quiet_of_same (HL.out _ _ _) | exact quiet_of_same2 (HL.out _ _ _)))
          go_upto_region 6 with (fail)
          go_region
          go_wp2
          go_roundw
          case rel => exact ⟨2 * r + 1, Sort.swp dk (f + r) (f + (2 * r + 1)), by go_num, by omega, by rw [Sort.size_swp]; exact hdk, Lib.hid (HS1.out _), Lib.hid (by rw [← hO.out, sift_one _ _ _ _ h1 (.inl h2), if_neg (by rw [HX0.out, HX1.out, hk]; decide)])⟩
          case measure => first | (simp [intOf]; omega) | simp [intOf]
    · have h1i : ¬ 2 * (r : Int) + 1 < (hi : Int) := by omega
      have h1j : (hi : Int) ≤ 2 * (r : Int) + 1 := by omega
      go_wp2
      go_end0
      exact ⟨rfl, by rw [← hO.out, sift_end _ _ _ _ h1]; exact hR.out⟩
end Go.Proofs.YtcjdnifckngcfaaGreatDoor
end
