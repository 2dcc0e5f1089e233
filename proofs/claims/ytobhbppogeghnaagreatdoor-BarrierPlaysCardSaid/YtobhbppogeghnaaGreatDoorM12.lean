/- Contracts of the library's sort at numbers of 32 bits: a heap's step. Contract of the library's sort at numbers of 32 bits: the heap sort. -/
import Derived.Test.YtobhbppogeghnaaGreatDoorM11
section
namespace Go.Proofs.YtobhbppogeghnaaGreatDoor
open Go.RowKit

/-- The step of a heap, by the child that was chosen. -/
theorem sift_end {lt : Nat → Nat → Bool} (hi f r : Nat) (d : Array Nat) (h : ¬ 2 * r + 1 < hi) : Sort.siftDown lt hi f r d = d := by
  rw [Sort.siftDown, dif_pos (by omega)]
theorem sift_two {lt : Nat → Nat → Bool} (hi f r : Nat) (d : Array Nat) (h : 2 * r + 2 < hi) (hl : lt d[f + (2 * r + 1)]! d[f + (2 * r + 2)]! = true) :
    Sort.siftDown lt hi f r d = if !lt d[f + r]! d[f + (2 * r + 2)]! then d else Sort.siftDown lt hi f (2 * r + 2) (Sort.swp d (f + r) (f + (2 * r + 2))) := by
  have h2 : f + (2 * r + 1) + 1 = f + (2 * r + 2) := by omega
  conv => lhs; rw [Sort.siftDown]
  rw [dif_neg (by omega), if_pos (by rw [h2, hl]; simp; omega)]
  split
  · rfl
  · first | rfl | rw [dif_pos h]
theorem sift_one {lt : Nat → Nat → Bool} (hi f r : Nat) (d : Array Nat) (h : 2 * r + 1 < hi) (hl : ¬ 2 * r + 2 < hi ∨ lt d[f + (2 * r + 1)]! d[f + (2 * r + 2)]! = false) :
    Sort.siftDown lt hi f r d = if !lt d[f + r]! d[f + (2 * r + 1)]! then d else Sort.siftDown lt hi f (2 * r + 1) (Sort.swp d (f + r) (f + (2 * r + 1))) := by
  have h2 : f + (2 * r + 1) + 1 = f + (2 * r + 2) := by omega
  conv => lhs; rw [Sort.siftDown]
  rw [dif_neg (by omega), if_neg (by
    rw [h2]
    rcases hl with hl | hl
    · simp; omega
    · simp [hl])]
set_option maxRecDepth 100000 in
set_option maxHeartbeats 4000000 in
theorem sift_any (g : Nat) (T : TypeId) (pos : List Value) (d : Array Nat) (lo hi f cap : Nat) (w : World) (h : Blk w g T (d.toList.map cN ++ pos)) (hlo : lo ≤ 1000000) (hb : f + hi ≤ d.size) (hs : d.size ≤ 1000000) :
    Calls Tryz.prog 200 #[.slice (some ⟨g, 0, none⟩) d.size cap, .int .i64 (lo : Int), .int .i64 (hi : Int), .int .i64 (f : Int)] w fun e w' => e = .returned (.tuple #[]) ∧ RowN w w' g T pos (Sort.siftDown ltN hi f lo d) := by
  have HL := Lib.hid less_any
  have HR := Lib.hid (RowN.refl h)
  clear h
  go_enter Tryz.func200, Tryz.ntmps200
  go_wp2
  go_loopw [8, 9] (fun rv _ wr => ∃ (r : Nat) (dk : Array Nat), rv = .int .i64 (r : Int) ∧ r ≤ 1000000 ∧ dk.size = d.size ∧ Hid (RowN w wr g T pos dk) ∧ Hid (Sort.siftDown ltN hi f r dk = Sort.siftDown ltN hi f lo d)) (fun rv _ _ => hi - (intOf rv).toNat)
  case atStart => exact ⟨lo, d, rfl, hlo, rfl, HR, Lib.hid rfl⟩
  case round =>
    obtain ⟨r, dk, rfl, hr, hdk, hR, hO⟩ := hrel
    by_cases h1 : 2 * r + 1 < hi
    · have h1i : 2 * (r : Int) + 1 < (hi : Int) := by omega
      have h1j : ¬ (hi : Int) ≤ 2 * (r : Int) + 1 := by omega
      obtain ⟨x1, hx1⟩ : ∃ x, dk[f + (2 * r + 1)]! = x := ⟨_, rfl⟩
      obtain ⟨x2, hx2⟩ : ∃ x, dk[f + (2 * r + 2)]! = x := ⟨_, rfl⟩
      obtain ⟨x0, hx0⟩ : ∃ x, dk[f + r]! = x := ⟨_, rfl⟩
      have c1 := hR.out.cell (f + (2 * r + 1)) (by omega)
      have c0 := hR.out.cell (f + r) (by omega)
      have f1 := hR.out.frozen (f + (2 * r + 1))
      have f2 := hR.out.frozen (f + (2 * r + 2))
      have f0 := hR.out.frozen (f + r)
      have HC2 := Lib.hid (fun hh => hR.out.cell (f + (2 * r + 2)) hh)
      rw [hx1] at c1
      rw [hx0] at c0
      have HS1 := Lib.hid (fun n => (hR.out.drewN n).swap (f + r) (f + (2 * r + 1)) (by omega) (by omega) hx0 hx1)
      have HS2 := Lib.hid (fun n (hh : f + (2 * r + 2) < dk.size) => (hR.out.drewN n).swap (f + r) (f + (2 * r + 2)) (by omega) hh hx0 hx2)
      have HX0 := Lib.hid hx0
      have HX1 := Lib.hid hx1
      have HX2 := Lib.hid hx2
      have a1w : IntKind.i64.wrap ((f : Int) + (2 * (r : Int) + 1)) = (f : Int) + (2 * (r : Int) + 1) := IntWalk.i64_in _ ⟨by omega, by omega⟩
      have a1n : ((f : Int) + (2 * (r : Int) + 1)).toNat = f + (2 * r + 1) := by omega
      have a1l : (0 : Int) ≤ (f : Int) + (2 * (r : Int) + 1) := by omega
      have a1u : (f : Int) + (2 * (r : Int) + 1) < (d.size : Int) := by omega
      have a0w : IntKind.i64.wrap ((f : Int) + (r : Int)) = (f : Int) + (r : Int) := IntWalk.i64_in _ ⟨by omega, by omega⟩
      have a0n : ((f : Int) + (r : Int)).toNat = f + r := by omega
      have a0l : (0 : Int) ≤ (f : Int) + (r : Int) := by omega
      have a0u : (f : Int) + (r : Int) < (d.size : Int) := by omega
      clear hx0 hx1 hx2
      by_cases h2 : 2 * r + 2 < hi
      · have h2i : 2 * (r : Int) + 1 + 1 < (hi : Int) := by omega
        have c2 := HC2.out (by omega)
        rw [HX2.out] at c2
        have a2w : IntKind.i64.wrap ((f : Int) + (2 * (r : Int) + 1) + 1) = (f : Int) + (2 * (r : Int) + 1) + 1 := IntWalk.i64_in _ ⟨by omega, by omega⟩
        have a2n : ((f : Int) + (2 * (r : Int) + 1) + 1).toNat = f + (2 * r + 2) := by omega
        have a2l : (0 : Int) ≤ (f : Int) + (2 * (r : Int) + 1) + 1 := by omega
        have a2u : (f : Int) + (2 * (r : Int) + 1) + 1 < (d.size : Int) := by omega
        have a3w : IntKind.i64.wrap ((f : Int) + (2 * (r : Int) + 1 + 1)) = (f : Int) + (2 * (r : Int) + 1 + 1) := IntWalk.i64_in _ ⟨by omega, by omega⟩
        have a3n : ((f : Int) + (2 * (r : Int) + 1 + 1)).toNat = f + (2 * r + 2) := by omega
        have a3l : (0 : Int) ≤ (f : Int) + (2 * (r : Int) + 1 + 1) := by omega
        have a3u : (f : Int) + (2 * (r : Int) + 1 + 1) < (d.size : Int) := by omega
        rcases hl : ltN x1 x2 with _ | _
        · go_upto_region 3 with (fail)
          go_quiet ((go_at_call 176; first | exact Calls.quiet_of_same (HL.out _ _ _) | exact quiet_of_same2 (HL.out _ _ _)))
          rcases hk : ltN x0 x1 with _ | _
          · go_upto_region 5 with (fail)
            go_quiet ((go_at_call 176; first | exact Calls.quiet_of_same (HL.out _ _ _) | exact quiet_of_same2 (HL.out _ _ _)))
            go_wp2
            (try simp only [Exit.inBlock, Exit.then])
            refine bodyPost_ret (results_none rfl _ _ _) rfl ?_
            exact ⟨rfl, by rw [← hO.out, sift_one _ _ _ _ h1 (.inr (by rw [HX1.out, HX2.out]; exact hl)), if_pos (by rw [HX0.out, HX1.out, hk]; rfl)]; first | exact hR.out.drewN _ | exact (hR.out.drewN _).drewN _⟩
          · go_upto_region 5 with (fail)
            go_quiet ((go_at_call 176; first | exact Calls.quiet_of_same (HL.out _ _ _) | exact quiet_of_same2 (HL.out _ _ _)))
            go_upto_region 6 with (fail)
            go_region
            go_wp2
            go_roundw
            case rel => exact ⟨2 * r + 1, Sort.swp dk (f + r) (f + (2 * r + 1)), by go_num, by omega, by rw [Sort.size_swp]; exact hdk, Lib.hid (HS1.out _), Lib.hid (by rw [← hO.out, sift_one _ _ _ _ h1 (.inr (by rw [HX1.out, HX2.out]; exact hl)), if_neg (by rw [HX0.out, HX1.out, hk]; decide)])⟩
            case measure => first | (simp [intOf]; omega) | simp [intOf]
        · go_upto_region 3 with (fail)
          go_quiet ((go_at_call 176; first | exact Calls.quiet_of_same (HL.out _ _ _) | exact quiet_of_same2 (HL.out _ _ _)))
          rcases hk : ltN x0 x2 with _ | _
          · go_upto_region 5 with (fail)
            go_quiet ((go_at_call 176; first | exact Calls.quiet_of_same (HL.out _ _ _) | exact quiet_of_same2 (HL.out _ _ _)))
            go_wp2
            (try simp only [Exit.inBlock, Exit.then])
            refine bodyPost_ret (results_none rfl _ _ _) rfl ?_
            exact ⟨rfl, by rw [← hO.out, sift_two _ _ _ _ h2 (by rw [HX1.out, HX2.out]; exact hl), if_pos (by rw [HX0.out, HX2.out, hk]; rfl)]; first | exact hR.out.drewN _ | exact (hR.out.drewN _).drewN _⟩
          · go_upto_region 5 with (fail)
            go_quiet ((go_at_call 176; first | exact Calls.quiet_of_same (HL.out _ _ _) | exact quiet_of_same2 (HL.out _ _ _)))
            go_upto_region 6 with (fail)
            go_region
            go_wp2
            go_roundw
            case rel => exact ⟨2 * r + 2, Sort.swp dk (f + r) (f + (2 * r + 2)), by go_num, by omega, by rw [Sort.size_swp]; exact hdk, Lib.hid (HS2.out _ (by omega)), Lib.hid (by rw [← hO.out, sift_two _ _ _ _ h2 (by rw [HX1.out, HX2.out]; exact hl), if_neg (by rw [HX0.out, HX2.out, hk]; decide)])⟩
            case measure => first | (simp [intOf]; omega) | simp [intOf]
      · have h2i : ¬ 2 * (r : Int) + 1 + 1 < (hi : Int) := by omega
        go_upto_region 3 with (fail)
        go_quiet (fail)
        rcases hk : ltN x0 x1 with _ | _
        · go_upto_region 5 with (fail)
          go_quiet ((go_at_call 176; first | exact Calls.quiet_of_same (HL.out _ _ _) | exact quiet_of_same2 (HL.out _ _ _)))
          go_wp2
          (try simp only [Exit.inBlock, Exit.then])
          refine bodyPost_ret (results_none rfl _ _ _) rfl ?_
          exact ⟨rfl, by rw [← hO.out, sift_one _ _ _ _ h1 (.inl h2), if_pos (by rw [HX0.out, HX1.out, hk]; rfl)]; first | exact hR.out.drewN _ | exact (hR.out.drewN _).drewN _⟩
        · go_upto_region 5 with (fail)
          go_quiet ((go_at_call 176; first | exact Calls.quiet_of_same (HL.out _ _ _) | exact quiet_of_same2 (HL.out _ _ _)))
          go_upto_region 6 with (fail)
          go_region
          go_wp2
          go_roundw
          case rel => exact ⟨2 * r + 1, Sort.swp dk (f + r) (f + (2 * r + 1)), by go_num, by omega, by rw [Sort.size_swp]; exact hdk, Lib.hid (HS1.out _), Lib.hid (by rw [← hO.out, sift_one _ _ _ _ h1 (.inl h2), if_neg (by rw [HX0.out, HX1.out, hk]; decide)])⟩
          case measure => first | (simp [intOf]; omega) | simp [intOf]
    · have h1i : ¬ 2 * (r : Int) + 1 < (hi : Int) := by omega
      have h1j : (hi : Int) ≤ 2 * (r : Int) + 1 := by omega
      go_wp2
      go_end0
      exact ⟨rfl, by rw [← hO.out, sift_end _ _ _ _ h1]; exact hR.out⟩
end Go.Proofs.YtobhbppogeghnaaGreatDoor
end

section
namespace Go.Proofs.YtobhbppogeghnaaGreatDoor
open Go.RowKit

theorem sift_size {lt : Nat → Nat → Bool} (hi f : Nat) : ∀ (n r : Nat) (d : Array Nat), hi - r ≤ n → (Sort.siftDown lt hi f r d).size = d.size
  | 0, r, d, hn => by rw [sift_end _ _ _ _ (by omega)]
  | n + 1, r, d, hn => by
    by_cases h1 : 2 * r + 1 < hi
    · by_cases h2 : 2 * r + 2 < hi
      · cases hl : lt d[f + (2 * r + 1)]! d[f + (2 * r + 2)]! with
        | true =>
          rw [sift_two _ _ _ _ h2 hl]
          split
          · rfl
          · rw [sift_size hi f n _ _ (by omega), Sort.size_swp]
        | false =>
          rw [sift_one _ _ _ _ h1 (.inr hl)]
          split
          · rfl
          · rw [sift_size hi f n _ _ (by omega), Sort.size_swp]
      · rw [sift_one _ _ _ _ h1 (.inl h2)]
        split
        · rfl
        · rw [sift_size hi f n _ _ (by omega), Sort.size_swp]
    · rw [sift_end _ _ _ _ h1]
set_option maxRecDepth 100000 in
set_option maxHeartbeats 4000000 in
theorem heap_any (g : Nat) (T : TypeId) (pos : List Value) (d : Array Nat) (a l b cap : Nat) (w : World) (h : Blk w g T (d.toList.map cN ++ pos)) (hl : 12 < l) (hbl : b = a + l) (hb : a + l ≤ d.size) (hs : d.size ≤ 1000000) :
    Calls Tryz.prog 171 #[.slice (some ⟨g, 0, none⟩) d.size cap, .int .i64 (a : Int), .int .i64 (b : Int)] w fun e w' => e = .returned (.tuple #[]) ∧ RowN w w' g T pos (Sort.heapSort ltN d a b) := by
  have HS := Lib.hid (fun (u : World) (dk : Array Nat) (lo hi : Nat) (h1 : dk.size = d.size) (hr : RowN w u g T pos dk) (h2 : lo ≤ 1000000) (h3 : a + hi ≤ d.size) => (h1 ▸ sift_any g T pos dk lo hi a cap u hr.blk h2 (by rw [h1]; exact h3) (by rw [h1]; exact hs) : Calls Tryz.prog 200 #[.slice (some ⟨g, 0, none⟩) d.size cap, .int .i64 (lo : Int), .int .i64 (hi : Int), .int .i64 (a : Int)] u fun e w' => e = .returned (.tuple #[]) ∧ RowN u w' g T pos (Sort.siftDown ltN hi a lo dk)))
  have HR := Lib.hid (RowN.refl h)
  have HZ := Lib.hid (fun hi r (dk : Array Nat) => sift_size (lt := ltN) hi a _ r dk (Nat.le_refl _))
  clear h
  obtain ⟨m, hm⟩ : ∃ m, (l - 1) / 2 = m := ⟨_, rfl⟩
  have e0 : (b : Int) - (a : Int) = (l : Int) := by omega
  have e1 : ((l : Int) - 1) / 2 = (m : Int) := by omega
  have HE : Hid (Sort.heapSort ltN d a b = Sort.heapPop ltN a l (Sort.heapBuild ltN l a (m + 1) d)) := Lib.hid (by unfold Sort.heapSort; rw [hbl, Nat.add_sub_cancel_left, hm])
  clear hbl
  go_enter Tryz.func171, Tryz.ntmps171
  go_upto_region 3 with (fail)
  go_wp2
  simp only [e1]
  go_loopw [9] (fun iv wr => ∃ (k : Nat) (dk : Array Nat), iv = .int .i64 ((k : Int) - 1) ∧ k ≤ m + 1 ∧ dk.size = d.size ∧ Hid (RowN w wr g T pos dk) ∧ Hid (Sort.heapBuild ltN l a k dk = Sort.heapBuild ltN l a (m + 1) d)) (fun iv _ => (intOf iv + 1).toNat)
  case atStart => exact ⟨m + 1, d, by go_num, Nat.le_refl _, rfl, HR, Lib.hid rfl⟩
  case round =>
    obtain ⟨k, dk, rfl, hk, hdk, hR, hO⟩ := hrel
    rcases k with _ | k
    · have hb1 : Sort.heapBuild ltN l a 0 dk = dk := rfl
      have HB := Lib.hid (hb1.symm.trans hO.out)
      clear hb1 hO
      obtain ⟨z9, hz9⟩ : ∃ z : Int, ((0 : Nat) : Int) - 1 = z := ⟨_, rfl⟩
      have hzn : ¬ (0 : Int) ≤ z9 := by omega
      rw [hz9]
      clear hz9
      go_wp2
      go_loopw [10] (fun iv wr => ∃ (k : Nat) (dj : Array Nat), iv = .int .i64 ((k : Int) - 1) ∧ k ≤ l ∧ dj.size = d.size ∧ Hid (RowN w wr g T pos dj) ∧ Hid (Sort.heapPop ltN a k dj = Sort.heapSort ltN d a b)) (fun iv _ => (intOf iv + 1).toNat)
      case atStart => exact ⟨l, dk, by go_num, Nat.le_refl _, hdk, hR, Lib.hid (by rw [HE.out, ← HB.out])⟩
      case round =>
        obtain ⟨k, dj, rfl, hk, hdj, hRj, hP⟩ := hrel
        rcases k with _ | k
        · have HQ : Hid (dj = Sort.heapSort ltN d a b) := Lib.hid hP.out
          clear hP
          go_wp2
          go_end0
          exact ⟨rfl, by rw [← HQ.out]; exact hRj.out⟩
        · have hk0 : (0 : Int) ≤ (k : Int) := by omega
          have hsub : ((k + 1 : Nat) : Int) - 1 = (k : Int) := by omega
          have HQ : Hid (Sort.heapPop ltN a k (Sort.siftDown ltN k a 0 (Sort.swp dj a (a + k))) = Sort.heapSort ltN d a b) := Lib.hid hP.out
          clear hP
          rw [hsub]
          have a0w : IntKind.i64.wrap ((a : Int) + (k : Int)) = (a : Int) + (k : Int) := IntWalk.i64_in _ ⟨by omega, by omega⟩
          have a0n : ((a : Int) + (k : Int)).toNat = a + k := by omega
          have a0l : (0 : Int) ≤ (a : Int) + (k : Int) := by omega
          have a0u : (a : Int) + (k : Int) < (d.size : Int) := by omega
          rcases k with _ | k
          · have b1 : a < d.size := by omega
            have c1 := hRj.out.cell a (by omega)
            have f1 := hRj.out.frozen a
            obtain ⟨x, hx⟩ : ∃ x, dj[a]! = x := ⟨_, rfl⟩
            have HW := Lib.hid (hRj.out.swap a a (by omega) (by omega) hx hx)
            rw [hx] at c1
            clear hx
            go_upto_region 10 with (fail)
            go_region
            generalize hW : World.setCell (World.setCell _ _ _) _ _ = W
            have HW2 : Hid (RowN w W g T pos (Sort.swp dj a a)) := Lib.hid (by rw [← hW]; exact HW.out)
            clear hW HW c1 f1
            go_wp2_with (go_at_call 200; refine (HS.out _ (Sort.swp dj a a) 0 0 (by rw [Sort.size_swp]; exact hdj) HW2.out.drew (by omega) (by omega)).mono ?_; rintro e w1 ⟨rfl, r1⟩; have R1 := Lib.hid (HW2.out.drew.trans r1); clear r1)
            go_roundw
            case rel => exact ⟨0, Sort.siftDown ltN 0 a 0 (Sort.swp dj a a), by first | rfl | go_num, by omega, by rw [HZ.out, Sort.size_swp]; exact hdj, R1, HQ⟩
            case measure => first | (simp [intOf]; omega) | simp [intOf]
          · have hne : ¬ k + 1 = 0 := by omega
            have b1 : a < d.size := by omega
            have b2 : a + (k + 1) < d.size := by omega
            have c1 := hRj.out.cell a (by omega)
            have c0 := hRj.out.cell (a + (k + 1)) (by omega)
            have f1 := hRj.out.frozen a
            have f0 := hRj.out.frozen (a + (k + 1))
            obtain ⟨x, hx⟩ : ∃ x, dj[a]! = x := ⟨_, rfl⟩
            obtain ⟨y, hy⟩ : ∃ y, dj[a + (k + 1)]! = y := ⟨_, rfl⟩
            have HW := Lib.hid (hRj.out.swap a (a + (k + 1)) (by omega) (by omega) hx hy)
            rw [hx] at c1
            rw [hy] at c0
            clear hx hy
            go_upto_region 10 with (fail)
            go_region
            generalize hW : World.setCell (World.setCell _ _ _) _ _ = W
            have HW2 : Hid (RowN w W g T pos (Sort.swp dj a (a + (k + 1)))) := Lib.hid (by rw [← hW]; exact HW.out)
            clear hW HW c1 c0 f1 f0
            go_wp2_with (go_at_call 200; refine (HS.out _ (Sort.swp dj a (a + (k + 1))) 0 (k + 1) (by rw [Sort.size_swp]; exact hdj) HW2.out.drew (by omega) (by omega)).mono ?_; rintro e w1 ⟨rfl, r1⟩; have R1 := Lib.hid (HW2.out.drew.trans r1); clear r1)
            go_roundw
            case rel => exact ⟨k + 1, Sort.siftDown ltN (k + 1) a 0 (Sort.swp dj a (a + (k + 1))), by first | rfl | go_num, by omega, by rw [HZ.out, Sort.size_swp]; exact hdj, R1, HQ⟩
            case measure => first | (simp [intOf]; omega) | simp [intOf]
    · have hk0 : (0 : Int) ≤ (k : Int) := by omega
      have hsub : ((k + 1 : Nat) : Int) - 1 = (k : Int) := by omega
      have HB : Hid (Sort.heapBuild ltN l a k (Sort.siftDown ltN l a k dk) = Sort.heapBuild ltN l a (m + 1) d) := Lib.hid hO.out
      clear hO
      rw [hsub]
      go_wp2_with (go_at_call 200; refine (HS.out _ dk k l hdk hR.out (by omega) (by omega)).mono ?_; rintro e w1 ⟨rfl, r1⟩; have R1 := Lib.hid (hR.out.trans r1); clear r1)
      go_roundw
      case rel => exact ⟨k, Sort.siftDown ltN l a k dk, by first | rfl | go_num, by omega, by rw [HZ.out]; exact hdk, R1, HB⟩
      case measure => first | (simp [intOf]; omega) | simp [intOf]
end Go.Proofs.YtobhbppogeghnaaGreatDoor
end
