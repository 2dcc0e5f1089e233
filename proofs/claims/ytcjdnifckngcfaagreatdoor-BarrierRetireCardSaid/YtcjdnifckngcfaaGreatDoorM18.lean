/- Contract of the library's sort at numbers of 32 bits: the heap sort. -/
import Derived.Test.YtcjdnifckngcfaaGreatDoorM17
section
namespace Go.Proofs.YtcjdnifckngcfaaGreatDoor
open Go.RowKit

theorem sift_size {lt : Nat → Nat → Bool} (hi f : Nat) : ∀ (n r : Nat) (d : Array Nat), hi - r ≤ n → (Sort.siftDown lt hi f r d).size = d.size
  | 0, r, d, hn => by rw [sift_end _ _ _ _ (by omega)]
  | n + 1, r, d, hn => by
    by_cases h1 : 2 * r + 1 < hi
    · by_cases h2 : 2 * r + 2 < hi
      · cases hl : lt d[f + (2 * r + 1)]! d[f + (2 * r + 2)]! with
        | true =>
          rw [sift_two _ _ _ _ h2 hl]
          split
          · rfl
          · rw [sift_size hi f n _ _ (by omega), Sort.size_swp]
        | false =>
          rw [sift_one _ _ _ _ h1 (.inr hl)]
          split
          · rfl
          · rw [sift_size hi f n _ _ (by omega), Sort.size_swp]
      · rw [sift_one _ _ _ _ h1 (.inl h2)]
        split
        · rfl
        · rw [sift_size hi f n _ _ (by omega), Sort.size_swp]
    · rw [sift_end _ _ _ _ h1]
set_option maxRecDepth 100000 in
set_option maxHeartbeats 4000000 in
theorem heap_any (g : Nat) (T : TypeId) (pos : List Value) (d : Array Nat) (a l b cap : Nat) (w : World) (h : Blk w g T (d.toList.map cN ++ pos)) (hl : 12 < l) (hbl : b = a + l) (hb : a + l ≤ d.size) (hs : d.size ≤ 1000000) :
    Calls Tryz.prog 171 #[.slice (some ⟨g, 0, none⟩) d.size cap, .int .i64 (a : Int), .int .i64 (b : Int)] w fun e w' => e = .returned (.tuple #[]) ∧ RowN w w' g T pos (Sort.heapSort ltN d a b) := by
  have HS := Lib.hid (fun (u : World) (dk : Array Nat) (lo hi : Nat) (h1 : dk.size = d.size) (hr : RowN w u g T pos dk) (h2 : lo ≤ 1000000) (h3 : a + hi ≤ d.size) => (h1 ▸ sift_any g T pos dk lo hi a cap u hr.blk h2 (by rw [h1]; exact h3) (by rw [h1]; exact hs) : Calls Tryz.prog 200 #[.slice (some ⟨g, 0, none⟩) d.size cap, .int .i64 (lo : Int), .int .i64 (hi : Int), .int .i64 (a : Int)] u fun e w' => e = .returned (.tuple #[]) ∧ RowN u w' g T pos (Sort.siftDown ltN hi a lo dk)))
  have HR := Lib.hid (RowN.refl h)
  have HZ := Lib.hid (fun hi r (dk : Array Nat) => sift_size (lt := ltN) hi a _ r dk (Nat.le_refl _))
  clear h
  obtain ⟨m, hm⟩ : ∃ m, (l - 1) / 2 = m := ⟨_, rfl⟩
  have e0 : (b : Int) - (a : Int) = (l : Int) := by omega
  have e1 : ((l : Int) - 1) / 2 = (m : Int) := by omega
  have HE : Hid (Sort.heapSort ltN d a b = Sort.heapPop ltN a l (Sort.heapBuild ltN l a (m + 1) d)) := Lib.hid (by unfold Sort.heapSort; rw [hbl, Nat.add_sub_cancel_left, hm])
  clear hbl
  go_enter Tryz.func171, Tryz.ntmps171
  go_upto_region 3 with (fail)
  go_wp2
  simp only [e1]
  go_loopw [9] (fun iv wr => ∃ (k : Nat) (dk : Array Nat), iv = .int .i64 ((k : Int) - 1) ∧ k ≤ m + 1 ∧ dk.size = d.size ∧ Hid (RowN w wr g T pos dk) ∧ Hid (Sort.heapBuild ltN l a k dk = Sort.heapBuild ltN l a (m + 1) d)) (fun iv _ => (intOf iv + 1).toNat)
  case atStart => exact ⟨m + 1, d, by go_num, Nat.le_refl _, rfl, HR, Lib.hid rfl⟩
  case round =>
    obtain ⟨k, dk, rfl, hk, hdk, hR, hO⟩ := hrel
    rcases k with _ | k
    · have hb1 : Sort.heapBuild ltN l a 0 dk = dk := rfl
      have HB := Lib.hid (hb1.symm.trans hO.out)
      clear hb1 hO
      obtain ⟨z9, hz9⟩ : ∃ z : Int, ((0 : Nat) : Int) - 1 = z := ⟨_, rfl⟩
      have hzn : ¬ (0 : Int) ≤ z9 := by omega
      rw [hz9]
      clear hz9
      go_wp2
      go_loopw [10] (fun iv wr => ∃ (k : Nat) (dj : Array Nat), iv = .int .i64 ((k : Int) - 1) ∧ k ≤ l ∧ dj.size = d.size ∧ Hid (RowN w wr g T pos dj) ∧ Hid (Sort.heapPop ltN a k dj = Sort.heapSort ltN d a b)) (fun iv _ => (intOf iv + 1).toNat)
      case atStart => exact ⟨l, dk, by go_num, Nat.le_refl _, hdk, hR, Lib.hid (by rw [HE.out, ← HB.out])⟩
      case round =>
        obtain ⟨k, dj, rfl, hk, hdj, hRj, hP⟩ := hrel
        rcases k with _ | k
        · have HQ : Hid (dj = Sort.heapSort ltN d a b) := Lib.hid hP.out
          clear hP
          go_wp2
          go_end0
          exact ⟨rfl, by rw [← HQ.out]; exact hRj.out⟩
        · have hk0 : (0 : Int) ≤ (k : Int) := by omega
          have hsub : ((k + 1 : Nat) : Int) - 1 = (k : Int) := by omega
          have HQ : Hid (Sort.heapPop ltN a k (Sort.siftDown ltN k a 0 (Sort.swp dj a (a + k))) = Sort.heapSort ltN d a b) := Lib.hid hP.out
          clear hP
          rw [hsub]
          have a0w : IntKind.i64.wrap ((a : Int) + (k : Int)) = (a : Int) + (k : Int) := IntWalk.i64_in _ ⟨by omega, by omega⟩
          have a0n : ((a : Int) + (k : Int)).toNat = a + k := by omega
          have a0l : (0 : Int) ≤ (a : Int) + (k : Int) := by omega
          have a0u : (a : Int) + (k : Int) < (d.size : Int) := by omega
          rcases k with _ | k
          · have b1 : a < d.size := by omega
            have c1 := hRj.out.cell a (by omega)
            have f1 := hRj.out.frozen a
            obtain ⟨x, hx⟩ : ∃ x, dj[a]! = x := ⟨_, rfl⟩
            have HW := Lib.hid (hRj.out.swap a a (by omega) (by omega) hx hx)
            rw [hx] at c1
            clear hx
            go_upto_region 10 with (fail)
            go_region
            generalize hW : World.setCell (World.setCell _ _ _) _ _ = W
            have HW2 : Hid (RowN w W g T pos (Sort.swp dj a a)) := Lib.hid (by rw [← hW]; exact HW.out)
            clear hW HW c1 f1
            go_wp2_with (go_at_call 200; refine (HS.out _ (Sort.swp dj a a) 0 0 (by rw [Sort.size_swp]; exact hdj) HW2.out.drew (by omega) (by omega)).mono ?_; rintro e w1 ⟨rfl, r1⟩; have R1 := Lib.hid (HW2.out.drew.trans r1); clear r1)
            go_roundw
            case rel => exact ⟨0, Sort.siftDown ltN 0 a 0 (Sort.swp dj a a), by first | rfl | go_num, by omega, by rw [HZ.out, Sort.size_swp]; exact hdj, R1, HQ⟩
            case measure => first | (simp [intOf]; omega) | simp [intOf]
          · have hne : ¬ k + 1 = 0 := by omega
            have b1 : a < d.size := by omega
            have b2 : a + (k + 1) < d.size := by omega
            have c1 := hRj.out.cell a (by omega)
            have c0 := hRj.out.cell (a + (k + 1)) (by omega)
            have f1 := hRj.out.frozen a
            have f0 := hRj.out.frozen (a + (k + 1))
            obtain ⟨x, hx⟩ : ∃ x, dj[a]! = x := ⟨_, rfl⟩
            obtain ⟨y, hy⟩ : ∃ y, dj[a + (k + 1)]! = y := ⟨_, rfl⟩
            have HW := Lib.hid (hRj.out.swap a (a + (k + 1)) (by omega) (by omega) hx hy)
            rw [hx] at c1
            rw [hy] at c0
            clear hx hy
            go_upto_region 10 with (fail)
            go_region
            generalize hW : World.setCell (World.setCell _ _ _) _ _ = W
            have HW2 : Hid (RowN w W g T pos (Sort.swp dj a (a + (k + 1)))) := Lib.hid (by rw [← hW]; exact HW.out)
            clear hW HW c1 c0 f1 f0
            go_wp2_with (go_at_call 200; refine (HS.out _ (Sort.swp dj a (a + (k + 1))) 0 (k + 1) (by rw [Sort.size_swp]; exact hdj) HW2.out.drew (by omega) (by omega)).mono ?_; rintro e w1 ⟨rfl, r1⟩; have R1 := Lib.hid (HW2.out.drew.trans r1); clear r1)
            go_roundw
            case rel => exact ⟨k + 1, Sort.siftDown ltN (k + 1) a 0 (Sort.swp dj a (a + (k + 1))), by first | rfl | go_num, by omega, by rw [HZ.out, Sort.size_swp]; exact hdj, R1, HQ⟩
            case measure => first | (simp [intOf]; omega) | simp [intOf]
    · have hk0 : (0 : Int) ≤ (k : Int) := by omega
      have hsub : ((k + 1 : Nat) : Int) - 1 = (k : Int) := by omega
      have HB : Hid (Sort.heapBuild ltN l a k (Sort.siftDown ltN l a k dk) = Sort.heapBuild ltN l a (m + 1) d) := Lib.hid hO.out
      clear hO
      rw [hsub]
      go_wp2_with (go_at_call 200; refine (HS.out _ dk k l hdk hR.out (by omega) (by omega)).mono ?_; rintro e w1 ⟨rfl, r1⟩; have R1 := Lib.hid (hR.out.trans r1); clear r1)
      go_roundw
      case rel => exact ⟨k, Sort.siftDown ltN l a k dk, by first | rfl | go_num, by omega, by rw [HZ.out]; exact hdk, R1, HB⟩
      case measure => first | (simp [intOf]; omega) | simp [intOf]
end Go.Proofs.YtcjdnifckngcfaaGreatDoor
end
