/- Contracts of the library's sort at numbers of 32 bits: a heap's step. -/
import Derived.Test.YteddogalmdgjlaaDoorM34
namespace Go.Proofs.YteddogalmdgjlaaDoor
open Go.RowKit

/-- The step of a heap, by the child that was chosen. -/
theorem sift_end {lt : Nat → Nat → Bool} (hi f r : Nat) (d : Array Nat) (h : ¬ 2 * r + 1 < hi) : Sort.siftDown lt hi f r d = d := by
  rw [Sort.siftDown, dif_pos (by omega)]
theorem sift_two {lt : Nat → Nat → Bool} (hi f r : Nat) (d : Array Nat) (h : 2 * r + 2 < hi) (hl : lt d[f + (2 * r + 1)]! d[f + (2 * r + 2)]! = true) :
    Sort.siftDown lt hi f r d = if !lt d[f + r]! d[f + (2 * r + 2)]! then d else Sort.siftDown lt hi f (2 * r + 2) (Sort.swp d (f + r) (f + (2 * r + 2))) := by
  have h2 : f + (2 * r + 1) + 1 = f + (2 * r + 2) := by omega
  conv => lhs; rw [Sort.siftDown]
  rw [dif_neg (by omega), if_pos (by rw [h2, hl]; simp; omega)]
  split
  · rfl
  · first | rfl | rw [dif_pos h]
theorem sift_one {lt : Nat → Nat → Bool} (hi f r : Nat) (d : Array Nat) (h : 2 * r + 1 < hi) (hl : ¬ 2 * r + 2 < hi ∨ lt d[f + (2 * r + 1)]! d[f + (2 * r + 2)]! = false) :
    Sort.siftDown lt hi f r d = if !lt d[f + r]! d[f + (2 * r + 1)]! then d else Sort.siftDown lt hi f (2 * r + 1) (Sort.swp d (f + r) (f + (2 * r + 1))) := by
  have h2 : f + (2 * r + 1) + 1 = f + (2 * r + 2) := by omega
  conv => lhs; rw [Sort.siftDown]
  rw [dif_neg (by omega), if_neg (by
    rw [h2]
    rcases hl with hl | hl
    · simp; omega
    · simp [hl])]
set_option maxRecDepth 100000 in
set_option maxHeartbeats 4000000 in
theorem sift_any (g : Nat) (T : TypeId) (pos : List Value) (d : Array Nat) (lo hi f cap : Nat) (w : World) (h : Blk w g T (d.toList.map cN ++ pos)) (hlo : lo ≤ 1000000) (hb : f + hi ≤ d.size) (hs : d.size ≤ 1000000) :
    Calls Tryd.prog 78 #[.slice (some ⟨g, 0, none⟩) d.size cap, .int .i64 (lo : Int), .int .i64 (hi : Int), .int .i64 (f : Int)] w fun e w' => e = .returned (.tuple #[]) ∧ RowN w w' g T pos (Sort.siftDown ltN hi f lo d) := by
  have HL := Lib.hid less_any
  have HR := Lib.hid (RowN.refl h)
  clear h
  go_enter Tryd.func78, Tryd.ntmps78
  go_wp2
  go_loopw [8, 9] (fun rv _ wr => ∃ (r : Nat) (dk : Array Nat), rv = .int .i64 (r : Int) ∧ r ≤ 1000000 ∧ dk.size = d.size ∧ Hid (RowN w wr g T pos dk) ∧ Hid (Sort.siftDown ltN hi f r dk = Sort.siftDown ltN hi f lo d)) (fun rv _ _ => hi - (intOf rv).toNat)
  case atStart => exact ⟨lo, d, rfl, hlo, rfl, HR, Lib.hid rfl⟩
  case round =>
    obtain ⟨r, dk, rfl, hr, hdk, hR, hO⟩ := hrel
    by_cases h1 : 2 * r + 1 < hi
    · have h1i : 2 * (r : Int) + 1 < (hi : Int) := by omega
      have h1j : ¬ (hi : Int) ≤ 2 * (r : Int) + 1 := by omega
      obtain ⟨x1, hx1⟩ : ∃ x, dk[f + (2 * r + 1)]! = x := ⟨_, rfl⟩
      obtain ⟨x2, hx2⟩ : ∃ x, dk[f + (2 * r + 2)]! = x := ⟨_, rfl⟩
      obtain ⟨x0, hx0⟩ : ∃ x, dk[f + r]! = x := ⟨_, rfl⟩
      have c1 := hR.out.cell (f + (2 * r + 1)) (by omega)
      have c0 := hR.out.cell (f + r) (by omega)
      have f1 := hR.out.frozen (f + (2 * r + 1))
      have f2 := hR.out.frozen (f + (2 * r + 2))
      have f0 := hR.out.frozen (f + r)
      have HC2 := Lib.hid (fun hh => hR.out.cell (f + (2 * r + 2)) hh)
      rw [hx1] at c1
      rw [hx0] at c0
      have HS1 := Lib.hid (fun n => (hR.out.drewN n).swap (f + r) (f + (2 * r + 1)) (by omega) (by omega) hx0 hx1)
      have HS2 := Lib.hid (fun n (hh : f + (2 * r + 2) < dk.size) => (hR.out.drewN n).swap (f + r) (f + (2 * r + 2)) (by omega) hh hx0 hx2)
      have HX0 := Lib.hid hx0
      have HX1 := Lib.hid hx1
      have HX2 := Lib.hid hx2
      have a1w : IntKind.i64.wrap ((f : Int) + (2 * (r : Int) + 1)) = (f : Int) + (2 * (r : Int) + 1) := IntWalk.i64_in _ ⟨by omega, by omega⟩
      have a1n : ((f : Int) + (2 * (r : Int) + 1)).toNat = f + (2 * r + 1) := by omega
      have a1l : (0 : Int) ≤ (f : Int) + (2 * (r : Int) + 1) := by omega
      have a1u : (f : Int) + (2 * (r : Int) + 1) < (d.size : Int) := by omega
      have a0w : IntKind.i64.wrap ((f : Int) + (r : Int)) = (f : Int) + (r : Int) := IntWalk.i64_in _ ⟨by omega, by omega⟩
      have a0n : ((f : Int) + (r : Int)).toNat = f + r := by omega
      have a0l : (0 : Int) ≤ (f : Int) + (r : Int) := by omega
      have a0u : (f : Int) + (r : Int) < (d.size : Int) := by omega
      clear hx0 hx1 hx2
      by_cases h2 : 2 * r + 2 < hi
      · have h2i : 2 * (r : Int) + 1 + 1 < (hi : Int) := by omega
        have c2 := HC2.out (by omega)
        rw [HX2.out] at c2
        have a2w : IntKind.i64.wrap ((f : Int) + (2 * (r : Int) + 1) + 1) = (f : Int) + (2 * (r : Int) + 1) + 1 := IntWalk.i64_in _ ⟨by omega, by omega⟩
        have a2n : ((f : Int) + (2 * (r : Int) + 1) + 1).toNat = f + (2 * r + 2) := by omega
        have a2l : (0 : Int) ≤ (f : Int) + (2 * (r : Int) + 1) + 1 := by omega
        have a2u : (f : Int) + (2 * (r : Int) + 1) + 1 < (d.size : Int) := by omega
        have a3w : IntKind.i64.wrap ((f : Int) + (2 * (r : Int) + 1 + 1)) = (f : Int) + (2 * (r : Int) + 1 + 1) := IntWalk.i64_in _ ⟨by omega, by omega⟩
        have a3n : ((f : Int) + (2 * (r : Int) + 1 + 1)).toNat = f + (2 * r + 2) := by omega
        have a3l : (0 : Int) ≤ (f : Int) + (2 * (r : Int) + 1 + 1) := by omega
        have a3u : (f : Int) + (2 * (r : Int) + 1 + 1) < (d.size : Int) := by omega
        rcases hl : ltN x1 x2 with _ | _
        · go_upto_region 3 with (fail)
          go_quiet ((go_at_call 67; first | exact Calls.quiet_of_same (HL.out _ _ _) | exact quiet_of_same2 (HL.out _ _ _)))
          rcases hk : ltN x0 x1 with _ | _
          · go_upto_region 5 with (fail)
            go_quiet ((go_at_call 67; first | exact Calls.quiet_of_same (HL.out _ _ _) | exact quiet_of_same2 (HL.out _ _ _)))
            go_wp2
            (try simp only [Exit.inBlock, Exit.then])
            refine bodyPost_ret (results_none rfl _ _ _) rfl ?_
            exact ⟨rfl, by rw [← hO.out, sift_one _ _ _ _ h1 (.inr (by rw [HX1.out, HX2.out]; exact hl)), if_pos (by rw [HX0.out, HX1.out, hk]; rfl)]; first | exact hR.out.drewN _ | exact (hR.out.drewN _).drewN _⟩
          · go_upto_region 5 with (fail)
            go_quiet ((go_at_call 67; first | exact Calls.quiet_of_same (HL.out _ _ _) | exact quiet_of_same2 (HL.out _ _ _)))
            go_upto_region 6 with (fail)
            go_region
            go_wp2
            go_roundw
            case rel => exact ⟨2 * r + 1, Sort.swp dk (f + r) (f + (2 * r + 1)), by go_num, by omega, by rw [Sort.size_swp]; exact hdk, Lib.hid (HS1.out _), Lib.hid (by rw [← hO.out, sift_one _ _ _ _ h1 (.inr (by rw [HX1.out, HX2.out]; exact hl)), if_neg (by rw [HX0.out, HX1.out, hk]; decide)])⟩
            case measure => first | (simp [intOf]; omega) | simp [intOf]
        · go_upto_region 3 with (fail)
          go_quiet ((go_at_call 67; first | exact Calls.quiet_of_same (HL.out _ _ _) | exact quiet_of_same2 (HL.out _ _ _)))
          rcases hk : ltN x0 x2 with _ | _
          · go_upto_region 5 with (fail)
            go_quiet ((go_at_call 67; first | exact Calls.quiet_of_same (HL.out _ _ _) | exact quiet_of_same2 (HL.out _ _ _)))
            go_wp2
            (try simp only [Exit.inBlock, Exit.then])
            refine bodyPost_ret (results_none rfl _ _ _) rfl ?_
            exact ⟨rfl, by rw [← hO.out, sift_two _ _ _ _ h2 (by rw [HX1.out, HX2.out]; exact hl), if_pos (by rw [HX0.out, HX2.out, hk]; rfl)]; first | exact hR.out.drewN _ | exact (hR.out.drewN _).drewN _⟩
          · go_upto_region 5 with (fail)
            go_quiet ((go_at_call 67; first | exact Calls.quiet_of_same (HL.out _ _ _) | exact quiet_of_same2 (HL.out _ _ _)))
            go_upto_region 6 with (fail)
            go_region
            go_wp2
            go_roundw
            case rel => exact ⟨2 * r + 2, Sort.swp dk (f + r) (f + (2 * r + 2)), by go_num, by omega, by rw [Sort.size_swp]; exact hdk, Lib.hid (HS2.out _ (by omega)), Lib.hid (by rw [← hO.out, sift_two _ _ _ _ h2 (by rw [HX1.out, HX2.out]; exact hl), if_neg (by rw [HX0.out, HX2.out, hk]; decide)])⟩
            case measure => first | (simp [intOf]; omega) | simp [intOf]
      · have h2i : ¬ 2 * (r : Int) + 1 + 1 < (hi : Int) := by omega
        go_upto_region 3 with (fail)
        go_quiet (fail)
        rcases hk : ltN x0 x1 with _ | _
        · go_upto_region 5 with (fail)
          go_quiet ((go_at_call 67; first | exact Calls.quiet_of_same (HL.out _ _ _) | exact quiet_of_same2 (HL.out _ _ _)))
          go_wp2
          (try simp only [Exit.inBlock, Exit.then])
          refine bodyPost_ret (results_none rfl _ _ _) rfl ?_
          exact ⟨rfl, by rw [← hO.out, sift_one _ _ _ _ h1 (.inl h2), if_pos (by rw [HX0.out, HX1.out, hk]; rfl)]; first | exact hR.out.drewN _ | exact (hR.out.drewN _).drewN _⟩
        · go_upto_region 5 with (fail)
          go_quiet ((go_at_call 67; first | exact Calls.quiet_of_same (HL.out _ _ _) | exact quiet_of_same2 (HL.out _ _ _)))
          go_upto_region 6 with (fail)
          go_region
          go_wp2
          go_roundw
          case rel => exact ⟨2 * r + 1, Sort.swp dk (f + r) (f + (2 * r + 1)), by go_num, by omega, by rw [Sort.size_swp]; exact hdk, Lib.hid (HS1.out _), Lib.hid (by rw [← hO.out, sift_one _ _ _ _ h1 (.inl h2), if_neg (by rw [HX0.out, HX1.out, hk]; decide)])⟩
          case measure => first | (simp [intOf]; omega) | simp [intOf]
    · have h1i : ¬ 2 * (r : Int) + 1 < (hi : Int) := by omega
      have h1j : (hi : Int) ≤ 2 * (r : Int) + 1 := by omega
      go_wp2
      go_end0
      exact ⟨rfl, by rw [← hO.out, sift_end _ _ _ _ h1]; exact hR.out⟩
end Go.Proofs.YteddogalmdgjlaaDoor
