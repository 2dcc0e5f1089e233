/- Contract of the library's sort at numbers of 32 bits: a range parted in what is less and what is not. -/
import Derived.Test.YtobhbppogeghnaaGreatDoorM14
section
namespace Go.Proofs.YtobhbppogeghnaaGreatDoor
open Go.RowKit

set_option maxRecDepth 100000 in
set_option maxHeartbeats 8000000 in
theorem part_any (g : Nat) (T : TypeId) (pos : List Value) (d : Array Nat) (a b pivot cap : Nat) (w : World) (h : Blk w g T (d.toList.map cN ++ pos)) (hab : a + 1 < b) (hp1 : a ≤ pivot) (hp2 : pivot < b) (hb : b ≤ d.size) (hs : d.size ≤ 1000000) :
    Calls Tryz.prog 178 #[.slice (some ⟨g, 0, none⟩) d.size cap, .int .i64 (a : Int), .int .i64 (b : Int), .int .i64 (pivot : Int)] w fun e w' => e = .returned (.tuple #[.int .i64 ((Sort.partition ltN d a b pivot).1 : Int), .bool (Sort.partition ltN d a b pivot).2.1]) ∧ RowN w w' g T pos (Sort.partition ltN d a b pivot).2.2 := by
  have HR := Lib.hid (RowN.refl h)
  clear h
  have b1 : a < d.size := by omega
  have b0 : pivot < d.size := by omega
  obtain ⟨bb, hbb⟩ : ∃ k, b - 1 = k := ⟨_, rfl⟩
  have HB := Lib.hid hbb
  have hbi : (b : Int) - 1 = (bb : Int) := by omega
  have hbl : bb < b := by omega
  have hbl2 : a + 1 ≤ bb + 1 := by omega
  clear hbb
  go_enter Tryz.func178, Tryz.ntmps178
  by_cases hpa : a = pivot
  · subst hpa
    have s1 := HR.out.cell a (by omega)
    have fs1 := HR.out.frozen a
    obtain ⟨sx, hsx⟩ : ∃ x, d[a]! = x := ⟨_, rfl⟩
    have HW0 := Lib.hid (HR.out.swap a a (by omega) (by omega) hsx hsx)
    have HWn := Lib.hid (fun n => (HR.out.drewN n).swap a a (by omega) (by omega) hsx hsx)
    rw [hsx] at s1
    clear hsx
    go_upto_region 1 with (fail)
    go_region
    generalize hW : World.setCell (World.setCell _ _ _) _ _ = W
    have HW2 : Hid (RowN w W g T pos (Sort.swp d a a)) := Lib.hid (by rw [← hW]; first | exact HW0.out | exact HWn.out _)
    clear hW HW0 HWn s1 fs1
    obtain ⟨d1, hdd⟩ : ∃ x, Sort.swp d a a = x := ⟨_, rfl⟩
    have hd1 : d1.size = d.size := by rw [← hdd, Sort.size_swp]
    have HRW : Hid (RowN w W g T pos d1) := Lib.hid (hdd ▸ HW2.out)
    have HD := Lib.hid hdd
    clear hdd HW2
    go_upto_block 0 with fail
    go_cut [10] (fun iv wx => ∃ i0 : Nat, iv = .int .i64 (i0 : Int) ∧ (a + 1) ≤ i0 ∧ i0 ≤ bb + 1 ∧ Hid (RowN w wx g T pos d1) ∧ Hid (Sort.scanUp (fun x => ltN x d1[a]!) d1 bb (a + 1) = i0) ∧ Hid (i0 ≤ bb → ltN d1[i0]! d1[a]! = false))
    case first =>
      go_wp2
      go_loopw [10] (fun iv wx => ∃ i0 : Nat, iv = .int .i64 (i0 : Int) ∧ (a + 1) ≤ i0 ∧ i0 ≤ bb + 1 ∧ Hid (RowN w wx g T pos d1) ∧ Hid (Sort.scanUp (fun x => ltN x d1[a]!) d1 bb i0 = Sort.scanUp (fun x => ltN x d1[a]!) d1 bb (a + 1))) (fun iv _ => bb + 1 - (intOf iv).toNat)
      case atStart => exact ⟨(a + 1), by first | rfl | go_num, Nat.le_refl _, by omega, (by first | exact HRW | exact Lib.hid HRW.out.drew | exact Lib.hid (HRW.out.drewN _)), Lib.hid rfl⟩
      case round =>
        obtain ⟨i0, rfl, hi2, hj2, hR2, hS2⟩ := hrel
        by_cases hle : i0 ≤ bb
        · have hlei : (i0 : Int) ≤ (bb : Int) := by omega
          have c1 := hR2.out.cell i0 (by omega)
          have c0 := hR2.out.cell a (by omega)
          have b1 : i0 < d.size := by omega
          have b0 : a < d.size := by omega
          obtain ⟨x, hx⟩ : ∃ x, d1[i0]! = x := ⟨_, rfl⟩
          obtain ⟨pa, hpa⟩ : ∃ x, d1[a]! = x := ⟨_, rfl⟩
          rw [hx] at c1
          rw [hpa] at c0
          have HX := Lib.hid hx
          have HPA := Lib.hid hpa
          clear hx hpa
          rcases hl : ltN x pa with _ | _
          · go_upto_region 3 with (fail)
            go_quiet ((go_at_call 176; first | exact Calls.quiet_of_same (less_of hl _) | exact quiet_of_same2 (less_of hl _)))
            go_wp2
            go_meet
            case rel => exact ⟨i0, rfl, hi2, hj2, Lib.hid (hR2.out.drewN _), Lib.hid (by rw [← hS2.out, scanUp_end _ _ _ (.inr (by simp [HX.out, HPA.out, hl]))]), Lib.hid (fun _ => by rw [HX.out, HPA.out]; exact hl)⟩
          · go_upto_region 3 with (fail)
            go_quiet ((go_at_call 176; first | exact Calls.quiet_of_same (less_of hl _) | exact quiet_of_same2 (less_of hl _)))
            go_wp2
            go_roundw
            case rel => exact ⟨i0 + 1, by go_num, by omega, by omega, Lib.hid (hR2.out.drewN _), Lib.hid (by rw [← hS2.out]; exact (scanUp_go _ _ _ hle (by simp [HX.out, HPA.out, hl])).symm)⟩
            case measure => first | (simp [intOf]; omega) | simp [intOf]
        · have hlei : ¬ (i0 : Int) ≤ (bb : Int) := by omega
          go_upto_region 3 with (fail)
          go_quiet (fail)
          go_wp2
          go_meet
          case rel => exact ⟨i0, rfl, hi2, hj2, Lib.hid (hR2.out.drewN _), Lib.hid (by rw [← hS2.out, scanUp_end _ _ _ (.inl hle)]), Lib.hid (fun h => absurd h hle)⟩
    case rest =>
      obtain ⟨i0, rfl, hi2, hj2, hR2, hS2, hT2⟩ := hcut
      go_upto_block 2 with fail
      go_cut [11] (fun jv wx => ∃ j0 : Nat, jv = .int .i64 (j0 : Int) ∧ j0 ≤ bb ∧ i0 ≤ j0 + 1 ∧ Hid (RowN w wx g T pos d1) ∧ Hid (Sort.scanDown (fun x => !ltN x d1[a]!) d1 i0 bb = j0) ∧ Hid (i0 ≤ j0 → ltN d1[j0]! d1[a]! = true))
      case first =>
        go_wp2
        go_loopw [11] (fun jv wx => ∃ j0 : Nat, jv = .int .i64 (j0 : Int) ∧ j0 ≤ bb ∧ i0 ≤ j0 + 1 ∧ Hid (RowN w wx g T pos d1) ∧ Hid (Sort.scanDown (fun x => !ltN x d1[a]!) d1 i0 j0 = Sort.scanDown (fun x => !ltN x d1[a]!) d1 i0 bb)) (fun jv _ => (intOf jv).toNat)
        case atStart => exact ⟨bb, by first | rfl | go_num, Nat.le_refl _, hj2, hR2, Lib.hid rfl⟩
        case round =>
          obtain ⟨j0, rfl, hj3, hi3, hR3, hS3⟩ := hrel
          by_cases hle : i0 ≤ j0
          · obtain ⟨k, rfl⟩ : ∃ k, j0 = k + 1 := ⟨j0 - 1, by omega⟩
            have hlei : (i0 : Int) ≤ (k : Int) + 1 := by omega
            have c1 := hR3.out.cell (k + 1) (by omega)
            have c0 := hR3.out.cell a (by omega)
            have b1 : k + 1 < d.size := by omega
            have b0 : a < d.size := by omega
            obtain ⟨x, hx⟩ : ∃ x, d1[k + 1]! = x := ⟨_, rfl⟩
            obtain ⟨pa, hpa⟩ : ∃ x, d1[a]! = x := ⟨_, rfl⟩
            rw [hx] at c1
            rw [hpa] at c0
            have HX := Lib.hid hx
            have HPA := Lib.hid hpa
            clear hx hpa
            rcases hl : ltN x pa with _ | _
            · go_upto_region 5 with (fail)
              go_quiet ((go_at_call 176; first | exact Calls.quiet_of_same (less_of hl _) | exact quiet_of_same2 (less_of hl _)))
              go_wp2
              go_roundw
              case rel => exact ⟨k, by go_num, by omega, by omega, Lib.hid (hR3.out.drewN _), Lib.hid (by rw [← hS3.out]; exact (scanDown_go _ _ _ hle (by simp [HX.out, HPA.out, hl])).symm)⟩
              case measure => first | (simp [intOf]; omega) | simp [intOf]
            · go_upto_region 5 with (fail)
              go_quiet ((go_at_call 176; first | exact Calls.quiet_of_same (less_of hl _) | exact quiet_of_same2 (less_of hl _)))
              go_wp2
              go_meet
              case rel => exact ⟨k + 1, rfl, hj3, hi3, Lib.hid (hR3.out.drewN _), Lib.hid (by rw [← hS3.out, scanDown_end _ _ _ (.inr (by simp [HX.out, HPA.out, hl]))]), Lib.hid (fun _ => by rw [HX.out, HPA.out]; exact hl)⟩
          · have hlei : ¬ (i0 : Int) ≤ (j0 : Int) := by omega
            go_upto_region 5 with (fail)
            go_quiet (fail)
            go_wp2
            go_meet
            case rel => exact ⟨j0, rfl, hj3, hi3, Lib.hid (hR3.out.drewN _), Lib.hid (by rw [← hS3.out, scanDown_end _ _ _ (.inl hle)]), Lib.hid (fun h => absurd h hle)⟩
      case rest =>
        obtain ⟨j0, rfl, hj3, hi3, hR3, hS3, hT3⟩ := hcut
        by_cases hgt : j0 < i0
        · have hgi : (j0 : Int) < (i0 : Int) := by omega
          have HP : Hid (Sort.partition ltN d a b a = (j0, true, Sort.swp d1 j0 a)) := Lib.hid (by unfold Sort.partition; simp only [HD.out, HB.out]; rw [hS2.out, hS3.out, if_pos hgt])
          clear hS2 hS3 hT2 hT3
          have bz : j0 < d.size := by omega
          have ba : a < d.size := by omega
          by_cases hz : a = j0
          · subst hz
            have s1 := hR3.out.cell a (by omega)
            have fs1 := hR3.out.frozen a
            obtain ⟨sx, hsx⟩ : ∃ x, d1[a]! = x := ⟨_, rfl⟩
            have HW0 := Lib.hid (hR3.out.swap a a (by omega) (by omega) hsx hsx)
            have HWn := Lib.hid (fun n => (hR3.out.drewN n).swap a a (by omega) (by omega) hsx hsx)
            rw [hsx] at s1
            clear hsx
            go_upto_region 8 with (fail)
            go_region
            generalize hW : World.setCell (World.setCell _ _ _) _ _ = W
            have HW2 : Hid (RowN w W g T pos (Sort.swp d1 a a)) := Lib.hid (by rw [← hW]; first | exact HW0.out | exact HWn.out _)
            clear hW HW0 HWn s1 fs1
            go_wp2
            go_ret2
            exact ⟨by rw [HP.out]; rfl, by rw [HP.out]; first | exact HW2.out | exact HW2.out.drew | exact HW2.out.drewN _⟩
          · have hz' : ¬ j0 = a := fun e => hz e.symm
            have s1 := hR3.out.cell j0 (by omega)
            have s0 := hR3.out.cell a (by omega)
            have fs1 := hR3.out.frozen j0
            have fs0 := hR3.out.frozen a
            obtain ⟨sx, hsx⟩ : ∃ x, d1[j0]! = x := ⟨_, rfl⟩
            obtain ⟨sy, hsy⟩ : ∃ y, d1[a]! = y := ⟨_, rfl⟩
            have HW0 := Lib.hid (hR3.out.swap j0 a (by omega) (by omega) hsx hsy)
            have HWn := Lib.hid (fun n => (hR3.out.drewN n).swap j0 a (by omega) (by omega) hsx hsy)
            rw [hsx] at s1
            rw [hsy] at s0
            clear hsx hsy
            go_upto_region 8 with (fail)
            go_region
            generalize hW : World.setCell (World.setCell _ _ _) _ _ = W
            have HW2 : Hid (RowN w W g T pos (Sort.swp d1 j0 a)) := Lib.hid (by rw [← hW]; first | exact HW0.out | exact HWn.out _)
            clear hW HW0 HWn s1 s0 fs1 fs0
            go_wp2
            go_ret2
            exact ⟨by rw [HP.out]; rfl, by rw [HP.out]; first | exact HW2.out | exact HW2.out.drew | exact HW2.out.drewN _⟩
        · have hgi : ¬ (j0 : Int) < (i0 : Int) := by omega
          have hne : i0 ≠ j0 := fun e => by
            have h1 := hT2.out (by omega)
            have h2 := hT3.out (by omega)
            rw [← e, h1] at h2
            cases h2
          have hne' : j0 ≠ i0 := fun e => hne e.symm
          obtain ⟨j1, rfl⟩ : ∃ k, j0 = k + 1 := ⟨j0 - 1, by omega⟩
          have HN : Hid (Sort.partition ltN d a b a = ((Sort.partLoop ltN a (i0 + 1) j1 (Sort.swp d1 i0 (j1 + 1))).1, false, Sort.swp (Sort.partLoop ltN a (i0 + 1) j1 (Sort.swp d1 i0 (j1 + 1))).2 (Sort.partLoop ltN a (i0 + 1) j1 (Sort.swp d1 i0 (j1 + 1))).1 a)) := Lib.hid (by unfold Sort.partition; simp only [HD.out, HB.out]; rw [hS2.out, hS3.out, if_neg hgt, Nat.add_sub_cancel])
          clear hS2 hS3 hT2 hT3
          have b1 : i0 < d.size := by omega
          have b0 : j1 + 1 < d.size := by omega
          have s1 := hR3.out.cell i0 (by omega)
          have s0 := hR3.out.cell (j1 + 1) (by omega)
          have fs1 := hR3.out.frozen i0
          have fs0 := hR3.out.frozen (j1 + 1)
          obtain ⟨sx, hsx⟩ : ∃ x, d1[i0]! = x := ⟨_, rfl⟩
          obtain ⟨sy, hsy⟩ : ∃ y, d1[(j1 + 1)]! = y := ⟨_, rfl⟩
          have HW0 := Lib.hid (hR3.out.swap i0 (j1 + 1) (by omega) (by omega) hsx hsy)
          have HWn := Lib.hid (fun n => (hR3.out.drewN n).swap i0 (j1 + 1) (by omega) (by omega) hsx hsy)
          rw [hsx] at s1
          rw [hsy] at s0
          clear hsx hsy
          go_upto_region 10 with (fail)
          go_region
          generalize hW : World.setCell (World.setCell _ _ _) _ _ = W
          have HW2 : Hid (RowN w W g T pos (Sort.swp d1 i0 (j1 + 1))) := Lib.hid (by rw [← hW]; first | exact HW0.out | exact HWn.out _)
          clear hW HW0 HWn s1 s0 fs1 fs0
          go_wp2
          go_loopw [10, 11] (fun iv jv wr => ∃ (i j : Nat) (dk : Array Nat), iv = .int .i64 (i : Int) ∧ jv = .int .i64 (j : Int) ∧ a < i ∧ i ≤ j + 1 ∧ j < b ∧ dk.size = d.size ∧ Hid (RowN w wr g T pos dk) ∧ Hid (Sort.partLoop ltN a i j dk = Sort.partLoop ltN a (i0 + 1) j1 (Sort.swp d1 i0 (j1 + 1)))) (fun iv jv _ => (intOf jv).toNat + 1 - (intOf iv).toNat)
          case atStart => exact ⟨i0 + 1, j1, Sort.swp d1 i0 (j1 + 1), by go_num, by go_num, by omega, by omega, by omega, by rw [Sort.size_swp]; exact hd1, by first | exact HW2 | exact Lib.hid HW2.out.drew | exact Lib.hid (HW2.out.drewN _), Lib.hid rfl⟩
          case round =>
            obtain ⟨i, j, dk, rfl, rfl, hai, hij, hjb, hdk, hR, hO⟩ := hrel
            go_upto_block 6 with fail
            go_cut [10] (fun iv wx => ∃ i2 : Nat, iv = .int .i64 (i2 : Int) ∧ i ≤ i2 ∧ i2 ≤ j + 1 ∧ Hid (RowN w wx g T pos dk) ∧ Hid (Sort.scanUp (fun x => ltN x dk[a]!) dk j i = i2) ∧ Hid (i2 ≤ j → ltN dk[i2]! dk[a]! = false))
            case first =>
              go_wp2
              go_loopw [10] (fun iv wx => ∃ i2 : Nat, iv = .int .i64 (i2 : Int) ∧ i ≤ i2 ∧ i2 ≤ j + 1 ∧ Hid (RowN w wx g T pos dk) ∧ Hid (Sort.scanUp (fun x => ltN x dk[a]!) dk j i2 = Sort.scanUp (fun x => ltN x dk[a]!) dk j i)) (fun iv _ => j + 1 - (intOf iv).toNat)
              case atStart => exact ⟨i, by first | rfl | go_num, Nat.le_refl _, by omega, hR, Lib.hid rfl⟩
              case round =>
                obtain ⟨i2, rfl, hi2, hj2, hR2, hS2⟩ := hrel
                by_cases hle : i2 ≤ j
                · have hlei : (i2 : Int) ≤ (j : Int) := by omega
                  have c1 := hR2.out.cell i2 (by omega)
                  have c0 := hR2.out.cell a (by omega)
                  have b1 : i2 < d.size := by omega
                  have b0 : a < d.size := by omega
                  obtain ⟨x, hx⟩ : ∃ x, dk[i2]! = x := ⟨_, rfl⟩
                  obtain ⟨pa, hpa⟩ : ∃ x, dk[a]! = x := ⟨_, rfl⟩
                  rw [hx] at c1
                  rw [hpa] at c0
                  have HX := Lib.hid hx
                  have HPA := Lib.hid hpa
                  clear hx hpa
                  rcases hl : ltN x pa with _ | _
                  · go_upto_region 13 with (fail)
                    go_quiet ((go_at_call 176; first | exact Calls.quiet_of_same (less_of hl _) | exact quiet_of_same2 (less_of hl _)))
                    go_wp2
                    go_meet
                    case rel => exact ⟨i2, rfl, hi2, hj2, Lib.hid (hR2.out.drewN _), Lib.hid (by rw [← hS2.out, scanUp_end _ _ _ (.inr (by simp [HX.out, HPA.out, hl]))]), Lib.hid (fun _ => by rw [HX.out, HPA.out]; exact hl)⟩
                  · go_upto_region 13 with (fail)
                    go_quiet ((go_at_call 176; first | exact Calls.quiet_of_same (less_of hl _) | exact quiet_of_same2 (less_of hl _)))
                    go_wp2
                    go_roundw
                    case rel => exact ⟨i2 + 1, by go_num, by omega, by omega, Lib.hid (hR2.out.drewN _), Lib.hid (by rw [← hS2.out]; exact (scanUp_go _ _ _ hle (by simp [HX.out, HPA.out, hl])).symm)⟩
                    case measure => first | (simp [intOf]; omega) | simp [intOf]
                · have hlei : ¬ (i2 : Int) ≤ (j : Int) := by omega
                  go_upto_region 13 with (fail)
                  go_quiet (fail)
                  go_wp2
                  go_meet
                  case rel => exact ⟨i2, rfl, hi2, hj2, Lib.hid (hR2.out.drewN _), Lib.hid (by rw [← hS2.out, scanUp_end _ _ _ (.inl hle)]), Lib.hid (fun h => absurd h hle)⟩
            case rest =>
              obtain ⟨i2, rfl, hi2, hj2, hR2, hS2, hT2⟩ := hcut
              go_upto_block 8 with fail
              go_cut [11] (fun jv wx => ∃ j2 : Nat, jv = .int .i64 (j2 : Int) ∧ j2 ≤ j ∧ i2 ≤ j2 + 1 ∧ Hid (RowN w wx g T pos dk) ∧ Hid (Sort.scanDown (fun x => !ltN x dk[a]!) dk i2 j = j2) ∧ Hid (i2 ≤ j2 → ltN dk[j2]! dk[a]! = true))
              case first =>
                go_wp2
                go_loopw [11] (fun jv wx => ∃ j2 : Nat, jv = .int .i64 (j2 : Int) ∧ j2 ≤ j ∧ i2 ≤ j2 + 1 ∧ Hid (RowN w wx g T pos dk) ∧ Hid (Sort.scanDown (fun x => !ltN x dk[a]!) dk i2 j2 = Sort.scanDown (fun x => !ltN x dk[a]!) dk i2 j)) (fun jv _ => (intOf jv).toNat)
                case atStart => exact ⟨j, by first | rfl | go_num, Nat.le_refl _, hj2, hR2, Lib.hid rfl⟩
                case round =>
                  obtain ⟨j2, rfl, hj3, hi3, hR3, hS3⟩ := hrel
                  by_cases hle : i2 ≤ j2
                  · obtain ⟨k, rfl⟩ : ∃ k, j2 = k + 1 := ⟨j2 - 1, by omega⟩
                    have hlei : (i2 : Int) ≤ (k : Int) + 1 := by omega
                    have c1 := hR3.out.cell (k + 1) (by omega)
                    have c0 := hR3.out.cell a (by omega)
                    have b1 : k + 1 < d.size := by omega
                    have b0 : a < d.size := by omega
                    obtain ⟨x, hx⟩ : ∃ x, dk[k + 1]! = x := ⟨_, rfl⟩
                    obtain ⟨pa, hpa⟩ : ∃ x, dk[a]! = x := ⟨_, rfl⟩
                    rw [hx] at c1
                    rw [hpa] at c0
                    have HX := Lib.hid hx
                    have HPA := Lib.hid hpa
                    clear hx hpa
                    rcases hl : ltN x pa with _ | _
                    · go_upto_region 15 with (fail)
                      go_quiet ((go_at_call 176; first | exact Calls.quiet_of_same (less_of hl _) | exact quiet_of_same2 (less_of hl _)))
                      go_wp2
                      go_roundw
                      case rel => exact ⟨k, by go_num, by omega, by omega, Lib.hid (hR3.out.drewN _), Lib.hid (by rw [← hS3.out]; exact (scanDown_go _ _ _ hle (by simp [HX.out, HPA.out, hl])).symm)⟩
                      case measure => first | (simp [intOf]; omega) | simp [intOf]
                    · go_upto_region 15 with (fail)
                      go_quiet ((go_at_call 176; first | exact Calls.quiet_of_same (less_of hl _) | exact quiet_of_same2 (less_of hl _)))
                      go_wp2
                      go_meet
                      case rel => exact ⟨k + 1, rfl, hj3, hi3, Lib.hid (hR3.out.drewN _), Lib.hid (by rw [← hS3.out, scanDown_end _ _ _ (.inr (by simp [HX.out, HPA.out, hl]))]), Lib.hid (fun _ => by rw [HX.out, HPA.out]; exact hl)⟩
                  · have hlei : ¬ (i2 : Int) ≤ (j2 : Int) := by omega
                    go_upto_region 15 with (fail)
                    go_quiet (fail)
                    go_wp2
                    go_meet
                    case rel => exact ⟨j2, rfl, hj3, hi3, Lib.hid (hR3.out.drewN _), Lib.hid (by rw [← hS3.out, scanDown_end _ _ _ (.inl hle)]), Lib.hid (fun h => absurd h hle)⟩
              case rest =>
                obtain ⟨j2, rfl, hj3, hi3, hR3, hS3, hT3⟩ := hcut
                by_cases hgt : j2 < i2
                · have hgi : (j2 : Int) < (i2 : Int) := by omega
                  have HP : Hid (Sort.partition ltN d a b a = (j2, false, Sort.swp dk j2 a)) := Lib.hid (by rw [HN.out, ← hO.out, Sort.partLoop_eq ltN a i j dk, hS2.out, hS3.out, if_pos hgt])
                  clear hO hS2 hS3 hT2 hT3
                  have bz : j2 < d.size := by omega
                  have ba : a < d.size := by omega
                  by_cases hz : a = j2
                  · subst hz
                    have s1 := hR3.out.cell a (by omega)
                    have fs1 := hR3.out.frozen a
                    obtain ⟨sx, hsx⟩ : ∃ x, dk[a]! = x := ⟨_, rfl⟩
                    have HW0 := Lib.hid (hR3.out.swap a a (by omega) (by omega) hsx hsx)
                    have HWn := Lib.hid (fun n => (hR3.out.drewN n).swap a a (by omega) (by omega) hsx hsx)
                    rw [hsx] at s1
                    clear hsx
                    go_upto_region 21 with (fail)
                    go_region
                    generalize hW : World.setCell (World.setCell _ _ _) _ _ = W
                    have HW2 : Hid (RowN w W g T pos (Sort.swp dk a a)) := Lib.hid (by rw [← hW]; first | exact HW0.out | exact HWn.out _)
                    clear hW HW0 HWn s1 fs1
                    go_wp2
                    go_ret2
                    exact ⟨by rw [HP.out]; rfl, by rw [HP.out]; first | exact HW2.out | exact HW2.out.drew | exact HW2.out.drewN _⟩
                  · have hz' : ¬ j2 = a := fun e => hz e.symm
                    have s1 := hR3.out.cell j2 (by omega)
                    have s0 := hR3.out.cell a (by omega)
                    have fs1 := hR3.out.frozen j2
                    have fs0 := hR3.out.frozen a
                    obtain ⟨sx, hsx⟩ : ∃ x, dk[j2]! = x := ⟨_, rfl⟩
                    obtain ⟨sy, hsy⟩ : ∃ y, dk[a]! = y := ⟨_, rfl⟩
                    have HW0 := Lib.hid (hR3.out.swap j2 a (by omega) (by omega) hsx hsy)
                    have HWn := Lib.hid (fun n => (hR3.out.drewN n).swap j2 a (by omega) (by omega) hsx hsy)
                    rw [hsx] at s1
                    rw [hsy] at s0
                    clear hsx hsy
                    go_upto_region 21 with (fail)
                    go_region
                    generalize hW : World.setCell (World.setCell _ _ _) _ _ = W
                    have HW2 : Hid (RowN w W g T pos (Sort.swp dk j2 a)) := Lib.hid (by rw [← hW]; first | exact HW0.out | exact HWn.out _)
                    clear hW HW0 HWn s1 s0 fs1 fs0
                    go_wp2
                    go_ret2
                    exact ⟨by rw [HP.out]; rfl, by rw [HP.out]; first | exact HW2.out | exact HW2.out.drew | exact HW2.out.drewN _⟩
                · have hgi : ¬ (j2 : Int) < (i2 : Int) := by omega
                  have hne : i2 ≠ j2 := fun e => by
                    have h1 := hT2.out (by omega)
                    have h2 := hT3.out (by omega)
                    rw [← e, h1] at h2
                    cases h2
                  have hne' : j2 ≠ i2 := fun e => hne e.symm
                  obtain ⟨j3, rfl⟩ : ∃ k, j2 = k + 1 := ⟨j2 - 1, by omega⟩
                  have HF : Hid (Sort.partLoop ltN a (i2 + 1) j3 (Sort.swp dk i2 (j3 + 1)) = Sort.partLoop ltN a (i0 + 1) j1 (Sort.swp d1 i0 (j1 + 1))) := Lib.hid (by rw [← hO.out, Sort.partLoop_eq ltN a i j dk, hS2.out, hS3.out, if_neg hgt, Nat.add_sub_cancel])
                  clear hO hS2 hS3 hT2 hT3
                  have b1 : i2 < d.size := by omega
                  have b0 : j3 + 1 < d.size := by omega
                  have s1 := hR3.out.cell i2 (by omega)
                  have s0 := hR3.out.cell (j3 + 1) (by omega)
                  have fs1 := hR3.out.frozen i2
                  have fs0 := hR3.out.frozen (j3 + 1)
                  obtain ⟨sx, hsx⟩ : ∃ x, dk[i2]! = x := ⟨_, rfl⟩
                  obtain ⟨sy, hsy⟩ : ∃ y, dk[(j3 + 1)]! = y := ⟨_, rfl⟩
                  have HW0 := Lib.hid (hR3.out.swap i2 (j3 + 1) (by omega) (by omega) hsx hsy)
                  have HWn := Lib.hid (fun n => (hR3.out.drewN n).swap i2 (j3 + 1) (by omega) (by omega) hsx hsy)
                  rw [hsx] at s1
                  rw [hsy] at s0
                  clear hsx hsy
                  go_upto_region 18 with (fail)
                  go_region
                  generalize hW : World.setCell (World.setCell _ _ _) _ _ = W
                  have HW2 : Hid (RowN w W g T pos (Sort.swp dk i2 (j3 + 1))) := Lib.hid (by rw [← hW]; first | exact HW0.out | exact HWn.out _)
                  clear hW HW0 HWn s1 s0 fs1 fs0
                  go_wp2
                  go_roundw
                  case rel => exact ⟨i2 + 1, j3, Sort.swp dk i2 (j3 + 1), by go_num, by go_num, by omega, by omega, by omega, by rw [Sort.size_swp]; exact hdk, by first | exact HW2 | exact Lib.hid HW2.out.drew | exact Lib.hid (HW2.out.drewN _), HF⟩
                  case measure => first | (simp [intOf]; omega) | simp [intOf]
  · have hpb : ¬ pivot = a := fun e => hpa e.symm
    have s1 := HR.out.cell a (by omega)
    have s0 := HR.out.cell pivot (by omega)
    have fs1 := HR.out.frozen a
    have fs0 := HR.out.frozen pivot
    obtain ⟨sx, hsx⟩ : ∃ x, d[a]! = x := ⟨_, rfl⟩
    obtain ⟨sy, hsy⟩ : ∃ y, d[pivot]! = y := ⟨_, rfl⟩
    have HW0 := Lib.hid (HR.out.swap a pivot (by omega) (by omega) hsx hsy)
    have HWn := Lib.hid (fun n => (HR.out.drewN n).swap a pivot (by omega) (by omega) hsx hsy)
    rw [hsx] at s1
    rw [hsy] at s0
    clear hsx hsy
    go_upto_region 1 with (fail)
    go_region
    generalize hW : World.setCell (World.setCell _ _ _) _ _ = W
    have HW2 : Hid (RowN w W g T pos (Sort.swp d a pivot)) := Lib.hid (by rw [← hW]; first | exact HW0.out | exact HWn.out _)
    clear hW HW0 HWn s1 s0 fs1 fs0
    obtain ⟨d1, hdd⟩ : ∃ x, Sort.swp d a pivot = x := ⟨_, rfl⟩
    have hd1 : d1.size = d.size := by rw [← hdd, Sort.size_swp]
    have HRW : Hid (RowN w W g T pos d1) := Lib.hid (hdd ▸ HW2.out)
    have HD := Lib.hid hdd
    clear hdd HW2
    go_upto_block 0 with fail
    go_cut [10] (fun iv wx => ∃ i0 : Nat, iv = .int .i64 (i0 : Int) ∧ (a + 1) ≤ i0 ∧ i0 ≤ bb + 1 ∧ Hid (RowN w wx g T pos d1) ∧ Hid (Sort.scanUp (fun x => ltN x d1[a]!) d1 bb (a + 1) = i0) ∧ Hid (i0 ≤ bb → ltN d1[i0]! d1[a]! = false))
    case first =>
      go_wp2
      go_loopw [10] (fun iv wx => ∃ i0 : Nat, iv = .int .i64 (i0 : Int) ∧ (a + 1) ≤ i0 ∧ i0 ≤ bb + 1 ∧ Hid (RowN w wx g T pos d1) ∧ Hid (Sort.scanUp (fun x => ltN x d1[a]!) d1 bb i0 = Sort.scanUp (fun x => ltN x d1[a]!) d1 bb (a + 1))) (fun iv _ => bb + 1 - (intOf iv).toNat)
      case atStart => exact ⟨(a + 1), by first | rfl | go_num, Nat.le_refl _, by omega, (by first | exact HRW | exact Lib.hid HRW.out.drew | exact Lib.hid (HRW.out.drewN _)), Lib.hid rfl⟩
      case round =>
        obtain ⟨i0, rfl, hi2, hj2, hR2, hS2⟩ := hrel
        by_cases hle : i0 ≤ bb
        · have hlei : (i0 : Int) ≤ (bb : Int) := by omega
          have c1 := hR2.out.cell i0 (by omega)
          have c0 := hR2.out.cell a (by omega)
          have b1 : i0 < d.size := by omega
          have b0 : a < d.size := by omega
          obtain ⟨x, hx⟩ : ∃ x, d1[i0]! = x := ⟨_, rfl⟩
          obtain ⟨pa, hpa⟩ : ∃ x, d1[a]! = x := ⟨_, rfl⟩
          rw [hx] at c1
          rw [hpa] at c0
          have HX := Lib.hid hx
          have HPA := Lib.hid hpa
          clear hx hpa
          rcases hl : ltN x pa with _ | _
          · go_upto_region 3 with (fail)
            go_quiet ((go_at_call 176; first | exact Calls.quiet_of_same (less_of hl _) | exact quiet_of_same2 (less_of hl _)))
            go_wp2
            go_meet
            case rel => exact ⟨i0, rfl, hi2, hj2, Lib.hid (hR2.out.drewN _), Lib.hid (by rw [← hS2.out, scanUp_end _ _ _ (.inr (by simp [HX.out, HPA.out, hl]))]), Lib.hid (fun _ => by rw [HX.out, HPA.out]; exact hl)⟩
          · go_upto_region 3 with (fail)
            go_quiet ((go_at_call 176; first | exact Calls.quiet_of_same (less_of hl _) | exact quiet_of_same2 (less_of hl _)))
            go_wp2
            go_roundw
            case rel => exact ⟨i0 + 1, by go_num, by omega, by omega, Lib.hid (hR2.out.drewN _), Lib.hid (by rw [← hS2.out]; exact (scanUp_go _ _ _ hle (by simp [HX.out, HPA.out, hl])).symm)⟩
            case measure => first | (simp [intOf]; omega) | simp [intOf]
        · have hlei : ¬ (i0 : Int) ≤ (bb : Int) := by omega
          go_upto_region 3 with (fail)
          go_quiet (fail)
          go_wp2
          go_meet
          case rel => exact ⟨i0, rfl, hi2, hj2, Lib.hid (hR2.out.drewN _), Lib.hid (by rw [← hS2.out, scanUp_end _ _ _ (.inl hle)]), Lib.hid (fun h => absurd h hle)⟩
    case rest =>
      obtain ⟨i0, rfl, hi2, hj2, hR2, hS2, hT2⟩ := hcut
      go_upto_block 2 with fail
      go_cut [11] (fun jv wx => ∃ j0 : Nat, jv = .int .i64 (j0 : Int) ∧ j0 ≤ bb ∧ i0 ≤ j0 + 1 ∧ Hid (RowN w wx g T pos d1) ∧ Hid (Sort.scanDown (fun x => !ltN x d1[a]!) d1 i0 bb = j0) ∧ Hid (i0 ≤ j0 → ltN d1[j0]! d1[a]! = true))
      case first =>
        go_wp2
        go_loopw [11] (fun jv wx => ∃ j0 : Nat, jv = .int .i64 (j0 : Int) ∧ j0 ≤ bb ∧ i0 ≤ j0 + 1 ∧ Hid (RowN w wx g T pos d1) ∧ Hid (Sort.scanDown (fun x => !ltN x d1[a]!) d1 i0 j0 = Sort.scanDown (fun x => !ltN x d1[a]!) d1 i0 bb)) (fun jv _ => (intOf jv).toNat)
        case atStart => exact ⟨bb, by first | rfl | go_num, Nat.le_refl _, hj2, hR2, Lib.hid rfl⟩
        case round =>
          obtain ⟨j0, rfl, hj3, hi3, hR3, hS3⟩ := hrel
          by_cases hle : i0 ≤ j0
          · obtain ⟨k, rfl⟩ : ∃ k, j0 = k + 1 := ⟨j0 - 1, by omega⟩
            have hlei : (i0 : Int) ≤ (k : Int) + 1 := by omega
            have c1 := hR3.out.cell (k + 1) (by omega)
            have c0 := hR3.out.cell a (by omega)
            have b1 : k + 1 < d.size := by omega
            have b0 : a < d.size := by omega
            obtain ⟨x, hx⟩ : ∃ x, d1[k + 1]! = x := ⟨_, rfl⟩
            obtain ⟨pa, hpa⟩ : ∃ x, d1[a]! = x := ⟨_, rfl⟩
            rw [hx] at c1
            rw [hpa] at c0
            have HX := Lib.hid hx
            have HPA := Lib.hid hpa
            clear hx hpa
            rcases hl : ltN x pa with _ | _
            · go_upto_region 5 with (fail)
              go_quiet ((go_at_call 176; first | exact Calls.quiet_of_same (less_of hl _) | exact quiet_of_same2 (less_of hl _)))
              go_wp2
              go_roundw
              case rel => exact ⟨k, by go_num, by omega, by omega, Lib.hid (hR3.out.drewN _), Lib.hid (by rw [← hS3.out]; exact (scanDown_go _ _ _ hle (by simp [HX.out, HPA.out, hl])).symm)⟩
              case measure => first | (simp [intOf]; omega) | simp [intOf]
            · go_upto_region 5 with (fail)
              go_quiet ((go_at_call 176; first | exact Calls.quiet_of_same (less_of hl _) | exact quiet_of_same2 (less_of hl _)))
              go_wp2
              go_meet
              case rel => exact ⟨k + 1, rfl, hj3, hi3, Lib.hid (hR3.out.drewN _), Lib.hid (by rw [← hS3.out, scanDown_end _ _ _ (.inr (by simp [HX.out, HPA.out, hl]))]), Lib.hid (fun _ => by rw [HX.out, HPA.out]; exact hl)⟩
          · have hlei : ¬ (i0 : Int) ≤ (j0 : Int) := by omega
            go_upto_region 5 with (fail)
            go_quiet (fail)
            go_wp2
            go_meet
            case rel => exact ⟨j0, rfl, hj3, hi3, Lib.hid (hR3.out.drewN _), Lib.hid (by rw [← hS3.out, scanDown_end _ _ _ (.inl hle)]), Lib.hid (fun h => absurd h hle)⟩
      case rest =>
        obtain ⟨j0, rfl, hj3, hi3, hR3, hS3, hT3⟩ := hcut
        by_cases hgt : j0 < i0
        · have hgi : (j0 : Int) < (i0 : Int) := by omega
          have HP : Hid (Sort.partition ltN d a b pivot = (j0, true, Sort.swp d1 j0 a)) := Lib.hid (by unfold Sort.partition; simp only [HD.out, HB.out]; rw [hS2.out, hS3.out, if_pos hgt])
          clear hS2 hS3 hT2 hT3
          have bz : j0 < d.size := by omega
          have ba : a < d.size := by omega
          by_cases hz : a = j0
          · subst hz
            have s1 := hR3.out.cell a (by omega)
            have fs1 := hR3.out.frozen a
            obtain ⟨sx, hsx⟩ : ∃ x, d1[a]! = x := ⟨_, rfl⟩
            have HW0 := Lib.hid (hR3.out.swap a a (by omega) (by omega) hsx hsx)
            have HWn := Lib.hid (fun n => (hR3.out.drewN n).swap a a (by omega) (by omega) hsx hsx)
            rw [hsx] at s1
            clear hsx
            go_upto_region 8 with (fail)
            go_region
            generalize hW : World.setCell (World.setCell _ _ _) _ _ = W
            have HW2 : Hid (RowN w W g T pos (Sort.swp d1 a a)) := Lib.hid (by rw [← hW]; first | exact HW0.out | exact HWn.out _)
            clear hW HW0 HWn s1 fs1
            go_wp2
            go_ret2
            exact ⟨by rw [HP.out]; rfl, by rw [HP.out]; first | exact HW2.out | exact HW2.out.drew | exact HW2.out.drewN _⟩
          · have hz' : ¬ j0 = a := fun e => hz e.symm
            have s1 := hR3.out.cell j0 (by omega)
            have s0 := hR3.out.cell a (by omega)
            have fs1 := hR3.out.frozen j0
            have fs0 := hR3.out.frozen a
            obtain ⟨sx, hsx⟩ : ∃ x, d1[j0]! = x := ⟨_, rfl⟩
            obtain ⟨sy, hsy⟩ : ∃ y, d1[a]! = y := ⟨_, rfl⟩
            have HW0 := Lib.hid (hR3.out.swap j0 a (by omega) (by omega) hsx hsy)
            have HWn := Lib.hid (fun n => (hR3.out.drewN n).swap j0 a (by omega) (by omega) hsx hsy)
            rw [hsx] at s1
            rw [hsy] at s0
            clear hsx hsy
            go_upto_region 8 with (fail)
            go_region
            generalize hW : World.setCell (World.setCell _ _ _) _ _ = W
            have HW2 : Hid (RowN w W g T pos (Sort.swp d1 j0 a)) := Lib.hid (by rw [← hW]; first | exact HW0.out | exact HWn.out _)
            clear hW HW0 HWn s1 s0 fs1 fs0
            go_wp2
            go_ret2
            exact ⟨by rw [HP.out]; rfl, by rw [HP.out]; first | exact HW2.out | exact HW2.out.drew | exact HW2.out.drewN _⟩
        · have hgi : ¬ (j0 : Int) < (i0 : Int) := by omega
          have hne : i0 ≠ j0 := fun e => by
            have h1 := hT2.out (by omega)
            have h2 := hT3.out (by omega)
            rw [← e, h1] at h2
            cases h2
          have hne' : j0 ≠ i0 := fun e => hne e.symm
          obtain ⟨j1, rfl⟩ : ∃ k, j0 = k + 1 := ⟨j0 - 1, by omega⟩
          have HN : Hid (Sort.partition ltN d a b pivot = ((Sort.partLoop ltN a (i0 + 1) j1 (Sort.swp d1 i0 (j1 + 1))).1, false, Sort.swp (Sort.partLoop ltN a (i0 + 1) j1 (Sort.swp d1 i0 (j1 + 1))).2 (Sort.partLoop ltN a (i0 + 1) j1 (Sort.swp d1 i0 (j1 + 1))).1 a)) := Lib.hid (by unfold Sort.partition; simp only [HD.out, HB.out]; rw [hS2.out, hS3.out, if_neg hgt, Nat.add_sub_cancel])
          clear hS2 hS3 hT2 hT3
          have b1 : i0 < d.size := by omega
          have b0 : j1 + 1 < d.size := by omega
          have s1 := hR3.out.cell i0 (by omega)
          have s0 := hR3.out.cell (j1 + 1) (by omega)
          have fs1 := hR3.out.frozen i0
          have fs0 := hR3.out.frozen (j1 + 1)
          obtain ⟨sx, hsx⟩ : ∃ x, d1[i0]! = x := ⟨_, rfl⟩
          obtain ⟨sy, hsy⟩ : ∃ y, d1[(j1 + 1)]! = y := ⟨_, rfl⟩
          have HW0 := Lib.hid (hR3.out.swap i0 (j1 + 1) (by omega) (by omega) hsx hsy)
          have HWn := Lib.hid (fun n => (hR3.out.drewN n).swap i0 (j1 + 1) (by omega) (by omega) hsx hsy)
          rw [hsx] at s1
          rw [hsy] at s0
          clear hsx hsy
          go_upto_region 10 with (fail)
          go_region
          generalize hW : World.setCell (World.setCell _ _ _) _ _ = W
          have HW2 : Hid (RowN w W g T pos (Sort.swp d1 i0 (j1 + 1))) := Lib.hid (by rw [← hW]; first | exact HW0.out | exact HWn.out _)
          clear hW HW0 HWn s1 s0 fs1 fs0
          go_wp2
          go_loopw [10, 11] (fun iv jv wr => ∃ (i j : Nat) (dk : Array Nat), iv = .int .i64 (i : Int) ∧ jv = .int .i64 (j : Int) ∧ a < i ∧ i ≤ j + 1 ∧ j < b ∧ dk.size = d.size ∧ Hid (RowN w wr g T pos dk) ∧ Hid (Sort.partLoop ltN a i j dk = Sort.partLoop ltN a (i0 + 1) j1 (Sort.swp d1 i0 (j1 + 1)))) (fun iv jv _ => (intOf jv).toNat + 1 - (intOf iv).toNat)
          case atStart => exact ⟨i0 + 1, j1, Sort.swp d1 i0 (j1 + 1), by go_num, by go_num, by omega, by omega, by omega, by rw [Sort.size_swp]; exact hd1, by first | exact HW2 | exact Lib.hid HW2.out.drew | exact Lib.hid (HW2.out.drewN _), Lib.hid rfl⟩
          case round =>
            obtain ⟨i, j, dk, rfl, rfl, hai, hij, hjb, hdk, hR, hO⟩ := hrel
            go_upto_block 6 with fail
            go_cut [10] (fun iv wx => ∃ i2 : Nat, iv = .int .i64 (i2 : Int) ∧ i ≤ i2 ∧ i2 ≤ j + 1 ∧ Hid (RowN w wx g T pos dk) ∧ Hid (Sort.scanUp (fun x => ltN x dk[a]!) dk j i = i2) ∧ Hid (i2 ≤ j → ltN dk[i2]! dk[a]! = false))
            case first =>
              go_wp2
              go_loopw [10] (fun iv wx => ∃ i2 : Nat, iv = .int .i64 (i2 : Int) ∧ i ≤ i2 ∧ i2 ≤ j + 1 ∧ Hid (RowN w wx g T pos dk) ∧ Hid (Sort.scanUp (fun x => ltN x dk[a]!) dk j i2 = Sort.scanUp (fun x => ltN x dk[a]!) dk j i)) (fun iv _ => j + 1 - (intOf iv).toNat)
              case atStart => exact ⟨i, by first | rfl | go_num, Nat.le_refl _, by omega, hR, Lib.hid rfl⟩
              case round =>
                obtain ⟨i2, rfl, hi2, hj2, hR2, hS2⟩ := hrel
                by_cases hle : i2 ≤ j
                · have hlei : (i2 : Int) ≤ (j : Int) := by omega
                  have c1 := hR2.out.cell i2 (by omega)
                  have c0 := hR2.out.cell a (by omega)
                  have b1 : i2 < d.size := by omega
                  have b0 : a < d.size := by omega
                  obtain ⟨x, hx⟩ : ∃ x, dk[i2]! = x := ⟨_, rfl⟩
                  obtain ⟨pa, hpa⟩ : ∃ x, dk[a]! = x := ⟨_, rfl⟩
                  rw [hx] at c1
                  rw [hpa] at c0
                  have HX := Lib.hid hx
                  have HPA := Lib.hid hpa
                  clear hx hpa
                  rcases hl : ltN x pa with _ | _
                  · go_upto_region 13 with (fail)
                    go_quiet ((go_at_call 176; first | exact Calls.quiet_of_same (less_of hl _) | exact quiet_of_same2 (less_of hl _)))
                    go_wp2
                    go_meet
                    case rel => exact ⟨i2, rfl, hi2, hj2, Lib.hid (hR2.out.drewN _), Lib.hid (by rw [← hS2.out, scanUp_end _ _ _ (.inr (by simp [HX.out, HPA.out, hl]))]), Lib.hid (fun _ => by rw [HX.out, HPA.out]; exact hl)⟩
                  · go_upto_region 13 with (fail)
                    go_quiet ((go_at_call 176; first | exact Calls.quiet_of_same (less_of hl _) | exact quiet_of_same2 (less_of hl _)))
                    go_wp2
                    go_roundw
                    case rel => exact ⟨i2 + 1, by go_num, by omega, by omega, Lib.hid (hR2.out.drewN _), Lib.hid (by rw [← hS2.out]; exact (scanUp_go _ _ _ hle (by simp [HX.out, HPA.out, hl])).symm)⟩
                    case measure => first | (simp [intOf]; omega) | simp [intOf]
                · have hlei : ¬ (i2 : Int) ≤ (j : Int) := by omega
                  go_upto_region 13 with (fail)
                  go_quiet (fail)
                  go_wp2
                  go_meet
                  case rel => exact ⟨i2, rfl, hi2, hj2, Lib.hid (hR2.out.drewN _), Lib.hid (by rw [← hS2.out, scanUp_end _ _ _ (.inl hle)]), Lib.hid (fun h => absurd h hle)⟩
            case rest =>
              obtain ⟨i2, rfl, hi2, hj2, hR2, hS2, hT2⟩ := hcut
              go_upto_block 8 with fail
              go_cut [11] (fun jv wx => ∃ j2 : Nat, jv = .int .i64 (j2 : Int) ∧ j2 ≤ j ∧ i2 ≤ j2 + 1 ∧ Hid (RowN w wx g T pos dk) ∧ Hid (Sort.scanDown (fun x => !ltN x dk[a]!) dk i2 j = j2) ∧ Hid (i2 ≤ j2 → ltN dk[j2]! dk[a]! = true))
              case first =>
                go_wp2
                go_loopw [11] (fun jv wx => ∃ j2 : Nat, jv = .int .i64 (j2 : Int) ∧ j2 ≤ j ∧ i2 ≤ j2 + 1 ∧ Hid (RowN w wx g T pos dk) ∧ Hid (Sort.scanDown (fun x => !ltN x dk[a]!) dk i2 j2 = Sort.scanDown (fun x => !ltN x dk[a]!) dk i2 j)) (fun jv _ => (intOf jv).toNat)
                case atStart => exact ⟨j, by first | rfl | go_num, Nat.le_refl _, hj2, hR2, Lib.hid rfl⟩
                case round =>
                  obtain ⟨j2, rfl, hj3, hi3, hR3, hS3⟩ := hrel
                  by_cases hle : i2 ≤ j2
                  · obtain ⟨k, rfl⟩ : ∃ k, j2 = k + 1 := ⟨j2 - 1, by omega⟩
                    have hlei : (i2 : Int) ≤ (k : Int) + 1 := by omega
                    have c1 := hR3.out.cell (k + 1) (by omega)
                    have c0 := hR3.out.cell a (by omega)
                    have b1 : k + 1 < d.size := by omega
                    have b0 : a < d.size := by omega
                    obtain ⟨x, hx⟩ : ∃ x, dk[k + 1]! = x := ⟨_, rfl⟩
                    obtain ⟨pa, hpa⟩ : ∃ x, dk[a]! = x := ⟨_, rfl⟩
                    rw [hx] at c1
                    rw [hpa] at c0
                    have HX := Lib.hid hx
                    have HPA := Lib.hid hpa
                    clear hx hpa
                    rcases hl : ltN x pa with _ | _
                    · go_upto_region 15 with (fail)
                      go_quiet ((go_at_call 176; first | exact Calls.quiet_of_same (less_of hl _) | exact quiet_of_same2 (less_of hl _)))
                      go_wp2
                      go_roundw
                      case rel => exact ⟨k, by go_num, by omega, by omega, Lib.hid (hR3.out.drewN _), Lib.hid (by rw [← hS3.out]; exact (scanDown_go _ _ _ hle (by simp [HX.out, HPA.out, hl])).symm)⟩
                      case measure => first | (simp [intOf]; omega) | simp [intOf]
                    · go_upto_region 15 with (fail)
                      go_quiet ((go_at_call 176; first | exact Calls.quiet_of_same (less_of hl _) | exact quiet_of_same2 (less_of hl _)))
                      go_wp2
                      go_meet
                      case rel => exact ⟨k + 1, rfl, hj3, hi3, Lib.hid (hR3.out.drewN _), Lib.hid (by rw [← hS3.out, scanDown_end _ _ _ (.inr (by simp [HX.out, HPA.out, hl]))]), Lib.hid (fun _ => by rw [HX.out, HPA.out]; exact hl)⟩
                  · have hlei : ¬ (i2 : Int) ≤ (j2 : Int) := by omega
                    go_upto_region 15 with (fail)
                    go_quiet (fail)
                    go_wp2
                    go_meet
                    case rel => exact ⟨j2, rfl, hj3, hi3, Lib.hid (hR3.out.drewN _), Lib.hid (by rw [← hS3.out, scanDown_end _ _ _ (.inl hle)]), Lib.hid (fun h => absurd h hle)⟩
              case rest =>
                obtain ⟨j2, rfl, hj3, hi3, hR3, hS3, hT3⟩ := hcut
                by_cases hgt : j2 < i2
                · have hgi : (j2 : Int) < (i2 : Int) := by omega
                  have HP : Hid (Sort.partition ltN d a b pivot = (j2, false, Sort.swp dk j2 a)) := Lib.hid (by rw [HN.out, ← hO.out, Sort.partLoop_eq ltN a i j dk, hS2.out, hS3.out, if_pos hgt])
                  clear hO hS2 hS3 hT2 hT3
                  have bz : j2 < d.size := by omega
                  have ba : a < d.size := by omega
                  by_cases hz : a = j2
                  · subst hz
                    have s1 := hR3.out.cell a (by omega)
                    have fs1 := hR3.out.frozen a
                    obtain ⟨sx, hsx⟩ : ∃ x, dk[a]! = x := ⟨_, rfl⟩
                    have HW0 := Lib.hid (hR3.out.swap a a (by omega) (by omega) hsx hsx)
                    have HWn := Lib.hid (fun n => (hR3.out.drewN n).swap a a (by omega) (by omega) hsx hsx)
                    rw [hsx] at s1
                    clear hsx
                    go_upto_region 21 with (fail)
                    go_region
                    generalize hW : World.setCell (World.setCell _ _ _) _ _ = W
                    have HW2 : Hid (RowN w W g T pos (Sort.swp dk a a)) := Lib.hid (by rw [← hW]; first | exact HW0.out | exact HWn.out _)
                    clear hW HW0 HWn s1 fs1
                    go_wp2
                    go_ret2
                    exact ⟨by rw [HP.out]; rfl, by rw [HP.out]; first | exact HW2.out | exact HW2.out.drew | exact HW2.out.drewN _⟩
                  · have hz' : ¬ j2 = a := fun e => hz e.symm
                    have s1 := hR3.out.cell j2 (by omega)
                    have s0 := hR3.out.cell a (by omega)
                    have fs1 := hR3.out.frozen j2
                    have fs0 := hR3.out.frozen a
                    obtain ⟨sx, hsx⟩ : ∃ x, dk[j2]! = x := ⟨_, rfl⟩
                    obtain ⟨sy, hsy⟩ : ∃ y, dk[a]! = y := ⟨_, rfl⟩
                    have HW0 := Lib.hid (hR3.out.swap j2 a (by omega) (by omega) hsx hsy)
                    have HWn := Lib.hid (fun n => (hR3.out.drewN n).swap j2 a (by omega) (by omega) hsx hsy)
                    rw [hsx] at s1
                    rw [hsy] at s0
                    clear hsx hsy
                    go_upto_region 21 with (fail)
                    go_region
                    generalize hW : World.setCell (World.setCell _ _ _) _ _ = W
                    have HW2 : Hid (RowN w W g T pos (Sort.swp dk j2 a)) := Lib.hid (by rw [← hW]; first | exact HW0.out | exact HWn.out _)
                    clear hW HW0 HWn s1 s0 fs1 fs0
                    go_wp2
                    go_ret2
                    exact ⟨by rw [HP.out]; rfl, by rw [HP.out]; first | exact HW2.out | exact HW2.out.drew | exact HW2.out.drewN _⟩
                · have hgi : ¬ (j2 : Int) < (i2 : Int) := by omega
                  have hne : i2 ≠ j2 := fun e => by
                    have h1 := hT2.out (by omega)
                    have h2 := hT3.out (by omega)
                    rw [← e, h1] at h2
                    cases h2
                  have hne' : j2 ≠ i2 := fun e => hne e.symm
                  obtain ⟨j3, rfl⟩ : ∃ k, j2 = k + 1 := ⟨j2 - 1, by omega⟩
                  have HF : Hid (Sort.partLoop ltN a (i2 + 1) j3 (Sort.swp dk i2 (j3 + 1)) = Sort.partLoop ltN a (i0 + 1) j1 (Sort.swp d1 i0 (j1 + 1))) := Lib.hid (by rw [← hO.out, Sort.partLoop_eq ltN a i j dk, hS2.out, hS3.out, if_neg hgt, Nat.add_sub_cancel])
                  clear hO hS2 hS3 hT2 hT3
                  have b1 : i2 < d.size := by omega
                  have b0 : j3 + 1 < d.size := by omega
                  have s1 := hR3.out.cell i2 (by omega)
                  have s0 := hR3.out.cell (j3 + 1) (by omega)
                  have fs1 := hR3.out.frozen i2
                  have fs0 := hR3.out.frozen (j3 + 1)
                  obtain ⟨sx, hsx⟩ : ∃ x, dk[i2]! = x := ⟨_, rfl⟩
                  obtain ⟨sy, hsy⟩ : ∃ y, dk[(j3 + 1)]! = y := ⟨_, rfl⟩
                  have HW0 := Lib.hid (hR3.out.swap i2 (j3 + 1) (by omega) (by omega) hsx hsy)
                  have HWn := Lib.hid (fun n => (hR3.out.drewN n).swap i2 (j3 + 1) (by omega) (by omega) hsx hsy)
                  rw [hsx] at s1
                  rw [hsy] at s0
                  clear hsx hsy
                  go_upto_region 18 with (fail)
                  go_region
                  generalize hW : World.setCell (World.setCell _ _ _) _ _ = W
                  have HW2 : Hid (RowN w W g T pos (Sort.swp dk i2 (j3 + 1))) := Lib.hid (by rw [← hW]; first | exact HW0.out | exact HWn.out _)
                  clear hW HW0 HWn s1 s0 fs1 fs0
                  go_wp2
                  go_roundw
                  case rel => exact ⟨i2 + 1, j3, Sort.swp dk i2 (j3 + 1), by go_num, by go_num, by omega, by omega, by omega, by rw [Sort.size_swp]; exact hdk, by first | exact HW2 | exact Lib.hid HW2.out.drew | exact Lib.hid (HW2.out.drewN _), HF⟩
                  case measure => first | (simp [intOf]; omega) | simp [intOf]
end Go.Proofs.YtobhbppogeghnaaGreatDoor
end
