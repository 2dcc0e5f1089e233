/- Contract of the library's sort at numbers of 32 bits: a range parted in what is equal and what is greater. -/
import Derived.Test.YtobhbppogeghnaaGreatDoorM11
import Derived.Deep.CutBlock
section
namespace Go.Proofs.YtobhbppogeghnaaGreatDoor
open Go.RowKit

theorem scanUp_go {p : Nat → Bool} (d : Array Nat) (j i : Nat) (h : i ≤ j) (hp : p d[i]! = true) : Sort.scanUp p d j i = Sort.scanUp p d j (i + 1) := by
  conv => lhs; rw [Sort.scanUp]
  rw [if_pos (by simp [hp, h])]
theorem scanUp_end {p : Nat → Bool} (d : Array Nat) (j i : Nat) (h : ¬ i ≤ j ∨ p d[i]! = false) : Sort.scanUp p d j i = i := by
  rw [Sort.scanUp, if_neg (by rcases h with h | h <;> simp [h])]
theorem scanDown_go {p : Nat → Bool} (d : Array Nat) (i j : Nat) (h : i ≤ j + 1) (hp : p d[j + 1]! = true) : Sort.scanDown p d i (j + 1) = Sort.scanDown p d i j := by
  rw [Sort.scanDown, if_pos (by simp [hp, h])]
theorem scanDown_end {p : Nat → Bool} (d : Array Nat) (i j : Nat) (h : ¬ i ≤ j ∨ p d[j]! = false) : Sort.scanDown p d i j = j := by
  cases j with
  | zero => rfl
  | succ j => rw [Sort.scanDown, if_neg (by rcases h with h | h <;> simp [h])]
set_option maxRecDepth 100000 in
set_option maxHeartbeats 4000000 in
theorem peq_any (g : Nat) (T : TypeId) (pos : List Value) (d : Array Nat) (a b pivot cap : Nat) (w : World) (h : Blk w g T (d.toList.map cN ++ pos)) (hab : a + 1 < b) (hp1 : a ≤ pivot) (hp2 : pivot < b) (hb : b ≤ d.size) (hs : d.size ≤ 1000000) :
    Calls Tryz.prog 177 #[.slice (some ⟨g, 0, none⟩) d.size cap, .int .i64 (a : Int), .int .i64 (b : Int), .int .i64 (pivot : Int)] w fun e w' => e = .returned (.int .i64 ((Sort.partitionEqual ltN d a b pivot).1 : Int)) ∧ RowN w w' g T pos (Sort.partitionEqual ltN d a b pivot).2 := by
  have HR := Lib.hid (RowN.refl h)
  clear h
  have b1 : a < d.size := by omega
  have b0 : pivot < d.size := by omega
  go_enter Tryz.func177, Tryz.ntmps177
  by_cases hpa : a = pivot
  · subst hpa
    have s1 := HR.out.cell a (by omega)
    have fs1 := HR.out.frozen a
    obtain ⟨sx, hsx⟩ : ∃ x, d[a]! = x := ⟨_, rfl⟩
    have HW0 := Lib.hid (HR.out.swap a a (by omega) (by omega) hsx hsx)
    have HWn := Lib.hid (fun n => (HR.out.drewN n).swap a a (by omega) (by omega) hsx hsx)
    rw [hsx] at s1
    clear hsx
    go_upto_region 1 with (fail)
    go_region
    generalize hW : World.setCell (World.setCell _ _ _) _ _ = W
    have HW2 : Hid (RowN w W g T pos (Sort.swp d a a)) := Lib.hid (by rw [← hW]; first | exact HW0.out | exact HWn.out _)
    clear hW HW0 HWn s1 fs1
    go_wp2
    go_loopw [9, 10] (fun iv jv wr => ∃ (i j : Nat) (dk : Array Nat), iv = .int .i64 (i : Int) ∧ jv = .int .i64 (j : Int) ∧ a < i ∧ i ≤ j + 1 ∧ j < b ∧ dk.size = d.size ∧ Hid (RowN w wr g T pos dk) ∧ Hid (Sort.partEqLoop ltN a i j dk = Sort.partitionEqual ltN d a b a)) (fun iv jv _ => (intOf jv).toNat + 1 - (intOf iv).toNat)
    case atStart => exact ⟨a + 1, b - 1, Sort.swp d a a, by go_num, by go_num, by omega, by omega, by omega, by rw [Sort.size_swp], by first | exact HW2 | exact Lib.hid HW2.out.drew | exact Lib.hid (HW2.out.drewN _), Lib.hid rfl⟩
    case round =>
      obtain ⟨i, j, dk, rfl, rfl, hai, hij, hjb, hdk, hR, hO⟩ := hrel
      go_upto_block 2 with fail
      go_cut [9] (fun iv wx => ∃ i2 : Nat, iv = .int .i64 (i2 : Int) ∧ i ≤ i2 ∧ i2 ≤ j + 1 ∧ Hid (RowN w wx g T pos dk) ∧ Hid (Sort.scanUp (fun x => !ltN dk[a]! x) dk j i = i2) ∧ Hid (i2 ≤ j → ltN dk[a]! dk[i2]! = true))
      case first =>
        go_wp2
        go_loopw [9] (fun iv wx => ∃ i2 : Nat, iv = .int .i64 (i2 : Int) ∧ i ≤ i2 ∧ i2 ≤ j + 1 ∧ Hid (RowN w wx g T pos dk) ∧ Hid (Sort.scanUp (fun x => !ltN dk[a]! x) dk j i2 = Sort.scanUp (fun x => !ltN dk[a]! x) dk j i)) (fun iv _ => j + 1 - (intOf iv).toNat)
        case atStart => exact ⟨i, rfl, Nat.le_refl _, by omega, hR, Lib.hid rfl⟩
        case round =>
          obtain ⟨i2, rfl, hi2, hj2, hR2, hS2⟩ := hrel
          by_cases hle : i2 ≤ j
          · have hlei : (i2 : Int) ≤ (j : Int) := by omega
            have c1 := hR2.out.cell i2 (by omega)
            have c0 := hR2.out.cell a (by omega)
            have b1 : i2 < d.size := by omega
            have b0 : a < d.size := by omega
            obtain ⟨x, hx⟩ : ∃ x, dk[i2]! = x := ⟨_, rfl⟩
            obtain ⟨pa, hpa⟩ : ∃ x, dk[a]! = x := ⟨_, rfl⟩
            rw [hx] at c1
            rw [hpa] at c0
            have HX := Lib.hid hx
            have HPA := Lib.hid hpa
            clear hx hpa
            rcases hl : ltN pa x with _ | _
            · go_upto_region 3 with (fail)
              go_quiet ((go_at_call 176; first | exact Calls.quiet_of_same (less_of hl _) | exact quiet_of_same2 (less_of hl _)))
              go_wp2
              go_roundw
              case rel => exact ⟨i2 + 1, by go_num, by omega, by omega, Lib.hid (hR2.out.drewN _), Lib.hid (by rw [← hS2.out]; exact (scanUp_go _ _ _ hle (by simp [HX.out, HPA.out, hl])).symm)⟩
              case measure => first | (simp [intOf]; omega) | simp [intOf]
            · go_upto_region 3 with (fail)
              go_quiet ((go_at_call 176; first | exact Calls.quiet_of_same (less_of hl _) | exact quiet_of_same2 (less_of hl _)))
              go_wp2
              go_meet
              case rel => exact ⟨i2, rfl, hi2, hj2, Lib.hid (hR2.out.drewN _), Lib.hid (by rw [← hS2.out, scanUp_end _ _ _ (.inr (by simp [HX.out, HPA.out, hl]))]), Lib.hid (fun _ => by rw [HX.out, HPA.out]; exact hl)⟩
          · have hlei : ¬ (i2 : Int) ≤ (j : Int) := by omega
            go_upto_region 3 with (fail)
            go_quiet (fail)
            go_wp2
            go_meet
            case rel => exact ⟨i2, rfl, hi2, hj2, Lib.hid (hR2.out.drewN _), Lib.hid (by rw [← hS2.out, scanUp_end _ _ _ (.inl hle)]), Lib.hid (fun h => absurd h hle)⟩
      case rest =>
        obtain ⟨i2, rfl, hi2, hj2, hR2, hS2, hT2⟩ := hcut
        go_upto_block 4 with fail
        go_cut [10] (fun jv wx => ∃ j2 : Nat, jv = .int .i64 (j2 : Int) ∧ j2 ≤ j ∧ i2 ≤ j2 + 1 ∧ Hid (RowN w wx g T pos dk) ∧ Hid (Sort.scanDown (fun x => ltN dk[a]! x) dk i2 j = j2) ∧ Hid (i2 ≤ j2 → ltN dk[a]! dk[j2]! = false))
        case first =>
          go_wp2
          go_loopw [10] (fun jv wx => ∃ j2 : Nat, jv = .int .i64 (j2 : Int) ∧ j2 ≤ j ∧ i2 ≤ j2 + 1 ∧ Hid (RowN w wx g T pos dk) ∧ Hid (Sort.scanDown (fun x => ltN dk[a]! x) dk i2 j2 = Sort.scanDown (fun x => ltN dk[a]! x) dk i2 j)) (fun jv _ => (intOf jv).toNat)
          case atStart => exact ⟨j, rfl, Nat.le_refl _, hj2, hR2, Lib.hid rfl⟩
          case round =>
            obtain ⟨j2, rfl, hj3, hi3, hR3, hS3⟩ := hrel
            by_cases hle : i2 ≤ j2
            · obtain ⟨k, rfl⟩ : ∃ k, j2 = k + 1 := ⟨j2 - 1, by omega⟩
              have hlei : (i2 : Int) ≤ (k : Int) + 1 := by omega
              have c1 := hR3.out.cell (k + 1) (by omega)
              have c0 := hR3.out.cell a (by omega)
              have b1 : k + 1 < d.size := by omega
              have b0 : a < d.size := by omega
              obtain ⟨x, hx⟩ : ∃ x, dk[k + 1]! = x := ⟨_, rfl⟩
              obtain ⟨pa, hpa⟩ : ∃ x, dk[a]! = x := ⟨_, rfl⟩
              rw [hx] at c1
              rw [hpa] at c0
              have HX := Lib.hid hx
              have HPA := Lib.hid hpa
              clear hx hpa
              rcases hl : ltN pa x with _ | _
              · go_upto_region 5 with (fail)
                go_quiet ((go_at_call 176; first | exact Calls.quiet_of_same (less_of hl _) | exact quiet_of_same2 (less_of hl _)))
                go_wp2
                go_meet
                case rel => exact ⟨k + 1, rfl, hj3, hi3, Lib.hid (hR3.out.drewN _), Lib.hid (by rw [← hS3.out, scanDown_end _ _ _ (.inr (by simp [HX.out, HPA.out, hl]))]), Lib.hid (fun _ => by rw [HX.out, HPA.out]; exact hl)⟩
              · go_upto_region 5 with (fail)
                go_quiet ((go_at_call 176; first | exact Calls.quiet_of_same (less_of hl _) | exact quiet_of_same2 (less_of hl _)))
                go_wp2
                go_roundw
                case rel => exact ⟨k, by go_num, by omega, by omega, Lib.hid (hR3.out.drewN _), Lib.hid (by rw [← hS3.out]; exact (scanDown_go _ _ _ hle (by simp [HX.out, HPA.out, hl])).symm)⟩
                case measure => first | (simp [intOf]; omega) | simp [intOf]
            · have hlei : ¬ (i2 : Int) ≤ (j2 : Int) := by omega
              go_upto_region 5 with (fail)
              go_quiet (fail)
              go_wp2
              go_meet
              case rel => exact ⟨j2, rfl, hj3, hi3, Lib.hid (hR3.out.drewN _), Lib.hid (by rw [← hS3.out, scanDown_end _ _ _ (.inl hle)]), Lib.hid (fun h => absurd h hle)⟩
        case rest =>
          obtain ⟨j2, rfl, hj3, hi3, hR3, hS3, hT3⟩ := hcut
          by_cases hgt : j2 < i2
          · have hgi : (j2 : Int) < (i2 : Int) := by omega
            have HF : Hid (Sort.partitionEqual ltN d a b a = (i2, dk)) := Lib.hid (by rw [← hO.out, Sort.partEqLoop_eq, hS2.out, hS3.out, if_pos hgt])
            clear hO hS2 hS3 hT2 hT3
            go_wp2
            go_ret
            exact ⟨by rw [HF.out]; rfl, by rw [HF.out]; exact hR3.out⟩
          · have hgi : ¬ (j2 : Int) < (i2 : Int) := by omega
            have hne : i2 ≠ j2 := fun e => by
              have h1 := hT2.out (by omega)
              have h2 := hT3.out (by omega)
              rw [← e, h1] at h2
              cases h2
            have hne' : j2 ≠ i2 := fun e => hne e.symm
            obtain ⟨j3, rfl⟩ : ∃ k, j2 = k + 1 := ⟨j2 - 1, by omega⟩
            have HF : Hid (Sort.partEqLoop ltN a (i2 + 1) j3 (Sort.swp dk i2 (j3 + 1)) = Sort.partitionEqual ltN d a b a) := Lib.hid (by rw [← hO.out, Sort.partEqLoop_eq ltN a i j dk, hS2.out, hS3.out, if_neg hgt, Nat.add_sub_cancel])
            clear hO hS2 hS3 hT2 hT3
            have b1 : i2 < d.size := by omega
            have b0 : j3 + 1 < d.size := by omega
            have s1 := hR3.out.cell i2 (by omega)
            have s0 := hR3.out.cell (j3 + 1) (by omega)
            have fs1 := hR3.out.frozen i2
            have fs0 := hR3.out.frozen (j3 + 1)
            obtain ⟨sx, hsx⟩ : ∃ x, dk[i2]! = x := ⟨_, rfl⟩
            obtain ⟨sy, hsy⟩ : ∃ y, dk[(j3 + 1)]! = y := ⟨_, rfl⟩
            have HW0 := Lib.hid (hR3.out.swap i2 (j3 + 1) (by omega) (by omega) hsx hsy)
            have HWn := Lib.hid (fun n => (hR3.out.drewN n).swap i2 (j3 + 1) (by omega) (by omega) hsx hsy)
            rw [hsx] at s1
            rw [hsy] at s0
            clear hsx hsy
            go_upto_region 8 with (fail)
            go_region
            generalize hW : World.setCell (World.setCell _ _ _) _ _ = W
            have HW2 : Hid (RowN w W g T pos (Sort.swp dk i2 (j3 + 1))) := Lib.hid (by rw [← hW]; first | exact HW0.out | exact HWn.out _)
            clear hW HW0 HWn s1 s0 fs1 fs0
            go_wp2
            go_roundw
            case rel => exact ⟨i2 + 1, j3, Sort.swp dk i2 (j3 + 1), by go_num, by go_num, by omega, by omega, by omega, by rw [Sort.size_swp]; exact hdk, by first | exact HW2 | exact Lib.hid HW2.out.drew | exact Lib.hid (HW2.out.drewN _), HF⟩
            case measure => first | (simp [intOf]; omega) | simp [intOf]
  · have hpb : ¬ pivot = a := fun e => hpa e.symm
    have s1 := HR.out.cell a (by omega)
    have s0 := HR.out.cell pivot (by omega)
    have fs1 := HR.out.frozen a
    have fs0 := HR.out.frozen pivot
    obtain ⟨sx, hsx⟩ : ∃ x, d[a]! = x := ⟨_, rfl⟩
    obtain ⟨sy, hsy⟩ : ∃ y, d[pivot]! = y := ⟨_, rfl⟩
    have HW0 := Lib.hid (HR.out.swap a pivot (by omega) (by omega) hsx hsy)
    have HWn := Lib.hid (fun n => (HR.out.drewN n).swap a pivot (by omega) (by omega) hsx hsy)
    rw [hsx] at s1
    rw [hsy] at s0
    clear hsx hsy
    go_upto_region 1 with (fail)
    go_region
    generalize hW : World.setCell (World.setCell _ _ _) _ _ = W
    have HW2 : Hid (RowN w W g T pos (Sort.swp d a pivot)) := Lib.hid (by rw [← hW]; first | exact HW0.out | exact HWn.out _)
    clear hW HW0 HWn s1 s0 fs1 fs0
    go_wp2
    go_loopw [9, 10] (fun iv jv wr => ∃ (i j : Nat) (dk : Array Nat), iv = .int .i64 (i : Int) ∧ jv = .int .i64 (j : Int) ∧ a < i ∧ i ≤ j + 1 ∧ j < b ∧ dk.size = d.size ∧ Hid (RowN w wr g T pos dk) ∧ Hid (Sort.partEqLoop ltN a i j dk = Sort.partitionEqual ltN d a b pivot)) (fun iv jv _ => (intOf jv).toNat + 1 - (intOf iv).toNat)
    case atStart => exact ⟨a + 1, b - 1, Sort.swp d a pivot, by go_num, by go_num, by omega, by omega, by omega, by rw [Sort.size_swp], by first | exact HW2 | exact Lib.hid HW2.out.drew | exact Lib.hid (HW2.out.drewN _), Lib.hid rfl⟩
    case round =>
      obtain ⟨i, j, dk, rfl, rfl, hai, hij, hjb, hdk, hR, hO⟩ := hrel
      go_upto_block 2 with fail
      go_cut [9] (fun iv wx => ∃ i2 : Nat, iv = .int .i64 (i2 : Int) ∧ i ≤ i2 ∧ i2 ≤ j + 1 ∧ Hid (RowN w wx g T pos dk) ∧ Hid (Sort.scanUp (fun x => !ltN dk[a]! x) dk j i = i2) ∧ Hid (i2 ≤ j → ltN dk[a]! dk[i2]! = true))
      case first =>
        go_wp2
        go_loopw [9] (fun iv wx => ∃ i2 : Nat, iv = .int .i64 (i2 : Int) ∧ i ≤ i2 ∧ i2 ≤ j + 1 ∧ Hid (RowN w wx g T pos dk) ∧ Hid (Sort.scanUp (fun x => !ltN dk[a]! x) dk j i2 = Sort.scanUp (fun x => !ltN dk[a]! x) dk j i)) (fun iv _ => j + 1 - (intOf iv).toNat)
        case atStart => exact ⟨i, rfl, Nat.le_refl _, by omega, hR, Lib.hid rfl⟩
        case round =>
          obtain ⟨i2, rfl, hi2, hj2, hR2, hS2⟩ := hrel
          by_cases hle : i2 ≤ j
          · have hlei : (i2 : Int) ≤ (j : Int) := by omega
            have c1 := hR2.out.cell i2 (by omega)
            have c0 := hR2.out.cell a (by omega)
            have b1 : i2 < d.size := by omega
            have b0 : a < d.size := by omega
            obtain ⟨x, hx⟩ : ∃ x, dk[i2]! = x := ⟨_, rfl⟩
            obtain ⟨pa, hpa⟩ : ∃ x, dk[a]! = x := ⟨_, rfl⟩
            rw [hx] at c1
            rw [hpa] at c0
            have HX := Lib.hid hx
            have HPA := Lib.hid hpa
            clear hx hpa
            rcases hl : ltN pa x with _ | _
            · go_upto_region 3 with (fail)
              go_quiet ((go_at_call 176; first | exact Calls.quiet_of_same (less_of hl _) | exact quiet_of_same2 (less_of hl _)))
              go_wp2
              go_roundw
              case rel => exact ⟨i2 + 1, by go_num, by omega, by omega, Lib.hid (hR2.out.drewN _), Lib.hid (by rw [← hS2.out]; exact (scanUp_go _ _ _ hle (by simp [HX.out, HPA.out, hl])).symm)⟩
              case measure => first | (simp [intOf]; omega) | simp [intOf]
            · go_upto_region 3 with (fail)
              go_quiet ((go_at_call 176; first | exact Calls.quiet_of_same (less_of hl _) | exact quiet_of_same2 (less_of hl _)))
              go_wp2
              go_meet
              case rel => exact ⟨i2, rfl, hi2, hj2, Lib.hid (hR2.out.drewN _), Lib.hid (by rw [← hS2.out, scanUp_end _ _ _ (.inr (by simp [HX.out, HPA.out, hl]))]), Lib.hid (fun _ => by rw [HX.out, HPA.out]; exact hl)⟩
          · have hlei : ¬ (i2 : Int) ≤ (j : Int) := by omega
            go_upto_region 3 with (fail)
            go_quiet (fail)
            go_wp2
            go_meet
            case rel => exact ⟨i2, rfl, hi2, hj2, Lib.hid (hR2.out.drewN _), Lib.hid (by rw [← hS2.out, scanUp_end _ _ _ (.inl hle)]), Lib.hid (fun h => absurd h hle)⟩
      case rest =>
        obtain ⟨i2, rfl, hi2, hj2, hR2, hS2, hT2⟩ := hcut
        go_upto_block 4 with fail
        go_cut [10] (fun jv wx => ∃ j2 : Nat, jv = .int .i64 (j2 : Int) ∧ j2 ≤ j ∧ i2 ≤ j2 + 1 ∧ Hid (RowN w wx g T pos dk) ∧ Hid (Sort.scanDown (fun x => ltN dk[a]! x) dk i2 j = j2) ∧ Hid (i2 ≤ j2 → ltN dk[a]! dk[j2]! = false))
        case first =>
          go_wp2
          go_loopw [10] (fun jv wx => ∃ j2 : Nat, jv = .int .i64 (j2 : Int) ∧ j2 ≤ j ∧ i2 ≤ j2 + 1 ∧ Hid (RowN w wx g T pos dk) ∧ Hid (Sort.scanDown (fun x => ltN dk[a]! x) dk i2 j2 = Sort.scanDown (fun x => ltN dk[a]! x) dk i2 j)) (fun jv _ => (intOf jv).toNat)
          case atStart => exact ⟨j, rfl, Nat.le_refl _, hj2, hR2, Lib.hid rfl⟩
          case round =>
            obtain ⟨j2, rfl, hj3, hi3, hR3, hS3⟩ := hrel
            by_cases hle : i2 ≤ j2
            · obtain ⟨k, rfl⟩ : ∃ k, j2 = k + 1 := ⟨j2 - 1, by omega⟩
              have hlei : (i2 : Int) ≤ (k : Int) + 1 := by omega
              have c1 := hR3.out.cell (k + 1) (by omega)
              have c0 := hR3.out.cell a (by omega)
              have b1 : k + 1 < d.size := by omega
              have b0 : a < d.size := by omega
              obtain ⟨x, hx⟩ : ∃ x, dk[k + 1]! = x := ⟨_, rfl⟩
              obtain ⟨pa, hpa⟩ : ∃ x, dk[a]! = x := ⟨_, rfl⟩
              rw [hx] at c1
              rw [hpa] at c0
              have HX := Lib.hid hx
              have HPA := Lib.hid hpa
              clear hx hpa
              rcases hl : ltN pa x with _ | _
              · go_upto_region 5 with (fail)
                go_quiet ((go_at_call 176; first | exact Calls.quiet_of_same (less_of hl _) | exact quiet_of_same2 (less_of hl _)))
                go_wp2
                go_meet
                case rel => exact ⟨k + 1, rfl, hj3, hi3, Lib.hid (hR3.out.drewN _), Lib.hid (by rw [← hS3.out, scanDown_end _ _ _ (.inr (by simp [HX.out, HPA.out, hl]))]), Lib.hid (fun _ => by rw [HX.out, HPA.out]; exact hl)⟩
              · go_upto_region 5 with (fail)
                go_quiet ((go_at_call 176; first | exact Calls.quiet_of_same (less_of hl _) | exact quiet_of_same2 (less_of hl _)))
                go_wp2
                go_roundw
                case rel => exact ⟨k, by go_num, by omega, by omega, Lib.hid (hR3.out.drewN _), Lib.hid (by rw [← hS3.out]; exact (scanDown_go _ _ _ hle (by simp [HX.out, HPA.out, hl])).symm)⟩
                case measure => first | (simp [intOf]; omega) | simp [intOf]
            · have hlei : ¬ (i2 : Int) ≤ (j2 : Int) := by omega
              go_upto_region 5 with (fail)
              go_quiet (fail)
              go_wp2
              go_meet
              case rel => exact ⟨j2, rfl, hj3, hi3, Lib.hid (hR3.out.drewN _), Lib.hid (by rw [← hS3.out, scanDown_end _ _ _ (.inl hle)]), Lib.hid (fun h => absurd h hle)⟩
        case rest =>
          obtain ⟨j2, rfl, hj3, hi3, hR3, hS3, hT3⟩ := hcut
          by_cases hgt : j2 < i2
          · have hgi : (j2 : Int) < (i2 : Int) := by omega
            have HF : Hid (Sort.partitionEqual ltN d a b pivot = (i2, dk)) := Lib.hid (by rw [← hO.out, Sort.partEqLoop_eq, hS2.out, hS3.out, if_pos hgt])
            clear hO hS2 hS3 hT2 hT3
            go_wp2
            go_ret
            exact ⟨by rw [HF.out]; rfl, by rw [HF.out]; exact hR3.out⟩
          · have hgi : ¬ (j2 : Int) < (i2 : Int) := by omega
            have hne : i2 ≠ j2 := fun e => by
              have h1 := hT2.out (by omega)
              have h2 := hT3.out (by omega)
              rw [← e, h1] at h2
              cases h2
            have hne' : j2 ≠ i2 := fun e => hne e.symm
            obtain ⟨j3, rfl⟩ : ∃ k, j2 = k + 1 := ⟨j2 - 1, by omega⟩
            have HF : Hid (Sort.partEqLoop ltN a (i2 + 1) j3 (Sort.swp dk i2 (j3 + 1)) = Sort.partitionEqual ltN d a b pivot) := Lib.hid (by rw [← hO.out, Sort.partEqLoop_eq ltN a i j dk, hS2.out, hS3.out, if_neg hgt, Nat.add_sub_cancel])
            clear hO hS2 hS3 hT2 hT3
            have b1 : i2 < d.size := by omega
            have b0 : j3 + 1 < d.size := by omega
            have s1 := hR3.out.cell i2 (by omega)
            have s0 := hR3.out.cell (j3 + 1) (by omega)
            have fs1 := hR3.out.frozen i2
            have fs0 := hR3.out.frozen (j3 + 1)
            obtain ⟨sx, hsx⟩ : ∃ x, dk[i2]! = x := ⟨_, rfl⟩
            obtain ⟨sy, hsy⟩ : ∃ y, dk[(j3 + 1)]! = y := ⟨_, rfl⟩
            have HW0 := Lib.hid (hR3.out.swap i2 (j3 + 1) (by omega) (by omega) hsx hsy)
            have HWn := Lib.hid (fun n => (hR3.out.drewN n).swap i2 (j3 + 1) (by omega) (by omega) hsx hsy)
            rw [hsx] at s1
            rw [hsy] at s0
            clear hsx hsy
            go_upto_region 8 with (fail)
            go_region
            generalize hW : World.setCell (World.setCell _ _ _) _ _ = W
            have HW2 : Hid (RowN w W g T pos (Sort.swp dk i2 (j3 + 1))) := Lib.hid (by rw [← hW]; first | exact HW0.out | exact HWn.out _)
            clear hW HW0 HWn s1 s0 fs1 fs0
            go_wp2
            go_roundw
            case rel => exact ⟨i2 + 1, j3, Sort.swp dk i2 (j3 + 1), by go_num, by go_num, by omega, by omega, by omega, by rw [Sort.size_swp]; exact hdk, by first | exact HW2 | exact Lib.hid HW2.out.drew | exact Lib.hid (HW2.out.drewN _), HF⟩
            case measure => first | (simp [intOf]; omega) | simp [intOf]
end Go.Proofs.YtobhbppogeghnaaGreatDoor
end
