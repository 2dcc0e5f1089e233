/- Contract of the library's sort at numbers of 32 bits: a few insertions. -/
import Derived.Test.YtobhbppogeghnaaGreatDoorM11
import Derived.Deep.CutBlock
section
namespace Go.Proofs.YtobhbppogeghnaaGreatDoor
open Go.RowKit

theorem scanS_go {lt : Nat → Nat → Bool} (d : Array Nat) (b i : Nat) (h : i < b) (hl : lt d[i]! d[i - 1]! = false) : Sort.scanSorted lt d b i = Sort.scanSorted lt d b (i + 1) := by
  conv => lhs; rw [Sort.scanSorted]
  rw [if_pos (by simp [hl, h])]
theorem scanS_end {lt : Nat → Nat → Bool} (d : Array Nat) (b i : Nat) (h : ¬ i < b ∨ lt d[i]! d[i - 1]! = true) : Sort.scanSorted lt d b i = i := by
  rw [Sort.scanSorted, if_neg (by rcases h with h | h <;> simp [h])]
theorem shiftD_go {lt : Nat → Nat → Bool} (j : Nat) (d : Array Nat) (hl : lt d[j + 1]! d[j]! = true) : Sort.shiftDown lt (j + 1) d = Sort.shiftDown lt j (Sort.swp d (j + 1) j) := by
  rw [Sort.shiftDown, if_neg (by simp [hl])]
theorem shiftD_end {lt : Nat → Nat → Bool} (j : Nat) (d : Array Nat) (hl : lt d[j + 1]! d[j]! = false) : Sort.shiftDown lt (j + 1) d = d := by
  rw [Sort.shiftDown, if_pos (by simp [hl])]
theorem shiftU_go {lt : Nat → Nat → Bool} (b j : Nat) (d : Array Nat) (h : j + 1 < b) (hl : lt d[j + 1]! d[j]! = true) : Sort.shiftUp lt b (j + 1) d = Sort.shiftUp lt b (j + 1 + 1) (Sort.swp d (j + 1) j) := by
  conv => lhs; rw [Sort.shiftUp]
  rw [if_pos h, if_neg (by simp [hl]), Nat.add_sub_cancel]
theorem shiftU_end {lt : Nat → Nat → Bool} (b j : Nat) (d : Array Nat) (h : ¬ j + 1 < b ∨ lt d[j + 1]! d[j]! = false) : Sort.shiftUp lt b (j + 1) d = d := by
  rw [Sort.shiftUp]
  rcases h with h | h
  · rw [if_neg h]
  · split
    · rw [if_pos (by simp [h])]
    · rfl
set_option maxRecDepth 100000 in
set_option maxHeartbeats 8000000 in
theorem pis_any (g : Nat) (T : TypeId) (pos : List Value) (d : Array Nat) (a l b cap : Nat) (w : World) (h : Blk w g T (d.toList.map cN ++ pos)) (hl12 : 12 < l) (hbl : b = a + l) (hb : b ≤ d.size) (hs : d.size ≤ 1000000) :
    Calls Tryz.prog 175 #[.slice (some ⟨g, 0, none⟩) d.size cap, .int .i64 (a : Int), .int .i64 (b : Int)] w fun e w' => e = .returned (.bool (Sort.partialInsertionSort ltN d a b).2) ∧ RowN w w' g T pos (Sort.partialInsertionSort ltN d a b).1 := by
  have HR := Lib.hid (RowN.refl h)
  clear h
  have e0 : (b : Int) - (a : Int) = (l : Int) := by omega
  have HBL := Lib.hid (show b - a = l by omega)
  clear hbl
  have hab : a + 1 ≤ b := by have := HBL.out; omega
  go_enter Tryz.func175, Tryz.ntmps175
  go_wp2
  go_loopw [7, 8, 9, 10] (fun iv sv _ _ wr => ∃ (i s : Nat) (dk : Array Nat), iv = .int .i64 (i : Int) ∧ sv = .int .i64 (s : Int) ∧ s ≤ 5 ∧ a < i ∧ i ≤ b ∧ dk.size = d.size ∧ Hid (RowN w wr g T pos dk) ∧ Hid (Sort.partialIns ltN a b (5 - s) i dk = Sort.partialInsertionSort ltN d a b)) (fun _ sv _ _ _ => 5 - (intOf sv).toNat)
  case atStart => exact ⟨a + 1, 0, d, by go_num, rfl, by omega, by omega, hab, rfl, HR, Lib.hid rfl⟩
  case round =>
    obtain ⟨i, s, dk, rfl, rfl, hs5, hai, hib, hdk, hR, hO⟩ := hrel
    by_cases hsl : s < 5
    · have hsi : (s : Int) < 5 := by omega
      obtain ⟨m, hm⟩ : ∃ m, 5 - s = m + 1 := ⟨4 - s, by omega⟩
      have hO2 := hO.out
      rw [hm, Sort.partialIns_succ] at hO2
      have HO := Lib.hid hO2
      have HM := Lib.hid (show 5 - (s + 1) = m by omega)
      clear hO hO2 hm
      go_upto_block 2 with fail
      go_cut [7] (fun iv wx => ∃ i2 : Nat, iv = .int .i64 (i2 : Int) ∧ i ≤ i2 ∧ i2 ≤ b ∧ Hid (RowN w wx g T pos dk) ∧ Hid (Sort.scanSorted ltN dk b i = i2))
      case first =>
        go_wp2
        go_loopw [7] (fun iv wx => ∃ i2 : Nat, iv = .int .i64 (i2 : Int) ∧ i ≤ i2 ∧ i2 ≤ b ∧ Hid (RowN w wx g T pos dk) ∧ Hid (Sort.scanSorted ltN dk b i2 = Sort.scanSorted ltN dk b i)) (fun iv _ => b - (intOf iv).toNat)
        case atStart => exact ⟨i, by first | rfl | go_num, Nat.le_refl _, hib, hR, Lib.hid rfl⟩
        case round =>
          obtain ⟨i2, rfl, hi2, hj2, hR2, hS2⟩ := hrel
          by_cases hle : i2 < b
          · obtain ⟨k, rfl⟩ : ∃ k, i2 = k + 1 := ⟨i2 - 1, by omega⟩
            have hlei : (k : Int) + 1 < (b : Int) := by omega
            have c1 := hR2.out.cell (k + 1) (by omega)
            have c0 := hR2.out.cell k (by omega)
            have b1 : k + 1 < d.size := by omega
            have b0 : k < d.size := by omega
            obtain ⟨x, hx⟩ : ∃ x, dk[k + 1]! = x := ⟨_, rfl⟩
            obtain ⟨y, hy⟩ : ∃ x, dk[k]! = x := ⟨_, rfl⟩
            rw [hx] at c1
            rw [hy] at c0
            have HX := Lib.hid hx
            have HY := Lib.hid hy
            clear hx hy
            rcases hl : ltN x y with _ | _
            · go_upto_region 5 with (fail)
              go_quiet ((go_at_call 176; first | exact Calls.quiet_of_same (less_of hl _) | exact quiet_of_same2 (less_of hl _)))
              go_wp2
              go_roundw
              case rel => exact ⟨k + 1 + 1, by go_num, by omega, by omega, Lib.hid (hR2.out.drewN _), Lib.hid (by rw [← hS2.out]; exact (scanS_go _ _ _ hle (by simp [HX.out, HY.out, hl])).symm)⟩
              case measure => first | (simp [intOf]; omega) | simp [intOf]
            · go_upto_region 5 with (fail)
              go_quiet ((go_at_call 176; first | exact Calls.quiet_of_same (less_of hl _) | exact quiet_of_same2 (less_of hl _)))
              go_wp2
              go_meet
              case rel => exact ⟨k + 1, rfl, hi2, hj2, Lib.hid (hR2.out.drewN _), Lib.hid (by rw [← hS2.out, scanS_end _ _ _ (.inr (by simp [HX.out, HY.out, hl]))])⟩
          · have hlei : ¬ (i2 : Int) < (b : Int) := by omega
            go_upto_region 5 with (fail)
            go_quiet (fail)
            go_wp2
            go_meet
            case rel => exact ⟨i2, rfl, hi2, hj2, Lib.hid (hR2.out.drewN _), Lib.hid (by rw [← hS2.out, scanS_end _ _ _ (.inl hle)])⟩
      case rest =>
        obtain ⟨i2, rfl, hi2, hj2, hR2, hS2⟩ := hcut
        by_cases heq : i2 = b
        · have hz : ((i2 : Int) == (b : Int)) = true := by rw [beq_iff_eq]; omega
          have HF : Hid (Sort.partialInsertionSort ltN d a b = (dk, true)) := Lib.hid (by rw [← HO.out, hS2.out, if_pos heq])
          clear heq HO hS2
          go_wp2
          go_ret
          exact ⟨by rw [HF.out]; rfl, by rw [HF.out]; exact hR2.out⟩
        · have hz : ((i2 : Int) == (b : Int)) = false := by rw [beq_eq_false_iff_ne]; omega
          by_cases h50 : l < 50
          · have h50i : (l : Int) < 50 := by omega
            have HF : Hid (Sort.partialInsertionSort ltN d a b = (dk, false)) := Lib.hid (by rw [← HO.out, hS2.out, if_neg heq, if_pos (by rw [HBL.out]; exact h50)])
            clear HO hS2
            go_wp2
            go_ret
            exact ⟨by rw [HF.out]; rfl, by rw [HF.out]; exact hR2.out⟩
          · have h50i : ¬ (l : Int) < 50 := by omega
            obtain ⟨k, rfl⟩ : ∃ k, i2 = k + 1 := ⟨i2 - 1, by omega⟩
            have HF : Hid (Sort.partialIns ltN a b m (k + 1) (Sort.fixUp ltN b (k + 1) (Sort.fixDown ltN a (k + 1) (Sort.swp dk (k + 1) k))) = Sort.partialInsertionSort ltN d a b) := Lib.hid (by rw [← HO.out, hS2.out, if_neg heq, if_neg (by rw [HBL.out]; exact h50), Nat.add_sub_cancel])
            clear HO hS2
            have b1 : k + 1 < d.size := by omega
            have b0 : k < d.size := by omega
            have s1 := hR2.out.cell (k + 1) (by omega)
            have s0 := hR2.out.cell k (by omega)
            have fs1 := hR2.out.frozen (k + 1)
            have fs0 := hR2.out.frozen k
            obtain ⟨sx, hsx⟩ : ∃ x, dk[(k + 1)]! = x := ⟨_, rfl⟩
            obtain ⟨sy, hsy⟩ : ∃ y, dk[k]! = y := ⟨_, rfl⟩
            have HW0 := Lib.hid (hR2.out.swap (k + 1) k (by omega) (by omega) hsx hsy)
            have HWn := Lib.hid (fun n => (hR2.out.drewN n).swap (k + 1) k (by omega) (by omega) hsx hsy)
            rw [hsx] at s1
            rw [hsy] at s0
            clear hsx hsy
            go_upto_region 11 with (fail)
            go_region
            generalize hW : World.setCell (World.setCell _ _ _) _ _ = W
            have HW2 : Hid (RowN w W g T pos (Sort.swp dk (k + 1) k)) := Lib.hid (by rw [← hW]; first | exact HW0.out | exact HWn.out _)
            clear hW HW0 HWn s1 s0 fs1 fs0
            obtain ⟨d1, hd1⟩ : ∃ x, Sort.swp dk (k + 1) k = x := ⟨_, rfl⟩
            have hz1 : d1.size = d.size := by rw [← hd1, Sort.size_swp]; exact hdk
            have HRW : Hid (RowN w W g T pos d1) := Lib.hid (hd1 ▸ HW2.out)
            rw [hd1] at HF
            clear hd1 HW2
            go_upto_if 61 with fail
            go_cut [9] (fun _ wx => ∃ d2 : Array Nat, d2.size = d.size ∧ Hid (RowN w wx g T pos d2) ∧ Hid (Sort.fixDown ltN a (k + 1) d1 = d2))
            case first =>
              by_cases h2 : a + 1 ≤ k
              · have h2i : (2 : Int) ≤ (k : Int) + 1 - (a : Int) := by omega
                have HD : Hid (Sort.fixDown ltN a (k + 1) d1 = Sort.shiftDown ltN k d1) := Lib.hid (by unfold Sort.fixDown; rw [if_pos (by omega), Nat.add_sub_cancel])
                go_wp2
                go_loopw [9] (fun jv wr => ∃ (j : Nat) (dj : Array Nat), jv = .int .i64 (j : Int) ∧ j ≤ k ∧ dj.size = d.size ∧ Hid (RowN w wr g T pos dj) ∧ Hid (Sort.shiftDown ltN j dj = Sort.shiftDown ltN k d1)) (fun jv _ => (intOf jv).toNat)
                case atStart => exact ⟨k, d1, by first | rfl | go_num, Nat.le_refl _, hz1, by first | exact HRW | exact Lib.hid HRW.out.drew | exact Lib.hid (HRW.out.drewN _), Lib.hid rfl⟩
                case round =>
                  obtain ⟨j, dj, rfl, hjk, hdj, hRj, hSj⟩ := hrel
                  rcases j with _ | j
                  · have HE : Hid (Sort.fixDown ltN a (k + 1) d1 = dj) := Lib.hid (by rw [HD.out, ← hSj.out]; rfl)
                    clear hSj HD
                    go_wp2
                    go_meet
                    case rel => exact ⟨dj, hdj, hRj, HE⟩
                  · have hj1 : (1 : Int) ≤ (j : Int) + 1 := by omega
                    have c1 := hRj.out.cell (j + 1) (by omega)
                    have c0 := hRj.out.cell j (by omega)
                    have bb1 : j + 1 < d.size := by omega
                    have bb0 : j < d.size := by omega
                    obtain ⟨x, hx⟩ : ∃ x, dj[j + 1]! = x := ⟨_, rfl⟩
                    obtain ⟨y, hy⟩ : ∃ x, dj[j]! = x := ⟨_, rfl⟩
                    rw [hx] at c1
                    rw [hy] at c0
                    have HX := Lib.hid hx
                    have HY := Lib.hid hy
                    clear hx hy
                    rcases hl : ltN x y with _ | _
                    · go_upto_region 16 with (fail)
                      go_quiet ((go_at_call 176; first | exact Calls.quiet_of_same (less_of hl _) | exact quiet_of_same2 (less_of hl _)))
                      go_wp2
                      go_meet
                      case rel => exact ⟨dj, hdj, Lib.hid (hRj.out.drewN _), Lib.hid (by rw [HD.out, ← hSj.out, shiftD_end _ _ (by rw [HX.out, HY.out]; exact hl)])⟩
                    · have HS2 : Hid (Sort.shiftDown ltN j (Sort.swp dj (j + 1) j) = Sort.shiftDown ltN k d1) := Lib.hid (by rw [← hSj.out, shiftD_go _ _ (by rw [HX.out, HY.out]; exact hl)])
                      clear hSj
                      go_upto_region 16 with (fail)
                      go_quiet ((go_at_call 176; first | exact Calls.quiet_of_same (less_of hl _) | exact quiet_of_same2 (less_of hl _)))
                      clear c1 c0
                      have s1 := hRj.out.cell (j + 1) (by omega)
                      have s0 := hRj.out.cell j (by omega)
                      have fs1 := hRj.out.frozen (j + 1)
                      have fs0 := hRj.out.frozen j
                      obtain ⟨sx, hsx⟩ : ∃ x, dj[(j + 1)]! = x := ⟨_, rfl⟩
                      obtain ⟨sy, hsy⟩ : ∃ y, dj[j]! = y := ⟨_, rfl⟩
                      have HW0 := Lib.hid (hRj.out.swap (j + 1) j (by omega) (by omega) hsx hsy)
                      have HWn := Lib.hid (fun n => (hRj.out.drewN n).swap (j + 1) j (by omega) (by omega) hsx hsy)
                      rw [hsx] at s1
                      rw [hsy] at s0
                      clear hsx hsy
                      go_upto_region 17 with (fail)
                      go_region
                      generalize hW : World.setCell (World.setCell _ _ _) _ _ = W
                      have HW2 : Hid (RowN w W g T pos (Sort.swp dj (j + 1) j)) := Lib.hid (by rw [← hW]; first | exact HW0.out | exact HWn.out _)
                      clear hW HW0 HWn s1 s0 fs1 fs0
                      go_wp2
                      go_roundw
                      case rel => exact ⟨j, Sort.swp dj (j + 1) j, by first | rfl | go_num, by omega, by rw [Sort.size_swp]; exact hdj, by first | exact HW2 | exact Lib.hid HW2.out.drew | exact Lib.hid (HW2.out.drewN _), HS2⟩
                      case measure => first | (simp [intOf]; omega) | simp [intOf]
              · have h2i : ¬ (2 : Int) ≤ (k : Int) + 1 - (a : Int) := by omega
                go_wp2
                go_meet
                case rel => exact ⟨d1, hz1, by first | exact HRW | exact Lib.hid HRW.out.drew | exact Lib.hid (HRW.out.drewN _), Lib.hid (by unfold Sort.fixDown; rw [if_neg (by omega)])⟩
            case rest =>
              obtain ⟨d2, hz2, hR4, hD4⟩ := hcut
              go_upto_if 98 with fail
              by_cases h2 : k + 1 + 2 ≤ b
              · have h2i : (2 : Int) ≤ (b : Int) - ((k : Int) + 1) := by omega
                have HD : Hid (Sort.fixUp ltN b (k + 1) d2 = Sort.shiftUp ltN b (k + 1 + 1) d2) := Lib.hid (by unfold Sort.fixUp; rw [if_pos (by omega)])
                go_wp2
                go_loopw [10] (fun jv wr => ∃ (j : Nat) (dj : Array Nat), jv = .int .i64 ((j : Int) + 1) ∧ k + 1 ≤ j ∧ j + 1 ≤ b ∧ dj.size = d.size ∧ Hid (RowN w wr g T pos dj) ∧ Hid (Sort.shiftUp ltN b (j + 1) dj = Sort.shiftUp ltN b (k + 1 + 1) d2)) (fun jv _ => b - (intOf jv).toNat)
                case atStart => exact ⟨k + 1, d2, by first | rfl | go_num, Nat.le_refl _, by omega, hz2, hR4, Lib.hid rfl⟩
                case round =>
                  obtain ⟨j, dj, rfl, hjk, hjb, hdj, hRj, hSj⟩ := hrel
                  by_cases hjl : j + 1 < b
                  · have hj1 : (j : Int) + 1 < (b : Int) := by omega
                    have c1 := hRj.out.cell (j + 1) (by omega)
                    have c0 := hRj.out.cell j (by omega)
                    have bb1 : j + 1 < d.size := by omega
                    have bb0 : j < d.size := by omega
                    obtain ⟨x, hx⟩ : ∃ x, dj[j + 1]! = x := ⟨_, rfl⟩
                    obtain ⟨y, hy⟩ : ∃ x, dj[j]! = x := ⟨_, rfl⟩
                    rw [hx] at c1
                    rw [hy] at c0
                    have HX := Lib.hid hx
                    have HY := Lib.hid hy
                    clear hx hy
                    rcases hl : ltN x y with _ | _
                    · go_upto_region 22 with (fail)
                      go_quiet ((go_at_call 176; first | exact Calls.quiet_of_same (less_of hl _) | exact quiet_of_same2 (less_of hl _)))
                      go_wp2
                      go_roundw
                      case rel => exact ⟨k + 1, s + 1, dj, by first | rfl | go_num, by go_num, by omega, by omega, by omega, hdj, Lib.hid (hRj.out.drewN _), Lib.hid (by rw [← HF.out, HM.out, hD4.out, HD.out, ← hSj.out, shiftU_end _ _ _ (.inr (by rw [HX.out, HY.out]; exact hl))])⟩
                      case measure => first | (simp [intOf]; omega) | simp [intOf]
                    · have HS2 : Hid (Sort.shiftUp ltN b (j + 1 + 1) (Sort.swp dj (j + 1) j) = Sort.shiftUp ltN b (k + 1 + 1) d2) := Lib.hid (by rw [← hSj.out, shiftU_go _ _ _ hjl (by rw [HX.out, HY.out]; exact hl)])
                      clear hSj
                      go_upto_region 22 with (fail)
                      go_quiet ((go_at_call 176; first | exact Calls.quiet_of_same (less_of hl _) | exact quiet_of_same2 (less_of hl _)))
                      clear c1 c0
                      have s1 := hRj.out.cell (j + 1) (by omega)
                      have s0 := hRj.out.cell j (by omega)
                      have fs1 := hRj.out.frozen (j + 1)
                      have fs0 := hRj.out.frozen j
                      obtain ⟨sx, hsx⟩ : ∃ x, dj[(j + 1)]! = x := ⟨_, rfl⟩
                      obtain ⟨sy, hsy⟩ : ∃ y, dj[j]! = y := ⟨_, rfl⟩
                      have HW0 := Lib.hid (hRj.out.swap (j + 1) j (by omega) (by omega) hsx hsy)
                      have HWn := Lib.hid (fun n => (hRj.out.drewN n).swap (j + 1) j (by omega) (by omega) hsx hsy)
                      rw [hsx] at s1
                      rw [hsy] at s0
                      clear hsx hsy
                      go_upto_region 23 with (fail)
                      go_region
                      generalize hW : World.setCell (World.setCell _ _ _) _ _ = W
                      have HW2 : Hid (RowN w W g T pos (Sort.swp dj (j + 1) j)) := Lib.hid (by rw [← hW]; first | exact HW0.out | exact HWn.out _)
                      clear hW HW0 HWn s1 s0 fs1 fs0
                      go_wp2
                      go_roundw
                      case rel => exact ⟨j + 1, Sort.swp dj (j + 1) j, by first | rfl | go_num, by omega, by omega, by rw [Sort.size_swp]; exact hdj, by first | exact HW2 | exact Lib.hid HW2.out.drew | exact Lib.hid (HW2.out.drewN _), HS2⟩
                      case measure => first | (simp [intOf]; omega) | simp [intOf]
                  · have hj1 : ¬ (j : Int) + 1 < (b : Int) := by omega
                    go_wp2
                    go_roundw
                    case rel => exact ⟨k + 1, s + 1, dj, by first | rfl | go_num, by go_num, by omega, by omega, by omega, hdj, hRj, Lib.hid (by rw [← HF.out, HM.out, hD4.out, HD.out, ← hSj.out, shiftU_end _ _ _ (.inl hjl)])⟩
                    case measure => first | (simp [intOf]; omega) | simp [intOf]
              · have h2i : ¬ (2 : Int) ≤ (b : Int) - ((k : Int) + 1) := by omega
                have HU : Hid (Sort.fixUp ltN b (k + 1) d2 = d2) := Lib.hid (by unfold Sort.fixUp; rw [if_neg (by omega)])
                go_wp2
                go_roundw
                case rel => exact ⟨k + 1, s + 1, d2, by first | rfl | go_num, by go_num, by omega, by omega, by omega, hz2, hR4, Lib.hid (by rw [← HF.out, HM.out, hD4.out, HU.out])⟩
                case measure => first | (simp [intOf]; omega) | simp [intOf]
    · obtain rfl : s = 5 := by omega
      have HF : Hid (Sort.partialInsertionSort ltN d a b = (dk, false)) := Lib.hid hO.out.symm
      clear hO
      go_wp2
      go_ret
      exact ⟨by rw [HF.out]; rfl, by rw [HF.out]; exact hR.out⟩
end Go.Proofs.YtobhbppogeghnaaGreatDoor
end
