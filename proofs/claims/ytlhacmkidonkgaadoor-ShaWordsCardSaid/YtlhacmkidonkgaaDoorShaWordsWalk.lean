/- The walk of ShaWords. -/
import Derived.Test.YtlhacmkidonkgaaDoorShaWorks
namespace Go.Proofs.YtlhacmkidonkgaaDoor
open Go.RowKit

set_option maxRecDepth 100000 in
set_option maxHeartbeats 1000000 in
theorem ShaWords_walk (a0 : ByteArray) (a1 : Bool) (w : World) (hL : Laid w) :
    Calls Tryd.prog 4 #[.string a0, .bool a1] w fun e w' => e = .returned (.bool true) ∧ Ext w w' := by
  have HL := Lib.hid hL
  clear hL
  by_cases hg : 1024 < a0.size
  · go_enter Tryd.func4, Tryd.ntmps4
    go_wp2_with (go_at_call 7; refine (sha_works _ HL.out).mono ?_; rintro e w1 ⟨rfl, h1⟩)
    go_ret
    exact ⟨rfl, h1⟩
  · have hs : a0.size ≤ 1024 := by omega
    clear hg
    cases a1
    · by_cases h64 : a0.size = 64
      · have HW1 := Lib.hid (fun u => Words_any a0 h64 u)
        have HW2 := Lib.hid (fun u => rWords_any a0 h64 u)
        have ht1 : ((a0.size : Int) != 64) = false := by simp; omega
        go_enter Tryd.func4, Tryd.ntmps4
        go_wp2_with fail
        go_loop [5] (fun p => p = .string a0) (fun _ => 0)
        case atStart => rfl
        case round =>
          subst hrel
          go_wp2_with (first
            | (go_at_call 10; refine (HW1.out _).mono ?_; rintro e w1 ⟨g1, rfl, hr1, _, h1⟩)
            | (go_at_call 11; refine (HW2.out _).mono ?_; rintro e w2 ⟨g2, c2, rfl, _, _, hr2, h2⟩))
          have HR1 := Lib.hid (hr1.ext h2)
          have HR2 := Lib.hid hr2
          have HX := Lib.hid (h1.trans h2)
          clear hr1 hr2 h1 h2
          go_loopw [8] (fun i wr => ∃ t : Nat, t ≤ 64 ∧ i = .int .i64 t ∧ Ext w2 wr) (fun i _ => 64 - (intOf i).toNat)
          case atStart => exact ⟨0, Nat.zero_le _, rfl, Ext.refl _⟩
          case round =>
            obtain ⟨t, ht, rfl, hext⟩ := hrel
            by_cases hlt : t < 64
            · have k1 := (HR1.out.ext hext).cell t (by rw [ws_length]; exact hlt)
              have k2 := (HR2.out.ext hext).cell t (by rw [ws_length]; exact hlt)
              have l1 := (HR1.out.ext hext).lt
              have l2 := (HR2.out.ext hext).lt
              obtain ⟨x, ex⟩ : ∃ x, x = (ws a0.data.toList 64).getD t 0 := ⟨_, rfl⟩
              rw [← ex] at k1 k2
              clear ex
              have hti : (t : Int) < 64 := by omega
              have hti0 : (0 : Int) ≤ (t : Int) := by omega
              go_wp2_with fail
              go_quiet (fail)
              go_wp2
              go_roundw
              case rel => exact ⟨t + 1, hlt, by go_num, hext.drewN _⟩
              case measure => simp [intOf]; omega
            · obtain rfl : t = 64 := by omega
              have e64 : ((64 : Nat) : Int) = 64 := rfl
              rw [e64]
              clear e64
              go_wp2_with (go_at_call 7; refine (sha_works _ (HL.out.ext (HX.out.trans hext))).mono ?_; rintro e w3 ⟨rfl, h3⟩)
              go_ret
              exact ⟨rfl, (HX.out.trans hext).trans h3⟩
      · have HN := Lib.hid (fun u => Words_no a0 h64 u)
        have ht1 : ((a0.size : Int) != 64) = true := by simp; omega
        go_enter Tryd.func4, Tryd.ntmps4
        go_wp2_with fail
        go_loop [5] (fun p => p = .string a0) (fun _ => 0)
        case atStart => rfl
        case round =>
          subst hrel
          go_wp2_with (first
            | (go_at_call 10; refine (HN.out _).mono ?_; rintro e w1 ⟨rfl, rfl⟩)
            | (go_at_call 7; refine (sha_works _ HL.out).mono ?_; rintro e w1 ⟨rfl, h1⟩))
          go_ret
          exact ⟨rfl, h1⟩
    · go_enter Tryd.func4, Tryd.ntmps4
      go_wp2_with fail
      go_loop [5] (fun p => ∃ q : ByteArray, q.size ≤ 1024 ∧ p = .string q) (fun p => 1024 - strLen p)
      case atStart => exact ⟨a0, hs, rfl⟩
      case round =>
        obtain ⟨q, hq, rfl⟩ := hrel
        by_cases hlt : q.size < 64
        · have hq1 : (q ++ ⟨#[1]⟩ : ByteArray).size = q.size + 1 := by rw [ByteArray.size_append]; rfl
          have HQ := Lib.hid hq1; clear hq1
          have hq2 : (q.size : Int) < 64 := by omega
          have hq3 : decide ((q.size : Int) < 64) = true := by simp; omega
          go_wp2_with fail
          go_round
          case rel => exact ⟨_, by rw [HQ.out]; omega, rfl⟩
          case measure => simp only [strLen]; rw [HQ.out]; omega
        · have hq2 : (64 : Int) ≤ (q.size : Int) := by omega
          have hq3 : decide ((q.size : Int) < 64) = false := by simp; omega
          have hq4 : 64 ≤ q.size := by omega
          have h64 : (q.extract 0 64).size = 64 := by rw [ByteArray.size_extract]; omega
          have HW1 := Lib.hid (fun u => Words_any (q.extract 0 64) h64 u)
          have HW2 := Lib.hid (fun u => rWords_any (q.extract 0 64) h64 u)
          have ht1 : (((q.extract 0 64).size : Int) != 64) = false := by rw [h64]; rfl
          go_wp2_with (first
            | (go_at_call 10; refine (HW1.out _).mono ?_; rintro e w1 ⟨g1, rfl, hr1, _, h1⟩)
            | (go_at_call 11; refine (HW2.out _).mono ?_; rintro e w2 ⟨g2, c2, rfl, _, _, hr2, h2⟩))
          have HR1 := Lib.hid (hr1.ext h2)
          have HR2 := Lib.hid hr2
          have HX := Lib.hid (h1.trans h2)
          clear hr1 hr2 h1 h2
          go_loopw [8] (fun i wr => ∃ t : Nat, t ≤ 64 ∧ i = .int .i64 t ∧ Ext w2 wr) (fun i _ => 64 - (intOf i).toNat)
          case atStart => exact ⟨0, Nat.zero_le _, rfl, Ext.refl _⟩
          case round =>
            obtain ⟨t, ht, rfl, hext⟩ := hrel
            by_cases hlt : t < 64
            · have k1 := (HR1.out.ext hext).cell t (by rw [ws_length]; exact hlt)
              have k2 := (HR2.out.ext hext).cell t (by rw [ws_length]; exact hlt)
              have l1 := (HR1.out.ext hext).lt
              have l2 := (HR2.out.ext hext).lt
              obtain ⟨x, ex⟩ : ∃ x, x = (ws (q.extract 0 64).data.toList 64).getD t 0 := ⟨_, rfl⟩
              rw [← ex] at k1 k2
              clear ex
              have hti : (t : Int) < 64 := by omega
              have hti0 : (0 : Int) ≤ (t : Int) := by omega
              go_wp2_with fail
              go_quiet (fail)
              go_wp2
              go_roundw
              case rel => exact ⟨t + 1, hlt, by go_num, hext.drewN _⟩
              case measure => simp [intOf]; omega
            · obtain rfl : t = 64 := by omega
              have e64 : ((64 : Nat) : Int) = 64 := rfl
              rw [e64]
              clear e64
              go_wp2_with (go_at_call 7; refine (sha_works _ (HL.out.ext (HX.out.trans hext))).mono ?_; rintro e w3 ⟨rfl, h3⟩)
              go_ret
              exact ⟨rfl, (HX.out.trans hext).trans h3⟩
end Go.Proofs.YtlhacmkidonkgaaDoor
