/- The walk of layer 9's statement DiskNil. -/
import Derived.Test.YtpjhkhelgeoneaaDoes
import Derived.Test.YtpjhkhelgeoneaaAlive
namespace Go.Proofs.Ytpjhkhelgeoneaa
open Go.RowKit
set_option maxRecDepth 100000 in
set_option maxHeartbeats 4000000 in
theorem DiskNil_walk (s0 : Option Addr) (c0 : Nat) (L : List Stp) (W : World) (f0 : StepsP W s0 L) (y0 : ∀ x, x ∈ L → x.Ok) (z0 : L.length ≤ 140737488355328) :
    Calls Try.prog 7 #[.slice s0 L.length c0] W fun e W' => e = .returned (.bool true) ∧ Ext W W' := by
  by_cases hh : HeavyS L
  · have HH := Lib.hid (heavyS_yes W s0 c0 L f0 y0 z0 hh)
    clear f0 y0 hh
    go_enter Try.func7, Try.ntmps7
    go_wp2_with (first
      | (go_at_call 8; refine (HH.out).mono ?_; rintro e w1 ⟨rfl, rfl⟩)
      | (go_at_call 9; refine (disk_alive _).mono ?_; rintro e w1 ⟨rfl, x1⟩))
    go_ret
    exact ⟨rfl, x1⟩
  · have HH := Lib.hid (heavyS_no W s0 c0 L f0 y0 z0 hh)
    have HF := Lib.hid f0
    clear f0 y0 hh
    go_enter Try.func7, Try.ntmps7
    go_wp2_with (go_at_call 8; refine (HH.out).mono ?_; rintro e w1 ⟨rfl, rfl⟩)
    go_loopw [4] (fun iv wr => ∃ j : Nat, j ≤ L.length ∧ iv = .int .i64 (j : Int) ∧ Hid (Ext W wr)) (fun iv _ => L.length - (intOf iv).toNat)
    case atStart => exact ⟨0, Nat.zero_le _, rfl, Lib.hid (Ext.refl _)⟩
    case round =>
      obtain ⟨j, hj, rfl, hx⟩ := hrel
      by_cases hlt : j < L.length
      · obtain ⟨x, hxj⟩ : ∃ x, L[j]? = some x := ⟨_, List.getElem?_eq_getElem hlt⟩
        obtain ⟨a, rfl, _, hcl⟩ := HF.out.ext hx.out j x hxj
        have k0 := hcl 0 _ rfl
        have k1 := six_at (k := 0) (hcl 1 _ rfl)
        have k2 := six_at (k := 1) (hcl 2 _ rfl)
        have k3 := six_at (k := 2) (hcl 3 _ rfl)
        have k4 := six_at (k := 3) (hcl 4 _ rfl)
        have k5 := six_at (k := 4) (hcl 5 _ rfl)
        rw [Nat.add_zero] at k0
        clear hcl hxj
        by_cases h7 : x.k = 7
        · have hq : (x.d : Int) % 8 = 7 := by unfold Stp.k at h7; omega
          have hq2 : (x.d : Int).tmod 8 = 7 := by rw [Int.tmod_eq_emod_of_nonneg (by omega)]; exact hq
          clear h7
          go_wp2
          go_roundw
          case rel => exact ⟨j + 1, hlt, by go_num, hx⟩
          case measure => simp [intOf]; omega
        · have hq : ((x.d : Int) % 8 != 7) = true := by rw [bne_iff_ne]; unfold Stp.k at h7; omega
          have hq2 : ((x.d : Int).tmod 8 != 7) = true := by rw [Int.tmod_eq_emod_of_nonneg (by omega)]; exact hq
          have HN := Lib.hid (fun u => Does_nil u x h7)
          clear h7
          go_wp2_with (go_at_call 19; refine (HN.out _).mono ?_; rintro e w2 ⟨rfl, x2⟩; have X2 := Lib.hid (hx.out.trans x2); clear x2)
          go_roundw
          case rel => exact ⟨j + 1, hlt, by go_num, X2⟩
          case measure => simp [intOf]; omega
      · obtain rfl : j = L.length := by omega
        go_wp2_with (first
          | (go_at_call 32; refine (Files_nil _).mono ?_; rintro e w2 ⟨rfl, rfl⟩)
          | (go_at_call 31; refine (Room_nil _).mono ?_; rintro e w2 ⟨rfl, rfl⟩)
          | (go_at_call 29; refine (Loose_nil _).mono ?_; rintro e w2 ⟨rfl, rfl⟩)
          | (go_at_call 20; refine (Copy_nil _).mono ?_; rintro e w2 ⟨rfl, rfl⟩)
          | (go_at_call 9; refine (disk_alive _).mono ?_; rintro e w2 ⟨rfl, x2⟩))
        go_ret
        exact ⟨rfl, hx.out.trans x2⟩
end Go.Proofs.Ytpjhkhelgeoneaa
