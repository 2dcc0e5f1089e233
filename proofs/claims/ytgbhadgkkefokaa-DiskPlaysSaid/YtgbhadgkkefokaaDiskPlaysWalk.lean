/- The walk of layer 9's statement DiskPlays. -/
import Derived.Test.YtgbhadgkkefokaaTwo9
import Derived.Test.YtgbhadgkkefokaaSame9
import Derived.Test.YtgbhadgkkefokaaRefCut
import Derived.Test.YtgbhadgkkefokaaRefSync
import Derived.Test.YtgbhadgkkefokaaRefCrash
import Derived.Test.YtgbhadgkkefokaaRefSpoil
import Derived.Test.YtgbhadgkkefokaaDoes
import Derived.Test.YtgbhadgkkefokaaAlive
namespace Go.Proofs.Ytgbhadgkkefokaa
open Go.RowKit
theorem Two.stepX2 {W w w' : World} {bd bx : Nat} {κd κx κ' : Foot} {d y z : DS} (h : Two W w bd bx κd κx d y) (k : IsX w' bx κ' z) (f : Fr κx (2 ≤ ·) w w' κ') : Two W w' bd bx κd κ' d z :=
  ⟨h.d.dis f (by decide) h.dx, k, (h.dx.symm.left f h.d.ins).symm, (young_of f (by decide) h.ext h.yx).1, h.yd, (young_of f (by decide) h.ext h.yx).2⟩
theorem DS.step_len (d : DS) (x : Stp) : (d.step x).1.L.length ≤ d.L.length + 1 := by
  unfold DS.step DS.stepK
  split
  · unfold DS.write; split; · exact Nat.le_succ _
    split; · exact Nat.le_succ _
    split; · exact Nat.le_succ _
    · simp
  · unfold DS.cutF; split; · exact Nat.le_succ _
    split; · exact Nat.le_succ _
    split; · exact Nat.le_succ _
    · simp
  · unfold DS.sync; split; · exact Nat.le_succ _
    · exact Nat.zero_le _
  · exact Nat.le_succ _
  · exact Nat.zero_le _
  · unfold DS.spoil; split; · exact Nat.le_succ _
    split; · exact Nat.le_succ _
    split; · exact Nat.le_succ _
    · exact Nat.le_succ _
  · exact Nat.le_succ _
  · exact Nat.le_succ _
theorem two_new {W w1 w2 : World} {D : DS} (h1 : IsD w1 W.heap.size (setK (fun _ => 0) W.heap.size 2) D) (x1 : Ext W w1) (h2 : IsX w2 (w1.heap.size + 1) (footX w1.heap.size) D) (x2 : Ext w1 w2) :
    Two W w2 W.heap.size (w1.heap.size + 1) (setK (fun _ => 0) W.heap.size 2) (footX w1.heap.size) D D := by
  have hlt := h1.lt
  have hy : ∀ g, g < w1.heap.size → footX w1.heap.size g = 0 := fun g hg => by
    unfold footX; rw [setK_other _ _ (by omega), setK_other _ _ (by omega)]
  refine ⟨h1.ext x2, h2, fun g => ?_, x1.trans x2, setK_young _ _, fun g hg => hy g (Nat.lt_of_lt_of_le hg x1.size)⟩
  by_cases e : g = W.heap.size
  · right; exact hy g (by omega)
  · left; rw [setK_other _ _ e]
set_option maxRecDepth 100000 in
set_option maxHeartbeats 8000000 in
theorem DiskPlays_walk (files room : Int) (s0 : Option Addr) (c0 : Nat) (L : List Stp) (W : World) (zf : -9223372036854775808 ≤ files ∧ files ≤ 9223372036854775807) (zr : -9223372036854775808 ≤ room ∧ room ≤ 9223372036854775807) (f0 : StepsP W s0 L) (y0 : ∀ x, x ∈ L → x.Ok) (z0 : L.length ≤ 140737488355328) :
    Calls Try.prog 3 #[.int .i64 files, .int .i64 room, .slice s0 L.length c0] W fun e W' => e = .returned (.bool true) ∧ Ext W W' := by
  by_cases hh : HeavyS L
  · have HH := Lib.hid (heavyS_yes W s0 c0 L f0 y0 z0 hh)
    clear f0 y0 hh
    go_enter Try.func3, Try.ntmps3
    go_wp2_with (first
      | (go_at_call 4; refine (HH.out).mono ?_; rintro e w1 ⟨rfl, rfl⟩)
      | (go_at_call 5; refine (disk_alive _).mono ?_; rintro e w1 ⟨rfl, x1⟩))
    go_ret
    exact ⟨rfl, x1⟩
  · have HH := Lib.hid (heavyS_no W s0 c0 L f0 y0 z0 hh)
    by_cases hno : files < 1 ∨ 16 < files ∨ room < 0 ∨ 4194304 < room
    · have HN := Lib.hid (New_no W files room hno)
      have HX := Lib.hid (NewX_no W files room hno)
      clear f0 y0 hh hno
      go_enter Try.func3, Try.ntmps3
      go_wp2_with (first
        | (go_at_call 4; refine (HH.out).mono ?_; rintro e w1 ⟨rfl, rfl⟩)
        | (go_at_call 6; refine (HN.out).mono ?_; rintro e w1 ⟨rfl, rfl⟩)
        | (go_at_call 7; refine (HX.out).mono ?_; rintro e w1 ⟨rfl, rfl⟩)
        | (go_at_call 5; refine (disk_alive _).mono ?_; rintro e w1 ⟨rfl, x1⟩))
      go_ret
      exact ⟨rfl, x1⟩
    · obtain ⟨m, rfl⟩ : ∃ m : Nat, files = (m : Int) := ⟨files.toNat, by omega⟩
      obtain ⟨rm, rfl⟩ : ∃ m : Nat, room = (m : Int) := ⟨room.toNat, by omega⟩
      have HF := Lib.hid f0
      have hnh := not_heavyS hh
      have hl100 := hnh.1
      have HS := Lib.hid hnh.2
      have HO := Lib.hid y0
      have HN := Lib.hid (New_yes W m rm (by omega) (by omega) (by omega))
      have HX := Lib.hid (fun u => NewX_yes u m rm (by omega) (by omega) (by omega))
      clear f0 y0 hh hno hnh z0
      go_enter Try.func3, Try.ntmps3
      go_wp2_with (first
        | (go_at_call 4; refine (HH.out).mono ?_; rintro e w1 ⟨rfl, rfl⟩)
        | (go_at_call 6; refine (HN.out).mono ?_; rintro e w1 ⟨rfl, h1, x1⟩; have H1 := Lib.hid h1; have X1 := Lib.hid x1; clear h1 x1)
        | (go_at_call 7; refine (HX.out _).mono ?_; rintro e w2 ⟨rfl, h2, x2⟩; have H2 := Lib.hid h2; have X2 := Lib.hid x2; clear h2 x2))
      have K2 : Hid (Two W w2 W.heap.size (w1.heap.size + 1) (setK (fun _ => 0) W.heap.size 2) (footX w1.heap.size) (DS.new m rm) (DS.new m rm)) := Lib.hid (two_new H1.out X1.out H2.out X2.out)
      clear H1 X1 H2 X2
      go_loopw [7, 9, 10] (fun dv xv iv wr => ∃ j : Nat, j ≤ L.length ∧ iv = .int .i64 (j : Int) ∧ ∃ bd bx, dv = .pointer (some ⟨bd, 0, none⟩) ∧ xv = .pointer (some ⟨bx, 0, none⟩) ∧ ∃ κd κx d, Hid (Two W wr bd bx κd κx d d) ∧ d.L.length ≤ j) (fun _ _ iv _ => L.length - (intOf iv).toNat)
      case atStart => exact ⟨0, Nat.zero_le _, rfl, _, _, rfl, rfl, _, _, _, K2, Nat.le_refl _⟩
      case round =>
        obtain ⟨j, hj, rfl, bd, bx, rfl, rfl, κd, κx, d, hk, hlen⟩ := hrel
        by_cases hlt : j < L.length
        · obtain ⟨x, hxj⟩ : ∃ x, L[j]? = some x := ⟨_, List.getElem?_eq_getElem hlt⟩
          have hmem := List.mem_of_getElem? hxj
          obtain ⟨a, rfl, _, hcl⟩ := HF.out.ext hk.out.ext j x hxj
          have k0 := hcl 0 _ rfl
          have k1 := six_at (k := 0) (hcl 1 _ rfl)
          have k2 := six_at (k := 1) (hcl 2 _ rfl)
          have k3 := six_at (k := 2) (hcl 3 _ rfl)
          have k4 := six_at (k := 3) (hcl 4 _ rfl)
          have k5 := six_at (k := 4) (hcl 5 _ rfl)
          rw [Nat.add_zero] at k0
          clear hcl hxj
          have hx0 : Ext wr (wr.alloc (.cells x.cells.toArray 32)) := (Ext.refl wr).alloc _
          have T0 := Lib.hid (hk.out.grow hx0)
          have B0 := Lib.hid (Blk.new wr x.cells 32)
          have hz : κx wr.heap.size = 0 := by
            by_cases q : κx wr.heap.size = 0
            · exact q
            · have := hk.out.x.ins _ q; omega
          have hz2 : κd wr.heap.size = 0 := by
            by_cases q : κd wr.heap.size = 0
            · exact q
            · have := hk.out.d.ins _ q; omega
          have hL6 : d.L.length ≤ 1000000 := by omega
          have hn63 := (HO.out x hmem).n.2
          have hby := (HO.out x hmem).by_
          have HOk := Lib.hid (HO.out x hmem)
          have hsz : x.s.size ≤ 1048576 := by have := HS.out x hmem; omega
          have HLen := Lib.hid (d.step_len x)
          obtain ⟨k, hxk⟩ : ∃ k, x.k = k := ⟨_, rfl⟩
          have hk8 : k < 8 := by rw [← hxk]; exact x.k_lt
          have hq : (x.d : Int) % 8 = (k : Int) := by rw [← hxk]; unfold Stp.k; omega
          have hq2 : (x.d : Int).tmod 8 = (k : Int) := by rw [Int.tmod_eq_emod_of_nonneg (by omega)]; exact hq
          clear hmem
          rcases (show k = 0 ∨ k = 1 ∨ k = 2 ∨ k = 3 ∨ k = 4 ∨ k = 5 ∨ k = 6 ∨ k = 7 by omega) with rfl | rfl | rfl | rfl | rfl | rfl | rfl | rfl
          · have hst : d.step x = d.write x.f x.s := by unfold DS.step; rw [hxk]; rfl
            obtain ⟨D, q, hDq⟩ : ∃ D q, d.write x.f x.s = (D, q) := ⟨_, _, rfl⟩
            have HR := Lib.hid (WriteX_any _ bx κx d T0.out.x hL6 x.f x.s)
            rw [hDq] at HR hst
            rw [hst] at HLen
            clear hxk hk8
            go_wp2_with (first
              | (go_at_call 8; refine (HR.out).mono ?_; rintro e w4 ⟨rfl, κ4, h4, f4⟩; have K4 := Lib.hid (T0.out.stepX2 h4 f4); have B4 := f4.blk B0.out (by rw [hz]; decide); have HB4 := Lib.hid B4; obtain ⟨b0, b1, b2, b3, b4, b5⟩ := B4.six; have HDo := Lib.hid (Does_any w4 bd κd d K4.out.d x HOk.out hsz hL6); rw [hst] at HDo; clear h4 f4)
              | (go_at_call 15; refine (HDo.out).mono ?_; rintro e w5 ⟨rfl, κ5, h5, f5⟩; have K5 := Lib.hid (K4.out.stepD h5 f5); obtain ⟨e0, e1, e2, e3, e4, e5⟩ := (f5.blk HB4.out (by rw [hz2]; decide)).six; clear h5 f5)
              | (go_at_call 20; refine (same_any _ bd bx κ5 κ4 _ K5.out.d K5.out.x (by have := HLen.out; omega)).mono ?_; rintro e w6 ⟨rfl, x6⟩; have K6 := Lib.hid (K5.out.grow x6); clear x6))
            go_roundw
            case rel => exact ⟨j + 1, hlt, by go_num, bd, bx, rfl, rfl, κ5, κ4, _, K6, by have := HLen.out; omega⟩
            case measure => simp [intOf]; omega
          · have hst : d.step x = d.cutF x.f x.n := by unfold DS.step; rw [hxk]; rfl
            obtain ⟨D, q, hDq⟩ : ∃ D q, d.cutF x.f x.n = (D, q) := ⟨_, _, rfl⟩
            have HR := Lib.hid (CutX_any _ bx κx d T0.out.x hL6 x.f x.n)
            rw [hDq] at HR hst
            rw [hst] at HLen
            clear hxk hk8
            go_wp2_with (first
              | (go_at_call 9; refine (HR.out).mono ?_; rintro e w4 ⟨rfl, κ4, h4, f4⟩; have K4 := Lib.hid (T0.out.stepX2 h4 f4); have B4 := f4.blk B0.out (by rw [hz]; decide); have HB4 := Lib.hid B4; obtain ⟨b0, b1, b2, b3, b4, b5⟩ := B4.six; have HDo := Lib.hid (Does_any w4 bd κd d K4.out.d x HOk.out hsz hL6); rw [hst] at HDo; clear h4 f4)
              | (go_at_call 15; refine (HDo.out).mono ?_; rintro e w5 ⟨rfl, κ5, h5, f5⟩; have K5 := Lib.hid (K4.out.stepD h5 f5); obtain ⟨e0, e1, e2, e3, e4, e5⟩ := (f5.blk HB4.out (by rw [hz2]; decide)).six; clear h5 f5)
              | (go_at_call 20; refine (same_any _ bd bx κ5 κ4 _ K5.out.d K5.out.x (by have := HLen.out; omega)).mono ?_; rintro e w6 ⟨rfl, x6⟩; have K6 := Lib.hid (K5.out.grow x6); clear x6))
            go_roundw
            case rel => exact ⟨j + 1, hlt, by go_num, bd, bx, rfl, rfl, κ5, κ4, _, K6, by have := HLen.out; omega⟩
            case measure => simp [intOf]; omega
          · have hst : d.step x = d.sync := by unfold DS.step; rw [hxk]; rfl
            obtain ⟨D, q, hDq⟩ : ∃ D q, d.sync = (D, q) := ⟨_, _, rfl⟩
            have HR := Lib.hid (SyncX_any _ bx κx d T0.out.x hL6)
            rw [hDq] at HR hst
            rw [hst] at HLen
            clear hxk hk8
            go_wp2_with (first
              | (go_at_call 10; refine (HR.out).mono ?_; rintro e w4 ⟨rfl, κ4, h4, f4⟩; have K4 := Lib.hid (T0.out.stepX2 h4 f4); have B4 := f4.blk B0.out (by rw [hz]; decide); have HB4 := Lib.hid B4; obtain ⟨b0, b1, b2, b3, b4, b5⟩ := B4.six; have HDo := Lib.hid (Does_any w4 bd κd d K4.out.d x HOk.out hsz hL6); rw [hst] at HDo; clear h4 f4)
              | (go_at_call 15; refine (HDo.out).mono ?_; rintro e w5 ⟨rfl, κ5, h5, f5⟩; have K5 := Lib.hid (K4.out.stepD h5 f5); obtain ⟨e0, e1, e2, e3, e4, e5⟩ := (f5.blk HB4.out (by rw [hz2]; decide)).six; clear h5 f5)
              | (go_at_call 20; refine (same_any _ bd bx κ5 κ4 _ K5.out.d K5.out.x (by have := HLen.out; omega)).mono ?_; rintro e w6 ⟨rfl, x6⟩; have K6 := Lib.hid (K5.out.grow x6); clear x6))
            go_roundw
            case rel => exact ⟨j + 1, hlt, by go_num, bd, bx, rfl, rfl, κ5, κ4, _, K6, by have := HLen.out; omega⟩
            case measure => simp [intOf]; omega
          · have hst : d.step x = (d.fused x.n, 0) := by unfold DS.step; rw [hxk]; rfl
            have HR := Lib.hid (FuseX_any _ bx κx d T0.out.x x.n hn63)
            rw [hst] at HLen
            clear hxk hk8
            go_wp2_with (first
              | (go_at_call 11; refine (HR.out).mono ?_; rintro e w4 ⟨rfl, κ4, h4, f4⟩; have K4 := Lib.hid (T0.out.stepX2 h4 f4); have B4 := f4.blk B0.out (by rw [hz]; decide); have HB4 := Lib.hid B4; obtain ⟨b0, b1, b2, b3, b4, b5⟩ := B4.six; have HDo := Lib.hid (Does_any w4 bd κd d K4.out.d x HOk.out hsz hL6); rw [hst] at HDo; clear h4 f4)
              | (go_at_call 15; refine (HDo.out).mono ?_; rintro e w5 ⟨rfl, κ5, h5, f5⟩; have K5 := Lib.hid (K4.out.stepD h5 f5); obtain ⟨e0, e1, e2, e3, e4, e5⟩ := (f5.blk HB4.out (by rw [hz2]; decide)).six; clear h5 f5)
              | (go_at_call 20; refine (same_any _ bd bx κ5 κ4 _ K5.out.d K5.out.x (by have := HLen.out; omega)).mono ?_; rintro e w6 ⟨rfl, x6⟩; have K6 := Lib.hid (K5.out.grow x6); clear x6))
            go_roundw
            case rel => exact ⟨j + 1, hlt, by go_num, bd, bx, rfl, rfl, κ5, κ4, _, K6, by have := HLen.out; omega⟩
            case measure => simp [intOf]; omega
          · have hst : d.step x = (d.crash x.n x.m, 0) := by unfold DS.step; rw [hxk]; rfl
            have HR := Lib.hid (CrashX_any _ bx κx d T0.out.x hL6 x.n x.m)
            rw [hst] at HLen
            clear hxk hk8
            go_wp2_with (first
              | (go_at_call 12; refine (HR.out).mono ?_; rintro e w4 ⟨rfl, κ4, h4, f4⟩; have K4 := Lib.hid (T0.out.stepX2 h4 f4); have B4 := f4.blk B0.out (by rw [hz]; decide); have HB4 := Lib.hid B4; obtain ⟨b0, b1, b2, b3, b4, b5⟩ := B4.six; have HDo := Lib.hid (Does_any w4 bd κd d K4.out.d x HOk.out hsz hL6); rw [hst] at HDo; clear h4 f4)
              | (go_at_call 15; refine (HDo.out).mono ?_; rintro e w5 ⟨rfl, κ5, h5, f5⟩; have K5 := Lib.hid (K4.out.stepD h5 f5); obtain ⟨e0, e1, e2, e3, e4, e5⟩ := (f5.blk HB4.out (by rw [hz2]; decide)).six; clear h5 f5)
              | (go_at_call 20; refine (same_any _ bd bx κ5 κ4 _ K5.out.d K5.out.x (by have := HLen.out; omega)).mono ?_; rintro e w6 ⟨rfl, x6⟩; have K6 := Lib.hid (K5.out.grow x6); clear x6))
            go_roundw
            case rel => exact ⟨j + 1, hlt, by go_num, bd, bx, rfl, rfl, κ5, κ4, _, K6, by have := HLen.out; omega⟩
            case measure => simp [intOf]; omega
          · have hst : d.step x = d.spoil x.f x.n x.by_ := by unfold DS.step; rw [hxk]; rfl
            obtain ⟨D, q, hDq⟩ : ∃ D q, d.spoil x.f x.n x.by_ = (D, q) := ⟨_, _, rfl⟩
            have HR := Lib.hid (SpoilX_any _ bx κx d T0.out.x hL6 x.f x.n x.by_ hby)
            rw [hDq] at HR hst
            rw [hst] at HLen
            clear hxk hk8
            go_wp2_with (first
              | (go_at_call 13; refine (HR.out).mono ?_; rintro e w4 ⟨rfl, κ4, h4, f4⟩; have K4 := Lib.hid (T0.out.stepX2 h4 f4); have B4 := f4.blk B0.out (by rw [hz]; decide); have HB4 := Lib.hid B4; obtain ⟨b0, b1, b2, b3, b4, b5⟩ := B4.six; have HDo := Lib.hid (Does_any w4 bd κd d K4.out.d x HOk.out hsz hL6); rw [hst] at HDo; clear h4 f4)
              | (go_at_call 15; refine (HDo.out).mono ?_; rintro e w5 ⟨rfl, κ5, h5, f5⟩; have K5 := Lib.hid (K4.out.stepD h5 f5); obtain ⟨e0, e1, e2, e3, e4, e5⟩ := (f5.blk HB4.out (by rw [hz2]; decide)).six; clear h5 f5)
              | (go_at_call 20; refine (same_any _ bd bx κ5 κ4 _ K5.out.d K5.out.x (by have := HLen.out; omega)).mono ?_; rintro e w6 ⟨rfl, x6⟩; have K6 := Lib.hid (K5.out.grow x6); clear x6))
            go_roundw
            case rel => exact ⟨j + 1, hlt, by go_num, bd, bx, rfl, rfl, κ5, κ4, _, K6, by have := HLen.out; omega⟩
            case measure => simp [intOf]; omega
          · obtain ⟨t, q, hr⟩ : ∃ t q, d.read x.f = (t, q) := ⟨_, _, rfl⟩
            have hst : d.step x = (d, (d.read x.f).2) := by unfold DS.step; rw [hxk]; rfl
            have HR := Lib.hid (ReadX_any _ bx κx d T0.out.x hL6 x.f)
            rw [hr] at HR hst
            rw [hst] at HLen
            clear hxk hk8
            go_wp2_with (first
              | (go_at_call 14; refine (HR.out).mono ?_; rintro e w4 ⟨rfl, x4⟩; have K4 := Lib.hid (T0.out.grow x4); have B4 := B0.out.ext x4; have HB4 := Lib.hid B4; obtain ⟨b0, b1, b2, b3, b4, b5⟩ := B4.six; have HDo := Lib.hid (Does_any w4 bd κd d K4.out.d x HOk.out hsz hL6); rw [hst] at HDo; clear x4)
              | (go_at_call 15; refine (HDo.out).mono ?_; rintro e w5 ⟨rfl, κ5, h5, f5⟩; have K5 := Lib.hid (K4.out.stepD h5 f5); obtain ⟨e0, e1, e2, e3, e4, e5⟩ := (f5.blk HB4.out (by rw [hz2]; decide)).six; clear h5 f5)
              | (go_at_call 20; refine (same_any _ bd bx κ5 κx _ K5.out.d K5.out.x hL6).mono ?_; rintro e w6 ⟨rfl, x6⟩; have K6 := Lib.hid (K5.out.grow x6); clear x6))
            go_roundw
            case rel => exact ⟨j + 1, hlt, by go_num, bd, bx, rfl, rfl, κ5, κx, _, K6, by have := HLen.out; omega⟩
            case measure => simp [intOf]; omega
          · have hst : d.step x = (d, 0) := by unfold DS.step; rw [hxk]; rfl
            have HDo := Lib.hid (Does_any _ bd κd d T0.out.d x HOk.out hsz hL6)
            rw [hst] at HDo
            have HWl : Hid (∀ s, (d.write 0 s).1.L.length ≤ 1000000) := Lib.hid (fun s => by
              have h : (d.write 0 s).1.L.length ≤ d.L.length + 1 := d.step_len ⟨0, 0, 0, 0, s, 0⟩
              omega)
            clear hxk hk8 HLen
            go_wp2_with (first
              | (go_at_call 15; refine (HDo.out).mono ?_; rintro e w5 ⟨rfl, κ5, h5, f5⟩; have K5 := Lib.hid (T0.out.stepD h5 f5); have B5 := f5.blk B0.out (by rw [hz2]; decide); have hz5 := (f5.foot _ B0.out.lt).trans hz2; have HB5 := Lib.hid B5; obtain ⟨e0, e1, e2, e3, e4, e5⟩ := B5.six; clear h5 f5)
              | (go_at_call 16; refine (Copy_any _ bd κ5 d K5.out.d hL6).mono ?_; rintro e w6 ⟨c, rfl, κ6, h6, f6, hcz⟩; clear hcz; have Q6 := Lib.hid (K5.out.copy h6 f6); have B6 := HB5.out.ext f6.toExt; have HB6 := Lib.hid B6; clear h6 f6 B6)
              | (go_at_call 17; refine (Write_any _ bd κ5 d Q6.out.o 0 _ (by decide) hL6).mono ?_; rintro e w7 ⟨rfl, κ7, h7, f7⟩; have Q7 := Lib.hid (Q6.out.old h7 f7); have B7 := f7.blk HB6.out (by rw [hz5]; decide); obtain ⟨g0, g1, g2, g3, g4, g5⟩ := B7.six; clear h7 f7 B7)
              | (go_at_call 18; refine (Crash_any _ bd κ7 _ Q7.out.o x.n x.m (HWl.out _)).mono ?_; rintro e w8 ⟨rfl, κ8, h8, f8⟩; have Q8 := Lib.hid (Q7.out.old h8 f8); clear h8 f8)
              | (go_at_call 19; refine (CopyX_any _ bx κx d Q8.out.two.x hL6).mono ?_; rintro e w9 ⟨c2, rfl, κ9, h9, x9, hf9⟩; have K9 := Lib.hid (Q8.out.two.copyX h9 x9 hf9); clear h9 x9 hf9)
              | (go_at_call 20; refine (same_any _ c c2 κ6 κ9 d K9.out.d K9.out.x hL6).mono ?_; rintro e wA ⟨rfl, xA⟩; have KA := Lib.hid (K9.out.grow xA); clear xA))
            go_roundw
            case rel => exact ⟨j + 1, hlt, by go_num, c, c2, rfl, rfl, κ6, κ9, d, KA, by omega⟩
            case measure => simp [intOf]; omega
        · obtain rfl : j = L.length := by omega
          have HX := Lib.hid hk.out.ext
          go_wp2_with (go_at_call 5; refine (disk_alive _).mono ?_; rintro e w5 ⟨rfl, x5⟩)
          go_ret
          exact ⟨rfl, HX.out.trans x5⟩
end Go.Proofs.Ytgbhadgkkefokaa
