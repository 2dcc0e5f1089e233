/- The walk of layer 9's statement DiskOrder. -/
import Derived.Test.YtpjhkhelgeoneaaOrderP
import Derived.Test.YtpjhkhelgeoneaaDiskKeepsWalk
namespace Go.Proofs.Ytpjhkhelgeoneaa
open Go.RowKit
theorem six_of2 {w : World} {g h : Nat} {N : Fs} {a b c d : Nat} (x : TX3 w g N a b) (y : TX3 w h N c d) : Six w g h (N 0) (N 1) (N 2) := six_of x y
theorem ord_new {W w1 w2 : World} {d x : DS} (h1 : IsD w1 W.heap.size (setK (fun _ => 0) W.heap.size 2) d) (x1 : Ext W w1) (h2 : IsD w2 w1.heap.size (setK (fun _ => 0) w1.heap.size 2) x) (x2 : Ext w1 w2) :
    Ord W w2 W.heap.size w1.heap.size (setK (fun _ => 0) W.heap.size 2) (setK (fun _ => 0) w1.heap.size 2) (fun _ => 0) d x [] none 0 := by
  have hlt := h1.lt
  refine ⟨h1.ext x2, h2, Sl.nil _ _ _ _ _, fun g hg => absurd rfl hg, fun g => ?_, fun g => .inr rfl, fun g => .inr rfl, x1.trans x2, setK_young _ _, fun g hg => setK_other _ _ (by omega), fun _ _ => rfl⟩
  by_cases e : g = W.heap.size
  · right; rw [setK_other _ _ (by omega)]
  · left; rw [setK_other _ _ e]
set_option maxRecDepth 100000 in
set_option maxHeartbeats 8000000 in
theorem DiskOrder_walk (s0 : Option Addr) (c0 : Nat) (M : List Stp) (calls bytes : Int) (W : World) (f0 : StepsP W s0 M) (y0 : ∀ x, x ∈ M → x.Ok) (z0 : M.length ≤ 140737488355328)
    (zc : 0 ≤ calls ∧ calls ≤ 255) (zb : 0 ≤ bytes ∧ bytes ≤ 65535) :
    Calls Try.prog 5 #[.slice s0 M.length c0, .int .u8 calls, .int .u16 bytes] W fun e W' => e = .returned (.bool true) ∧ Ext W W' := by
  by_cases hh : HeavyS M
  · have HH := Lib.hid (heavyS_yes W s0 c0 M f0 y0 z0 hh)
    clear f0 y0 hh zc zb
    go_enter Try.func5, Try.ntmps5
    go_wp2_with (first
      | (go_at_call 8; refine (HH.out).mono ?_; rintro e w1 ⟨rfl, rfl⟩)
      | (go_at_call 9; refine (disk_alive _).mono ?_; rintro e w1 ⟨rfl, x1⟩))
    go_ret
    exact ⟨rfl, x1⟩
  · have HH := Lib.hid (heavyS_no W s0 c0 M f0 y0 z0 hh)
    have hnh := not_heavyS hh
    have hl100 := hnh.1
    have HS := Lib.hid hnh.2
    have HF := Lib.hid f0
    have HNew := Lib.hid (fun u => New_yes u 3 16384 (by decide) (by decide) (by decide))
    have hw1 : IntKind.i64.wrap calls = calls := IntWalk.i64_in _ ⟨by omega, by omega⟩
    have hw2 : IntKind.i64.wrap bytes = bytes := IntWalk.i64_in _ ⟨by omega, by omega⟩
    obtain ⟨hc0, hc1⟩ := zc
    obtain ⟨hb0, hb1⟩ := zb
    clear f0 y0 hh hnh z0
    go_enter Try.func5, Try.ntmps5
    go_wp2_with (first
      | (go_at_call 8; refine (HH.out).mono ?_; rintro e w1 ⟨rfl, rfl⟩)
      | (go_at_call 10; refine (HNew.out W).mono ?_; rintro e w1 ⟨rfl, h1, x1⟩; have H1 := Lib.hid h1; have X1 := Lib.hid x1; clear h1 x1)
      | (go_at_call 10; refine (HNew.out w1).mono ?_; rintro e w2 ⟨rfl, h2, x2⟩; have K2 : Hid (Ord W w2 W.heap.size w1.heap.size (setK (fun _ => 0) W.heap.size 2) (setK (fun _ => 0) w1.heap.size 2) (fun _ => 0) (DS.new 3 16384) (DS.new 3 16384) [] none 0) := Lib.hid (ord_new H1.out X1.out h2 x2); clear h2 x2))
    go_loopw [11, 12] (fun lv iv wr => ∃ j : Nat, j ≤ M.length ∧ iv = .int .i64 (j : Int) ∧ ∃ (T : List Stp) (p : Option Addr) (c : Nat), lv = .slice p T.length c ∧ ∃ d κd κx κl, Hid (Ord W wr W.heap.size w1.heap.size κd κx κl d (DS.new 3 16384) T p c ∧ Took d T 16384 ∧ T.length ≤ j ∧ ∀ x ∈ T, x ∈ M)) (fun _ iv _ => M.length - (intOf iv).toNat)
    case atStart => exact ⟨0, Nat.zero_le _, rfl, [], none, 0, rfl, _, _, _, _, Lib.hid ⟨K2.out, Took.new _, Nat.le_refl _, fun x hx => (by cases hx)⟩⟩
    case round =>
      obtain ⟨j, hj, rfl, T, p, c, rfl, d, κd, κx, κl, hk⟩ := hrel
      by_cases hlt : j < M.length
      · obtain ⟨x, hxj⟩ : ∃ x, M[j]? = some x := ⟨_, List.getElem?_eq_getElem hlt⟩
        have hmem := List.mem_of_getElem? hxj
        obtain ⟨a, rfl, _, hcl⟩ := HF.out j x hxj
        have HCl : Hid (∀ u, Ext W u → u.cell? (a.add (j * 6)) = some (.int .u8 (x.d : Int)) ∧ u.cell? ⟨(a.add (j * 6)).block, (a.add (j * 6)).off + 1, none⟩ = some (.int .i64 x.f) ∧ u.cell? ⟨(a.add (j * 6)).block, (a.add (j * 6)).off + 2, none⟩ = some (.int .i64 x.n) ∧ u.cell? ⟨(a.add (j * 6)).block, (a.add (j * 6)).off + 3, none⟩ = some (.int .i64 x.m) ∧ u.cell? ⟨(a.add (j * 6)).block, (a.add (j * 6)).off + 4, none⟩ = some (.string x.s) ∧ u.cell? ⟨(a.add (j * 6)).block, (a.add (j * 6)).off + 5, none⟩ = some (.int .u8 (x.by_ : Int))) := Lib.hid (fun u hu =>
          ⟨cell_ext hu (by have := hcl 0 _ rfl; rwa [Nat.add_zero] at this), cell_ext hu (six_at (k := 0) (hcl 1 _ rfl)), cell_ext hu (six_at (k := 1) (hcl 2 _ rfl)), cell_ext hu (six_at (k := 2) (hcl 3 _ rfl)), cell_ext hu (six_at (k := 3) (hcl 4 _ rfl)), cell_ext hu (six_at (k := 4) (hcl 5 _ rfl))⟩)
        obtain ⟨k0, k1, k2, k3, k4, k5⟩ := HCl.out wr hk.out.1.ext
        have hdr : Ext wr wr.drew := (Ext.refl wr).drew
        have HWr := Lib.hid (Write_any wr.drew W.heap.size κd d (hk.out.1.d.ext hdr) x.f x.s (by have := HS.out x hmem; omega) (by have := hk.out.2.1.L; have := congrArg List.length this; rw [List.length_map] at this; have := hk.out.2.2.1; omega))
        have HDr := Lib.hid (hk.out.1.grow hdr)
        have HMem := Lib.hid hmem
        have HTk := Lib.hid (hk.out.2.1.write x)
        obtain ⟨q, hq⟩ : ∃ q, (d.write x.f x.s).2 = q := ⟨_, rfl⟩
        rw [hq] at HWr HTk
        clear hcl hxj hmem hdr hq k0 k2 k3 k5
        rcases HTk.out with ⟨hq, hsame⟩ | ⟨hq, htook⟩
        · have hq0 : (q == 0) = false := by simpa using hq
          have HSame := Lib.hid hsame
          clear hq hsame HTk
          go_wp2_with fail
          go_still_tail 11, (by kernel_rfl)
          change wpList _ _ _ _ _ wr.drew
          generalize wr.drew = w5 at HWr HDr ⊢
          go_wp2_with (go_at_call 21; refine (HWr.out).mono ?_; rintro e w6 ⟨rfl, κ6, h6, f6⟩; have K6 := Lib.hid (HDr.out.stepD h6 f6); clear h6 f6)
          go_roundw
          case rel => exact ⟨j + 1, hlt, by go_num, T, p, c, rfl, d, κ6, κx, κl, Lib.hid ⟨by have := K6.out; rwa [HSame.out] at this, hk.out.2.1, by have := hk.out.2.2.1; omega, hk.out.2.2.2⟩⟩
          case measure => simp [intOf]; omega
        · subst hq
          have HTook := Lib.hid htook
          clear htook HTk
          go_wp2_with fail
          go_still_tail 11, (by kernel_rfl)
          change wpList _ _ _ _ _ wr.drew
          generalize wr.drew = w5 at HWr HDr ⊢
          go_wp2_with (first
            | (go_at_call 21; refine (HWr.out).mono ?_; rintro e w6 ⟨rfl, κ6, h6, f6⟩; have K6 := Lib.hid (HDr.out.stepD h6 f6); clear h6 f6; obtain ⟨m0, m1, m2, m3, m4, m5⟩ := HCl.out w6 K6.out.ext)
            | (refine wpList_append_sl rfl (.tmp 62) (.tmp 67) 22 22 rfl Try.underlying22 infoSt rfl (by decide) rfl (K6.out.l.ext ((Ext.refl _).alloc _)) (stpsV_one _) _ rfl 1 x.cells ((Sl.ofBlk (κ := fun _ => 0) (z := 6) (Blk.new _ x.cells 32) rfl rfl).src Try.underlying22 (stps_one x)) (by have := hk.out.2.2.1; omega) ?_; intro p2 c2 w7 κ7 s7 f7 _ _ _; have f8 := (Fr.alloc (Fr.refl κl (· = 5) w6) (.cells x.cells.toArray 32)).trans f7; rw [← stpsV_snoc, show T.length + 1 = (T ++ [x]).length from by simp] at s7; have K7 := Lib.hid (K6.out.stepL f8 s7); clear s7 f7 f8))
          go_roundw
          case rel => exact ⟨j + 1, hlt, by go_num, T ++ [x], p2, c2, by rw [List.length_append]; rfl, _, κ6, κx, _, Lib.hid ⟨K7.out, HTook.out, by have := hk.out.2.2.1; simp; omega, fun y hy => by
              rcases List.mem_append.1 hy with h1 | h1
              · exact hk.out.2.2.2 y h1
              · simp at h1; subst h1; exact HMem.out⟩⟩
          case measure => simp [intOf]; omega
      · obtain rfl : j = M.length := by omega
        obtain ⟨K, hT, hTl, hTm⟩ := hk.out
        have HK := Lib.hid K; have HTk := Lib.hid hT
        have HTm := Lib.hid hTm
        have hdl : d.L.length = T.length := by rw [hT.L, List.length_map]
        have HDl := Lib.hid hdl
        clear hk K hT hTm hdl HNew H1 X1 K2
        go_wp2
        go_loopw [14] (fun iv wr => ∃ i : Nat, i ≤ T.length ∧ iv = .int .i64 (i : Int) ∧ (i : Int) ≤ calls + 1 ∧ ∃ x κx', Hid (Ord W wr W.heap.size w1.heap.size κd κx' κl d x T p c ∧ Half x d calls bytes i 16384)) (fun iv _ => T.length - (intOf iv).toNat)
        case atStart => exact ⟨0, Nat.zero_le _, rfl, by omega, _, κx, Lib.hid ⟨HK.out, Half.new d HTk.out.S calls bytes 16384⟩⟩
        case round =>
          obtain ⟨i, hi, rfl, hic, x, κx', hk2⟩ := hrel
          by_cases hgo : i < T.length ∧ (i : Int) ≤ calls
          · obtain ⟨hlt2, hle2⟩ := hgo
            obtain ⟨y, hy⟩ : ∃ y, T[i]? = some y := ⟨_, List.getElem?_eq_getElem hlt2⟩
            have hyS := HS.out y (HTm.out y (List.mem_of_getElem? hy))
            obtain ⟨g, hp, _, _, m1, _⟩ := hk2.out.1.l.cell (j := i * 6 + 1) (u := .int .i64 y.f) ((stpsV_at T i 1 y hy (by decide)).trans rfl)
            obtain ⟨g', hp', _, _, m4, _⟩ := hk2.out.1.l.cell (j := i * 6 + 4) (u := .string y.s) ((stpsV_at T i 4 y hy (by decide)).trans rfl)
            rw [hp] at hp'
            cases hp'
            subst hp
            have hxl := hk2.out.2.len
            by_cases hec : (i : Int) = calls
            · subst hec
              obtain ⟨k', hk'⟩ : ∃ k', min bytes.toNat y.s.size = k' := ⟨_, rfl⟩
              have hkz : k' ≤ y.s.size := by rw [← hk']; exact Nat.min_le_right _ _
              have hmin := fun ts t u => run_min2 ts t (y.s.size : Int) bytes (k' : Int) (by omega) u
              have hsl := fun u => slice_to y.s k' hkz u
              have hhw := hk2.out.2.write HTk.out y hy (Int.le_refl _) (y.s.extract 0 k') (.inr ⟨rfl, by rw [hk']⟩)
              have HHw := Lib.hid hhw
              have hWr := Write_any wr w1.heap.size κx' x hk2.out.1.x y.f (y.s.extract 0 k') (by rw [size_extract _ _ hkz]; omega) (by omega)
              rw [hhw.1] at hWr
              have HWr := Lib.hid hWr
              clear hhw hWr hy hk' hyS hxl
              generalize y.s.extract 0 k' = Y at *
              go_wp2_with (go_at_call 21; refine (HWr.out).mono ?_; rintro e w6 ⟨rfl, κ6, h6, f6⟩; have K6 := Lib.hid (hk2.out.1.stepX h6 f6); clear h6 f6)
              go_roundw
              case rel => exact ⟨i + 1, hlt2, by go_num, by omega, _, κ6, Lib.hid ⟨K6.out, HHw.out.2⟩⟩
              case measure => simp [intOf]; omega
            · have hne : ((i : Int) == calls) = false := by simpa using hec
              have hhw := hk2.out.2.write HTk.out y hy hle2 y.s (.inl ⟨by omega, rfl⟩)
              have HHw := Lib.hid hhw
              have hWr := Write_any wr w1.heap.size κx' x hk2.out.1.x y.f y.s (by omega) (by omega)
              rw [hhw.1] at hWr
              have HWr := Lib.hid hWr
              clear hhw hWr hy hyS hxl
              go_wp2_with (go_at_call 21; refine (HWr.out).mono ?_; rintro e w6 ⟨rfl, κ6, h6, f6⟩; have K6 := Lib.hid (hk2.out.1.stepX h6 f6); clear h6 f6)
              go_roundw
              case rel => exact ⟨i + 1, hlt2, by go_num, by omega, _, κ6, Lib.hid ⟨K6.out, HHw.out.2⟩⟩
              case measure => simp [intOf]; omega
          · have hdone := hk2.out.2.done hc0 (by rw [HDl.out]; exact hi) (by rw [HDl.out]; omega)
            have HDone := Lib.hid hdone
            have HLe : Hid (d.L.length ≤ 1000000) := Lib.hid (by rw [HDl.out]; omega)
            have HM8 : Hid ((d.crash calls bytes).m = 3) := Lib.hid HTk.out.m
            have HNz8 : Hid ((d.crash calls bytes).fuse ≠ 0) := Lib.hid (by show (-1 : Int) ≠ 0; decide)
            have HMx := Lib.hid hk2.out.2.m
            have HNzx : Hid (x.fuse ≠ 0) := Lib.hid (by rw [hk2.out.2.fuse]; decide)
            have HNow : Hid ((d.crash calls bytes).now = d.left_ calls bytes) := Lib.hid rfl
            clear hdone
            rcases (show i = T.length ∨ (i < T.length ∧ calls < (i : Int)) by omega) with rfl | ⟨hl3, hc3⟩
            all_goals
              go_wp2_with (first
                | (go_at_call 22; (with_reducible refine (Crash_any _ _ _ _ hk2.out.1.d calls bytes HLe.out).mono ?_); rintro e w8 ⟨rfl, κ8, h8, f8⟩; have K8 := Lib.hid (hk2.out.1.stepD h8 f8); clear h8 f8)
                | (go_at_call 27; (with_reducible refine (files3_any _ _ _ _ K8.out.d HM8.out HNz8.out).mono ?_); rintro e w9 ⟨g3, e3, rfl, t3, x9, _⟩; rw [HNow.out] at t3; have T3 := Lib.hid t3; have K9 := Lib.hid (K8.out.grow x9); clear t3 x9)
                | (go_at_call 27; (with_reducible refine (files3_any _ _ _ _ K9.out.x HMx.out HNzx.out).mono ?_); rintro e w10 ⟨g4, e4, rfl, t4, x10, _⟩; rw [HDone.out] at t4; have T4 := Lib.hid t4; have T39 := Lib.hid (T3.out.ext x10); have X10 := Lib.hid (K9.out.ext.trans x10); clear t4 x10))
              have hS := six_of T39.out T4.out
              have h30 := hS.drew
              obtain ⟨a0, a1, a2, b0, b1, b2⟩ := h30
              clear hS
              generalize d.left_ calls bytes 0 = t0 at *
              generalize d.left_ calls bytes 1 = t1 at *
              generalize d.left_ calls bytes 2 = t2 at *
              have HSix : Hid (Six w10.drew g3 g4 t0 t1 t2) := Lib.hid ⟨a0, a1, a2, b0, b1, b2⟩
              go_wp2_with fail
              go_region_held3 (fun u => u.cell? ⟨g3, 0, none⟩ = some (.string t0) ∧ u.cell? ⟨g3, 1, none⟩ = some (.string t1) ∧ u.cell? ⟨g3, 2, none⟩ = some (.string t2) ∧ u.cell? ⟨g4, 0, none⟩ = some (.string t0) ∧ u.cell? ⟨g4, 1, none⟩ = some (.string t1) ∧ u.cell? ⟨g4, 2, none⟩ = some (.string t2)) (first | exact ⟨a0, a1, a2, b0, b1, b2⟩ | exact hs11 | assumption | go_keep) (first
                | (go_at_call 9; refine (disk_alive _).mono ?_; rintro e w11 ⟨rfl, x11⟩; have hs11 := HSix.out.ext x11; have X11 := Lib.hid x11; clear x11))
              go_wp2
              go_ret
              exact ⟨rfl, (X10.out.drew).trans X11.out⟩
end Go.Proofs.Ytpjhkhelgeoneaa
