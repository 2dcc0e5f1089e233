/- The walk of layer 9's statement DiskStill. -/
import Derived.Test.YtpjhkhelgeoneaaDoes
import Derived.Test.YtpjhkhelgeoneaaAlive
namespace Go.Proofs.Ytpjhkhelgeoneaa
open Go.RowKit
/-- A step that writes, cuts or syncs burns one off a fuse; it is told that the disk stands still just if there is none left. -/
theorem DS.step_fuse (d : DS) (x : Stp) (hk : x.k ≤ 2) (h0 : 0 ≤ d.fuse) : (d.step x).1.fuse = max (d.fuse - 1) 0 ∧ ((d.step x).2 = 90 ↔ d.fuse = 0) ∧ (d.step x).1.m = d.m ∧ (d.step x).1.L.length ≤ d.L.length + 1 := by
  have hb : d.fuse ≠ 0 → d.burnt.fuse = max (d.fuse - 1) 0 := fun h => by unfold DS.burnt; simp only; rw [if_pos (by omega)]; omega
  unfold DS.step
  rcases (show x.k = 0 ∨ x.k = 1 ∨ x.k = 2 by omega) with h | h | h
  all_goals rw [h]
  · show (d.write x.f x.s).1.fuse = _ ∧ ((d.write x.f x.s).2 = 90 ↔ _) ∧ (d.write x.f x.s).1.m = _ ∧ (d.write x.f x.s).1.L.length ≤ _
    unfold DS.write
    by_cases hf : d.fuse = 0
    · rw [if_pos hf]; exact ⟨by show d.fuse = _; omega, by simp [hf], rfl, by show d.L.length ≤ _; omega⟩
    · rw [if_neg hf]
      split
      · exact ⟨hb hf, by simp [hf], rfl, by show d.L.length ≤ _; omega⟩
      split
      · exact ⟨hb hf, by simp [hf], rfl, by show d.L.length ≤ _; omega⟩
      · exact ⟨hb hf, by simp [hf], rfl, by show (d.L ++ [_]).length ≤ _; simp⟩
  · show (d.cutF x.f x.n).1.fuse = _ ∧ ((d.cutF x.f x.n).2 = 90 ↔ _) ∧ (d.cutF x.f x.n).1.m = _ ∧ (d.cutF x.f x.n).1.L.length ≤ _
    unfold DS.cutF
    by_cases hf : d.fuse = 0
    · rw [if_pos hf]; exact ⟨by show d.fuse = _; omega, by simp [hf], rfl, by show d.L.length ≤ _; omega⟩
    · rw [if_neg hf]
      split
      · exact ⟨hb hf, by simp [hf], rfl, by show d.L.length ≤ _; omega⟩
      split
      · exact ⟨hb hf, by simp [hf], rfl, by show d.L.length ≤ _; omega⟩
      · exact ⟨hb hf, by simp [hf], rfl, by show (d.L ++ [_]).length ≤ _; simp⟩
  · show d.sync.1.fuse = _ ∧ (d.sync.2 = 90 ↔ _) ∧ d.sync.1.m = _ ∧ d.sync.1.L.length ≤ _
    unfold DS.sync
    by_cases hf : d.fuse = 0
    · rw [if_pos hf]; exact ⟨by show d.fuse = _; omega, by simp [hf], rfl, by show d.L.length ≤ _; omega⟩
    · rw [if_neg hf]
      exact ⟨hb hf, by simp [hf], rfl, by show ([] : List Chg).length ≤ _; simp⟩
theorem fused_read (d : DS) (hm : d.m = 2) (n : Int) (hn : n < 0) : ∃ t, (d.fused n).read 0 = (t, 0) := by
  unfold DS.read
  have hf : (d.fused n).fuse = -1 := by show max n (-1) = -1; omega
  rw [if_neg (by rw [hf]; decide), if_neg (fun q => q ⟨Int.le_refl _, by show (0 : Int) < (d.m : Int); omega⟩)]
  exact ⟨_, rfl⟩
set_option maxRecDepth 100000 in
set_option maxHeartbeats 4000000 in
theorem DiskStill_walk (s0 : Option Addr) (c0 : Nat) (L : List Stp) (F : Int) (W : World) (f0 : StepsP W s0 L) (y0 : ∀ x, x ∈ L → x.Ok) (z0 : L.length ≤ 140737488355328) (zF : 0 ≤ F ∧ F ≤ 255) :
    Calls Try.prog 6 #[.slice s0 L.length c0, .int .u8 F] W fun e W' => e = .returned (.bool true) ∧ Ext W W' := by
  by_cases hh : HeavyS L
  · have HH := Lib.hid (heavyS_yes W s0 c0 L f0 y0 z0 hh)
    clear f0 y0 hh
    go_enter Try.func6, Try.ntmps6
    go_wp2_with (first
      | (go_at_call 8; refine (HH.out).mono ?_; rintro e w1 ⟨rfl, rfl⟩)
      | (go_at_call 9; refine (disk_alive _).mono ?_; rintro e w1 ⟨rfl, x1⟩))
    go_ret
    exact ⟨rfl, x1⟩
  · have HH := Lib.hid (heavyS_no W s0 c0 L f0 y0 z0 hh)
    have HF := Lib.hid f0
    have hnh := not_heavyS hh
    have hl100 := hnh.1
    have HS := Lib.hid hnh.2
    have HO := Lib.hid y0
    have hw8 : IntKind.i64.wrap F = F := IntWalk.i64_in _ ⟨by omega, by omega⟩
    obtain ⟨hF0, hF1⟩ := zF
    have HNew := Lib.hid (New_yes W 2 1024 (by decide) (by decide) (by decide))
    clear f0 y0 hh hnh z0
    go_enter Try.func6, Try.ntmps6
    go_wp2_with (first
      | (go_at_call 8; refine (HH.out).mono ?_; rintro e w1 ⟨rfl, rfl⟩)
      | (go_at_call 10; refine (HNew.out).mono ?_; rintro e w1 ⟨rfl, h1, x1⟩; have H1 := Lib.hid h1; have X1 := Lib.hid (And.intro x1 (setK_young W.heap.size 2)); clear h1 x1)
      | (go_at_call 25; refine (Fuse_any _ _ _ _ H1.out F (by omega)).mono ?_; rintro e w2 ⟨rfl, κ2, h2, f2⟩; have H2 := Lib.hid h2; have X2 := Lib.hid (f2.young X1.out.1 X1.out.2); clear h2 f2))
    go_loopw [7, 8] (fun nv iv wr => ∃ j : Nat, j ≤ L.length ∧ iv = .int .i64 (j : Int) ∧ ∃ n : Nat, nv = .int .i64 (n : Int) ∧ n ≤ j ∧ ∃ d κ, Hid (IsD wr W.heap.size κ d) ∧ d.m = 2 ∧ d.fuse = max (F - (n : Int)) 0 ∧ d.L.length ≤ j ∧ Hid (Ext W wr ∧ ∀ g, g < W.heap.size → κ g = 0)) (fun _ iv _ => L.length - (intOf iv).toNat)
    case atStart => exact ⟨0, Nat.zero_le _, rfl, 0, rfl, Nat.le_refl _, _, κ2, H2, rfl, by show max F (-1) = _; omega, Nat.le_refl _, X2⟩
    case round =>
      obtain ⟨j, hj, rfl, n, rfl, hnj, d, κ, hd, hm, hfu, hlen, hx⟩ := hrel
      have HFu := Lib.hid hfu
      have HM := Lib.hid hm
      have HLn := Lib.hid hlen
      by_cases hlt : j < L.length
      · obtain ⟨x, hxj⟩ : ∃ x, L[j]? = some x := ⟨_, List.getElem?_eq_getElem hlt⟩
        have hmem := List.mem_of_getElem? hxj
        obtain ⟨a, rfl, _, hcl⟩ := HF.out.ext hx.out.1 j x hxj
        have k0 := hcl 0 _ rfl
        have k1 := six_at (k := 0) (hcl 1 _ rfl)
        have k2 := six_at (k := 1) (hcl 2 _ rfl)
        have k3 := six_at (k := 2) (hcl 3 _ rfl)
        have k4 := six_at (k := 3) (hcl 4 _ rfl)
        have k5 := six_at (k := 4) (hcl 5 _ rfl)
        rw [Nat.add_zero] at k0
        have HD := Lib.hid (Does_any wr W.heap.size κ d hd.out x (HO.out x hmem) (by have := HS.out x hmem; omega) (by omega))
        clear hcl hxj hmem hlen hm
        by_cases h2 : x.k ≤ 2
        · have hq : ¬ (2 : Int) < (x.d : Int) % 8 := by unfold Stp.k at h2; omega
          have hq2 : ¬ (2 : Int) < (x.d : Int).tmod 8 := by rw [Int.tmod_eq_emod_of_nonneg (by omega)]; exact hq
          have HSt := Lib.hid (d.step_fuse x h2 (by rw [hfu]; omega))
          have hcode := HSt.out.2.1
          obtain ⟨q, hqq⟩ : ∃ q, (d.step x).2 = q := ⟨_, rfl⟩
          rw [hqq] at HD hcode
          have hwn : IntKind.i64.wrap ((n : Int) + 1) = (n : Int) + 1 := IntWalk.i64_in _ ⟨by omega, by omega⟩
          clear h2 hqq
          by_cases hFn : F ≤ (n : Int)
          · have : q = 90 := hcode.2 (by omega)
            subst this
            clear hcode hfu
            go_wp2_with (go_at_call 19; refine (HD.out).mono ?_; rintro e w2 ⟨rfl, κ3, h3, f3⟩; have H3 := Lib.hid h3; have X3 := Lib.hid (f3.young hx.out.1 hx.out.2); clear h3 f3)
            go_roundw
            case rel =>
              refine ⟨j + 1, hlt, by go_num, n + 1, by go_num, by omega, _, κ3, H3, HSt.out.2.2.1.trans HM.out, ?_, ?_, X3⟩
              · rw [HSt.out.1, HFu.out]; omega
              · have := HSt.out.2.2.2; have := HLn.out; omega
            case measure => simp [intOf]; omega
          · have hq90 : (q == 90) = false := by rw [beq_eq_false_iff_ne]; intro hq9; have := hcode.1 hq9; omega
            clear hcode hfu
            go_wp2_with (go_at_call 19; refine (HD.out).mono ?_; rintro e w2 ⟨rfl, κ3, h3, f3⟩; have H3 := Lib.hid h3; have X3 := Lib.hid (f3.young hx.out.1 hx.out.2); clear h3 f3)
            go_roundw
            case rel =>
              refine ⟨j + 1, hlt, by go_num, n + 1, by go_num, by omega, _, κ3, H3, HSt.out.2.2.1.trans HM.out, ?_, ?_, X3⟩
              · rw [HSt.out.1, HFu.out]; omega
              · have := HSt.out.2.2.2; have := HLn.out; omega
            case measure => simp [intOf]; omega
        · have hq : (2 : Int) < (x.d : Int) % 8 := by unfold Stp.k at h2; omega
          have hq2 : (2 : Int) < (x.d : Int).tmod 8 := by rw [Int.tmod_eq_emod_of_nonneg (by omega)]; exact hq
          clear h2 HD hfu
          go_wp2
          go_roundw
          case rel => exact ⟨j + 1, hlt, by go_num, n, rfl, by omega, d, κ, hd, HM.out, HFu.out, by have := HLn.out; omega, hx⟩
          case measure => simp [intOf]; omega
      · obtain rfl : j = L.length := by omega
        have HRd := Lib.hid (Read_any wr W.heap.size κ d hd.out 0)
        have HRm := Lib.hid (Room_any wr W.heap.size κ d hd.out)
        have HLo := Lib.hid (Loose_any wr W.heap.size κ d hd.out)
        obtain ⟨t, ht⟩ := fused_read d hm (-1) (by decide)
        have HT := Lib.hid ht
        have HIsF : Hid (d.isF 0) := Lib.hid ⟨Int.le_refl _, by rw [hm]; decide⟩
        clear hm hlen ht
        by_cases hFn : F ≤ (n : Int)
        · have hz : d.fuse = 0 := by omega
          rw [show d.read 0 = (⟨#[]⟩, 90) from by unfold DS.read; rw [if_pos hz]] at HRd
          clear hfu hz
          go_wp2_with (first
            | (go_at_call 30; (with_reducible refine (HRd.out).mono ?_); rintro e w2 ⟨rfl, rfl⟩)
            | (go_at_call 31; (with_reducible refine (HRm.out).mono ?_); rintro e w2 ⟨rfl, rfl⟩)
            | (go_at_call 29; (with_reducible refine (HLo.out).mono ?_); rintro e w2 ⟨rfl, rfl⟩)
            | (go_at_call 25; refine (Fuse_any _ _ _ _ hd.out (-1) (by decide)).mono ?_; rintro e w2 ⟨rfl, κ3, h3, f3⟩; have H3 := Lib.hid h3; have X3 := Lib.hid (f3.young hx.out.1 hx.out.2); have HRd3 := Lib.hid (Read_any _ _ _ _ h3 0); rw [HT.out] at HRd3; have HRm3 := Lib.hid (Room_any _ _ _ _ h3); rw [show (d.fused (-1)).left = d.left from rfl] at HRm3; have HLo3 := Lib.hid (Loose_any _ _ _ _ h3); rw [show (d.fused (-1)).L.length = d.L.length from rfl] at HLo3; clear h3 f3)
            | (go_at_call 30; (with_reducible refine (HRd3.out).mono ?_); rintro e w3 ⟨rfl, rfl⟩)
            | (go_at_call 31; (with_reducible refine (HRm3.out).mono ?_); rintro e w3 ⟨rfl, rfl⟩)
            | (go_at_call 29; (with_reducible refine (HLo3.out).mono ?_); rintro e w3 ⟨rfl, rfl⟩)
            | (go_at_call 9; refine (disk_alive _).mono ?_; rintro e w4 ⟨rfl, x4⟩))
          go_ret
          exact ⟨rfl, X3.out.1.trans x4⟩
        · have hz : ¬ d.fuse = 0 := by omega
          rw [show d.read 0 = (d.now 0, 0) from by unfold DS.read; rw [if_neg hz, if_neg (fun q => q HIsF.out)]; rfl] at HRd
          clear hfu hz
          go_wp2_with (first
            | (go_at_call 30; (with_reducible refine (HRd.out).mono ?_); rintro e w2 ⟨rfl, rfl⟩)
            | (go_at_call 31; (with_reducible refine (HRm.out).mono ?_); rintro e w2 ⟨rfl, rfl⟩)
            | (go_at_call 29; (with_reducible refine (HLo.out).mono ?_); rintro e w2 ⟨rfl, rfl⟩)
            | (go_at_call 25; refine (Fuse_any _ _ _ _ hd.out (-1) (by decide)).mono ?_; rintro e w2 ⟨rfl, κ3, h3, f3⟩; have H3 := Lib.hid h3; have X3 := Lib.hid (f3.young hx.out.1 hx.out.2); have HRd3 := Lib.hid (Read_any _ _ _ _ h3 0); rw [HT.out] at HRd3; have HRm3 := Lib.hid (Room_any _ _ _ _ h3); rw [show (d.fused (-1)).left = d.left from rfl] at HRm3; have HLo3 := Lib.hid (Loose_any _ _ _ _ h3); rw [show (d.fused (-1)).L.length = d.L.length from rfl] at HLo3; clear h3 f3)
            | (go_at_call 30; (with_reducible refine (HRd3.out).mono ?_); rintro e w3 ⟨rfl, rfl⟩)
            | (go_at_call 31; (with_reducible refine (HRm3.out).mono ?_); rintro e w3 ⟨rfl, rfl⟩)
            | (go_at_call 29; (with_reducible refine (HLo3.out).mono ?_); rintro e w3 ⟨rfl, rfl⟩)
            | (go_at_call 9; refine (disk_alive _).mono ?_; rintro e w4 ⟨rfl, x4⟩))
          go_ret
          exact ⟨rfl, X3.out.1.trans x4⟩
end Go.Proofs.Ytpjhkhelgeoneaa
