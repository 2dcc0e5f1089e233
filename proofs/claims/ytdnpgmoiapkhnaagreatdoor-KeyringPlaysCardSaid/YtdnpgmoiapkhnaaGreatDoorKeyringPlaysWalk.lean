/- The walk of KeyringPlays: which keys a ring has behind any calls, by which epochs, and its bytes. -/
import Derived.Test.YtdnpgmoiapkhnaaGreatDoorBothK
import Derived.Test.YtdnpgmoiapkhnaaGreatDoorSame13
import Derived.Test.YtdnpgmoiapkhnaaGreatDoorM28
import Derived.Test.YtdnpgmoiapkhnaaGreatDoorM13
import Derived.Deep.RegionHeld3
import Derived.Deep.DeepCutAuto
import Derived.Outline
namespace Go.Proofs.YtdnpgmoiapkhnaaGreatDoor
open Go.RowKit
attribute [local irreducible] kd f32B

theorem Ext.turnedP {v w w' : World} (hv : Ext v w) (t : TurnD v.heap.size w w') : Ext v w' := hv.trans3 t.below
set_option maxRecDepth 1000000 in
set_option maxHeartbeats 16000000 in
theorem KeyringPlays_walk (w : World) (hL : Laid w) (key : ByteArray) (zk : key.size ≤ 140737488351232) (p : Option Addr) (c : Nat) (L : List Act13) (hP : Act13sP w p L) (hok : ∀ x ∈ L, x.Ok) (hl : L.length ≤ 140737488355328) (ask : Nat) (ha : ask < 4294967296) :
    Calls Tryz.prog 3 #[.string key, .slice p L.length c, .int .u32 (ask : Int)] w fun e w' => e = .returned (.bool true) ∧ Ext w w' := by
  have HHv := Lib.hid (heavyK_any w p c L hP hok hl)
  have HW := Lib.hid (fun u (hu : Ext w u) => worksK u (hL.ext hu))
  have HP := Lib.hid hP; have HOk := Lib.hid hok; have HL := Lib.hid hL
  have zA := f32B_size key
  have HF := Lib.hid (fun u => fullK_any key u)
  have HG1 := Lib.hid (GoodK.one (f32B key) zA)
  have HNy := Lib.hid (fun u => newK_yes u (f32B key) zA)
  clear hP hok hL
  generalize f32B key = A at *
  by_cases h200 : 200 < key.size
  · have h200i : (200 : Int) < (key.size : Int) := by omega
    go_enter Tryz.func3, Tryz.ntmps3
    go_wp2_with (first
      | (go_at_call 7; refine (HHv.out).mono ?_; rintro e w1 ⟨⟨hb, rfl, hlt⟩, rfl⟩; clear hlt; cases hb)
      | (go_at_call 8; refine (HW.out _ (Ext.refl _)).mono ?_; rintro e w2 ⟨rfl, x2⟩))
    all_goals
      go_ret
      exact ⟨rfl, x2⟩
  have h200i : ¬ (200 : Int) < (key.size : Int) := by omega
  have hnew : ∃ (v : Value) (ev : Int), ((ev = 0 ∧ key.size = 32) ∨ (ev = 2 ∧ key.size ≠ 32)) ∧ (∀ u, Calls Tryz.prog 9 #[.string key] u fun e w' => ∃ v', e = .returned (.tuple #[v', .int .i64 ev]) ∧ Ext u w') := by
    by_cases h : key.size = 32
    · exact ⟨.bool true, 0, .inl ⟨rfl, h⟩, fun u => (newK_yes u key h).mono fun _ _ ⟨_, _, q1, _, _, _, q2⟩ => ⟨_, q1, q2⟩⟩
    · exact ⟨.bool true, 2, .inr ⟨rfl, h⟩, fun u => (newK_no u key h).mono fun _ _ q => ⟨_, q.1, q.2 ▸ Ext.refl _⟩⟩
  obtain ⟨_, ev, hev, hnw⟩ := hnew
  have HNw := Lib.hid hnw
  clear hnw zk h200
  have hcond : (((ev == 0) != decide ((key.size : Int) = 32)) || ((ev != 0) && (ev != 2))) = false := by
    rcases hev with ⟨rfl, h⟩ | ⟨rfl, h⟩
    · simp; omega
    · simp; omega
  have hend : ∀ (B : World → Prop), True := fun _ => trivial
  clear hend
  rcases hev with ⟨rfl, hk⟩ | ⟨rfl, hk⟩
  all_goals
    have hki : (key.size : Int) = 32 ∨ ¬ (key.size : Int) = 32 := by omega
    clear hcond
  case' inl => have hk2 : (key.size : Int) = 32 := by omega
  case' inr => have hk2 : ¬ (key.size : Int) = 32 := by omega
  case' inr => have hk3 : ((key.size : Int) == 32) = false := by simpa using hk2
  all_goals
    clear hki hk
    go_enter Tryz.func3, Tryz.ntmps3
    go_upto_region 10 with (first
      | (go_at_call 7; refine (HHv.out).mono ?_; rintro e w1 ⟨⟨hb, rfl, hlt⟩, rfl⟩; have HLt := Lib.hid hlt; clear hlt; cases hb)
      | (go_at_call 8; refine (HW.out _ (Ext.refl _)).mono ?_; rintro e w2 ⟨rfl, x2⟩)
      | (go_at_call 9; (with_reducible refine (HNw.out _).mono ?_); rintro e w3 ⟨v', rfl, x3⟩; have X3 := Lib.hid x3; clear x3)
      | (go_at_call 10; refine (HF.out _).mono ?_; rintro e w4 ⟨rfl, x4⟩; first | (have X8 := Lib.hid (X5.out.trans x4); have K8 := Lib.hid (K5.out.ext x4)) | (have X4 := Lib.hid (X3.out.trans x4)); clear x4)
      | (go_at_call 9; (with_reducible refine (HNy.out _).mono ?_); rintro e w5 ⟨r, b, rfl, i5, q5, p5, x5⟩; have K5 := Lib.hid i5; have X5 := Lib.hid (X4.out.trans x5); have P5 := Lib.hid (Nat.le_trans X4.out.size p5); clear i5 q5 p5 x5)
      | (go_at_call 11; refine (rnewK_any _ A).mono ?_; rintro e w6 ⟨d, pd, rfl, i6, x6⟩; have D6 := Lib.hid i6; have K6 := Lib.hid (K8.out.ext x6); have X6 := Lib.hid (X8.out.trans x6); clear i6 x6))
    rotate_left
    · go_ret
      exact ⟨rfl, x2⟩
    have hl80 := HLt.out (by trivial)
    have hD6 : IsR w6 w.heap.size d pd 1 [(1, A)] := ⟨D6.out.ring, D6.out.ents, Nat.le_trans X8.out.size D6.out.low, fun g hg => Nat.le_trans X8.out.size (D6.out.lowp g hg), D6.out.apart⟩
    have D7 := Lib.hid hD6
    clear hD6 D6 HHv HNw HNy HF HLt hl X3 X4 X5 X8 K5 K8 hk2
    go_wp2
    go_loopw [12] (fun iv wr => ∃ (k : Nat) (K : List (Nat × ByteArray)) (pd : Option Addr) (cd : Nat), k ≤ L.length ∧ iv = .int .i64 (k : Int) ∧ Hid (IsK wr r b K) ∧ Hid (IsR wr w.heap.size d pd cd K) ∧ Hid (Ext w wr)) (fun iv _ => L.length - (intOf iv).toNat)
    case atStart => exact ⟨0, [(1, A)], pd, 1, Nat.zero_le _, rfl, K6, D7, X6⟩
    case round =>
      obtain ⟨k, K, pd, cd, hk, rfl, HK, HD, HX⟩ := hrel
      clear K6 D7 X6
      by_cases hlt : k < L.length
      · have hlti : (k : Int) < (L.length : Int) := by omega
        obtain ⟨x, hx⟩ : ∃ x, L[k]? = some x := ⟨_, List.getElem?_eq_getElem hlt⟩
        obtain ⟨a, rfl, ha', hc⟩ := (HP.out.ext HX.out) k x hx
        have he32 := (HOk.out x (List.mem_of_getElem? hx)).Epoch
        have k0 : wr.cell? (a.add (k * 4)) = some (.bool x.Go) := hc 0 _ rfl
        have k1 := act13_at (k := 0) (hc 1 _ rfl)
        have k2 := act13_at (k := 1) (hc 2 _ rfl)
        have k3 := act13_at (k := 2) (hc 3 _ rfl)
        have HKeep : Hid (∀ u, Ext w u → u.cell? ⟨(a.add (k * 4)).block, (a.add (k * 4)).off + (0 + 1), none⟩ = some (.int .u32 (x.Epoch : Int)) ∧ Ext w u) := Lib.hid (fun u hu => by
          obtain ⟨a', q, _, hc'⟩ := (HP.out.ext hu) k x hx
          cases q
          exact ⟨act13_at (k := 0) (hc' 1 _ rfl), hu⟩)
        have hfull := f32B_size x.Key
        have HFk := Lib.hid (fun u => fullK_any x.Key u)
        obtain ⟨v1, K1, hr1, hd1⟩ := both_retire w.heap.size K HK.out.good x.Epoch he32 r b d
        obtain ⟨n2, v2, K2, hr2, hd2⟩ := both_rotate w.heap.size K HK.out.good x.Key r b d
        obtain ⟨n3, v3, K3, hr3, hd3⟩ := both_rotate w.heap.size K HK.out.good (f32B x.Key) r b d
        have R1 := Lib.hid hr1; have S1 := Lib.hid hd1; have R2 := Lib.hid hr2; have S2 := Lib.hid hd2; have R3 := Lib.hid hr3; have S3 := Lib.hid hd3
        clear hx hc ha' hr1 hd1 hr2 hd2 hr3 hd3 hfull
        generalize f32B x.Key = Bk at *
        generalize x.Go = go at *
        generalize x.Fit = fit at *
        generalize x.Epoch = ep at *
        generalize x.Key = ky at *
        cases go
        · cases fit
          · go_wp2_with (first
              | (go_at_call 14; refine (R2.out _ HK.out).mono ?_; rintro e w5 ⟨rfl, i5, g5⟩; have K5 := Lib.hid i5; have D5 := Lib.hid (HD.out.grown HK.out.map g5); have X5 := Lib.hid (HX.out.grownBack g5 P5.out); clear i5 g5)
              | (go_at_call 15; refine (S2.out _ _ _ X5.out.size D5.out).mono ?_; rintro e w6 ⟨p6, c6, rfl, i6, t6⟩; have D6 := Lib.hid i6; have K6 := Lib.hid (K5.out.turnD t6); have X6 := Lib.hid (X5.out.turnedP t6); clear i6 t6)
              | (go_at_call 16; refine (same13_any _ _ _ _ K6.out _ _ _ _ D6.out).mono ?_; rintro e w7 ⟨rfl, x7⟩; have K7 := Lib.hid (K6.out.ext x7); have D7 := Lib.hid (D6.out.ext x7); have X7 := Lib.hid (X6.out.trans x7); clear x7))
            go_roundw
            case rel => exact ⟨k + 1, K2, p6, c6, hlt, by go_num, K7, D7, X7⟩
            case measure => simp [intOf]; omega
          · go_wp2_with (first
              | (go_at_call 10; refine (HFk.out _).mono ?_; rintro e w4 ⟨rfl, x4⟩; have K4 := Lib.hid (HK.out.ext x4); have D4 := Lib.hid (HD.out.ext x4); have X4 := Lib.hid (HX.out.trans x4); clear x4)
              | (go_at_call 14; refine (R3.out _ K4.out).mono ?_; rintro e w5 ⟨rfl, i5, g5⟩; have K5 := Lib.hid i5; have D5 := Lib.hid (D4.out.grown K4.out.map g5); have X5 := Lib.hid (X4.out.grownBack g5 P5.out); clear i5 g5)
              | (go_at_call 15; refine (S3.out _ _ _ X5.out.size D5.out).mono ?_; rintro e w6 ⟨p6, c6, rfl, i6, t6⟩; have D6 := Lib.hid i6; have K6 := Lib.hid (K5.out.turnD t6); have X6 := Lib.hid (X5.out.turnedP t6); clear i6 t6)
              | (go_at_call 16; refine (same13_any _ _ _ _ K6.out _ _ _ _ D6.out).mono ?_; rintro e w7 ⟨rfl, x7⟩; have K7 := Lib.hid (K6.out.ext x7); have D7 := Lib.hid (D6.out.ext x7); have X7 := Lib.hid (X6.out.trans x7); clear x7))
            go_roundw
            case rel => exact ⟨k + 1, K3, p6, c6, hlt, by go_num, K7, D7, X7⟩
            case measure => simp [intOf]; omega
        · go_upto_region 14 with (fail)
          have hS := HKeep.out wr.drew HX.out.drew
          have hX := HX.out
          clear k0 k1 k2 k3
          go_region_held3 (fun u => u.cell? ⟨(a.add (k * 4)).block, (a.add (k * 4)).off + (0 + 1), none⟩ = some (.int .u32 (ep : Int)) ∧ Ext w u) (first | exact hS | exact hS1 | exact hS2 | assumption | exact HKeep.out _ (by repeat' (first | assumption | exact Ext.refl _ | refine Ext.drew ?_ | refine Ext.alloc ?_ _)) | go_keep) (first
            | (go_at_call 12; refine (R1.out _ (HK.out.ext (by repeat' (first | assumption | exact Ext.refl _ | refine Ext.drew ?_ | refine Ext.alloc ?_ _)))).mono ?_; rintro e w4 ⟨rfl, i4, g4⟩; have K4 := Lib.hid i4; have D4 := Lib.hid ((HD.out.ext (by repeat' (first | assumption | exact Ext.refl _ | refine Ext.drew ?_ | refine Ext.alloc ?_ _))).grown (HK.out.ext (by repeat' (first | assumption | exact Ext.refl _ | refine Ext.drew ?_ | refine Ext.alloc ?_ _))).map g4); have y4 := Ext.grownBack (a := w) (by repeat' (first | assumption | exact Ext.refl _ | refine Ext.drew ?_ | refine Ext.alloc ?_ _)) g4 P5.out; have hS1 := HKeep.out _ y4; clear i4 g4)
            | (go_at_call 13; refine (S1.out _ _ _ (Ext.trans (a := w) y4 (by repeat' (first | assumption | exact Ext.refl _ | refine Ext.drew ?_ | refine Ext.alloc ?_ _))).size (D4.out.ext (by repeat' (first | assumption | exact Ext.refl _ | refine Ext.drew ?_ | refine Ext.alloc ?_ _)))).mono ?_; rintro e w5 ⟨p6, c6, rfl, i5, t5⟩; have D5 := Lib.hid i5; have K5 := Lib.hid ((K4.out.ext (by repeat' (first | assumption | exact Ext.refl _ | refine Ext.drew ?_ | refine Ext.alloc ?_ _))).turnD t5); have y5 := Ext.turnedP (v := w) (by repeat' (first | assumption | exact Ext.refl _ | refine Ext.drew ?_ | refine Ext.alloc ?_ _)) t5; have hS2 := HKeep.out _ y5; clear i5 t5))
          all_goals
            have Y5 := Lib.hid y5
            clear hS hS1 hS2 y4 y5 hX
            go_wp2_with (go_at_call 16; refine (same13_any _ _ _ _ K5.out _ _ _ _ D5.out).mono ?_; rintro e w7 ⟨rfl, x7⟩; have K7 := Lib.hid (K5.out.ext x7); have D7 := Lib.hid (D5.out.ext x7); have X7 := Lib.hid (Y5.out.trans x7); clear x7)
            go_roundw
            case rel => exact ⟨k + 1, K1, p6, c6, hlt, by go_num, K7, D7, X7⟩
            case measure => simp [intOf]; omega
      · have hlti : ¬ (k : Int) < (L.length : Int) := by omega
        obtain ⟨D1, D2, is, hk1, hk2⟩ := both_keys w HL.out w.heap.size K HK.out.good ask ha r b d
        have Q1 := Lib.hid hk1; have Q2 := Lib.hid hk2
        clear hk1 hk2
        go_wp2_with (first
          | (go_at_call 17; refine (Q1.out _ HX.out HK.out).mono ?_; rintro e w7 ⟨rfl, x7⟩; have D7 := Lib.hid (HD.out.ext x7); have X7 := Lib.hid (HX.out.trans x7); clear x7)
          | (go_at_call 18; refine (Q2.out _ _ _ D7.out).mono ?_; rintro e w8 ⟨rfl, x8⟩; have X8 := Lib.hid (X7.out.trans x8); clear x8)
          | (go_at_call 8; refine (HW.out _ X8.out).mono ?_; rintro e w9 ⟨rfl, x9⟩))
        all_goals
          go_ret
          exact ⟨by first | rfl | simp, X8.out.trans x9⟩
end Go.Proofs.YtdnpgmoiapkhnaaGreatDoor
