/- The walk of SealOpens: what any bytes are opened as, or which error is told. -/
import Derived.Test.YtdnpgmoiapkhnaaGreatDoorOpensBoth
import Derived.Test.YtdnpgmoiapkhnaaGreatDoorM42
import Derived.Test.YtdnpgmoiapkhnaaGreatDoorM30
import Derived.Test.YtdnpgmoiapkhnaaGreatDoorM44
import Derived.Test.YtdnpgmoiapkhnaaGreatDoorOpenU8
import Derived.Test.YtdnpgmoiapkhnaaGreatDoorOpenU16
import Derived.BigRegion
import Derived.Outline
namespace Go.Proofs.YtdnpgmoiapkhnaaGreatDoor
open Go.RowKit
attribute [local irreducible] rkey expand enc dec ctrB ctrC ctrL xorL turnL turnT kd t4 t8 env5 chk f32B f12B tagT sealT ringOf lastOf outK

set_option maxRecDepth 1000000 in
set_option maxHeartbeats 8000000 in
theorem SealOpens_walk (w : World) (hL : Laid w) (p : Option Addr) (c : Nat) (K : List ByteArray) (hP : TextsP w p K) (hl : K.length ≤ 140737488355328) (hK : ∀ s, s ∈ K → s.size ≤ 140737488351232) (path : ByteArray) (zp : path.size ≤ 140737488351232) (o : ByteArray) (zo : o.size ≤ 140737488351232) (v : Nat) (hv : v < 2 ^ 64) (x : Nat) (hx : x < 2 ^ 64) (a : ByteArray) (za : a.size ≤ 140737488351232)
    (pa : Option Addr) (ca : Nat) (A : List Nat) (hA : ValsP w pa (vU16 A)) (hlA : A.length ≤ 140737488355328) (h16 : ∀ y, y ∈ A → y < 65536) (pt : Option Addr) (ct : Nat) (T : List Nat) (hT : ValsP w pt (vU8 T)) (hlT : T.length ≤ 140737488355328) (h8 : ∀ y, y ∈ T → y < 256) (s : ByteArray) (zs : s.size ≤ 140737488351232) (own : Bool) :
    Calls Tryz.prog 5 #[.slice p K.length c, .string path, .string o, .int .u64 (v : Int), .int .u64 (x : Int), .string a, .slice pa A.length ca, .slice pt T.length ct, .string s, .bool own] w fun e w' => e = .returned (.bool true) ∧ Ext w w' := by
  obtain ⟨W0, hW0⟩ : ∃ W0, w.alloc (.cells #[.string path, .string o, .string a, .string s] 9) = W0 := ⟨_, rfl⟩
  have hx0 : Ext w W0 := by rw [← hW0]; exact (Ext.refl w).alloc _
  have hq0 : TextsP W0 (some ⟨w.heap.size, 0, none⟩) [path, o, a, s] := by rw [← hW0]; exact texts_p (texts_lit w [path, o, a, s] 9)
  have HHv := Lib.hid (heavy14_any W0 p c K (hP.ext hx0) hK hl (some ⟨w.heap.size, 0, none⟩) 4 [path, o, a, s] hq0 (by intro s' hs; simp at hs; rcases hs with rfl | rfl | rfl | rfl <;> assumption) (by simp))
  rw [show [path, o, a, s].length = 4 from rfl] at HHv
  have HW := Lib.hid (fun u (hu : Ext w u) => works14_any u (hL.ext hu))
  have HX0 := Lib.hid hx0
  by_cases hA8 : 8 < A.length
  · have hA8i : (8 : Int) < (A.length : Int) := by omega
    clear hx0 hq0 hP hK hL zp zo za zs hA hT h16 h8
    go_enter Tryz.func5, Tryz.ntmps5
    go_wp2_with (first
      | (go_at_call 19; refine (HHv.out).mono ?_; rintro e w1 ⟨⟨hb, rfl, hlt⟩, rfl⟩; clear hlt; cases hb)
      | (go_at_call 20; refine (HW.out _ HX0.out).mono ?_; rintro e w2 ⟨rfl, x2⟩))
    all_goals
      go_ret
      exact ⟨rfl, HX0.out.trans x2⟩
  have hA8i : ¬ (8 : Int) < (A.length : Int) := by omega
  by_cases hT8 : 8 < T.length
  · have hT8i : (8 : Int) < (T.length : Int) := by omega
    clear hx0 hq0 hP hK hL zp zo za zs hA hT h16 h8
    go_enter Tryz.func5, Tryz.ntmps5
    go_wp2_with (first
      | (go_at_call 19; refine (HHv.out).mono ?_; rintro e w1 ⟨⟨hb, rfl, hlt⟩, rfl⟩; clear hlt; cases hb)
      | (go_at_call 20; refine (HW.out _ HX0.out).mono ?_; rintro e w2 ⟨rfl, x2⟩))
    all_goals
      go_ret
      exact ⟨rfl, HX0.out.trans x2⟩
  have hT8i : ¬ (8 : Int) < (T.length : Int) := by omega
  have HR := Lib.hid (fun u (hu : Ext w u) => rings_any u p c K (hP.ext hu) hl)
  have HN := Lib.hid (fun u => nonce_any a u)
  have z1 := f12B_size a
  obtain ⟨m, hm⟩ : ∃ m, min K.length 8 = m := ⟨_, rfl⟩
  have hm8 : m ≤ 8 := by omega
  rw [hm] at HR
  have HLd := Lib.hid hL; have HV := Lib.hid hv; have HXx := Lib.hid hx
  have HAs := Lib.hid hA; have HTs := Lib.hid hT; have H16 := Lib.hid h16; have H8 := Lib.hid h8
  clear hx0 hq0 hP hK hl hL zp zo za zs hm hv hx hA hT h16 h8 hlA hlT
  go_enter Tryz.func5, Tryz.ntmps5
  go_upto_region 3 with (first
    | (go_at_call 19; refine (HHv.out).mono ?_; rintro e w1 ⟨⟨hb, rfl, hlt⟩, rfl⟩; have HLt := Lib.hid hlt; clear hlt; cases hb)
    | (go_at_call 20; refine (HW.out _ HX0.out).mono ?_; rintro e w2 ⟨rfl, x2⟩))
  rotate_left
  · go_ret
    exact ⟨rfl, HX0.out.trans x2⟩
  obtain ⟨_, hsz⟩ := HLt.out (by trivial)
  have hp : path.size ≤ 1500 := hsz path (by simp)
  have ho : o.size ≤ 1500 := hsz o (by simp)
  have ha : a.size ≤ 1500 := hsz a (by simp)
  clear HHv HLt hsz
  have htop := ringOf_top K m
  have hlast := ringOf_last K m
  have HC := Lib.hid (fun u B d p c (hu : IsR u B d p c (ringOf K m)) hG => by
    have := rclose_yes u B d p c _ hu hG (lastOf K m) (by rw [htop]; exact hlast) path v HV.out (f12B a) a z1 (by omega) (by omega)
    rw [htop] at this
    exact this)
  have zS := sealT_size (lastOf K m) (m + 1) path v (f12B a) a z1
  have HBo := Lib.hid (fun S => opens_both w HLd.out (ringOf K m) o x HXx.out S ho)
  clear htop hlast z1 hp ho
  generalize sealT (lastOf K m) (m + 1) path v (f12B a) a = S0 at *
  generalize f12B a = N at *
  generalize ringOf K m = L at *
  cases own
  · obtain ⟨V, oe, en, ee, hc1, hc2, hc3, hc4⟩ := HBo.out s
    have C1 := Lib.hid hc1; have C2 := Lib.hid hc2; have C3 := Lib.hid hc3; have C4 := Lib.hid hc4
    clear hc1 hc2 hc3 hc4 HBo
    go_wp2_with (first
      | (go_at_call 21; refine (HR.out _ HX0.out).mono ?_; rintro e w3 ⟨⟨r, bk, d, pd, cd, rfl, k3, d3, q3, p3⟩, x3⟩; have KA := Lib.hid k3; have DA := Lib.hid d3; have X := Lib.hid (HX0.out.trans x3); clear k3 d3 q3 p3 x3)
      | (go_at_call 29; (with_reducible refine (C1.out _ _ _ X.out KA.out).mono ?_); rintro e w5 ⟨rfl, x5⟩; replace KA := Lib.hid (KA.out.ext x5); replace DA := Lib.hid (DA.out.ext x5); replace X := Lib.hid (X.out.trans x5))
      | (go_at_call 30; refine (C2.out _ _ _ _ _ DA.out KA.out.good).mono ?_; rintro e w6 ⟨rfl, x6⟩; replace X := Lib.hid (X.out.trans x6))
      | (go_at_call 25; refine (C3.out _).mono ?_; rintro e w7 ⟨rfl, x7⟩; replace X := Lib.hid (X.out.trans x7))
      | (go_at_call 26; refine (C4.out _).mono ?_; rintro e w8 ⟨rfl, x8⟩; replace X := Lib.hid (X.out.trans x8))
      | (go_at_call 29; (with_reducible refine (open_nil _ _ _ _).mono ?_); rintro e w9 ⟨rfl, rfl⟩)
      | (go_at_call 20; refine (HW.out _ X.out).mono ?_; rintro e w17 ⟨rfl, x17⟩))
    all_goals
      go_ret
      exact ⟨by first | rfl | simp, X.out.trans x17⟩
  · have HBt := Lib.hid (fun (u : World) => bytes_of_text u S0)
    go_upto_region 10 with (first
      | (go_at_call 21; refine (HR.out _ HX0.out).mono ?_; rintro e w3 ⟨⟨r, bk, d, pd, cd, rfl, k3, d3, q3, p3⟩, x3⟩; have KA := Lib.hid k3; have DA := Lib.hid d3; have X := Lib.hid (HX0.out.trans x3); clear k3 d3 q3 p3 x3)
      | (go_at_call 22; refine (HN.out _).mono ?_; rintro e w4 ⟨rfl, x4⟩; replace KA := Lib.hid (KA.out.ext x4); replace DA := Lib.hid (DA.out.ext x4); replace X := Lib.hid (X.out.trans x4))
      | (go_at_call 24; refine (HC.out _ _ _ _ _ DA.out KA.out.good).mono ?_; rintro e w6 ⟨rfl, x6⟩; replace KA := Lib.hid (KA.out.ext x6); replace DA := Lib.hid (DA.out.ext x6); replace X := Lib.hid (X.out.trans x6); obtain ⟨cap, w7, hcv, hcap, hx7, hrow⟩ := HBt.out w6; have KB := Lib.hid (KA.out.ext hx7); have DB := Lib.hid (DA.out.ext hx7); have XB := Lib.hid (X.out.trans hx7); have RB := Lib.hid hrow; have GB := Lib.hid hx7; clear hrow hx7))
    have HCap := Lib.hid hcap
    have hlen : S0.data.toList.length = S0.size := size_list S0
    obtain ⟨z, hz⟩ : ∃ z, S0.size = z := ⟨_, rfl⟩
    rw [hz] at hcv hlen zS HCap
    have hz1 : 1 ≤ z := by omega
    have hzm : z ≤ 1549 := by omega
    clear zS hcap
    have hw6 := Lib.hid KA.out.map.lt
    go_wp2_with (fail)
    go_loopw [26] (fun iv wr => ∃ (j : Nat) (l : List UInt8), j ≤ A.length ∧ iv = .int .i64 (j : Int) ∧ Hid (l.length = z) ∧ Hid (BRow wr w6.heap.size 5 l) ∧ Hid (Ext w6 wr)) (fun iv _ => A.length - (intOf iv).toNat)
    case atStart => exact ⟨0, S0.data.toList, Nat.zero_le _, rfl, Lib.hid hlen, RB, GB⟩
    case round =>
      obtain ⟨j, l, hj, rfl, HLn, HRow, HX⟩ := hrel
      clear hcv hlen
      by_cases hlt : j < A.length ∧ j < T.length
      · obtain ⟨h1, h2⟩ := hlt
        have h1i : (j : Int) < (A.length : Int) := by omega
        have h2i : (j : Int) < (T.length : Int) := by omega
        obtain ⟨y, hy⟩ : ∃ y, A[j]? = some y := ⟨_, List.getElem?_eq_getElem h1⟩
        obtain ⟨t, ht⟩ : ∃ t, T[j]? = some t := ⟨_, List.getElem?_eq_getElem h2⟩
        have hy16 := H16.out y (List.mem_of_getElem? hy)
        have ht8 := H8.out t (List.mem_of_getElem? ht)
        obtain ⟨a1, rfl, _, cA⟩ := (HAs.out.ext (X.out.trans HX.out)) j (.int .u16 (y : Int)) (by unfold vU16; rw [List.getElem?_map, hy]; rfl)
        obtain ⟨a2, rfl, _, cT⟩ := (HTs.out.ext (X.out.trans HX.out)) j (.int .u8 (t : Int)) (by unfold vU8; rw [List.getElem?_map, ht]; rfl)
        obtain ⟨q, hq⟩ : ∃ q, y % z = q := ⟨_, rfl⟩
        have hqz : q < z := by rw [← hq]; exact Nat.mod_lt _ (by omega)
        have hqzi : (q : Int) < (z : Int) := by omega
        have hq0 : (0 : Int) ≤ (q : Int) := by omega
        have hqi : (y : Int) % (z : Int) = (q : Int) := by rw [← hq]; simp
        have hqt : Int.tmod (y : Int) (z : Int) = (q : Int) := by rw [Int.tmod_eq_emod_of_nonneg (by omega)]; exact hqi
        have hzi : ¬ (z : Int) = 0 := by omega
        have hlq : q < l.length := by rw [HLn.out]; exact hqz
        obtain ⟨bb, hbb⟩ : ∃ bb, l[q]? = some bb := ⟨_, List.getElem?_eq_getElem hlq⟩
        have cB := HRow.out.cell q bb hbb
        have fB := HRow.out.frozen q hlq
        have RN := Lib.hid (HRow.out.set_ q hlq (t : Int) (UInt8.ofNat t) (by rw [UInt8.toNat_ofNat']; omega))
        have XN := Lib.hid (HX.out.setCell (p := ⟨w6.heap.size, q, none⟩) (Nat.le_refl _) (.int .u8 (t : Int)))
        have LN := Lib.hid (show (l.set q (UInt8.ofNat t)).length = z by rw [List.length_set]; exact HLn.out)
        have hww : IntKind.i64.wrap (q : Int) = (q : Int) := IntWalk.i64_in _ ⟨by omega, by omega⟩
        clear hy ht hq hlq hbb
        go_wp2
        go_region
        go_wp2
        go_roundw
        case rel => exact ⟨j + 1, _, by omega, by go_num, LN, by first | exact RN | exact Lib.hid (by exact RN.out), by first | exact XN | exact Lib.hid XN.out.drew | exact Lib.hid (XN.out.drewN _)⟩
        case measure => simp [intOf]; omega
      · obtain ⟨V, oe, en, ee, hc1, hc2, hc3, hc4⟩ := HBo.out ⟨(l.take z).toArray⟩
        have C1 := Lib.hid hc1; have C2 := Lib.hid hc2; have C3 := Lib.hid hc3; have C4 := Lib.hid hc4
        have htx := HRow.out.text z cap (by rw [HLn.out]; exact Nat.le_refl _)
        clear hc1 hc2 hc3 hc4
        generalize (⟨(l.take z).toArray⟩ : ByteArray) = SS at *
        replace KA := Lib.hid (KA.out.ext HX.out)
        replace DA := Lib.hid (DA.out.ext HX.out)
        replace X := Lib.hid (X.out.trans HX.out)
        have hcl : z ≤ cap := HCap.out
        by_cases h1 : j < A.length
        · have h1i : (j : Int) < (A.length : Int) := by omega
          have h2i : ¬ (j : Int) < (T.length : Int) := by omega
          clear hlt
          go_wp2_with (first
            | (go_at_call 29; (with_reducible refine (C1.out _ _ _ X.out KA.out).mono ?_); rintro e w5 ⟨rfl, x5⟩; replace KA := Lib.hid (KA.out.ext x5); replace DA := Lib.hid (DA.out.ext x5); replace X := Lib.hid (X.out.trans x5))
            | (go_at_call 30; refine (C2.out _ _ _ _ _ DA.out KA.out.good).mono ?_; rintro e w6 ⟨rfl, x6⟩; replace X := Lib.hid (X.out.trans x6))
            | (go_at_call 25; refine (C3.out _).mono ?_; rintro e w7 ⟨rfl, x7⟩; replace X := Lib.hid (X.out.trans x7))
            | (go_at_call 26; refine (C4.out _).mono ?_; rintro e w8 ⟨rfl, x8⟩; replace X := Lib.hid (X.out.trans x8))
            | (go_at_call 29; (with_reducible refine (open_nil _ _ _ _).mono ?_); rintro e w9 ⟨rfl, rfl⟩)
            | (go_at_call 20; refine (HW.out _ X.out).mono ?_; rintro e w17 ⟨rfl, x17⟩))
          all_goals
            go_ret
            exact ⟨by first | rfl | simp, X.out.trans x17⟩
        · have h1i : ¬ (j : Int) < (A.length : Int) := by omega
          clear hlt
          go_wp2_with (first
            | (go_at_call 29; (with_reducible refine (C1.out _ _ _ X.out KA.out).mono ?_); rintro e w5 ⟨rfl, x5⟩; replace KA := Lib.hid (KA.out.ext x5); replace DA := Lib.hid (DA.out.ext x5); replace X := Lib.hid (X.out.trans x5))
            | (go_at_call 30; refine (C2.out _ _ _ _ _ DA.out KA.out.good).mono ?_; rintro e w6 ⟨rfl, x6⟩; replace X := Lib.hid (X.out.trans x6))
            | (go_at_call 25; refine (C3.out _).mono ?_; rintro e w7 ⟨rfl, x7⟩; replace X := Lib.hid (X.out.trans x7))
            | (go_at_call 26; refine (C4.out _).mono ?_; rintro e w8 ⟨rfl, x8⟩; replace X := Lib.hid (X.out.trans x8))
            | (go_at_call 29; (with_reducible refine (open_nil _ _ _ _).mono ?_); rintro e w9 ⟨rfl, rfl⟩)
            | (go_at_call 20; refine (HW.out _ X.out).mono ?_; rintro e w17 ⟨rfl, x17⟩))
          all_goals
            go_ret
            exact ⟨by first | rfl | simp, X.out.trans x17⟩
end Go.Proofs.YtdnpgmoiapkhnaaGreatDoor
