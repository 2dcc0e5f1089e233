/- The walk of layer 8's statement WireSame. -/
import Derived.Test.YtcmmcaoidmldkaaSameKeys
import Derived.Test.YtcmmcaoidmldkaaWireWritesWalk
import Derived.RegionTactic
import Derived.Deep.DeepCutAuto
import Derived.Deep.RegionWith
import Derived.Outline
namespace Go.Proofs.Ytcmmcaoidmldkaa
open Go.RowKit
attribute [local irreducible] wnF numG totG

set_option maxRecDepth 100000 in
set_option maxHeartbeats 4000000 in
theorem WireSame_walk (s : ByteArray) (x y : Int) (s3 : Option Addr) (c3 : Nat) (l : List ByteArray) (s4 : Option Addr) (c4 : Nat) (m : List ByteArray) (W : World)
    (z0 : s.size ≤ 140737488351232) (z1 : 0 ≤ x ∧ x ≤ 18446744073709551615) (z2 : 0 ≤ y ∧ y ≤ 18446744073709551615)
    (f3 : TextsP W s3 l) (z3 : l.length ≤ 140737488355328) (y3 : ∀ s, s ∈ l → s.size ≤ 140737488351232)
    (f4 : TextsP W s4 m) (z4 : m.length ≤ 140737488355328) (y4 : ∀ s, s ∈ m → s.size ≤ 140737488351232) :
    Calls Try.prog 5 #[.string s, .int .u64 x, .int .u64 y, .slice s3 l.length c3, .slice s4 m.length c4] W fun e W' => e = .returned (.bool true) ∧ Ext W W' := by
  obtain ⟨nl, el⟩ : ∃ n, l.length = n := ⟨_, rfl⟩
  obtain ⟨nm, em⟩ : ∃ n, m.length = n := ⟨_, rfl⟩
  obtain ⟨a, rfl⟩ : ∃ a : Nat, x = (a : Int) := ⟨x.toNat, by omega⟩
  obtain ⟨b, rfl⟩ : ∃ b : Nat, y = (b : Int) := ⟨y.toNat, by omega⟩
  have ha : a < 18446744073709551616 := by omega
  have hb : b < 18446744073709551616 := by omega
  have HTl := Lib.hid (total_any W s3 c3 nl l el f3 y3 (by omega))
  have HTm := Lib.hid (total_any W s4 c4 nm m em f4 y4 (by omega))
  have htl := totG_bound l y3
  have htm := totG_bound m y4
  have hsl := totG_small l
  have hsm := totG_small m
  rw [el] at z3 ⊢
  rw [em] at z4 ⊢
  generalize totG 0 l = tl at *
  generalize totG 0 m = tm at *
  by_cases h1 : 4096 < s.size
  · have h1i : (4096 : Int) < (s.size : Int) := by omega
    clear f3 f4 y3 y4 el em hsl hsm HTl HTm z1 z2
    go_enter Try.func5, Try.ntmps5
    go_wp2_with (go_at_call 8; refine (wire_alive _).mono ?_; rintro e w1 ⟨rfl, x1⟩)
    go_ret
    exact ⟨rfl, x1⟩
  · have h1i : ¬ (4096 : Int) < (s.size : Int) := by omega
    by_cases h2 : 100 < nl + nm
    · have h2i : (100 : Int) < (nl : Int) + (nm : Int) := by omega
      clear f3 f4 y3 y4 el em hsl hsm HTl HTm h2 h1 z1 z2
      go_enter Try.func5, Try.ntmps5
      go_wp2_with (go_at_call 8; refine (wire_alive _).mono ?_; rintro e w1 ⟨rfl, x1⟩)
      go_ret
      exact ⟨rfl, x1⟩
    · have h2i : ¬ (100 : Int) < (nl : Int) + (nm : Int) := by omega
      by_cases h3 : 4096 < tl + tm
      · have h3i : (4096 : Int) < (tl : Int) + (tm : Int) := by omega
        clear f3 f4 y3 y4 el em hsl hsm h2 h1 h3 z1 z2
        go_enter Try.func5, Try.ntmps5
        go_wp2_with (first
          | (go_at_call 7; (with_reducible refine (HTl.out).mono ?_); rintro e w1 ⟨rfl, rfl⟩)
          | (go_at_call 7; (with_reducible refine (HTm.out).mono ?_); rintro e w1 ⟨rfl, rfl⟩)
          | (go_at_call 8; refine (wire_alive _).mono ?_; rintro e w1 ⟨rfl, x1⟩))
        go_ret
        exact ⟨rfl, x1⟩
      · have h3i : ¬ (4096 : Int) < (tl : Int) + (tm : Int) := by omega
        have htl4 := hsl (by omega)
        have htm4 := hsm (by omega)
        have hql : ∀ s ∈ l, s.size ≤ 4096 := fun s hs => Nat.le_trans (tot_mem l s hs) htl4
        have hqm : ∀ s ∈ m, s.size ≤ 4096 := fun s hs => Nat.le_trans (tot_mem m s hs) htm4
        have hfl := tot_flat l
        have hfm := tot_flat m
        obtain ⟨va, La, fa, cA, dA⟩ := key_uint s (by omega)
        obtain ⟨vb, Lb, fb, cB, dB⟩ := key_int s (by omega)
        obtain ⟨vc, Lc, fc, cC, dC⟩ := key_text s (by omega)
        have CA := Lib.hid cA; have CB := Lib.hid cB; have CC := Lib.hid cC
        have DA := Lib.hid dA; have DB := Lib.hid dB; have DC := Lib.hid dC
        have F3 := Lib.hid f3; have F4 := Lib.hid f4
        have EL := Lib.hid el; have EM := Lib.hid em
        have HX := Lib.hid (show (l = m ∧ wl l = wl m) ∨ (¬ l = m ∧ ¬ wl l = wl m) by
          by_cases hlm : l = m
          · exact .inl ⟨hlm, by rw [hlm]⟩
          · exact .inr ⟨hlm, fun h => hlm (wl_inj l m (by omega) (by omega) (fun s hs => by have := hql s hs; omega) (fun s hs => by have := hqm s hs; omega) h)⟩)
        have CL : Hid (∀ u q d, ValsP u (some q) (vS l) → Calls Try.prog 16 #[.slice (some q) nl d] u fun e w' => e = .returned (.string ⟨(wl l).toArray⟩) ∧ Ext u w') := Lib.hid (fun u q d h => List_any u (some q) d nl l el h (fun x hx => by have := hql x hx; omega) (by omega) (by omega))
        have CM : Hid (∀ u q d, ValsP u (some q) (vS m) → Calls Try.prog 16 #[.slice (some q) nm d] u fun e w' => e = .returned (.string ⟨(wl m).toArray⟩) ∧ Ext u w') := Lib.hid (fun u q d h => List_any u (some q) d nm m em h (fun x hx => by have := hqm x hx; omega) (by omega) (by omega))
        have CS : Hid (∀ u, Ext W u → Calls Try.prog 19 #[.slice s3 nl c3, .slice s4 nm c4] u fun e w' => e = .returned (.bool (decide (l = m))) ∧ Ext u w') := Lib.hid (fun u hu => same_dec u s3 s4 c3 c4 nl nm l m el em (f3.ext hu) (f4.ext hu) (by omega) (by omega))
        have HP := Lib.hid (show ¬ a = b → ¬ (⟨(wn b).toArray⟩ : ByteArray).extract 0 (wn a).length = ⟨(wn a).toArray⟩ from fun h => apart a b ha hb h)
        have OA := Lib.hid (fun u => one_uint a ha u); have OB := Lib.hid (fun u => one_uint b hb u)
        have h40 : s.size ≤ 4096 := by omega
        clear f3 f4 y3 y4 el em hsl hsm h2 h1 h3 z0 z1 z2 htl4 htm4 hql hqm hfl hfm cA cB cC dA dB dC ha hb
        go_enter Try.func5, Try.ntmps5
        go_upto_region 11 with (first
          | (go_at_call 7; (with_reducible refine (HTl.out).mono ?_); rintro e w1 ⟨rfl, rfl⟩)
          | (go_at_call 7; (with_reducible refine (HTm.out).mono ?_); rintro e w1 ⟨rfl, rfl⟩)
          | (go_at_call 17; (with_reducible refine (New_any s W).mono ?_); rintro e w1 ⟨rfl, hr1, x1⟩; obtain ⟨r, hr⟩ : ∃ r, r = W.heap.size := ⟨_, rfl⟩; rw [← hr] at hr1 ⊢; have HA1 := Lib.hid hr1; have HWr := Lib.hid (show W.heap.size ≤ r by omega); have X1 := Lib.hid x1; clear hr hr1 x1)
          | (go_at_call 17; (with_reducible refine (New_any s w1).mono ?_); rintro e w2 ⟨rfl, hr2, x2⟩; have hlt := HA1.out.lt; obtain ⟨q, hq⟩ : ∃ q, q = w1.heap.size := ⟨_, rfl⟩; rw [← hq] at hr2 hlt ⊢; have HA2 := Lib.hid (HA1.out.ext x2); have HB2 := Lib.hid hr2; have HRQ := Lib.hid hlt; have X2 := Lib.hid (X1.out.trans x2); clear hq hr2 x2 hlt)
          | (go_at_call 17; (with_reducible refine (New_any s w2).mono ?_); rintro e w3 ⟨rfl, hr3, x3⟩; have hlt := HB2.out.lt; obtain ⟨t, ht⟩ : ∃ t, t = w2.heap.size := ⟨_, rfl⟩; rw [← ht] at hr3 hlt ⊢; have HA3 := Lib.hid (HA2.out.ext x3); have HB3 := Lib.hid (HB2.out.ext x3); have HC3 := Lib.hid hr3; have HQT := Lib.hid hlt; have X3 := Lib.hid (X2.out.trans x3); clear ht hr3 x3 hlt)
          | (go_at_call 18; refine (CA.out _ _ HA3.out).mono ?_; rintro e w4 ⟨rfl, hr4, x4⟩; have HA4 := Lib.hid hr4; have HB4 := Lib.hid (HB3.out.other x4 (by have := HRQ.out; omega)); have HC4 := Lib.hid (HC3.out.other x4 (by have := HRQ.out; have := HQT.out; omega)); have X4 := Lib.hid (X3.out.moded x4 HWr.out); clear hr4 x4)
          | (go_at_call 21; refine (CB.out _ _ HB4.out).mono ?_; rintro e w5 ⟨rfl, hr5, x5⟩; have HB5 := Lib.hid hr5; have HA5 := Lib.hid (HA4.out.other x5 (by have := HRQ.out; omega)); have HC5 := Lib.hid (HC4.out.other x5 (by have := HQT.out; omega)); have X5 := Lib.hid (X4.out.moded x5 (by have := HWr.out; have := HRQ.out; omega)); clear hr5 x5)
          | (go_at_call 23; refine (CC.out _ _ HC5.out).mono ?_; rintro e w6 ⟨rfl, hr6, x6⟩; have HC6 := Lib.hid hr6; have HA6 := Lib.hid (HA5.out.other x6 (by have := HRQ.out; have := HQT.out; omega)); have HB6 := Lib.hid (HB5.out.other x6 (by have := HQT.out; omega)); have X6 := Lib.hid (X5.out.moded x6 (by have := HWr.out; have := HRQ.out; have := HQT.out; omega)); clear hr6 x6))
        go_cut [109] (fun v wx => v = .bool false ∧ Hid (Ext W wx))
        case first =>
          have XC := Lib.hid (Ext.refl w6)
          have EA := Lib.hid (fun u (hu : Ext w6 u) => Err_any u r La fa (HA6.out.ext hu))
          have EB := Lib.hid (fun u (hu : Ext w6 u) => Err_any u q Lb fb (HB6.out.ext hu))
          have EC := Lib.hid (fun u (hu : Ext w6 u) => Err_any u t Lc fc (HC6.out.ext hu))
          have GA := Lib.hid (fun u (hu : Ext w6 u) => Left_any u r La fa (HA6.out.ext hu))
          have GB := Lib.hid (fun u (hu : Ext w6 u) => Left_any u q Lb fb (HB6.out.ext hu))
          have GC := Lib.hid (fun u (hu : Ext w6 u) => Left_any u t Lc fc (HC6.out.ext hu))
          clear HTl HTm CA CB CC HX CL CM CS HP OA OB
          rcases DA.out with ⟨rfl, WA, RA, oA, rA, catA, wA, sA⟩ | hfa
          all_goals rcases DB.out with ⟨rfl, WB, RB, oB, rB, catB, wB, sB⟩ | hfb
          all_goals rcases DC.out with ⟨rfl, WC, RC, oC, rC, catC, wC, sC⟩ | hfc
          all_goals
            clear DA DB DC
            go_wp2_with (first
              | (go_at_call 24; (with_reducible refine (EA.out _ XC.out).mono ?_); rintro e w7 ⟨rfl, rfl⟩)
              | (go_at_call 24; (with_reducible refine (EB.out _ XC.out).mono ?_); rintro e w7 ⟨rfl, rfl⟩)
              | (go_at_call 24; (with_reducible refine (EC.out _ XC.out).mono ?_); rintro e w7 ⟨rfl, rfl⟩)
              | (go_at_call 25; (with_reducible refine (GA.out _ XC.out).mono ?_); rintro e w7 ⟨rfl, rfl⟩)
              | (go_at_call 25; (with_reducible refine (GB.out _ XC.out).mono ?_); rintro e w7 ⟨rfl, rfl⟩)
              | (go_at_call 25; (with_reducible refine (GC.out _ XC.out).mono ?_); rintro e w7 ⟨rfl, rfl⟩)
              | (go_at_call 27; (with_reducible refine (rA.out _).mono ?_); rintro e w7 ⟨rfl, rfl⟩)
              | (go_at_call 27; (with_reducible refine (rB.out _).mono ?_); rintro e w7 ⟨rfl, rfl⟩)
              | (go_at_call 27; (with_reducible refine (rC.out _).mono ?_); rintro e w7 ⟨rfl, rfl⟩)
              | (go_at_call 12; refine (oA.out _).mono ?_; rintro e w7 ⟨rfl, x7⟩; replace XC := Lib.hid (XC.out.trans x7); clear x7)
              | (go_at_call 13; refine (oB.out _).mono ?_; rintro e w8 ⟨rfl, x8⟩; replace XC := Lib.hid (XC.out.trans x8); clear x8)
              | (go_at_call 14; refine (oC.out _).mono ?_; rintro e w9 ⟨rfl, x9⟩; replace XC := Lib.hid (XC.out.trans x9); clear x9))
            go_meet
            exact ⟨rfl, Lib.hid (X6.out.trans XC.out)⟩
        case rest =>
          obtain ⟨rfl, XD⟩ := hcut
          clear HTl HTm CA CB CC DA DB DC HA1 HA2 HA3 HA4 HA5 HA6 HB2 HB3 HB4 HB5 HB6 HC3 HC4 HC5 HC6 X1 X2 X3 X4 X5 X6 HWr HRQ HQT
          have hd1 : 1 ≤ (⟨(wn a).toArray⟩ : ByteArray).size := by rw [txt_size]; exact (wn_length a).1
          have hd10 : (⟨(wn a).toArray⟩ : ByteArray).size ≤ 10 := by rw [txt_size]; exact (wn_length a).2
          have hpp := HP.out
          rw [← txt_size (wn a)] at hpp
          have HPP := Lib.hid hpp
          clear hpp HP
          generalize (⟨(wn a).toArray⟩ : ByteArray) = D at *
          generalize (⟨(wn b).toArray⟩ : ByteArray) = E at *
          go_upto_region 14 with (first
            | (go_at_call 12; (with_reducible refine (OA.out _).mono ?_); rintro e w7 ⟨rfl, x7⟩; have X7 := Lib.hid (XD.out.trans x7); clear x7)
            | (go_at_call 12; (with_reducible refine (OB.out _).mono ?_); rintro e w8 ⟨rfl, x8⟩; have X8 := Lib.hid (X7.out.trans x8); clear x8))
          go_cut [143] (fun v wx => v = .bool false ∧ w8 = wx)
          case first =>
            have HDD := Lib.hid (show (decide ((10 : Int) < (D.size : Int)) || decide ((D.size : Int) < 1)) = false by simp; omega)
            clear HX CL CM CS OA OB X7 XD F3 F4 EL EM
            by_cases hab : a = b
            · have hne : ((a : Int) != (b : Int)) = false := by rw [bne_eq_false_iff_eq]; omega
              clear HPP hab
              go_wp2
              go_meet
              exact ⟨by rw [HDD.out], rfl⟩
            · have hne : ((a : Int) != (b : Int)) = true := by rw [bne_iff_ne]; omega
              by_cases hle : D.size ≤ E.size
              · have hsl := slice_upto E D.size hle
                have hqq := txt_ne (HPP.out hab)
                generalize E.extract 0 D.size = G at *
                clear HPP hab
                go_wp2
                go_meet
                exact ⟨by rw [HDD.out], rfl⟩
              · clear HPP hab
                go_wp2
                go_meet
                exact ⟨by rw [HDD.out], rfl⟩
          case rest =>
            obtain ⟨rfl, rfl⟩ := hcut
            clear HPP OA OB hd1 hd10 XD X7
            generalize hL1 : (⟨(wl l).toArray⟩ : ByteArray) = L1 at *
            generalize hL2 : (⟨(wl m).toArray⟩ : ByteArray) = L2 at *
            have hlm : (decide (l = m) = true ∧ (L1.toList == L2.toList) = true) ∨ (decide (l = m) = false ∧ (L1.toList == L2.toList) = false) := by
              rcases HX.out with ⟨h1, h2⟩ | ⟨h1, h2⟩
              · exact .inl ⟨by simp [h1], by rw [← hL1, ← hL2, h2]; simp⟩
              · refine .inr ⟨by simp [h1], txt_ne (fun e => h2 ?_)⟩
                rw [← hL1, ← hL2] at e
                have := congrArg (fun b : ByteArray => b.data.toList) e
                simpa using this
            clear HX hL1 hL2
            rcases hlm with ⟨hd, he⟩ | ⟨hd, he⟩
            all_goals
              rw [hd] at CS
              clear hd
              go_wp2_with (first
                | (at_builtin; refine wpList_copy (by rfl) (.tmp 144) (.tmp 145) 24 9 rfl Try.underlying24 infoS rfl (by decide) _ rfl (heap_alloc_new _ _) s3 _ c3 (vS l) (by rw [vS_length]; exact EL.out) rfl ((F3.out.ext (X8.out.alloc _)).vals) (oneS l) (by omega) ?_; intro q9 d9 w9 v9 b9; have V9 := Lib.hid v9; have X9 := Lib.hid ((X8.out.alloc _).trans3 (b9.mono X8.out.size)); clear v9 b9)
                | (go_at_call 16; (with_reducible refine (CL.out _ _ _ V9.out).mono ?_); rintro e w10 ⟨rfl, x10⟩; have X10 := Lib.hid (X9.out.trans x10); clear x10)
                | (at_builtin; refine wpList_copy (by rfl) (.tmp 148) (.tmp 149) 24 9 rfl Try.underlying24 infoS rfl (by decide) _ rfl (heap_alloc_new _ _) s4 _ c4 (vS m) (by rw [vS_length]; exact EM.out) rfl ((F4.out.ext (X10.out.alloc _)).vals) (oneS m) (by omega) ?_; intro q11 d11 w11 v11 b11; have V11 := Lib.hid v11; have X11 := Lib.hid ((X10.out.alloc _).trans3 (b11.mono X10.out.size)); clear v11 b11)
                | (go_at_call 16; (with_reducible refine (CM.out _ _ _ V11.out).mono ?_); rintro e w12 ⟨rfl, x12⟩; have X12 := Lib.hid (X11.out.trans x12); clear x12)
                | (go_at_call 19; refine (CS.out _ X12.out).mono ?_; rintro e w13 ⟨rfl, x13⟩; have X13 := Lib.hid (X12.out.trans x13); clear x13)
                | (go_at_call 8; refine (wire_alive _).mono ?_; rintro e w14 ⟨rfl, x14⟩; have X14 := Lib.hid (X13.out.trans x14); clear x14))
              go_ret
              exact ⟨rfl, X14.out⟩
end Go.Proofs.Ytcmmcaoidmldkaa
