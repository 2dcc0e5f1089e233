/- The walk of MacTells. -/
import Derived.Test.YtciiooeblknnoaaDoorJoined
import Derived.Test.YtciiooeblknnoaaDoorChk
import Derived.Test.YtciiooeblknnoaaDoorMacWorks
import Derived.Test.YtciiooeblknnoaaDoorSame
import Derived.Test.YtciiooeblknnoaaDoorBRow
namespace Go.Proofs.YtciiooeblknnoaaDoor
open Go.RowKit

theorem byte_of (a : Int) (h0 : 0 ≤ a) (h1 : a ≤ 255) : ∃ y : UInt8, a = (y.toNat : Int) := ⟨UInt8.ofNat a.toNat, by rw [UInt8.toNat_ofNat']; omega⟩
theorem chk_own (m : List UInt8) (h : m.length = 32) : chk m m = true := by
  unfold chk
  rw [h, ← h, List.take_length]
  simp [h]
set_option maxRecDepth 100000 in
set_option maxHeartbeats 2000000 in
theorem MacTells_walk (key : ByteArray) (v : Value) (l : List ByteArray) (n : Int) (tag : ByteArray) (own : Bool) (pos : Nat) (y : UInt8) (w : World) (hL : Laid w) (hT : TextsV w v l) (hs : ∀ s, s ∈ l → s.size ≤ 140737488351232) (hp : pos < 256) :
    Calls Tryd.prog 3 #[.string key, v, .int .i64 n, .string tag, .bool own, .int .u8 (pos : Int), .int .u8 (y.toNat : Int)] w fun e w' => e = .returned (.bool true) ∧ Ext w w' := by
  have HW := Lib.hid (fun u (hu : Ext w u) => mac_works u (hL.ext hu))
  have HJ := Lib.hid (joined_v w v l hT hs)
  by_cases hfit : Fit l
  · have HJ2 := Lib.hid (HJ.out.mono fun e w' h => jpost_yes hfit h)
    by_cases h1 : 300 < key.size
    · clear hL hT hs HJ hfit
      go_enter Tryd.func3, Tryd.ntmps3
      go_wp2_with (first
        | (go_at_call 7; refine (HJ2.out).mono ?_; rintro e w1 ⟨rfl, rfl⟩)
        | (go_at_call 8; refine (HW.out _ (Ext.refl w)).mono ?_; rintro e w2 ⟨rfl, h2⟩))
      go_ret
      exact ⟨rfl, h2⟩
    by_cases h2 : 100 < tag.size
    · clear hL hT hs HJ hfit
      go_enter Tryd.func3, Tryd.ntmps3
      go_wp2_with (first
        | (go_at_call 7; refine (HJ2.out).mono ?_; rintro e w1 ⟨rfl, rfl⟩)
        | (go_at_call 8; refine (HW.out _ (Ext.refl w)).mono ?_; rintro e w2 ⟨rfl, h2⟩))
      go_ret
      exact ⟨rfl, h2⟩
    have hj := hfit.2
    have HO := Lib.hid (fun u (hu : Ext w u) => Of_mac u key v l (hL.ext hu) (by omega) (hT.ext hu) (by omega))
    have HCy := Lib.hid (fun u (hu : Ext w u) (m : Nat) (h1 : 1 ≤ m) (h2 : m ≤ 32) => Cut_yes u key m v l (hL.ext hu) (by omega) (hT.ext hu) (by omega) h1 h2)
    have HCn := Lib.hid (fun u (h : n < 1 ∨ 32 < n) => Cut_no u key n v h)
    have HR := Lib.hid (fun u => rMac_any key ⟨(joinL l).toArray⟩ (by omega) (by rw [txt_size]; omega) u)
    have HK := Lib.hid (fun u (hu : Ext w u) (t : ByteArray) (ht : t.size ≤ 100) => Check_any u key t v l (hL.ext hu) (by omega) (by omega) (hT.ext hu) (by omega))
    have HRK := Lib.hid (fun u (t : ByteArray) (ht : t.size ≤ 100) => rCheck_any u key t ⟨(joinL l).toArray⟩ (by omega) (by omega) (by rw [txt_size]; omega))
    have hz : ByteArray.size ⟨(macL key.data.toList (joinL l)).toArray⟩ = 32 := by rw [txt_size, macL_length]
    have hown := chk_own (macL key.data.toList (joinL l)) (macL_length _ _)
    have hct := fun m => cut_text (macL key.data.toList (joinL l)) m
    have hjd : (⟨(joinL l).toArray⟩ : ByteArray).data.toList = joinL l := rfl
    rw [hjd] at HR HRK
    have HKo := Lib.hid (fun u hu => HK.out u hu ⟨(macL key.data.toList (joinL l)).toArray⟩ (by omega))
    have hMd : (⟨(macL key.data.toList (joinL l)).toArray⟩ : ByteArray).data.toList = macL key.data.toList (joinL l) := rfl
    rw [hMd, hown] at HKo
    have HCT := Lib.hid hct
    clear hL hT hs HJ hfit hj hjd hMd hown hct
    generalize macL key.data.toList (joinL l) = M at *
    generalize (⟨M.toArray⟩ : ByteArray) = T at *
    generalize (⟨(joinL l).toArray⟩ : ByteArray) = JT at *
    by_cases hn : n < 1 ∨ 32 < n
    · have HC := Lib.hid (fun u => HCn.out u hn)
      have hfine : decide (1 ≤ n) = false ∨ decide (n ≤ 32) = false := by
        rcases hn with h | h
        · left; simp; omega
        · right; simp; omega
      clear hn HCy HCn
      rcases hfine with hn1 | hn1
      all_goals simp only [decide_eq_false_iff_not] at hn1
      all_goals
        cases own
        · have HKt := Lib.hid (fun u hu => HK.out u hu tag (by omega)); have HRKt := Lib.hid (fun u => HRK.out u tag (by omega))
          clear HK HRK
          go_enter Tryd.func3, Tryd.ntmps3
          go_wp2_with (first
            | (go_at_call 7; refine (HJ2.out).mono ?_; rintro e w1 ⟨rfl, rfl⟩)
            | (go_at_call 9; refine (HR.out _).mono ?_; rintro e w2 ⟨rfl, h2x⟩)
            | (go_at_call 10; refine (HC.out _).mono ?_; rintro e w3 ⟨rfl, rfl⟩)
            | (go_at_call 11; refine (HO.out _ h2x).mono ?_; rintro e w4 ⟨rfl, h4x⟩; have x4 := h2x.trans h4x)
            | (go_at_call 12; ((with_reducible refine (HKt.out _ x4).mono ?_); rintro e w6 ⟨rfl, h6x⟩))
            | (go_at_call 13; refine (HRKt.out _).mono ?_; rintro e w7 ⟨rfl, h7x⟩)
            | (go_at_call 12; ((with_reducible refine (HKo.out _ ((x4.trans h6x).trans h7x)).mono ?_); rintro e w8 ⟨rfl, h8x⟩))
            | (go_at_call 8; refine (HW.out _ (((x4.trans h6x).trans h7x).trans h8x)).mono ?_; rintro e w9 ⟨rfl, h9x⟩))
          go_ret
          exact ⟨rfl, (((x4.trans h6x).trans h7x).trans h8x).trans h9x⟩
        · obtain ⟨yn, hyn⟩ : ∃ yn : Nat, y.toNat = yn := ⟨_, rfl⟩
          have hyb : yn < 256 := by rw [← hyn]; exact y.toNat_lt
          obtain ⟨q, hq⟩ : ∃ q : Nat, (pos : Int) % 32 = (q : Int) := ⟨pos % 32, by omega⟩
          obtain ⟨r, hr⟩ : ∃ r : Nat, (yn : Int) % 23 = (r : Int) := ⟨yn % 23, by omega⟩
          have hq32 : q < 32 := by omega
          have hqi : (q : Int) < 32 := by omega
          have hr23 : r < 23 := by omega
          have hql : q < T.data.toList.length := by rw [size_list, hz]; exact hq32
          have hxor := xor_byte (T.data.toList[q]'hql) y
          rw [hyn] at hxor ⊢
          have hat : T.data.toList[q]? = some (T.data.toList[q]'hql) := List.getElem?_eq_getElem hql
          obtain ⟨bb, hbb⟩ : ∃ bb, bb = T.data.toList[q]'hql := ⟨_, rfl⟩
          rw [← hbb] at hxor hat
          obtain ⟨zz, hzz⟩ : ∃ zz, zz = bb ^^^ y := ⟨_, rfl⟩
          rw [← hzz] at hxor
          have hlen : (T.data.toList.set q zz).length = 32 := by rw [List.length_set, size_list, hz]
          obtain ⟨t, et⟩ : ∃ t : ByteArray, t = ⟨((T.data.toList.set q zz).take (10 + r)).toArray⟩ := ⟨_, rfl⟩
          have ht : t.size ≤ 100 := by rw [et, txt_size, List.length_take]; omega
          have HKt := Lib.hid (fun u hu => HK.out u hu t ht); have HRKt := Lib.hid (fun u => HRK.out u t ht)
          have HB := Lib.hid (fun (u : World) => bytes_of_text u T)
          have HA := Lib.hid hat; have HT := Lib.hid et; have HLn := Lib.hid hlen
          have HQ := Lib.hid hql
          have hk1 : (10 : Int) + (r : Int) ≤ 32 := by omega
          clear HK HRK hzz hbb hat et ht hlen hql hyn
          go_enter Tryd.func3, Tryd.ntmps3
          go_wp2_with (first
            | (go_at_call 7; refine (HJ2.out).mono ?_; rintro e w1 ⟨rfl, rfl⟩)
            | (go_at_call 9; refine (HR.out _).mono ?_; rintro e w2 ⟨rfl, h2x⟩)
            | (go_at_call 10; refine (HC.out _).mono ?_; rintro e w3 ⟨rfl, rfl⟩)
            | (go_at_call 11; refine (HO.out _ h2x).mono ?_; rintro e w4 ⟨rfl, h4x⟩; have x4 := h2x.trans h4x; obtain ⟨cap, w5, hcv, hcap, hx5, hrow⟩ := HB.out w4; have hcell := hrow.cell q bb HA.out; have hfz := hrow.frozen q HQ.out; have htx := (hrow.set_ q HQ.out _ zz rfl).text (10 + r) cap (by rw [HLn.out]; omega); rw [← HT.out] at htx; have hcap1 : 10 + r ≤ cap := (by omega); have hcap2 : (10 : Int) + (r : Int) ≤ (cap : Int) := (by omega); have x5 := (x4.trans hx5).setCell (p := ⟨w4.heap.size, q, none⟩) x4.size (.int .u8 (zz.toNat : Int)); clear hrow hcap)
            | (go_at_call 12; ((with_reducible refine (HKt.out _ x5).mono ?_); rintro e w6 ⟨rfl, h6x⟩))
            | (go_at_call 13; refine (HRKt.out _).mono ?_; rintro e w7 ⟨rfl, h7x⟩)
            | (go_at_call 12; ((with_reducible refine (HKo.out _ ((x5.trans h6x).trans h7x)).mono ?_); rintro e w8 ⟨rfl, h8x⟩))
            | (go_at_call 8; refine (HW.out _ (((x5.trans h6x).trans h7x).trans h8x)).mono ?_; rintro e w9 ⟨rfl, h9x⟩))
          go_ret
          exact ⟨rfl, (((x5.trans h6x).trans h7x).trans h8x).trans h9x⟩
    · obtain ⟨m, rfl⟩ : ∃ m : Nat, n = (m : Int) := ⟨n.toNat, by omega⟩
      have i1 : (1 : Int) ≤ (m : Int) := by omega
      have i2 : (m : Int) ≤ 32 := by omega
      have j1 : 1 ≤ m := by omega
      have j2 : m ≤ 32 := by omega
      have HC := Lib.hid (fun u hu => HCy.out u hu m j1 j2)
      rw [← HCT.out m] at HC
      clear hn HCy HCn
      cases own
      · have HKt := Lib.hid (fun u hu => HK.out u hu tag (by omega)); have HRKt := Lib.hid (fun u => HRK.out u tag (by omega))
        clear HK HRK
        go_enter Tryd.func3, Tryd.ntmps3
        go_wp2_with (first
          | (go_at_call 7; refine (HJ2.out).mono ?_; rintro e w1 ⟨rfl, rfl⟩)
          | (go_at_call 9; refine (HR.out _).mono ?_; rintro e w2 ⟨rfl, h2x⟩)
          | (go_at_call 10; refine (HC.out _ h2x).mono ?_; rintro e w3 ⟨rfl, h3x⟩)
          | (go_at_call 11; refine (HO.out _ (h2x.trans h3x)).mono ?_; rintro e w4 ⟨rfl, h4x⟩; have x4 := (h2x.trans h3x).trans h4x)
          | (go_at_call 12; ((with_reducible refine (HKt.out _ x4).mono ?_); rintro e w6 ⟨rfl, h6x⟩))
          | (go_at_call 13; refine (HRKt.out _).mono ?_; rintro e w7 ⟨rfl, h7x⟩)
          | (go_at_call 12; ((with_reducible refine (HKo.out _ ((x4.trans h6x).trans h7x)).mono ?_); rintro e w8 ⟨rfl, h8x⟩))
          | (go_at_call 8; refine (HW.out _ (((x4.trans h6x).trans h7x).trans h8x)).mono ?_; rintro e w9 ⟨rfl, h9x⟩))
        go_ret
        exact ⟨rfl, (((x4.trans h6x).trans h7x).trans h8x).trans h9x⟩
      · obtain ⟨yn, hyn⟩ : ∃ yn : Nat, y.toNat = yn := ⟨_, rfl⟩
        have hyb : yn < 256 := by rw [← hyn]; exact y.toNat_lt
        obtain ⟨q, hq⟩ : ∃ q : Nat, (pos : Int) % 32 = (q : Int) := ⟨pos % 32, by omega⟩
        obtain ⟨r, hr⟩ : ∃ r : Nat, (yn : Int) % 23 = (r : Int) := ⟨yn % 23, by omega⟩
        have hq32 : q < 32 := by omega
        have hqi : (q : Int) < 32 := by omega
        have hr23 : r < 23 := by omega
        have hql : q < T.data.toList.length := by rw [size_list, hz]; exact hq32
        have hxor := xor_byte (T.data.toList[q]'hql) y
        rw [hyn] at hxor ⊢
        have hat : T.data.toList[q]? = some (T.data.toList[q]'hql) := List.getElem?_eq_getElem hql
        obtain ⟨bb, hbb⟩ : ∃ bb, bb = T.data.toList[q]'hql := ⟨_, rfl⟩
        rw [← hbb] at hxor hat
        obtain ⟨zz, hzz⟩ : ∃ zz, zz = bb ^^^ y := ⟨_, rfl⟩
        rw [← hzz] at hxor
        have hlen : (T.data.toList.set q zz).length = 32 := by rw [List.length_set, size_list, hz]
        obtain ⟨t, et⟩ : ∃ t : ByteArray, t = ⟨((T.data.toList.set q zz).take (10 + r)).toArray⟩ := ⟨_, rfl⟩
        have ht : t.size ≤ 100 := by rw [et, txt_size, List.length_take]; omega
        have HKt := Lib.hid (fun u hu => HK.out u hu t ht); have HRKt := Lib.hid (fun u => HRK.out u t ht)
        have HB := Lib.hid (fun (u : World) => bytes_of_text u T)
        have HA := Lib.hid hat; have HT := Lib.hid et; have HLn := Lib.hid hlen
        have HQ := Lib.hid hql
        have hk1 : (10 : Int) + (r : Int) ≤ 32 := by omega
        clear HK HRK hzz hbb hat et ht hlen hql hyn
        go_enter Tryd.func3, Tryd.ntmps3
        go_wp2_with (first
          | (go_at_call 7; refine (HJ2.out).mono ?_; rintro e w1 ⟨rfl, rfl⟩)
          | (go_at_call 9; refine (HR.out _).mono ?_; rintro e w2 ⟨rfl, h2x⟩)
          | (go_at_call 10; refine (HC.out _ h2x).mono ?_; rintro e w3 ⟨rfl, h3x⟩)
          | (go_at_call 11; refine (HO.out _ (h2x.trans h3x)).mono ?_; rintro e w4 ⟨rfl, h4x⟩; have x4 := (h2x.trans h3x).trans h4x; obtain ⟨cap, w5, hcv, hcap, hx5, hrow⟩ := HB.out w4; have hcell := hrow.cell q bb HA.out; have hfz := hrow.frozen q HQ.out; have htx := (hrow.set_ q HQ.out _ zz rfl).text (10 + r) cap (by rw [HLn.out]; omega); rw [← HT.out] at htx; have hcap1 : 10 + r ≤ cap := (by omega); have hcap2 : (10 : Int) + (r : Int) ≤ (cap : Int) := (by omega); have x5 := (x4.trans hx5).setCell (p := ⟨w4.heap.size, q, none⟩) x4.size (.int .u8 (zz.toNat : Int)); clear hrow hcap)
          | (go_at_call 12; ((with_reducible refine (HKt.out _ x5).mono ?_); rintro e w6 ⟨rfl, h6x⟩))
          | (go_at_call 13; refine (HRKt.out _).mono ?_; rintro e w7 ⟨rfl, h7x⟩)
          | (go_at_call 12; ((with_reducible refine (HKo.out _ ((x5.trans h6x).trans h7x)).mono ?_); rintro e w8 ⟨rfl, h8x⟩))
          | (go_at_call 8; refine (HW.out _ (((x5.trans h6x).trans h7x).trans h8x)).mono ?_; rintro e w9 ⟨rfl, h9x⟩))
        go_ret
        exact ⟨rfl, (((x5.trans h6x).trans h7x).trans h8x).trans h9x⟩
  · have HJ2 := Lib.hid (HJ.out.mono fun e w' h => jpost_no hfit h)
    clear hL hT hs HJ hfit
    go_enter Tryd.func3, Tryd.ntmps3
    go_wp2_with (first
      | (go_at_call 7; refine (HJ2.out).mono ?_; rintro e w1 ⟨rfl, rfl⟩)
      | (go_at_call 8; refine (HW.out _ (Ext.refl w)).mono ?_; rintro e w2 ⟨rfl, h2⟩))
    go_ret
    exact ⟨rfl, h2⟩
end Go.Proofs.YtciiooeblknnoaaDoor
