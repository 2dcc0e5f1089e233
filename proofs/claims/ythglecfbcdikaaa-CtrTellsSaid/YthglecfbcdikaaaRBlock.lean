/- Contracts: a block ciphered, by the document's answer. -/
import Derived.Test.YthglecfbcdikaaaRRounds
import Derived.Test.YthglecfbcdikaaaRows6
import Derived.Test.YthglecfbcdikaaaCipher
namespace Go.Proofs.Ythglecfbcdikaaa
open Go.RowKit
attribute [local irreducible] rkey expand enc dec keyTexts subShift mixC addK

theorem BRow.sl {w : World} {g : Nat} {t : TypeId} {l : List UInt8} (h : BRow w g t l) (c : Nat) : BSl w (.slice (some ⟨g, 0, none⟩) l.length c) l := ⟨g, c, rfl, h.lt, fun i b hb => h.cell i b hb⟩
theorem BSl.text {w : World} {v : Value} {l : List UInt8} (h : BSl w v l) : (convert 30 9 v).run Try.prog w = .ok (.string ⟨l.toArray⟩) w := by
  obtain ⟨g, c, rfl, hg, hc⟩ := h
  have h2 := run_convert_bytes_arg (P := Try.prog) w 30 5 Try.underlying30 Try.underlying5 g 0 l.length c (l.map fun c => (c.toNat : Int)) (by simp) (by
    intro i hi
    have := hc i l[i] (List.getElem?_eq_getElem hi)
    simpa [List.getD, List.getElem?_eq_getElem hi] using this) 9 Try.underlying9
  rw [h2]
  have e : strOfNums (l.map fun c => (c.toNat : Int)) = ⟨l.toArray⟩ := by
    unfold strOfNums
    congr 2
    rw [List.map_map]
    conv => rhs; rw [← List.map_id l]
    apply List.map_congr_left
    intro b _
    simp
  rw [e]
theorem subShift_at (l : List UInt8) (i : Nat) (hi : i < 16) : (subShift l)[i]? = some (boxB (l.getD (4 * ((i / 4 + i % 4) % 4) + i % 4) 0)) := by
  unfold subShift
  rw [List.getElem?_map, List.getElem?_range hi]; rfl
theorem brow_mixd {w : World} {g : Nat} {t : TypeId} {new old : List UInt8} (h : new.length = 16) (ho : old.length = 16) (j : Nat) (hj : j < 16) (hr : BRow w g t (mixd new old j)) (b : UInt8) (hb : new[j]? = some b) (x : Int) (hx : x = (b.toNat : Int)) :
    BRow (w.setCell ⟨g, j, none⟩ (.int .u8 x)) g t (mixd new old (j + 1)) := by
  have h2 := hr.set_ j (by rw [mixd_length h ho j (by omega)]; exact hj) x b hx
  rw [mixd_set h ho j hj b hb] at h2
  exact h2
set_option maxRecDepth 100000 in
set_option maxHeartbeats 4000000 in
theorem raes_any (w : World) (key s : ByteArray) (hk : key.size = 16) (hs : s.size = 16) (v : Value) (hv : BSl w v boxT) :
    Calls Try.prog 18 #[.string key, .string s, v] w fun e w' => e = .returned (.string ⟨(enc (rkey key.data.toList) s.data.toList).toArray⟩) ∧ Ext w w' := by
  have HR := Lib.hid (rrounds_any w key hk v hv)
  obtain ⟨gt, ct, rfl, hgt, hct⟩ := hv
  rw [boxT_length] at HR ⊢
  have HCT := Lib.hid (fun u (hu : Ext w u) (b : UInt8) => (hu.below.cell (p := ⟨gt, b.toNat, none⟩) hgt).trans (hct b.toNat (boxB b) (by have := boxT_at b.toNat b.toNat_lt; rwa [UInt8.ofNat_toNat] at this)))
  have hkl : key.data.toList.length = 16 := by rw [size_list]; exact hk
  have hsl : s.data.toList.length = 16 := by rw [size_list]; exact hs
  have hK : ∀ n, n ≤ 10 → (rkey key.data.toList n).length = 16 := fun n hn => rkey_length hkl n hn
  have HK := Lib.hid hK; have HSl := Lib.hid hsl
  have HE := Lib.hid (encS_all (rkey key.data.toList) s.data.toList)
  have HEL := Lib.hid (encS_length hK hsl)
  have HKA := Lib.hid (keyTexts_at key.data.toList)
  have HKL := Lib.hid (keyTexts_length key.data.toList)
  have HA0 := Lib.hid (addK_length (hK 0 (by omega)) hsl)
  have hmk := make16
  have hs0 : s.size = 16 := hs
  have HCV := Lib.hid (fun u => bytes_of_text u s)
  have hKLn := keyTexts_length key.data.toList
  clear hct hK hkl hsl
  generalize key.data.toList = kl at *
  generalize s.data.toList = sl at *
  go_enter Try.func18, Try.ntmps18
  go_wp2_with (go_at_call 31; refine (HR.out).mono ?_; rintro e w1 ⟨v1, rfl, ⟨gl, cl, rfl, hgl, hcl⟩, x1⟩; obtain ⟨c, W2, hcv, hc2, x2, hb2⟩ := HCV.out w1)
  have HB2 := Lib.hid hb2; have HX2 := Lib.hid x2; have HX1 := Lib.hid x1
  have HCL := Lib.hid (fun u (hu : Ext w1 u) i (hi : i < 11) => (hu.below.cell (p := ⟨gl, i, none⟩) hgl).trans (hcl i _ (HKA.out i hi)))
  have HTX : Hid (∀ i, i < 11 → ∃ T : ByteArray, T = ⟨(rkey kl i).toArray⟩ ∧ T.size = 16 ∧ (∀ j (h : j < T.size) (b : UInt8), (rkey kl i)[j]? = some b → T[j] = b)) := Lib.hid (fun i hi => ⟨_, rfl, by have := HK.out i (by omega); simpa [ByteArray.size] using this, fun j h b hb => text_at _ j b hb h⟩)
  clear hcl hb2 x2 x1 hcv hc2
  go_loopw [9] (fun i wr => ∃ j : Nat, j ≤ 16 ∧ i = .int .i64 j ∧ BRow wr w1.heap.size 5 (mixd (addK (rkey kl 0) sl) sl j) ∧ Ext w1 wr) (fun i _ => 16 - (intOf i).toNat)
  case atStart => exact ⟨0, Nat.zero_le _, rfl, by rw [mixd_zero]; exact HB2.out, HX2.out⟩
  case round =>
    clear HB2 HX2
    obtain ⟨j, hj, rfl, hrow, hext⟩ := hrel
    have HRow := Lib.hid hrow; have HExt := Lib.hid hext
    by_cases hlt : j < 16
    · have hji : (j : Int) < 16 := by omega
      have hj0 : (0 : Int) ≤ (j : Int) := by omega
      obtain ⟨x, hx⟩ : ∃ x, sl[j]? = some x := ⟨_, List.getElem?_eq_getElem (by rw [HSl.out]; exact hlt)⟩
      obtain ⟨y, hy⟩ : ∃ y, (rkey kl 0)[j]? = some y := ⟨_, List.getElem?_eq_getElem (by rw [HK.out 0 (by omega)]; exact hlt)⟩
      have hn : (addK (rkey kl 0) sl)[j]? = some (x ^^^ y) := by unfold addK; rw [List.getElem?_zipWith, hx, hy]
      have c1 := hrow.cell j x (by rw [mixd_at HA0.out j j (by omega) (Nat.le_refl _)]; exact hx)
      have f1 := hrow.frozen j (by rw [mixd_length HA0.out HSl.out j (by omega)]; exact hlt)
      have c2 := HCL.out wr hext 0 (by decide)
      obtain ⟨T, hT, hTs, hTg⟩ := HTX.out 0 (by decide)
      rw [← hT] at c2
      have hjT : j < T.size := by rw [hTs]; exact hlt
      have hjTi : (j : Int) < (T.size : Int) := by omega
      have hg := hTg j hjT y hy
      have hxor := xorB8 x y
      rw [← hg] at hxor
      have HS := Lib.hid (fun v hv => brow_mixd HA0.out HSl.out j hlt hrow _ hn v hv)
      have HG := Lib.hid hg
      clear hT hTs hTg hn hx hy hrow hext hg
      go_wp2
      go_region
      go_wp2
      go_roundw
      case rel => exact ⟨j + 1, by omega, by go_num, HS.out _ (by first | rfl | (rw [← HG.out]; first | rfl | exact hxor)), (HExt.out.setCell (Nat.le_refl _) _).drew⟩
      case measure => simp [intOf]; omega
    · obtain rfl : j = 16 := by omega
      rw [mixd_all HA0.out HSl.out, ← encS_zero] at hrow
      have hsl0 := hrow.sl c
      rw [HEL.out 0 (by omega)] at hsl0
      have HS0 := Lib.hid hsl0
      clear hrow hsl0 hext HRow
      have e16 : ((16 : Nat) : Int) = 16 := rfl
      rw [e16]
      clear e16
      go_wp2
      go_loopw [8, 10] (fun v i wr => ∃ n : Nat, 1 ≤ n ∧ n ≤ 11 ∧ i = .int .i64 n ∧ BSl wr v (encS (rkey kl) sl (n - 1)) ∧ Ext w1 wr) (fun _ i _ => 11 - (intOf i).toNat)
      case atStart => exact ⟨1, by omega, by omega, rfl, HS0.out, HExt.out⟩
      case round =>
        clear HS0 HExt
        obtain ⟨n, hn1, hn, rfl, hbs, hext⟩ := hrel
        by_cases hlt : n ≤ 10
        · have hni : (n : Int) ≤ 10 := by omega
          obtain ⟨W3, rfl⟩ : ∃ W3, W3 = wr := ⟨_, rfl⟩
          have HXL := Lib.hid (HEL.out (n - 1) (by omega))
          obtain ⟨X, hX⟩ : ∃ X, encS (rkey kl) sl (n - 1) = X := ⟨_, rfl⟩
          have HXe := Lib.hid hX
          rw [hX] at hbs HXL
          obtain ⟨gb, cb, rfl, hgb, hcb⟩ := hbs
          rw [HXL.out]
          have HCB := Lib.hid (fun u (hu : Ext W3 u) i (hi : i < 16) => (hu.below.cell (p := ⟨gb, i, none⟩) hgb).trans (hcb i _ (getD_some (by rw [HXL.out]; exact hi))))
          have HE3 := Lib.hid hext
          have HSA := Lib.hid (fun i hi => subShift_at X i hi); have HSL := Lib.hid (subShift_length X)
          clear hcb hext hX
          go_wp2
          go_loopw [12] (fun i wr => ∃ j : Nat, j ≤ 16 ∧ i = .int .i64 j ∧ Row wr W3.heap.size 5 ((subShift X).take j ++ List.replicate (16 - j) 0) ∧ Ext W3 wr) (fun i _ => 16 - (intOf i).toNat)
          case atStart => exact ⟨0, by omega, rfl, by simpa using Row.zero W3 5 16, (Ext.refl W3).alloc _⟩
          case round =>
            obtain ⟨i, hi, rfl, hrow, hext⟩ := hrel
            have HR := Lib.hid hrow; have HExt := Lib.hid hext
            by_cases hlti : i < 16
            · have hii : (i : Int) < 16 := by omega
              obtain ⟨r, hr⟩ : ∃ r : Nat, (i : Int) % 4 = (r : Int) := ⟨i % 4, by omega⟩
              obtain ⟨q, hq⟩ : ∃ r : Nat, (i : Int) / 4 = (r : Int) := ⟨i / 4, by omega⟩
              obtain ⟨t, ht⟩ : ∃ m : Nat, ((q : Int) + (r : Int)) % 4 = (m : Int) := ⟨(q + r) % 4, by omega⟩
              obtain ⟨p, hp⟩ : ∃ m : Nat, 4 * (t : Int) + (r : Int) = (m : Int) := ⟨4 * t + r, by omega⟩
              have hp2 : 4 * ((i / 4 + i % 4) % 4) + i % 4 = p := by omega
              have hp16 : p < 16 := by omega
              have hpi : (p : Int) < 16 := by omega
              have hat := HSA.out i hlti
              rw [hp2] at hat
              have c1 := HCB.out wr hext p hp16
              generalize X.getD p 0 = x at *
              have c2 := HCT.out wr ((HX1.out.trans HE3.out).trans hext) x
              have hxi : (x.toNat : Int) < 256 := by have := x.toNat_lt; omega
              have c3 := fill_cell hrow HSL.out hlti
              have f3 := hrow.frozen i
              have HS := Lib.hid (fun v hv => fill_step hrow HSL.out hlti v _ hat hv)
              have HP2 := Lib.hid hp2
              clear hat hrow hext hp2
              generalize (boxB x).toNat = y at *
              generalize x.toNat = xn at *
              go_wp2
              go_roundw
              case rel => exact ⟨i + 1, by omega, by go_num, HS.out _ rfl, HExt.out.setCell (Nat.le_refl _) _⟩
              case measure => simp [intOf]; omega
            · obtain rfl : i = 16 := by omega
              have hfull := fill_done hrow HSL.out
              have HM := Lib.hid hfull
              clear hrow hfull HR hext HSA
              have e16 : ((16 : Nat) : Int) = 16 := rfl
              rw [e16]
              clear e16
              by_cases h10 : n < 10
              case' pos =>
                have h10i : (n : Int) < 10 := by omega
                have HEn := Lib.hid (encS_mid (rkey kl) sl (n - 1) (by omega))
                rw [HXe.out, show n - 1 + 1 = n by omega] at HEn
                have hsv := HM.out.sl 16
                rw [HSL.out] at hsv
                have HSv := Lib.hid hsv
                have HML := Lib.hid (mixC_length (subShift X))
                clear hsv
                go_wp2_with (go_at_call 32; refine (rmixed_any _ _ (subShift X) HSL.out HSv.out).mono ?_; rintro e W4 ⟨gm, rfl, hgm, hM4, x4⟩)
                have HM4 := Lib.hid hM4; have HG4 := Lib.hid (show w1.heap.size ≤ gm from Nat.le_trans (HE3.out.trans HExt.out).size hgm); have HX4 := Lib.hid ((HE3.out.trans HExt.out).trans x4)
                clear hM4 hgm x4 HSv
                generalize mixC (subShift X) = M at *
              case' neg =>
                have h10i : ¬ (n : Int) < 10 := by omega
                have hn10 : n = 10 := by omega
                have HEn : Hid (encS (rkey kl) sl n = addK (rkey kl n) (subShift X)) := Lib.hid (by
                  have e := HXe.out
                  rw [hn10] at e ⊢
                  rw [encS_last, e])
                clear hn10
                have HML := Lib.hid (subShift_length X)
                have HM4 := Lib.hid HM.out; have HG4 := Lib.hid (show w1.heap.size ≤ W3.heap.size from HE3.out.size); have HX4 := Lib.hid (HE3.out.trans HExt.out)
                go_wp2
                generalize W3.heap.size = gm at *
                obtain ⟨W4, rfl⟩ : ∃ W4, W4 = wr := ⟨_, rfl⟩
                generalize subShift X = M at *
              all_goals
                have HKn := Lib.hid (HK.out n hlt)
                have HAn := Lib.hid (addK_length HKn.out HML.out)
                obtain ⟨T, hT, hTs, hTg⟩ := HTX.out n (by omega)
                have HTs := Lib.hid hTs; have HTg := Lib.hid hTg; have HT := Lib.hid hT
                have hlt11 : n < 11 := by omega
                have hnl : (n : Int) < 11 := by omega
                clear hT hTs hTg
                go_loopw [15] (fun i wr => ∃ j : Nat, j ≤ 16 ∧ i = .int .i64 j ∧ Row wr gm 5 (mixd (addK (rkey kl n) M) M j) ∧ Ext w1 wr) (fun i _ => 16 - (intOf i).toNat)
                case atStart => exact ⟨0, by omega, rfl, by rw [mixd_zero]; exact HM4.out, HX4.out⟩
                case round =>
                  clear HM4 HX4 HExt
                  obtain ⟨j, hj, rfl, hrow, hext⟩ := hrel
                  have HExt := Lib.hid hext
                  by_cases hltj : j < 16
                  · have hji : (j : Int) < 16 := by omega
                    have hj0 : (0 : Int) ≤ (j : Int) := by omega
                    obtain ⟨x, hx⟩ : ∃ x, M[j]? = some x := ⟨_, List.getElem?_eq_getElem (by rw [HML.out]; exact hltj)⟩
                    obtain ⟨y, hy⟩ : ∃ y, (rkey kl n)[j]? = some y := ⟨_, List.getElem?_eq_getElem (by rw [HKn.out]; exact hltj)⟩
                    have hn2 : (addK (rkey kl n) M)[j]? = some (x ^^^ y) := by unfold addK; rw [List.getElem?_zipWith, hx, hy]
                    have c1 := hrow.cell j x (by rw [mixd_at HAn.out j j (by omega) (Nat.le_refl _)]; exact hx)
                    have f1 := hrow.frozen j
                    have c2 := HCL.out wr hext n hlt11
                    rw [← HT.out] at c2
                    have hjT : j < T.size := by rw [HTs.out]; exact hltj
                    have hjTi : (j : Int) < (T.size : Int) := by omega
                    have hg := HTg.out j hjT y hy
                    have hxor := xorB8 x y
                    rw [← hg] at hxor
                    have HS := Lib.hid (fun v hv => row_mixd HAn.out HML.out j hltj hrow _ hn2 v hv)
                    have HG := Lib.hid hg
                    clear hn2 hx hy hrow hext hg
                    go_wp2
                    go_region
                    go_wp2
                    go_roundw
                    case rel => exact ⟨j + 1, by omega, by go_num, HS.out _ (by first | rfl | (rw [← HG.out]; first | rfl | exact hxor)), (HExt.out.setCell HG4.out _).drew⟩
                    case measure => simp [intOf]; omega
                  · obtain rfl : j = 16 := by omega
                    rw [mixd_all HAn.out HML.out, ← HEn.out] at hrow
                    have hsl2 := hrow.sl 16
                    rw [HEL.out n hlt] at hsl2
                    have HS2 := Lib.hid hsl2
                    clear hrow hsl2 hext
                    have e16 : ((16 : Nat) : Int) = 16 := rfl
                    rw [e16]
                    clear e16
                    go_wp2
                    go_roundw
                    case rel => exact ⟨n + 1, by omega, by omega, by go_num, by rw [Nat.add_sub_cancel]; exact HS2.out, HExt.out⟩
                    case measure => simp [intOf]; omega
        · obtain rfl : n = 11 := by omega
          rw [show 11 - 1 = 10 from rfl, HE.out] at hbs
          have ht := hbs.text
          have e11 : ((11 : Nat) : Int) = 11 := rfl
          rw [e11]
          clear e11 hbs
          go_wp2
          go_ret
          exact ⟨rfl, HX1.out.trans hext⟩
end Go.Proofs.Ythglecfbcdikaaa
