/- Contracts: a block ciphered, by the document's answer. Contract: a stream, by the document's answer. Contract: a text, either or a stream, by the document's answer. Plain words: whether two texts are the same, as the program tests it. Contracts: envelopes, by the document's answer. -/
import Derived.Test.YtobhbppogeghnaaGreatDoorM35
import Derived.Test.YtobhbppogeghnaaGreatDoorM34
import Derived.Test.YtobhbppogeghnaaGreatDoorM20
import Derived.Test.YtobhbppogeghnaaGreatDoorM05
import Derived.Test.YtobhbppogeghnaaGreatDoorM31
import Derived.StillTailTactics
import Derived.Deep.RegionLaw
import Derived.Outline
import Derived.Test.YtobhbppogeghnaaGreatDoorM29
import Derived.Test.YtobhbppogeghnaaGreatDoorProg
import Derived.WalkKit
import Derived.Test.YtobhbppogeghnaaGreatDoorM33
import Derived.Test.YtobhbppogeghnaaGreatDoorM01
import Derived.Test.YtobhbppogeghnaaGreatDoorM23
import Derived.BigQuiet
import Derived.Deep.RegionHeld3
section
namespace Go.Proofs.YtobhbppogeghnaaGreatDoor
open Go.RowKit
attribute [local irreducible] rkey expand enc dec keyTexts subShift mixC addK

theorem BRow.sl {w : World} {g : Nat} {t : TypeId} {l : List UInt8} (h : BRow w g t l) (c : Nat) : BSl w (.slice (some ⟨g, 0, none⟩) l.length c) l := ⟨g, c, rfl, h.lt, fun i b hb => h.cell i b hb⟩
theorem BSl.text {w : World} {v : Value} {l : List UInt8} (h : BSl w v l) : (convert 43 9 v).run Tryz.prog w = .ok (.string ⟨l.toArray⟩) w := by
  obtain ⟨g, c, rfl, hg, hc⟩ := h
  have h2 := run_convert_bytes_arg (P := Tryz.prog) w 43 5 Tryz.underlying43 Tryz.underlying5 g 0 l.length c (l.map fun c => (c.toNat : Int)) (by simp) (by
    intro i hi
    have := hc i l[i] (List.getElem?_eq_getElem hi)
    simpa [List.getD, List.getElem?_eq_getElem hi] using this) 9 Tryz.underlying9
  rw [h2]
  have e : strOfNums (l.map fun c => (c.toNat : Int)) = ⟨l.toArray⟩ := by
    have hm : (l.map fun c => (c.toNat : Int)).map (fun n => UInt8.ofNat n.toNat) = l := by
      rw [List.map_map]
      conv => rhs; rw [← List.map_id l]
      apply List.map_congr_left
      intro b _
      simp
    exact congrArg (fun l : List UInt8 => (⟨l.toArray⟩ : ByteArray)) hm
  rw [e]
theorem subShift_at (l : List UInt8) (i : Nat) (hi : i < 16) : (subShift l)[i]? = some (boxB (l.getD (4 * ((i / 4 + i % 4) % 4) + i % 4) 0)) := by
  unfold subShift
  rw [List.getElem?_map, List.getElem?_range hi]; rfl
theorem brow_mixd {w : World} {g : Nat} {t : TypeId} {new old : List UInt8} (h : new.length = 16) (ho : old.length = 16) (j : Nat) (hj : j < 16) (hr : BRow w g t (mixd new old j)) (b : UInt8) (hb : new[j]? = some b) (x : Int) (hx : x = (b.toNat : Int)) :
    BRow (w.setCell ⟨g, j, none⟩ (.int .u8 x)) g t (mixd new old (j + 1)) := by
  have h2 := hr.set_ j (by rw [mixd_length h ho j (by omega)]; exact hj) x b hx
  rw [mixd_set h ho j hj b hb] at h2
  exact h2
set_option maxRecDepth 100000 in
set_option maxHeartbeats 4000000 in
theorem raes_any (w : World) (key s : ByteArray) (hk : key.size = 16) (hs : s.size = 16) (v : Value) (hv : BSl w v boxT) :
    Calls Tryz.prog 155 #[.string key, .string s, v] w fun e w' => e = .returned (.string ⟨(enc (rkey key.data.toList) s.data.toList).toArray⟩) ∧ Ext w w' := by
  have HR := Lib.hid (rrounds_any w key hk v hv)
  obtain ⟨gt, ct, rfl, hgt, hct⟩ := hv
  rw [boxT_length] at HR ⊢
  have HCT := Lib.hid (fun u (hu : Ext w u) (b : UInt8) => (hu.below.cell (p := ⟨gt, b.toNat, none⟩) hgt).trans (hct b.toNat (boxB b) (by have := boxT_at b.toNat b.toNat_lt; rwa [UInt8.ofNat_toNat] at this)))
  have hkl : key.data.toList.length = 16 := by rw [size_list]; exact hk
  have hsl : s.data.toList.length = 16 := by rw [size_list]; exact hs
  have hK : ∀ n, n ≤ 10 → (rkey key.data.toList n).length = 16 := fun n hn => rkey_length hkl n hn
  have HK := Lib.hid hK; have HSl := Lib.hid hsl
  have HE := Lib.hid (encS_all (rkey key.data.toList) s.data.toList)
  have HEL := Lib.hid (encS_length hK hsl)
  have HKA := Lib.hid (keyTexts_at key.data.toList)
  have HKL := Lib.hid (keyTexts_length key.data.toList)
  have HA0 := Lib.hid (addK_length (hK 0 (by omega)) hsl)
  have hmk := make16
  have hs0 : s.size = 16 := hs
  have HCV := Lib.hid (fun u => bytes_of_text u s)
  have hKLn := keyTexts_length key.data.toList
  clear hct hK hkl hsl
  generalize key.data.toList = kl at *
  generalize s.data.toList = sl at *
  go_enter Tryz.func155, Tryz.ntmps155
  go_wp2_with (go_at_call 183; refine (HR.out).mono ?_; rintro e w1 ⟨v1, rfl, ⟨gl, cl, rfl, hgl, hcl⟩, x1⟩; obtain ⟨c, W2, hcv, hc2, x2, hb2⟩ := HCV.out w1)
  have HB2 := Lib.hid hb2; have HX2 := Lib.hid x2; have HX1 := Lib.hid x1
  have HCL := Lib.hid (fun u (hu : Ext w1 u) i (hi : i < 11) => (hu.below.cell (p := ⟨gl, i, none⟩) hgl).trans (hcl i _ (HKA.out i hi)))
  have HTX : Hid (∀ i, i < 11 → ∃ T : ByteArray, T = ⟨(rkey kl i).toArray⟩ ∧ T.size = 16 ∧ (∀ j (h : j < T.size) (b : UInt8), (rkey kl i)[j]? = some b → T[j] = b)) := Lib.hid (fun i hi => ⟨_, rfl, by have := HK.out i (by omega); simpa [ByteArray.size] using this, fun j h b hb => text_at _ j b hb h⟩)
  clear hcl hb2 x2 x1 hcv hc2
  go_loopw [9] (fun i wr => ∃ j : Nat, j ≤ 16 ∧ i = .int .i64 j ∧ BRow wr w1.heap.size 5 (mixd (addK (rkey kl 0) sl) sl j) ∧ Ext w1 wr) (fun i _ => 16 - (intOf i).toNat)
  case atStart => exact ⟨0, Nat.zero_le _, rfl, by rw [mixd_zero]; exact HB2.out, HX2.out⟩
  case round =>
    clear HB2 HX2
    obtain ⟨j, hj, rfl, hrow, hext⟩ := hrel
    have HRow := Lib.hid hrow; have HExt := Lib.hid hext
    by_cases hlt : j < 16
    · have hji : (j : Int) < 16 := by omega
      have hj0 : (0 : Int) ≤ (j : Int) := by omega
      obtain ⟨x, hx⟩ : ∃ x, sl[j]? = some x := ⟨_, List.getElem?_eq_getElem (by rw [HSl.out]; exact hlt)⟩
      obtain ⟨y, hy⟩ : ∃ y, (rkey kl 0)[j]? = some y := ⟨_, List.getElem?_eq_getElem (by rw [HK.out 0 (by omega)]; exact hlt)⟩
      have hn : (addK (rkey kl 0) sl)[j]? = some (x ^^^ y) := by unfold addK; rw [List.getElem?_zipWith, hx, hy]
      have c1 := hrow.cell j x (by rw [mixd_at HA0.out j j (by omega) (Nat.le_refl _)]; exact hx)
      have f1 := hrow.frozen j (by rw [mixd_length HA0.out HSl.out j (by omega)]; exact hlt)
      have c2 := HCL.out wr hext 0 (by decide)
      obtain ⟨T, hT, hTs, hTg⟩ := HTX.out 0 (by decide)
      rw [← hT] at c2
      have hjT : j < T.size := by rw [hTs]; exact hlt
      have hjTi : (j : Int) < (T.size : Int) := by omega
      have hg := hTg j hjT y hy
      have hxor := xorB8 x y
      rw [← hg] at hxor
      have HS := Lib.hid (fun v hv => brow_mixd HA0.out HSl.out j hlt hrow _ hn v hv)
      have HG := Lib.hid hg
      clear hT hTs hTg hn hx hy hrow hext hg
      go_wp2
      go_region
      go_wp2
      go_roundw
      case rel => exact ⟨j + 1, by omega, by go_num, HS.out _ (by first | rfl | (rw [← HG.out]; first | rfl | exact hxor)), (HExt.out.setCell (Nat.le_refl _) _).drew⟩
      case measure => simp [intOf]; omega
    · obtain rfl : j = 16 := by omega
      rw [mixd_all HA0.out HSl.out, ← encS_zero] at hrow
      have hsl0 := hrow.sl c
      rw [HEL.out 0 (by omega)] at hsl0
      have HS0 := Lib.hid hsl0
      clear hrow hsl0 hext HRow
      have e16 : ((16 : Nat) : Int) = 16 := rfl
      rw [e16]
      clear e16
      go_wp2
      go_loopw [8, 10] (fun v i wr => ∃ n : Nat, 1 ≤ n ∧ n ≤ 11 ∧ i = .int .i64 n ∧ BSl wr v (encS (rkey kl) sl (n - 1)) ∧ Ext w1 wr) (fun _ i _ => 11 - (intOf i).toNat)
      case atStart => exact ⟨1, by omega, by omega, rfl, HS0.out, HExt.out⟩
      case round =>
        clear HS0 HExt
        obtain ⟨n, hn1, hn, rfl, hbs, hext⟩ := hrel
        by_cases hlt : n ≤ 10
        · have hni : (n : Int) ≤ 10 := by omega
          obtain ⟨W3, rfl⟩ : ∃ W3, W3 = wr := ⟨_, rfl⟩
          have HXL := Lib.hid (HEL.out (n - 1) (by omega))
          obtain ⟨X, hX⟩ : ∃ X, encS (rkey kl) sl (n - 1) = X := ⟨_, rfl⟩
          have HXe := Lib.hid hX
          rw [hX] at hbs HXL
          obtain ⟨gb, cb, rfl, hgb, hcb⟩ := hbs
          rw [HXL.out]
          have HCB := Lib.hid (fun u (hu : Ext W3 u) i (hi : i < 16) => (hu.below.cell (p := ⟨gb, i, none⟩) hgb).trans (hcb i _ (getD_some (by rw [HXL.out]; exact hi))))
          have HE3 := Lib.hid hext
          have HSA := Lib.hid (fun i hi => subShift_at X i hi); have HSL := Lib.hid (subShift_length X)
          clear hcb hext hX
          go_wp2
          go_loopw [12] (fun i wr => ∃ j : Nat, j ≤ 16 ∧ i = .int .i64 j ∧ Row wr W3.heap.size 5 ((subShift X).take j ++ List.replicate (16 - j) 0) ∧ Ext W3 wr) (fun i _ => 16 - (intOf i).toNat)
          case atStart => exact ⟨0, by omega, rfl, by simpa using Row.zero W3 5 16, (Ext.refl W3).alloc _⟩
          case round =>
            obtain ⟨i, hi, rfl, hrow, hext⟩ := hrel
            have HR := Lib.hid hrow; have HExt := Lib.hid hext
            by_cases hlti : i < 16
            · have hii : (i : Int) < 16 := by omega
              obtain ⟨r, hr⟩ : ∃ r : Nat, (i : Int) % 4 = (r : Int) := ⟨i % 4, by omega⟩
              obtain ⟨q, hq⟩ : ∃ r : Nat, (i : Int) / 4 = (r : Int) := ⟨i / 4, by omega⟩
              obtain ⟨t, ht⟩ : ∃ m : Nat, ((q : Int) + (r : Int)) % 4 = (m : Int) := ⟨(q + r) % 4, by omega⟩
              obtain ⟨p, hp⟩ : ∃ m : Nat, 4 * (t : Int) + (r : Int) = (m : Int) := ⟨4 * t + r, by omega⟩
              have hp2 : 4 * ((i / 4 + i % 4) % 4) + i % 4 = p := by omega
              have hp16 : p < 16 := by omega
              have hpi : (p : Int) < 16 := by omega
              have hat := HSA.out i hlti
              rw [hp2] at hat
              have c1 := HCB.out wr hext p hp16
              generalize X.getD p 0 = x at *
              have c2 := HCT.out wr ((HX1.out.trans HE3.out).trans hext) x
              have hxi : (x.toNat : Int) < 256 := by have := x.toNat_lt; omega
              have c3 := fill_cell hrow HSL.out hlti
              have f3 := hrow.frozen i
              have HS := Lib.hid (fun v hv => fill_step hrow HSL.out hlti v _ hat hv)
              have HP2 := Lib.hid hp2
              clear hat hrow hext hp2
              generalize (boxB x).toNat = y at *
              generalize x.toNat = xn at *
              go_wp2
              go_roundw
              case rel => exact ⟨i + 1, by omega, by go_num, HS.out _ rfl, HExt.out.setCell (Nat.le_refl _) _⟩
              case measure => simp [intOf]; omega
            · obtain rfl : i = 16 := by omega
              have hfull := fill_done hrow HSL.out
              have HM := Lib.hid hfull
              clear hrow hfull HR hext HSA
              have e16 : ((16 : Nat) : Int) = 16 := rfl
              rw [e16]
              clear e16
              by_cases h10 : n < 10
              case' pos =>
                have h10i : (n : Int) < 10 := by omega
                have HEn := Lib.hid (encS_mid (rkey kl) sl (n - 1) (by omega))
                rw [HXe.out, show n - 1 + 1 = n by omega] at HEn
                have hsv := HM.out.sl 16
                rw [HSL.out] at hsv
                have HSv := Lib.hid hsv
                have HML := Lib.hid (mixC_length (subShift X))
                clear hsv
                go_wp2_with (go_at_call 184; refine (rmixed_any _ _ (subShift X) HSL.out HSv.out).mono ?_; rintro e W4 ⟨gm, rfl, hgm, hM4, x4⟩)
                have HM4 := Lib.hid hM4; have HG4 := Lib.hid (show w1.heap.size ≤ gm from Nat.le_trans (HE3.out.trans HExt.out).size hgm); have HX4 := Lib.hid ((HE3.out.trans HExt.out).trans x4)
                clear hM4 hgm x4 HSv
                generalize mixC (subShift X) = M at *
              case' neg =>
                have h10i : ¬ (n : Int) < 10 := by omega
                have hn10 : n = 10 := by omega
                have HEn : Hid (encS (rkey kl) sl n = addK (rkey kl n) (subShift X)) := Lib.hid (by
                  have e := HXe.out
                  rw [hn10] at e ⊢
                  rw [encS_last, e])
                clear hn10
                have HML := Lib.hid (subShift_length X)
                have HM4 := Lib.hid HM.out; have HG4 := Lib.hid (show w1.heap.size ≤ W3.heap.size from HE3.out.size); have HX4 := Lib.hid (HE3.out.trans HExt.out)
                go_wp2
                generalize W3.heap.size = gm at *
                obtain ⟨W4, rfl⟩ : ∃ W4, W4 = wr := ⟨_, rfl⟩
                generalize subShift X = M at *
              all_goals
                have HKn := Lib.hid (HK.out n hlt)
                have HAn := Lib.hid (addK_length HKn.out HML.out)
                obtain ⟨T, hT, hTs, hTg⟩ := HTX.out n (by omega)
                have HTs := Lib.hid hTs; have HTg := Lib.hid hTg; have HT := Lib.hid hT
                have hlt11 : n < 11 := by omega
                have hnl : (n : Int) < 11 := by omega
                clear hT hTs hTg
                go_loopw [15] (fun i wr => ∃ j : Nat, j ≤ 16 ∧ i = .int .i64 j ∧ Row wr gm 5 (mixd (addK (rkey kl n) M) M j) ∧ Ext w1 wr) (fun i _ => 16 - (intOf i).toNat)
                case atStart => exact ⟨0, by omega, rfl, by rw [mixd_zero]; exact HM4.out, HX4.out⟩
                case round =>
                  clear HM4 HX4 HExt
                  obtain ⟨j, hj, rfl, hrow, hext⟩ := hrel
                  have HExt := Lib.hid hext
                  by_cases hltj : j < 16
                  · have hji : (j : Int) < 16 := by omega
                    have hj0 : (0 : Int) ≤ (j : Int) := by omega
                    obtain ⟨x, hx⟩ : ∃ x, M[j]? = some x := ⟨_, List.getElem?_eq_getElem (by rw [HML.out]; exact hltj)⟩
                    obtain ⟨y, hy⟩ : ∃ y, (rkey kl n)[j]? = some y := ⟨_, List.getElem?_eq_getElem (by rw [HKn.out]; exact hltj)⟩
                    have hn2 : (addK (rkey kl n) M)[j]? = some (x ^^^ y) := by unfold addK; rw [List.getElem?_zipWith, hx, hy]
                    have c1 := hrow.cell j x (by rw [mixd_at HAn.out j j (by omega) (Nat.le_refl _)]; exact hx)
                    have f1 := hrow.frozen j
                    have c2 := HCL.out wr hext n hlt11
                    rw [← HT.out] at c2
                    have hjT : j < T.size := by rw [HTs.out]; exact hltj
                    have hjTi : (j : Int) < (T.size : Int) := by omega
                    have hg := HTg.out j hjT y hy
                    have hxor := xorB8 x y
                    rw [← hg] at hxor
                    have HS := Lib.hid (fun v hv => row_mixd HAn.out HML.out j hltj hrow _ hn2 v hv)
                    have HG := Lib.hid hg
                    clear hn2 hx hy hrow hext hg
                    go_wp2
                    go_region
                    go_wp2
                    go_roundw
                    case rel => exact ⟨j + 1, by omega, by go_num, HS.out _ (by first | rfl | (rw [← HG.out]; first | rfl | exact hxor)), (HExt.out.setCell HG4.out _).drew⟩
                    case measure => simp [intOf]; omega
                  · obtain rfl : j = 16 := by omega
                    rw [mixd_all HAn.out HML.out, ← HEn.out] at hrow
                    have hsl2 := hrow.sl 16
                    rw [HEL.out n hlt] at hsl2
                    have HS2 := Lib.hid hsl2
                    clear hrow hsl2 hext
                    have e16 : ((16 : Nat) : Int) = 16 := rfl
                    rw [e16]
                    clear e16
                    go_wp2
                    go_roundw
                    case rel => exact ⟨n + 1, by omega, by omega, by go_num, by rw [Nat.add_sub_cancel]; exact HS2.out, HExt.out⟩
                    case measure => simp [intOf]; omega
        · obtain rfl : n = 11 := by omega
          rw [show 11 - 1 = 10 from rfl, HE.out] at hbs
          have ht := hbs.text
          have e11 : ((11 : Nat) : Int) = 11 := rfl
          rw [e11]
          clear e11 hbs
          go_wp2
          go_ret
          exact ⟨rfl, HX1.out.trans hext⟩
end Go.Proofs.YtobhbppogeghnaaGreatDoor
end

section
namespace Go.Proofs.YtobhbppogeghnaaGreatDoor
open Go.RowKit
attribute [local irreducible] rkey expand enc dec ctrB ctrC ctrL

theorem ctr_block (w : World) (key nonce : ByteArray) (x : Nat) (hk : key.size = 16) (hn : nonce.size = 12) (v : Value) (hv : BSl w v boxT) :
    Calls Tryz.prog 155 #[.string key, .string ⟨(nonce.data.toList ++ be 4 x).toArray⟩, v] w fun e w' => e = .returned (.string ⟨(ctrB key.data.toList nonce.data.toList x).toArray⟩) ∧ Ext w w' := by
  have h := raes_any w key ⟨(nonce.data.toList ++ be 4 x).toArray⟩ hk (by rw [txt_size, List.length_append, size_list, be_length, hn]) v hv
  unfold ctrB
  exact h
set_option maxRecDepth 100000 in
set_option maxHeartbeats 2000000 in
theorem rstream_yes (key nonce : ByteArray) (f n : Nat) (hk : key.size = 16) (hn : nonce.size = 12) (hn2 : n ≤ 1048576) (hfl : f < 4294967296) (hf : f + blocksOf n ≤ 4294967296) (w : World) :
    Calls Tryz.prog 131 #[.string key, .string nonce, .int .u32 (f : Int), .int .i64 (n : Int)] w
      fun e w' => e = .returned (.tuple #[.string ⟨(ctrL key.data.toList nonce.data.toList f n).toArray⟩, .int .i64 0]) ∧ Ext w w' := by
  have hki : ((key.size : Int) != 16) = false := by simp [hk]
  have hni : ((nonce.size : Int) != 12) = false := by simp [hn]
  obtain ⟨b, hb⟩ : ∃ b, b = blocksOf n := ⟨_, rfl⟩
  have hbi : ((n : Int) + 15) / 16 = (b : Int) := by rw [hb]; unfold blocksOf; omega
  have hkl : key.data.toList.length = 16 := by rw [size_list]; exact hk
  have hbl : b ≤ 65536 := by rw [hb]; unfold blocksOf; omega
  have hCL := Lib.hid (fun j => ctrC_length hkl nonce.data.toList f j)
  have hCS := Lib.hid (fun j => ctrC_succ key.data.toList nonce.data.toList f j)
  have hCO := Lib.hid (ctrL_of hkl nonce.data.toList f n b (by rw [hb]; exact blocksOf_le n))
  have hC0 := Lib.hid (ctrC_zero key.data.toList nonce.data.toList f)
  have HB := Lib.hid hb
  have HBL := Lib.hid (fun i => ctrB_length hkl nonce.data.toList i)
  rw [← hb] at hf
  have hfi : (f : Int) + (b : Int) ≤ 4294967296 := by omega
  have HCB := Lib.hid (fun u x v (hv : BSl u v boxT) => ctr_block u key nonce x hk hn v hv)
  clear hb
  go_enter Tryz.func131, Tryz.ntmps131
  go_wp2_with (go_at_call 154; refine (rtable_any _).mono ?_; rintro e w1 ⟨v, rfl, hv, hx⟩)
  have HBS := Lib.hid hv
  clear hv hkl
  go_loopw [12, 13] (fun s i wr => ∃ j : Nat, j ≤ b ∧ i = .int .u64 (j : Int) ∧ s = .string ⟨(ctrC key.data.toList nonce.data.toList f j).toArray⟩ ∧ Ext w1 wr) (fun _ i _ => b - (intOf i).toNat)
  case atStart => exact ⟨0, Nat.zero_le _, rfl, by rw [hC0.out], Ext.refl _⟩
  case round =>
    obtain ⟨j, hj, rfl, rfl, hext⟩ := hrel
    by_cases hlt : j < b
    · have hS := str_append (ctrC key.data.toList nonce.data.toList f j) (ctrB key.data.toList nonce.data.toList (f + j))
      rw [← hCS.out j] at hS
      have hx2 : (f : Int) + (j : Int) = ((f + j : Nat) : Int) := by omega
      have hP := Lib.hid (fun u => rPut_any (f + j) (Lib.hid (by omega)) 4 (by omega) u)
      have hT := txt_cat nonce (be 4 (f + j))
      have HE := Lib.hid hext
      have HCBj := Lib.hid (fun u (hu : Ext wr u) => HCB.out u (f + j) v ((HBS.out.ext hext).ext hu))
      have hwj : IntKind.u64.wrap ((f : Int) + (j : Int)) = ((f + j : Nat) : Int) := by rw [hx2]; exact IntWalk.u64_in _ ⟨by omega, by omega⟩
      have l1 : (ctrC key.data.toList nonce.data.toList f j).length = 16 * j := hCL.out j
      have l2 : (ctrB key.data.toList nonce.data.toList (f + j)).length = 16 := HBL.out _
      have l3 : (be 4 (f + j)).length = 4 := be_length _ _
      clear hext
      generalize ctrC key.data.toList nonce.data.toList f j = C0 at *
      generalize hC1 : ctrC key.data.toList nonce.data.toList f (j + 1) = C1 at *
      generalize ctrB key.data.toList nonce.data.toList (f + j) = B at *
      generalize be 4 (f + j) = P at *
      generalize hm : f + j = m at *
      go_wp2_with (first
        | (go_at_call 107; refine (hP.out _).mono ?_; rintro e w2 ⟨rfl, h2⟩)
        | (go_at_call 155; refine (HCBj.out _ h2).mono ?_; rintro e w3 ⟨rfl, h3⟩))
      go_roundw
      case rel => exact ⟨j + 1, hlt, by go_num, by first | rfl | rw [hC1], (HE.out.trans h2).trans h3⟩
      case measure => simp [intOf]; omega
    · obtain rfl : j = b := by omega
      have hX := txt_extract (ctrC key.data.toList nonce.data.toList f j) n
      rw [hCO.out] at hX
      have hsl := slice_upto ⟨(ctrC key.data.toList nonce.data.toList f j).toArray⟩ n (by rw [txt_size, hCL.out, HB.out]; exact blocksOf_le n)
      rw [hX] at hsl
      clear hX
      generalize (⟨(ctrC key.data.toList nonce.data.toList f j).toArray⟩ : ByteArray) = X at *
      go_wp2
      go_ret2
      exact ⟨rfl, hx.trans hext⟩
end Go.Proofs.YtobhbppogeghnaaGreatDoor
end

section
namespace Go.Proofs.YtobhbppogeghnaaGreatDoor
open Go.RowKit
attribute [local irreducible] rkey expand enc dec ctrB ctrC ctrL xorL

set_option maxRecDepth 100000 in
set_option maxHeartbeats 1000000 in
theorem rturn_yes (key nonce s : ByteArray) (f : Nat) (hk : key.size = 16) (hn : nonce.size = 12) (hn2 : s.size ≤ 1048576) (hfl : f < 4294967296) (hf : f + blocksOf s.size ≤ 4294967296) (w : World) :
    Calls Tryz.prog 103 #[.string key, .string nonce, .int .u32 (f : Int), .string s] w
      fun e w' => e = .returned (.tuple #[.string ⟨(turnL key.data.toList nonce.data.toList f s.data.toList).toArray⟩, .int .i64 0]) ∧ Ext w w' := by
  have HS := Lib.hid (fun u => rstream_yes key nonce f s.size hk hn hn2 hfl hf u)
  have hkl : key.data.toList.length = 16 := by rw [size_list]; exact hk
  have HX := Lib.hid (fun u => rXor_yes s ⟨(ctrL key.data.toList nonce.data.toList f s.size).toArray⟩ ((txt_size _).trans (ctrL_length hkl _ _ _)).symm (by omega) u)
  unfold turnL
  rw [size_list]
  clear hkl
  go_enter Tryz.func103, Tryz.ntmps103
  go_wp2_with (first
    | (go_at_call 131; refine (HS.out _).mono ?_; rintro e w1 ⟨rfl, h1⟩)
    | (go_at_call 100; refine (HX.out _).mono ?_; rintro e w2 ⟨rfl, h2⟩))
  go_ret2
  exact ⟨rfl, h1.trans h2⟩
end Go.Proofs.YtobhbppogeghnaaGreatDoor
end

section
namespace Go.Proofs.YtobhbppogeghnaaGreatDoor
open Go.RowKit

theorem same_test (a b : ByteArray) : decide (a = b) = (a.toList == b.toList) := by
  rw [ByteArray.toList_eq, ByteArray.toList_eq]
  by_cases h : a = b
  · simp [h]
  · have : ¬ a.data.toList = b.data.toList := by
      intro e
      apply h
      cases a; cases b
      congr
      exact Array.toList_inj.1 e
    rw [decide_eq_false h]
    exact (beq_eq_false_iff_ne.2 this).symm
end Go.Proofs.YtobhbppogeghnaaGreatDoor
end

section
namespace Go.Proofs.YtobhbppogeghnaaGreatDoor
open Go.RowKit

/-! ### Plain -/
theorem env5_app (a b c d t : ByteArray) : (((a ++ b) ++ c) ++ d) ++ t = env5 a b c d t := by
  apply ByteArray.ext
  apply Array.toList_inj.1
  simp [env5]
theorem joinL7_app (a b c d e f g : ByteArray) : (((a ++ b) ++ c) ++ (((d ++ e) ++ f) ++ g)).data.toList = joinL [a, b, c, d, e, f, g] := by
  simp [joinL]
theorem chk_eq14 {T X : ByteArray} (hT : T.size = 32) (hX : X.size = 32) : (X.toList == T.toList) = chk T.data.toList X.data.toList := by
  rw [← same_test]
  unfold chk
  rw [size_list, hT]
  have e : X.data.toList.take 32 = X.data.toList := List.take_of_length_le (by rw [size_list]; omega)
  rw [e]
  by_cases h : X = T
  · subst h; simp
  · have h2 : ¬ T.data.toList = X.data.toList := fun q => h (ByteArray.ext (Array.toList_inj.1 q.symm))
    simp [h, h2]
theorem env5_cuts (E C D T : ByteArray) (hE : E.size = 4) (hC : C.size = 12) (hT : T.size = 32) :
    (env5 t1 E C D T).extract 0 (17 + D.size) = ((t1 ++ E) ++ C) ++ D ∧ (env5 t1 E C D T).extract (17 + D.size) (env5 t1 E C D T).size = T ∧ (env5 t1 E C D T).extract 5 17 = C ∧ (env5 t1 E C D T).extract 17 (17 + D.size) = D := by
  have hl : ∀ (a : ByteArray), a.data.toList.length = a.size := size_list
  have h1 : t1.data.toList = [1] := rfl
  have hz : (env5 t1 E C D T).size = 17 + D.size + 32 := by rw [env5_size, hE, hC, hT]; show 1 + _ = _; omega
  have key : (env5 t1 E C D T).data.toList = [1] ++ (E.data.toList ++ (C.data.toList ++ (D.data.toList ++ T.data.toList))) := rfl
  refine ⟨?_, ?_, ?_, ?_⟩
  · apply ByteArray.ext
    apply Array.toList_inj.1
    rw [Lib.extract_data, key]
    have e : [1] ++ (E.data.toList ++ (C.data.toList ++ (D.data.toList ++ T.data.toList))) = ([1] ++ (E.data.toList ++ (C.data.toList ++ D.data.toList))) ++ T.data.toList := by simp
    rw [e, List.drop_zero, List.take_append_of_le_length (by simp [hE, hC]; omega), List.take_of_length_le (by simp [hE, hC]; omega)]
    simp [h1]
  · apply ByteArray.ext
    apply Array.toList_inj.1
    rw [Lib.extract_data, key, hz]
    have e : [1] ++ (E.data.toList ++ (C.data.toList ++ (D.data.toList ++ T.data.toList))) = ([1] ++ (E.data.toList ++ (C.data.toList ++ D.data.toList))) ++ T.data.toList := by simp
    rw [e, List.drop_append_of_le_length (by simp [hE, hC]; omega), List.drop_of_length_le (by simp [hE, hC]; omega), List.nil_append, List.take_of_length_le (by rw [hl]; omega)]
  · apply ByteArray.ext
    apply Array.toList_inj.1
    rw [Lib.extract_data, key]
    have e : [1] ++ (E.data.toList ++ (C.data.toList ++ (D.data.toList ++ T.data.toList))) = ([1] ++ E.data.toList) ++ (C.data.toList ++ (D.data.toList ++ T.data.toList)) := by simp
    rw [e, List.drop_append_of_le_length (by simp [hE]), List.drop_of_length_le (by simp [hE]), List.nil_append, List.take_append_of_le_length (by rw [hl]; omega), List.take_of_length_le (by rw [hl]; omega)]
  · apply ByteArray.ext
    apply Array.toList_inj.1
    rw [Lib.extract_data, key]
    have e : [1] ++ (E.data.toList ++ (C.data.toList ++ (D.data.toList ++ T.data.toList))) = ([1] ++ (E.data.toList ++ C.data.toList)) ++ (D.data.toList ++ T.data.toList) := by simp
    rw [e, List.drop_append_of_le_length (by simp [hE, hC]), List.drop_of_length_le (by simp [hE, hC]), List.nil_append, List.take_append_of_le_length (by rw [hl]; omega), List.take_of_length_le (by rw [hl]; omega)]
attribute [local irreducible] rkey expand enc dec ctrB ctrC ctrL xorL turnL turnT kd t4 t8 env5 chk tagT sealT
/-! ### Size -/
theorem rSize_any (n : Nat) (h : n ≤ 140737488351232) (w : World) :
    Calls Tryz.prog 97 #[.int .i64 (n : Int)] w fun e w' => e = .returned (.int .i64 (17 + (n : Int) + 32)) ∧ w = w' := by
  have hm := run_max0
  have h1 : IntKind.i64.wrap (17 + (n : Int)) = 17 + (n : Int) := IntWalk.i64_in _ ⟨by omega, by omega⟩
  have h2 : IntKind.i64.wrap (17 + (n : Int) + 32) = 17 + (n : Int) + 32 := IntWalk.i64_in _ ⟨by omega, by omega⟩
  go_enter Tryz.func97, Tryz.ntmps97
  go_wp2
  go_ret
  exact ⟨rfl, rfl⟩
theorem rsize_zero (w : World) : Calls Tryz.prog 97 #[.int .i64 0] w fun e w' => e = .returned (.int .i64 49) ∧ w = w' := rSize_any 0 (by omega) w
theorem rsize_max (w : World) : Calls Tryz.prog 97 #[.int .i64 1048576] w fun e w' => e = .returned (.int .i64 1048625) ∧ w = w' := rSize_any 1048576 (by omega) w
/-! ### The tag -/
theorem rput4s (n : Nat) (hn : n < 4294967296) (w : World) : Calls Tryz.prog 107 #[.int .u64 (n : Int), .int .i64 4] w fun e w' => e = .returned (.string (t4 n)) ∧ Ext w w' := by
  unfold t4
  exact rPut_any n (Lib.hid (by omega)) 4 (by omega) w
theorem rput8s (n : Nat) (hn : n < 2 ^ 64) (w : World) : Calls Tryz.prog 107 #[.int .u64 (n : Int), .int .i64 8] w fun e w' => e = .returned (.string (t8 n)) ∧ Ext w w' := by
  unfold t8
  exact rPut_any n (Lib.hid hn) 8 (by omega) w
set_option maxRecDepth 100000 in
theorem rtag14_any (key path : ByteArray) (v : Nat) (s : ByteArray) (hk : key.size = 32) (hp : path.size ≤ 1048576) (hv : v < 2 ^ 64) (hs : s.size ≤ 1048600) (w : World) :
    Calls Tryz.prog 102 #[.string key, .string path, .int .u64 (v : Int), .string s] w fun e w' => e = .returned (.string ⟨(macL key.data.toList (((t4 path.size ++ path) ++ t8 v) ++ s).data.toList).toArray⟩) ∧ Ext w w' := by
  have H4 := Lib.hid (fun u => rput4s path.size (by omega) u)
  have H8 := Lib.hid (fun u => rput8s v hv u)
  have z4 := t4_size path.size
  have z8 := t8_size v
  have hz : (((t4 path.size ++ path) ++ t8 v) ++ s).size ≤ 549755813888 := by
    rw [ByteArray.size_append, ByteArray.size_append, ByteArray.size_append, z4, z8]; omega
  have HM := Lib.hid (fun u => rMac_any key (((t4 path.size ++ path) ++ t8 v) ++ s) (by omega) hz u)
  have hw : IntKind.u64.wrap (path.size : Int) = (path.size : Int) := by simp [IntKind.wrap, IntKind.signed, IntKind.bits]; omega
  clear hz
  generalize (⟨(macL key.data.toList (((t4 path.size ++ path) ++ t8 v) ++ s).data.toList).toArray⟩ : ByteArray) = X at *
  generalize t4 path.size = A at *
  generalize t8 v = V at *
  clear hk hv
  go_enter Tryz.func102, Tryz.ntmps102
  go_wp2_with (first
    | (go_at_call 107; (with_reducible refine (H4.out _).mono ?_); rintro e w1 ⟨rfl, x1⟩)
    | (go_at_call 107; (with_reducible refine (H8.out _).mono ?_); rintro e w2 ⟨rfl, x2⟩; have y2 := x1.trans x2)
    | (go_at_call 130; refine (HM.out _).mono ?_; rintro e w3 ⟨rfl, x3⟩))
  go_ret
  exact ⟨rfl, y2.trans x3⟩
theorem tagT_app (key path : ByteArray) (v : Nat) (a b c d : ByteArray) : (⟨(macL key.data.toList (((t4 path.size ++ path) ++ t8 v) ++ (((a ++ b) ++ c) ++ d)).data.toList).toArray⟩ : ByteArray) = tagT key path v a b c d := by
  rw [joinL7_app]
  unfold tagT
  rfl
/-! ### Epoch -/
theorem repoch_len (s : ByteArray) (h : s.size < 49 ∨ 1048625 < s.size) (w : World) :
    Calls Tryz.prog 60 #[.string s] w fun r w' => r = .returned (.tuple #[.int .u32 0, .int .i64 7]) ∧ w = w' := by
  by_cases h1 : s.size < 49
  · have h1i : (s.size : Int) < 49 := by omega
    go_enter Tryz.func60, Tryz.ntmps60
    go_wp2_with (first
      | (go_at_call 97; (with_reducible refine (rsize_zero _).mono ?_); rintro e w1 ⟨rfl, rfl⟩)
      | (go_at_call 97; (with_reducible refine (rsize_max _).mono ?_); rintro e w1 ⟨rfl, rfl⟩))
    go_ret2
    exact ⟨rfl, rfl⟩
  · have h1i : ¬ (s.size : Int) < 49 := by omega
    have h2i : (1048625 : Int) < (s.size : Int) := by omega
    go_enter Tryz.func60, Tryz.ntmps60
    go_wp2_with (first
      | (go_at_call 97; (with_reducible refine (rsize_zero _).mono ?_); rintro e w1 ⟨rfl, rfl⟩)
      | (go_at_call 97; (with_reducible refine (rsize_max _).mono ?_); rintro e w1 ⟨rfl, rfl⟩))
    go_ret2
    exact ⟨rfl, rfl⟩
section
variable {x : UInt8} {e : Nat} {C D T : ByteArray}
theorem env5_first : (env5 (b1 x) (t4 e) C D T).data.toList[0]? = some x := by unfold env5 b1; rfl
theorem repoch_first (hC : C.size = 12) (hT : T.size = 32) (hD : D.size ≤ 1048576) (hx : x ≠ 1) (w : World) :
    Calls Tryz.prog 60 #[.string (env5 (b1 x) (t4 e) C D T)] w fun r w' => r = .returned (.tuple #[.int .u32 0, .int .i64 7]) ∧ w = w' := by
  have hz := env5_size (b1 x) (t4 e) C D T
  rw [t4_size, hC, hT, show (b1 x).size = 1 from rfl] at hz
  have hi := fun u => index_text (env5 (b1 x) (t4 e) C D T) 0 x env5_first u
  rw [show ((0 : Nat) : Int) = 0 from rfl] at hi
  have hne : ((x.toNat : Int) == 1) = false := by
    have : x.toNat ≠ 1 := fun q => hx (UInt8.toNat_inj.1 q)
    simp; omega
  have hne2 : ¬ (x.toNat : Int) = 1 := by simpa using hne
  generalize env5 (b1 x) (t4 e) C D T = S at *
  generalize (x.toNat : Int) = X at *
  have h1i : ¬ (S.size : Int) < 49 := by omega
  have h2i : ¬ (1048625 : Int) < (S.size : Int) := by omega
  have h0i : (0 : Int) < (S.size : Int) := by omega
  clear hz hC hT hD
  go_enter Tryz.func60, Tryz.ntmps60
  go_wp2_with (first
    | (go_at_call 97; (with_reducible refine (rsize_zero _).mono ?_); rintro e w1 ⟨rfl, rfl⟩)
    | (go_at_call 97; (with_reducible refine (rsize_max _).mono ?_); rintro e w1 ⟨rfl, rfl⟩))
  · go_ret2
    exact ⟨rfl, rfl⟩
  · exfalso
    simp_all
theorem env5_sub : num (sub (env5 t1 (t4 e) C D T) 1 4) = e % 4294967296 := by
  have : sub (env5 t1 (t4 e) C D T) 1 4 = be 4 e := by
    unfold sub env5 t1 t4
    simp [be_length]
  rw [this, num_be]
theorem repoch_yes (he : e < 4294967296) (hC : C.size = 12) (hT : T.size = 32) (hD : D.size ≤ 1048576) (w : World) :
    Calls Tryz.prog 60 #[.string (env5 t1 (t4 e) C D T)] w fun r w' => r = .returned (.tuple #[.int .u32 (e : Int), .int .i64 0]) ∧ w = w' := by
  have hz := env5_size t1 (t4 e) C D T
  rw [t4_size, hC, hT, show t1.size = 1 from rfl] at hz
  have hi := fun u => index_text (env5 t1 (t4 e) C D T) 0 1 (env5_first (x := 1)) u
  rw [show ((0 : Nat) : Int) = 0 from rfl, show (((1 : UInt8).toNat : Nat) : Int) = 1 from rfl] at hi
  have hg := fun u => rGet_yes (env5 t1 (t4 e) C D T) 1 4 (by omega) (by omega) (by omega) u
  rw [env5_sub, Nat.mod_eq_of_lt he] at hg
  have HG : Hid (∀ u, Calls Tryz.prog 98 #[.string (env5 t1 (t4 e) C D T), .int .i64 1, .int .i64 4] u fun r w' => r = .returned (.tuple #[.int .u64 (e : Int), .bool true]) ∧ u = w') := Lib.hid hg
  generalize env5 t1 (t4 e) C D T = S at *
  have h1i : ¬ (S.size : Int) < 49 := by omega
  have h2i : ¬ (1048625 : Int) < (S.size : Int) := by omega
  have h0i : (0 : Int) < (S.size : Int) := by omega
  have hw : IntKind.u32.wrap (e : Int) = (e : Int) := by simp [IntKind.wrap, IntKind.signed, IntKind.bits]; omega
  clear hz hC hT hD hg
  go_enter Tryz.func60, Tryz.ntmps60
  go_wp2_with (first
    | (go_at_call 97; (with_reducible refine (rsize_zero _).mono ?_); rintro e w1 ⟨rfl, rfl⟩)
    | (go_at_call 97; (with_reducible refine (rsize_max _).mono ?_); rintro e w1 ⟨rfl, rfl⟩)
    | (go_at_call 98; refine (HG.out _).mono ?_; rintro e w2 ⟨rfl, rfl⟩))
  go_ret2
  exact ⟨rfl, rfl⟩
end
end Go.Proofs.YtobhbppogeghnaaGreatDoor
end
