/- The walk of AesOnce. -/
import Derived.Test.YtlphbnbipbfclaaBoxUn
import Derived.Test.YtlphbnbipbfclaaAesWorks
import Derived.Test.YtlphbnbipbfclaaNatOf
import Derived.Test.YtlphbnbipbfclaaTextAt
import Derived.Test.YtlphbnbipbfclaaRoundsP
namespace Go.Proofs.Ytlphbnbipbfclaa
open Go.RowKit
attribute [local irreducible] rkey expand enc dec keyTexts

theorem keyTexts_at (key : List UInt8) (i : Nat) (h : i < 11) : (keyTexts key)[i]? = some ⟨(rkey key i).toArray⟩ := by unfold keyTexts; simp [h]
theorem rkey_at {key : List UInt8} (h : key.length = 16) (i j : Nat) (hi : i < 11) (hj : j < 16) : (rkey key i)[j]? = some (eB key (16 * i + j)) := by
  unfold rkey eB
  have hl := expand_length h 40
  rw [List.getElem?_take, if_pos hj, List.getElem?_drop, List.getD_eq_getElem?_getD, List.getElem?_eq_getElem (by omega)]
  rfl
theorem once_step {key : List UInt8} (h : key.length = 16) (i j : Nat) (hi : i < 11) (h1 : 1 ≤ i) (hj : j < 16) (h4 : 4 ≤ j) : eB key (16 * i + j) = eB key (16 * i + (j - 4)) ^^^ eB key (16 * (i - 1) + j) := by
  obtain ⟨n, k, hk, e⟩ : ∃ n k, k < 4 ∧ 16 * i + j = 4 * n + k := ⟨(16 * i + j) / 4, (16 * i + j) % 4, by omega, by omega⟩
  have hs := eB_step h n (by omega) (by omega) k hk
  have hn : ¬ n % 4 = 0 := by omega
  rw [e, hs, show 16 * (i - 1) + j = 4 * n - 16 + k by omega, show 16 * i + (j - 4) = 4 * n - 4 + k by omega, UInt8.xor_comm]
  congr 1
  unfold gB
  rw [if_neg hn]
  rcases (show k = 0 ∨ k = 1 ∨ k = 2 ∨ k = 3 by omega) with rfl | rfl | rfl | rfl
  · rfl
  · simp only [List.getD_cons_succ, List.getD_cons_zero]; congr 1; omega
  · simp only [List.getD_cons_succ, List.getD_cons_zero]; congr 1; omega
  · simp only [List.getD_cons_succ, List.getD_cons_zero]; congr 1; omega
theorem box_num (a b : Nat) (ha : a < 256) (hb : b < 256) (h : (boxB (UInt8.ofNat a)).toNat = (boxB (UInt8.ofNat b)).toNat) : a = b := by
  have h2 := box_inj (UInt8.toNat_inj.1 h)
  have h3 := congrArg UInt8.toNat h2
  rw [UInt8.toNat_ofNat', UInt8.toNat_ofNat', Nat.mod_eq_of_lt ha, Nat.mod_eq_of_lt hb] at h3
  exact h3
theorem box_ne (a : Nat) (ha : a < 256) : (boxB (UInt8.ofNat a)).toNat ≠ a := fun h => box_own (UInt8.ofNat a) (UInt8.toNat_inj.1 (by rw [h, UInt8.toNat_ofNat', Nat.mod_eq_of_lt ha]))
theorem box_un (b : Nat) (hb : b < 256) : (boxB (UInt8.ofNat (unboxB (UInt8.ofNat b)).toNat)).toNat = b := by
  rw [UInt8.ofNat_toNat, box_unbox, UInt8.toNat_ofNat', Nat.mod_eq_of_lt hb]
set_option maxRecDepth 100000 in
set_option maxHeartbeats 2000000 in
theorem AesOnce_walk (s : ByteArray) (a1 a2 : Int) (z0 : s.size ≤ 140737488351232) (w1 : (Lit.int .u8 a1).wf = true) (w2 : (Lit.int .u8 a2).wf = true) (w : World) :
    Calls Try.prog 6 #[.string s, .int .u8 a1, .int .u8 a2] w fun e w' => e = .returned (.bool true) ∧ Ext w w' := by
  obtain ⟨a, rfl, ha⟩ := nat_of_u8 w1
  obtain ⟨b, rfl, hb⟩ := nat_of_u8 w2
  clear w1 w2
  by_cases h1 : 1024 < s.size
  · have h1i : (1024 : Int) < (s.size : Int) := by omega
    go_enter Try.func6, Try.ntmps6
    go_wp2_with (go_at_call 13; refine (aes_works _).mono ?_; rintro e w7 ⟨rfl, h7⟩)
    go_ret
    exact ⟨rfl, h7⟩
  · have h1i : ¬ (1024 : Int) < (s.size : Int) := by omega
    have HF := Lib.hid (fun u => full_any s u)
    have hk := fullL_length s
    have HK := Lib.hid hk
    generalize fullL s = k at *
    obtain ⟨K, hK⟩ : ∃ K : ByteArray, K = ⟨k.toArray⟩ := ⟨_, rfl⟩
    have hKd : K.data.toList = k := by rw [hK]
    have hKs : K.size = 16 := by rw [← size_list, hKd]; exact hk
    rw [← hK] at HF
    have HN := Lib.hid (fun u => New_yes u K hKs)
    rw [hKd] at HN
    have HR := Lib.hid (fun u c (h : IsCipher u c k) => Rounds_yes u c k h)
    have HL := Lib.hid (keyTexts_length k)
    have h0 := keyTexts_at k 0 (by decide)
    rw [rkey_zero hk, ← hK] at h0
    have H0 := Lib.hid h0
    have T1 := Lib.hid (fun u => Box_any a ha u)
    have T2 := Lib.hid (fun u => Box_any b hb u)
    have T3 := Lib.hid (fun u => Unbox_any b hb u)
    have T4 := Lib.hid (fun u => Box_any _ (unboxB (UInt8.ofNat b)).toNat_lt u)
    rw [box_un b hb] at T4
    have hne := box_ne a ha
    have hinj := box_num a b ha hb
    have hfun : a = b → (boxB (UInt8.ofNat a)).toNat = (boxB (UInt8.ofNat b)).toNat := fun e => by rw [e]
    generalize (unboxB (UInt8.ofNat b)).toNat = ub at *
    generalize (boxB (UInt8.ofNat a)).toNat = x at *
    generalize (boxB (UInt8.ofNat b)).toNat = y at *
    have hxa : ((x : Int) == (a : Int)) = false := by simp; omega
    obtain ⟨d, hd1, hd2⟩ : ∃ d : Bool, ((x : Int) == (y : Int)) = d ∧ ((a : Int) == (b : Int)) = d := by
      refine ⟨_, rfl, ?_⟩
      by_cases e : a = b
      · have : x = y := by rw [hfun e]
        subst e this
        simp
      · have : x ≠ y := fun h => e (hinj h)
        have e1 : ((a : Int) == (b : Int)) = false := by simp; omega
        have e2 : ((x : Int) == (y : Int)) = false := by simp; omega
        rw [e1, e2]
    have HInj := Lib.hid hinj
    have HS : Hid (∀ i j, i < 11 → 1 ≤ i → j < 16 → 4 ≤ j → eB k (16 * i + j) = eB k (16 * i + (j - 4)) ^^^ eB k (16 * (i - 1) + j)) := Lib.hid (fun i j hi h1 hj h4 => once_step hk i j hi h1 hj h4)
    have HA := Lib.hid (fun i j hi hj => rkey_at hk i j hi hj)
    have HKA := Lib.hid (keyTexts_at k)
    clear hne hinj hfun hK hKd hKs h0 hk
    go_enter Try.func6, Try.ntmps6
    have h00 := Ext.refl w
    go_wp2_with (first
      | (go_at_call 14; refine (HF.out _).mono ?_; rintro e w1 ⟨rfl, h1⟩)
      | (go_at_call 15; refine (HN.out _).mono ?_; rintro e w2 ⟨c, rfl, h2, x2⟩; have xw := Ext.trans h1 x2)
      | (go_at_call 9; with_reducible refine (T1.out _).mono ?_; rintro e w3 ⟨rfl, h3⟩; have xw := Ext.trans (a := w) (by assumption) h3; have hc := IsCipher.ext (c := c) (key := k) (by assumption) h3)
      | (go_at_call 9; with_reducible refine (T2.out _).mono ?_; rintro e w4 ⟨rfl, h4⟩; have xw := Ext.trans (a := w) (by assumption) h4; have hc := IsCipher.ext (c := c) (key := k) (by assumption) h4)
      | (go_at_call 11; with_reducible refine (T3.out _).mono ?_; rintro e w5 ⟨rfl, h5⟩; have xw := Ext.trans (a := w) (by assumption) h5; have hc := IsCipher.ext (c := c) (key := k) (by assumption) h5)
      | (go_at_call 9; with_reducible refine (T4.out _).mono ?_; rintro e w6 ⟨rfl, h6⟩; have xw := Ext.trans (a := w) (by assumption) h6; have hc := IsCipher.ext (c := c) (key := k) (by assumption) h6)
      | (go_at_call 17; refine (HR.out _ c (by assumption)).mono ?_; rintro e w7 ⟨v, rfl, ⟨g, cp, rfl, hg, hcs⟩, h7⟩; have xw7 := Ext.trans (a := w) (by assumption) h7; have hcell0 := hcs 0 _ H0.out; have HCS := Lib.hid hcs; have HLn := HL.out; clear hcs))
    have HX := Lib.hid xw7
    clear hcell0 xw7
    go_loopw [11] (fun i wr => ∃ j : Nat, 1 ≤ j ∧ j ≤ 11 ∧ i = .int .i64 j ∧ Ext w7 wr) (fun i _ => 11 - (intOf i).toNat)
    case atStart => exact ⟨1, by omega, by omega, rfl, Ext.refl _⟩
    case round =>
      obtain ⟨i, hi1, hi, rfl, hext⟩ := hrel
      by_cases hlt : i < 11
      · have hii : (i : Int) < 11 := by omega
        obtain ⟨p, hp⟩ : ∃ p : Nat, (i : Int) - 1 = (p : Int) := ⟨i - 1, by omega⟩
        have hp2 : i - 1 = p := by omega
        have hpi : (p : Int) < 11 := by omega
        have c1 := (hext.below.cell (p := ⟨g, i, none⟩) hg).trans (HCS.out i _ (HKA.out i hlt))
        have e1 : (⟨(rkey k i).toArray⟩ : ByteArray).data.toList = rkey k i := rfl
        have e0 : (⟨(rkey k p).toArray⟩ : ByteArray).data.toList = rkey k p := rfl
        have hz : (⟨(rkey k i).toArray⟩ : ByteArray).size = 16 := by rw [← size_list, e1]; exact rkey_length HK.out i (by omega)
        have hz0 : (⟨(rkey k p).toArray⟩ : ByteArray).size = 16 := by rw [← size_list, e0]; exact rkey_length HK.out p (by omega)
        have I1 := Lib.hid (fun j (hj : j < 16) (h : j < (⟨(rkey k i).toArray⟩ : ByteArray).size) => text_at ⟨(rkey k i).toArray⟩ j _ (by rw [e1]; exact HA.out i j hlt hj) h)
        have I0 := Lib.hid (fun j (hj : j < 16) (h : j < (⟨(rkey k p).toArray⟩ : ByteArray).size) => text_at ⟨(rkey k p).toArray⟩ j _ (by rw [e0]; exact HA.out p j (by omega) hj) h)
        have C0 := Lib.hid (HCS.out p _ (HKA.out p (by omega)))
        have C1 := Lib.hid (HCS.out i _ (HKA.out i hlt))
        generalize (⟨(rkey k i).toArray⟩ : ByteArray) = s1 at *
        generalize (⟨(rkey k p).toArray⟩ : ByteArray) = s0 at *
        clear e1 e0
        have HZ0 := Lib.hid hz0; have HZ1 := Lib.hid hz
        clear hz0
        have HE := Lib.hid hext
        have hp0 : 1 ≤ i := hi1
        have HP0 := Lib.hid hp0; have HLt := Lib.hid hlt; have HP2 := Lib.hid hp2
        have wp : IntKind.i64.wrap (p : Int) = (p : Int) := IntWalk.i64_in _ ⟨by omega, by omega⟩
        clear hext hp0
        go_wp2
        clear hz
        go_loopw [12] (fun i wr => ∃ j : Nat, 4 ≤ j ∧ j ≤ 16 ∧ i = .int .i64 j ∧ Ext w7 wr) (fun i _ => 16 - (intOf i).toNat)
        case atStart => exact ⟨4, by omega, by omega, rfl, HE.out⟩
        case round =>
          obtain ⟨j, hj4, hj, rfl, hext⟩ := hrel
          clear c1
          by_cases hltj : j < 16
          · have hji : (j : Int) < 16 := by omega
            obtain ⟨q, hq⟩ : ∃ q : Nat, (j : Int) - 4 = (q : Int) := ⟨j - 4, by omega⟩
            have hq2 : j - 4 = q := by omega
            have hqi : (q : Int) < 16 := by omega
            have wq : IntKind.i64.wrap (q : Int) = (q : Int) := IntWalk.i64_in _ ⟨by omega, by omega⟩
            have c1 := (hext.below.cell (p := ⟨g, i, none⟩) hg).trans C1.out
            have c0 := (hext.below.cell (p := ⟨g, p, none⟩) hg).trans C0.out
            have b1 : j < s1.size := by rw [HZ1.out]; exact hltj
            have b2 : q < s1.size := by rw [HZ1.out]; omega
            have b3 : j < s0.size := by rw [HZ0.out]; exact hltj
            have b1i : (j : Int) < (s1.size : Int) := by omega
            have b2i : (q : Int) < (s1.size : Int) := by omega
            have b3i : (j : Int) < (s0.size : Int) := by omega
            have j0 : (0 : Int) ≤ (j : Int) := by omega
            have q0 : (0 : Int) ≤ (q : Int) := by omega
            have i1 := I1.out j hltj b1
            have i2 := I1.out q (by omega) b2
            have i3 := I0.out j hltj b3
            have hst := HS.out i j HLt.out HP0.out hltj hj4
            rw [hq2, HP2.out] at hst
            have hxor := xor_nat8 (eB k (16 * i + q)) (eB k (16 * p + j))
            rw [← hst, ← i1, ← i2, ← i3] at hxor
            clear i1 i2 i3
            have HE2 := Lib.hid hext
            clear hext hst hq2
            go_wp2
            go_quiet (fail)
            go_wp2
            go_roundw
            case rel => exact ⟨j + 1, by omega, by omega, by go_num, HE2.out.drewN _⟩
            case measure => simp [intOf]; omega
          · obtain rfl : j = 16 := by omega
            have e16 : ((16 : Nat) : Int) = 16 := rfl
            rw [e16]
            clear e16
            go_wp2
            go_roundw
            case rel => exact ⟨i + 1, by omega, by omega, by go_num, hext⟩
            case measure => simp [intOf]; omega
      · obtain rfl : i = 11 := by omega
        have e11 : ((11 : Nat) : Int) = 11 := rfl
        rw [e11]
        clear e11
        go_wp2_with (go_at_call 13; refine (aes_works _).mono ?_; rintro e w8 ⟨rfl, h8⟩)
        go_ret
        exact ⟨rfl, (HX.out.trans hext).trans h8⟩
end Go.Proofs.Ytlphbnbipbfclaa
