/- The walk of AesBlocks. -/
import Derived.Test.YtlphbnbipbfclaaRBlock
import Derived.Test.YtlphbnbipbfclaaAesWorks
import Derived.Test.YtlphbnbipbfclaaDec
import Derived.Test.YtlphbnbipbfclaaRoundsP
namespace Go.Proofs.Ytlphbnbipbfclaa
open Go.RowKit
attribute [local irreducible] rkey expand enc dec keyTexts

theorem more_any (s0 s1 : ByteArray) (h1 : ¬ 1024 < s0.size + s1.size) : ¬ (1024 : Int) < (s0.size : Int) + (s1.size : Int) := by omega
set_option maxRecDepth 100000 in
set_option maxHeartbeats 8000000 in
theorem AesBlocks_walk (s0 s1 : ByteArray) (fit : Bool) (z0 : s0.size ≤ 140737488351232) (z1 : s1.size ≤ 140737488351232) (w : World) :
    Calls Try.prog 4 #[.string s0, .string s1, .bool fit] w fun e w' => e = .returned (.bool true) ∧ Ext w w' := by
  by_cases h1 : 1024 < s0.size + s1.size
  · have h1i : (1024 : Int) < (s0.size : Int) + (s1.size : Int) := by omega
    go_enter Try.func4, Try.ntmps4
    go_wp2_with (go_at_call 13; refine (aes_works _).mono ?_; rintro e w7 ⟨rfl, h7⟩)
    go_ret
    exact ⟨rfl, h7⟩
  · have h1i := more_any s0 s1 h1
    clear h1
    by_cases hno : fit = false ∧ ¬ s0.size = 16
    · obtain ⟨rfl, hk⟩ := hno
      have hkn := size_ne s0 hk
      go_enter Try.func4, Try.ntmps4
      go_wp2_with (first
        | (go_at_call 15; refine (New_no _ s0 hk).mono ?_; rintro e w2 ⟨rfl, rfl⟩)
        | (go_at_call 13; refine (aes_works _).mono ?_; rintro e w7 ⟨rfl, h7⟩))
      go_ret
      exact ⟨rfl, h7⟩
    · have hF : ∀ s : ByteArray, ∃ K : ByteArray, K.size = 16 ∧ Hid (∀ u, Calls Try.prog 14 #[.string s] u fun e w' => e = .returned (.string K) ∧ Ext u w') := fun s => ⟨⟨(fullL s).toArray⟩, by simpa [ByteArray.size] using fullL_length s, Lib.hid (fun u => full_any s u)⟩
      obtain ⟨K, S, hK, hcase⟩ : ∃ K S : ByteArray, K.size = 16 ∧ ((fit = true ∧ Hid (∀ u, Calls Try.prog 14 #[.string s0] u fun e w' => e = .returned (.string K) ∧ Ext u w') ∧ Hid (∀ u, Calls Try.prog 14 #[.string s1] u fun e w' => e = .returned (.string S) ∧ Ext u w') ∧ S.size = 16) ∨ (fit = false ∧ K = s0 ∧ S = s1 ∧ S.size = 16) ∨ (fit = false ∧ K = s0 ∧ S = s1 ∧ ¬ S.size = 16)) := by
        cases fit with
        | true =>
          obtain ⟨K, h1, h2⟩ := hF s0
          obtain ⟨S, h3, h4⟩ := hF s1
          exact ⟨K, S, h1, .inl ⟨rfl, h2, h4, h3⟩⟩
        | false =>
          have hk : s0.size = 16 := by
            rcases Nat.decEq s0.size 16 with h | h
            · exact absurd ⟨rfl, h⟩ hno
            · exact h
          refine ⟨s0, s1, hk, .inr ?_⟩
          rcases Nat.decEq s1.size 16 with h | h
          · exact .inr ⟨rfl, rfl, rfl, h⟩
          · exact .inl ⟨rfl, rfl, rfl, h⟩
      clear hno hF
      have HN := Lib.hid (fun u => New_yes u K hK)
      have HP := Lib.hid (fun u c (h : IsCipher u c K.data.toList) => Rounds_yes u c _ h)
      have HR := Lib.hid (fun u v (h : BSl u v boxT) => rrounds_any u K hK v h)
      have HL := keyTexts_length K.data.toList
      have HKA := Lib.hid (keyTexts_at K.data.toList)
      have HB : Hid (S.size = 16 → ∃ U V : ByteArray, (∀ u c, IsCipher u c K.data.toList → Calls Try.prog 19 #[.pointer (some ⟨c, 0, none⟩), .string S] u fun e w' => e = .returned (.tuple #[.string U, .bool true]) ∧ Ext u w') ∧
          (∀ u c, IsCipher u c K.data.toList → Calls Try.prog 20 #[.pointer (some ⟨c, 0, none⟩), .string S] u fun e w' => e = .returned (.tuple #[.string V, .bool true]) ∧ Ext u w') ∧
          (∀ u v, BSl u v boxT → Calls Try.prog 21 #[.string K, .string S, v] u fun e w' => e = .returned (.string U) ∧ Ext u w')) := Lib.hid (fun hs => ⟨_, _, fun u c h => Block_yes u c _ S h hs, fun u c h => Back_yes u c _ S h hs, fun u v h => rblock_any u K S hK hs v h⟩)
      have HBn : Hid (¬ S.size = 16 → (∀ u c, IsCipher u c K.data.toList → Calls Try.prog 19 #[.pointer (some ⟨c, 0, none⟩), .string S] u fun e w' => e = .returned (.tuple #[.string ⟨#[]⟩, .bool false]) ∧ Ext u w') ∧
          (∀ u c, IsCipher u c K.data.toList → Calls Try.prog 20 #[.pointer (some ⟨c, 0, none⟩), .string S] u fun e w' => e = .returned (.tuple #[.string ⟨#[]⟩, .bool false]) ∧ Ext u w')) := Lib.hid (fun hs => ⟨fun u c h => (Block_no u c _ S h hs).mono fun e w' he => ⟨he.1, he.2 ▸ Ext.refl _⟩, fun u c h => (Back_no u c _ S h hs).mono fun e w' he => ⟨he.1, he.2 ▸ Ext.refl _⟩⟩)
      generalize K.data.toList = k at *
      have h00 := Ext.refl w
      rcases hcase with ⟨rfl, FK, FS, hS⟩ | ⟨rfl, rfl, rfl, hS⟩ | ⟨rfl, rfl, rfl, hS⟩
      case' inl =>
        obtain ⟨U, V, B1, B2, B3⟩ := HB.out hS
      case' inr.inl =>
        obtain ⟨U, V, B1, B2, B3⟩ := HB.out hS
      case' inr.inr =>
        obtain ⟨B1, B2⟩ := HBn.out hS
        have hSn := size_ne _ hS
        clear hS
      all_goals
        clear HB HBn
        go_enter Try.func4, Try.ntmps4
        go_wp2_with (first
          | (go_at_call 14; with_reducible refine (FK.out _).mono ?_; rintro e w1 ⟨rfl, h1⟩; have xw := Ext.trans (a := w) (by assumption) h1)
          | (go_at_call 14; with_reducible refine (FS.out _).mono ?_; rintro e w2 ⟨rfl, h2⟩; have xw := Ext.trans (a := w) (by assumption) h2)
          | (go_at_call 15; refine (HN.out _).mono ?_; rintro e w3 ⟨c, rfl, hc, h3⟩; have xw := Ext.trans (a := w) (by assumption) h3)
          | (go_at_call 16; refine (rtable_any _).mono ?_; rintro e w4 ⟨vt, rfl, ht, h4⟩; have xw := Ext.trans (a := w) (by assumption) h4; have hc := IsCipher.ext (c := c) (key := k) (by assumption) h4)
          | (go_at_call 17; refine (HP.out _ c (by assumption)).mono ?_; rintro e w5 ⟨v1, rfl, ⟨g1, c1, rfl, hg1, hc1⟩, h5⟩; have xw := Ext.trans (a := w) (by assumption) h5; have hc := IsCipher.ext (c := c) (key := k) (by assumption) h5; have ht := BSl.ext (v := vt) (by assumption) h5)
          | (go_at_call 18; refine (HR.out _ vt (by assumption)).mono ?_; rintro e w6 ⟨v2, rfl, ⟨g2, c2, rfl, hg2, hc2⟩, h6⟩; have xw := Lib.hid (Ext.trans (a := w) (by assumption) h6); have hc := Lib.hid (IsCipher.ext (c := c) (key := k) (by assumption) h6); have ht := Lib.hid (BSl.ext (v := vt) (by assumption) h6); have h6x := Lib.hid h6))
        have HC1 := Lib.hid (fun u (hu : Ext w6 u) i (hi : i < 11) => ((h6x.out.trans hu).below.cell (p := ⟨g1, i, none⟩) hg1).trans (hc1 i _ (HKA.out i hi)))
        have HC2 := Lib.hid (fun u (hu : Ext w6 u) i (hi : i < 11) => (hu.below.cell (p := ⟨g2, i, none⟩) hg2).trans (hc2 i _ (HKA.out i hi)))
        clear hc1 hc2
        go_loopw [12] (fun i wr => ∃ j : Nat, j ≤ 11 ∧ i = .int .i64 j ∧ Ext w6 wr) (fun i _ => 11 - (intOf i).toNat)
        case atStart => exact ⟨0, by omega, rfl, Ext.refl _⟩
        case round =>
          obtain ⟨j, hj, rfl, hext⟩ := hrel
          have HExt := Lib.hid hext
          by_cases hlt : j < 11
          · have hji : (j : Int) < 11 := by omega
            have hj0 : (0 : Int) ≤ (j : Int) := by omega
            have k1 := HC1.out wr hext j hlt
            have k2 := HC2.out wr hext j hlt
            generalize (⟨(rkey k j).toArray⟩ : ByteArray) = T at *
            clear hext
            go_wp2
            go_quiet (fail)
            go_wp2
            go_roundw
            case rel => exact ⟨j + 1, hlt, by go_num, HExt.out.drewN _⟩
            case measure => simp [intOf]; omega
          · obtain rfl : j = 11 := by omega
            have e11 : ((11 : Nat) : Int) = 11 := rfl
            rw [e11]
            clear e11
            have hcw := hc.out.ext hext
            have htw := ht.out.ext hext
            have xww := xw.out.trans hext
            clear hext
            go_wp2_with (first
              | (go_at_call 19; refine (B1 _ c (by assumption)).mono ?_; rintro e w7 ⟨rfl, h7⟩; have xw := Ext.trans (a := w) (by assumption) h7; have hc := IsCipher.ext (c := c) (key := k) (by assumption) h7; have ht := BSl.ext (v := vt) (by assumption) h7)
              | (go_at_call 20; refine (B2 _ c (by assumption)).mono ?_; rintro e w8 ⟨rfl, h8⟩; have xw := Ext.trans (a := w) (by assumption) h8; have ht := BSl.ext (v := vt) (by assumption) h8)
              | (go_at_call 21; refine (B3 _ vt (by assumption)).mono ?_; rintro e w9 ⟨rfl, h9⟩; have xw := Ext.trans (a := w) (by assumption) h9)
              | (go_at_call 13; refine (aes_works _).mono ?_; rintro e w10 ⟨rfl, h10⟩; have xwf := Ext.trans (a := w) (by assumption) h10))
            go_ret
            exact ⟨rfl, xwf⟩
end Go.Proofs.Ytlphbnbipbfclaa
