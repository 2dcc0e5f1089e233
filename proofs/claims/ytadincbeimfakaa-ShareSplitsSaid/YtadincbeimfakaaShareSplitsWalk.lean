/- The walk of layer 6's statement ShareSplits. -/
import Derived.Test.YtadincbeimfakaaShareWorks
import Derived.Test.YtadincbeimfakaaShareSteps
import Derived.Test.YtadincbeimfakaaTextsOf
import Derived.Test.YtadincbeimfakaaHeavy
import Derived.Deep.DeepCutAuto
import Derived.Outline
namespace Go.Proofs.Ytadincbeimfakaa
open Go.RowKit
attribute [local irreducible] xorL xorAll textsOf fullN

set_option maxRecDepth 100000 in
set_option maxHeartbeats 4000000 in
theorem ShareSplits_walk (secret : ByteArray) (p : Option Addr) (c : Nat) (l : List ByteArray) (fit : Bool) (s : ByteArray) (W : World) (z0 : secret.size ≤ 140737488351232) (hT : TextsP W p l) (hl : l.length ≤ 140737488355328) (hs : ∀ s, s ∈ l → s.size ≤ 140737488351232) (z3 : s.size ≤ 140737488351232) :
    Calls Try.prog 3 #[.string secret, .slice p l.length c, .bool fit, .string s] W fun e W' => e = .returned (.bool true) ∧ Ext W W' := by
  by_cases hh : Heavy l
  · have HH := Lib.hid (heavy_yes W p c l hT hs hl hh)
    clear hh hT hs
    go_enter Try.func3, Try.ntmps3
    go_wp2_with (first
      | (go_at_call 7; refine (HH.out).mono ?_; rintro e w1 ⟨rfl, rfl⟩)
      | (go_at_call 8; refine (share_works _).mono ?_; rintro e w1 ⟨rfl, h1⟩))
    go_ret
    exact ⟨rfl, h1⟩
  · have HH := Lib.hid (heavy_no W p c l hT hs hl hh)
    obtain ⟨l50, l4096⟩ := not_heavy hh
    clear hh hs
    by_cases h4 : 1024 < secret.size + s.size
    · clear hT l4096
      go_enter Try.func3, Try.ntmps3
      go_wp2_with (first
        | (go_at_call 7; refine (HH.out).mono ?_; rintro e w1 ⟨rfl, rfl⟩)
        | (go_at_call 8; refine (share_works _).mono ?_; rintro e w1 ⟨rfl, h1⟩))
      go_ret
      exact ⟨rfl, h1⟩
    · have HTX := Lib.hid (texts_any W p c l secret.size (by omega) l50 hT)
      have HTL := Lib.hid (textsOf_length l secret.size)
      have HT0 := Lib.hid hT
      have hs24 : secret.size ≤ 1024 := by omega
      clear hT l4096
      go_enter Try.func3, Try.ntmps3
      go_upto_if 31 with (first
        | (go_at_call 7; refine (HH.out).mono ?_; rintro e w1 ⟨rfl, rfl⟩))
      go_cut [1] (fun v wx => ∃ (q : Option Addr) (c' : Nat) (L : List ByteArray), v = .slice q L.length c' ∧ TextsP wx q L ∧ L.length ≤ 50 ∧ Ext W wx)
      case first =>
        cases fit
        · go_wp2
          go_meet
          exact ⟨_, _, _, rfl, HT0.out, l50, Ext.refl _⟩
        · go_wp2_with (go_at_call 9; refine (HTX.out).mono ?_; rintro e w1 ⟨v, rfl, hb, x1⟩; have HB := Lib.hid hb; have X1 := Lib.hid x1; clear hb x1)
          go_meet
          obtain ⟨q, c', e1, ht, -⟩ := HB.out.texts
          exact ⟨q, c', _, e1, ht, by rw [HTL.out]; exact l50, X1.out⟩
      case rest =>
        obtain ⟨q, c', L, rfl, hT, hL, hext⟩ := hcut
        obtain ⟨code, T, hTl, hA, hB⟩ := split_both secret L hs24 hL
        obtain ⟨ri, rn, rs, rcode, hC, hD⟩ := read_both s
        have HA := Lib.hid hA; have HB := Lib.hid hB; have HC := Lib.hid hC; have HD := Lib.hid hD; have HT := Lib.hid hT; have HE := Lib.hid hext
        clear hA hB hC hD hT hext
        go_wp2_with (first
          | (go_at_call 10; refine (HA.out _ _ _ HT.out).mono ?_; rintro e w1 ⟨v, rfl, hb, x1⟩; obtain ⟨q1, c1, rfl, ht, -⟩ := hb.texts; have HT1 := Lib.hid ht; have X1 := Lib.hid x1; clear hb ht x1)
          | (go_at_call 11; refine (HB.out _ _ _ (HT.out.ext X1.out)).mono ?_; rintro e w2 ⟨v, rfl, hb, x2⟩; obtain ⟨q2, c2, rfl, ht, -⟩ := hb.texts; have HT2 := Lib.hid ht; have X2 := Lib.hid x2; clear hb ht x2))
        have HT12 := Lib.hid (HT1.out.ext X2.out)
        have HX2 := Lib.hid ((HE.out.trans X1.out).trans X2.out)
        go_loopw [13] (fun iv wr => ∃ j : Nat, j ≤ T.length ∧ iv = .int .i64 (j : Int) ∧ Ext w2 wr) (fun iv _ => T.length - (intOf iv).toNat)
        case atStart => exact ⟨0, Nat.zero_le _, rfl, Ext.refl _⟩
        case round =>
          obtain ⟨j, hj, rfl, hext⟩ := hrel
          have HE2 := Lib.hid hext
          by_cases hlt : j < T.length
          · obtain ⟨t, htj⟩ : ∃ t, T[j]? = some t := ⟨_, List.getElem?_eq_getElem hlt⟩
            obtain ⟨a1, rfl, _, k1⟩ := HT12.out.ext hext j t htj
            obtain ⟨a2, rfl, _, k2⟩ := HT2.out.ext hext j t htj
            clear htj hext
            go_wp2
            go_quiet (fail)
            go_wp2
            go_roundw
            case rel => exact ⟨j + 1, by omega, by go_num, HE2.out.drewN _⟩
            case measure => simp [intOf]; omega
          · obtain rfl : j = T.length := by omega
            clear hext
            go_wp2_with (first
              | (go_at_call 12; refine (HC.out _).mono ?_; rintro e w3 ⟨rfl, x3⟩)
              | (go_at_call 13; refine (HD.out _).mono ?_; rintro e w4 ⟨rfl, x4⟩)
              | (go_at_call 8; refine (share_works _).mono ?_; rintro e w5 ⟨rfl, x5⟩))
            go_ret
            exact ⟨rfl, ((((HX2.out.trans HE2.out).trans x3).trans x4).alloc _).trans x5⟩
end Go.Proofs.Ytadincbeimfakaa
