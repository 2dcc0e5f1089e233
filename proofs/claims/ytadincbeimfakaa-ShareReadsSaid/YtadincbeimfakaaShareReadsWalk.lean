/- The walk of layer 6's statement ShareReads. -/
import Derived.Test.YtadincbeimfakaaShareWorks
import Derived.Test.YtadincbeimfakaaShareT
import Derived.Test.YtadincbeimfakaaPSplit
import Derived.Test.YtadincbeimfakaaPRead
import Derived.Test.YtadincbeimfakaaHeavy
import Derived.Outline
namespace Go.Proofs.Ytadincbeimfakaa
open Go.RowKit
attribute [local irreducible] xorL xorAll textsOf fullN

set_option maxRecDepth 100000 in
set_option maxHeartbeats 4000000 in
theorem ShareReads_walk (secret : ByteArray) (p : Option Addr) (c : Nat) (l : List ByteArray) (W : World) (z0 : secret.size ≤ 140737488351232) (hT : TextsP W p l) (hl : l.length ≤ 140737488355328) (hs : ∀ s, s ∈ l → s.size ≤ 140737488351232) :
    Calls Try.prog 6 #[.string secret, .slice p l.length c] W fun e W' => e = .returned (.bool true) ∧ Ext W W' := by
  by_cases hh : Heavy l
  · have HH := Lib.hid (heavy_yes W p c l hT hs hl hh)
    clear hh hT hs
    go_enter Try.func6, Try.ntmps6
    go_wp2_with (first
      | (go_at_call 7; refine (HH.out).mono ?_; rintro e w1 ⟨rfl, rfl⟩)
      | (go_at_call 8; refine (share_works _).mono ?_; rintro e w1 ⟨rfl, h1⟩))
    go_ret
    exact ⟨rfl, h1⟩
  · have HH := Lib.hid (heavy_no W p c l hT hs hl hh)
    obtain ⟨l50, l4096⟩ := not_heavy hh
    clear hh hs
    by_cases h4 : 1024 < secret.size
    · clear hT l4096
      go_enter Try.func6, Try.ntmps6
      go_wp2_with (first
        | (go_at_call 7; refine (HH.out).mono ?_; rintro e w1 ⟨rfl, rfl⟩)
        | (go_at_call 8; refine (share_works _).mono ?_; rintro e w1 ⟨rfl, h1⟩))
      go_ret
      exact ⟨rfl, h1⟩
    · have HTX := Lib.hid (texts_any W p c l secret.size (by omega) l50 hT)
      clear hT l4096
      by_cases ha : secret.size < 1 ∨ 64 < secret.size ∨ 16 ≤ l.length
      · have HSp := Lib.hid (fun u q c' => split_arg u secret q (textsOf l secret.size).length c' (by rw [textsOf_length]; exact ha) (by rw [textsOf_length]; omega) (by omega))
        have hcase : (secret.size : Int) < 1 ∨ (¬ (secret.size : Int) < 1 ∧ (64 : Int) < (secret.size : Int)) ∨ (¬ (secret.size : Int) < 1 ∧ ¬ (64 : Int) < (secret.size : Int) ∧ (16 : Int) ≤ (l.length : Int)) := by omega
        clear ha
        go_enter Try.func6, Try.ntmps6
        rcases hcase with q | ⟨q1, q2⟩ | ⟨q1, q2, q3⟩
        all_goals
          go_wp2_with (first
            | (go_at_call 7; refine (HH.out).mono ?_; rintro e w1 ⟨rfl, rfl⟩)
            | (go_at_call 9; refine (HTX.out).mono ?_; rintro e w1 ⟨v, rfl, hb, x1⟩; obtain ⟨q, c', rfl, -⟩ := hb.texts; clear hb)
            | (go_at_call 10; refine (HSp.out _ _ _).mono ?_; rintro e w2 ⟨rfl, rfl⟩)
            | (go_at_call 8; refine (share_works _).mono ?_; rintro e w3 ⟨rfl, h3⟩))
          go_ret
          exact ⟨rfl, x1.trans h3⟩
      · have h1 : 1 ≤ secret.size := by omega
        have h64 : secret.size ≤ 64 := by omega
        have h16 : l.length < 16 := by omega
        have hsz := textsOf_size l secret.size
        have htl := textsOf_length l secret.size
        have HSp := Lib.hid (fun u q c' (ht : TextsP u q (textsOf l secret.size)) => split_yes u secret q c' (textsOf l secret.size) h1 h64 (by rw [htl]; exact h16) ht hsz)
        have HAs := Lib.hid (allT_size secret (textsOf l secret.size) hsz)
        have HGet := Lib.hid (splitT_get secret (textsOf l secret.size))
        have hSl := splitT_length secret (textsOf l secret.size)
        have hAl := allT_length secret (textsOf l secret.size)
        rw [htl] at hSl hAl HGet
        have HSl := Lib.hid hSl; have HAl := Lib.hid hAl; have HTl := Lib.hid htl
        clear ha h4 hsz htl hSl hAl
        go_enter Try.func6, Try.ntmps6
        go_wp2_with (first
          | (go_at_call 7; refine (HH.out).mono ?_; rintro e w1 ⟨rfl, rfl⟩)
          | (go_at_call 9; refine (HTX.out).mono ?_; rintro e w1 ⟨v, rfl, hb, x1⟩; obtain ⟨q, c', rfl, ht, -⟩ := hb.texts; have HT1 := Lib.hid ht; have X1 := Lib.hid x1; clear hb ht x1)
          | (go_at_call 10; refine (HSp.out _ _ _ HT1.out).mono ?_; rintro e w2 ⟨v, rfl, hb, x2⟩; obtain ⟨q2, c2, rfl, ht2, -⟩ := hb.texts; have HT2 := Lib.hid ht2; have X2 := Lib.hid x2; clear hb ht2 x2))
        have HA2 : Hid (∀ (j : Nat) (s : ByteArray), (allT secret (textsOf l secret.size))[j]? = some s → j < l.length → (textsOf l secret.size)[j]? = some s) := Lib.hid (fun j s hj hjl => by
          unfold allT at hj
          rwa [List.getElem?_append_left (by rw [HTl.out]; exact hjl)] at hj)
        have e1 := HSl.out
        have e2 := HTl.out
        rw [e1, e2]
        have HX2 := Lib.hid (X1.out.trans X2.out)
        clear e1 e2
        go_loopw [8] (fun iv wr => ∃ j : Nat, j ≤ l.length + 1 ∧ iv = .int .i64 (j : Int) ∧ Ext w2 wr) (fun iv _ => l.length + 1 - (intOf iv).toNat)
        case atStart => exact ⟨0, Nat.zero_le _, rfl, Ext.refl _⟩
        case round =>
          obtain ⟨j, hj, rfl, hext⟩ := hrel
          have HE := Lib.hid hext
          by_cases hlt : j < l.length + 1
          · obtain ⟨s, hsj⟩ : ∃ s, (allT secret (textsOf l secret.size))[j]? = some s := ⟨_, List.getElem?_eq_getElem (by rw [HAl.out]; exact hlt)⟩
            have hss := HAs.out s (List.mem_of_getElem? hsj)
            obtain ⟨a, rfl, _, hc⟩ := HT2.out.ext hext j _ (HGet.out j s hsj)
            have HRd := Lib.hid (fun u => read_yes _ _ _ (shareT_of (j + 1) (l.length + 1) s (by omega) (by omega) (by omega) (by omega) (by omega)) u)
            rw [shareT_rest, show ((j + 1 : Nat) : Int) = (j : Int) + 1 by omega, show ((l.length + 1 : Nat) : Int) = (l.length : Int) + 1 by omega] at HRd
            have hne : ((s.size : Int) != (secret.size : Int)) = false := by rw [hss]; simp
            generalize shareT (j + 1) (l.length + 1) s = Tj at *
            by_cases hjl : j < l.length
            · obtain ⟨a1, rfl, hab, hc1⟩ := HT1.out j s (HA2.out j s hsj hjl)
              have HC1 := Lib.hid (fun u (hu : Ext w1 u) => (hu.below.cell (p := a1.add j) (by rw [add_block]; exact hab)).trans hc1)
              clear hsj hss hext hab hc1
              go_wp2_with (go_at_call 12; refine (HRd.out _).mono ?_; rintro e w3 ⟨rfl, x3⟩; have hc3 := HC1.out _ ((X2.out.trans HE.out).trans x3))
              go_roundw
              case rel => exact ⟨j + 1, by omega, by go_num, HE.out.trans x3⟩
              case measure => simp [intOf]; omega
            · clear hsj hss hext
              go_wp2_with (go_at_call 12; refine (HRd.out _).mono ?_; rintro e w3 ⟨rfl, x3⟩)
              go_roundw
              case rel => exact ⟨j + 1, by omega, by go_num, HE.out.trans x3⟩
              case measure => simp [intOf]; omega
          · obtain rfl : j = l.length + 1 := by omega
            clear hext
            go_wp2_with (go_at_call 8; refine (share_works _).mono ?_; rintro e w3 ⟨rfl, h3⟩)
            go_ret
            exact ⟨rfl, (HX2.out.trans HE.out).trans h3⟩
end Go.Proofs.Ytadincbeimfakaa
