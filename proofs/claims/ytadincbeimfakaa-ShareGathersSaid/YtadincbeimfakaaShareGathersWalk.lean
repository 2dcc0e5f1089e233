/- The walk of layer 6's statement ShareGathers. -/
import Derived.Test.YtadincbeimfakaaShareWorks
import Derived.Test.YtadincbeimfakaaShareSteps
import Derived.Test.YtadincbeimfakaaOpenBools
import Derived.Test.YtadincbeimfakaaHeavy
import Derived.Deep.DeepCutAuto
import Derived.Outline
import Derived.Deep.LoopGhost
namespace Go.Proofs.Ytadincbeimfakaa
open Go.RowKit
attribute [local irreducible] xorL xorAll

/-- Both keep the same shares; the program's Gather is in blocks before the document's. -/
structure Both (W w : World) (r : Nat) (n m : Nat) (L : List (Nat × ByteArray)) : Prop where
  g : IsG w (W.heap.size + 1) W.heap.size n m L
  rv : ∃ v, IsR w r v n m L
  hr : W.heap.size + 2 ≤ r
  ext : Ext W w
theorem IsG.below {w w' : World} {B g b n m : Nat} {L : List (Nat × ByteArray)} (h : IsG w g b n m L) (hx : Below B w w') (h1 : g < B) (h2 : b < B) : IsG w' g b n m L := ⟨h.blk.below hx h1, h.map.same (hx.block b h2), h.alike⟩
theorem Both.move {W w w' : World} {r n m : Nat} {L : List (Nat × ByteArray)} (h : Both W w r n m L) (hx : Ext w w') : Both W w' r n m L := by
  obtain ⟨v, hv⟩ := h.rv
  exact ⟨h.g.ext hx, ⟨v, hv.ext hx⟩, h.hr, h.ext.trans hx⟩
theorem have_none (w : World) (g b n m : Nat) (h : IsG w g b n m []) :
    Calls Try.prog 17 #[.pointer (some ⟨g, 0, none⟩)] w fun e w' => e = .returned (.tuple #[.int .i64 0, .int .i64 0]) ∧ Ext w w' := have_any w g b n m [] h
theorem ext_below {W w w' : World} {r : Nat} (h : Ext W w) (k : Below r w w') (hr : W.heap.size ≤ r) : Ext W w' := Below.trans h (Below.mono k hr)
theorem Both.alike {W w : World} {r n m : Nat} {L : List (Nat × ByteArray)} (h : Both W w r n m L) : Alike n m L := h.g.alike
set_option maxRecDepth 100000 in
set_option maxHeartbeats 4000000 in
theorem ShareGathers_walk (p : Option Addr) (c : Nat) (l : List ByteArray) (dp : Option Addr) (dn dc : Nat) (W : World) (hT : TextsP W p l) (hl : l.length ≤ 140737488355328) (hs : ∀ s, s ∈ l → s.size ≤ 140737488351232) (hD : TruthsP W dp dn) (hdn : dn ≤ 140737488351232) :
    Calls Try.prog 4 #[.slice p l.length c, .slice dp dn dc] W fun e W' => e = .returned (.bool true) ∧ Ext W W' := by
  by_cases hh : Heavy l
  · have HH := Lib.hid (heavy_yes W p c l hT hs hl hh)
    clear hh hT hs hD
    go_enter Try.func4, Try.ntmps4
    go_wp2_with (first
      | (go_at_call 7; refine (HH.out).mono ?_; rintro e w1 ⟨rfl, rfl⟩)
      | (go_at_call 8; refine (share_works _).mono ?_; rintro e w1 ⟨rfl, h1⟩))
    go_ret
    exact ⟨rfl, h1⟩
  · have HH := Lib.hid (heavy_no W p c l hT hs hl hh)
    obtain ⟨l50, l4096⟩ := not_heavy hh
    clear hh hs
    by_cases h4 : 100 < dn
    · clear hT l4096 hD
      go_enter Try.func4, Try.ntmps4
      go_wp2_with (first
        | (go_at_call 7; refine (HH.out).mono ?_; rintro e w1 ⟨rfl, rfl⟩)
        | (go_at_call 8; refine (share_works _).mono ?_; rintro e w1 ⟨rfl, h1⟩))
      go_ret
      exact ⟨rfl, h1⟩
    · have HT := Lib.hid hT; have HD := Lib.hid hD
      clear hT l4096 hD
      go_enter Try.func4, Try.ntmps4
      go_wp2_with (first
        | (go_at_call 7; refine (HH.out).mono ?_; rintro e w1 ⟨rfl, rfl⟩)
        | (go_at_call 14; refine (New_any _).mono ?_; rintro e w1 ⟨rfl, hg, x1, hs1⟩; have HG := Lib.hid hg; have X1 := Lib.hid x1; have HS1 := Lib.hid hs1; clear hg x1 hs1))
      have HB0 : Hid (Both W (w1.alloc (.cells #[.slice none 0 0] 43)) w1.heap.size 1 1 []) := Lib.hid
        ⟨HG.out.alloc _, ⟨_, Blk.new w1 [.slice none 0 0] 43, BufH.nil _ _ _, Alike.nil (by decide) (by decide) (by decide) (by decide)⟩, by rw [HS1.out]; exact Nat.le_refl _, X1.out.alloc _⟩
      go_loopg [6, 7] l.length (fun k rv iv wr => ∃ (j r n m : Nat) (L : List (Nat × ByteArray)), j + k = l.length ∧ iv = .int .i64 (j : Int) ∧ rv = .pointer (some ⟨r, 0, none⟩) ∧ Both W wr r n m L)
      case atStart => exact ⟨0, _, 1, 1, [], by omega, rfl, rfl, HB0.out⟩
      case round =>
        obtain ⟨j, r, n, m, L, hj, rfl, rfl, hb⟩ := hrel
        have HB := Lib.hid hb
        by_cases hlt : j < l.length
        · obtain ⟨s, hs⟩ : ∃ s, l[j]? = some s := ⟨_, List.getElem?_eq_getElem hlt⟩
          obtain ⟨a, rfl, hab, hc⟩ := HT.out j s hs
          have HC := Lib.hid (fun u (hu : Ext W u) => (hu.below.cell (p := a.add j) (by rw [add_block]; exact hab)).trans hc)
          obtain ⟨code, n', m', L', hA, hR⟩ := add_both s n m L hb.alike
          have HA := Lib.hid hA; have HR := Lib.hid hR
          obtain ⟨v, hv⟩ := hb.rv
          have HG0 := Lib.hid hb.g.drew
          have HR0 : Hid (IsR wr.drew r v n m L) := Lib.hid ⟨hv.blk, hv.buf, hv.alike⟩
          have HE0 := Lib.hid hb.ext.drew
          have HM0 := Lib.hid hb.g.map.is
          have hr2 := hb.hr
          have hcw := HC.out wr hb.ext
          clear hb hs hab hc hA hR hv
          go_upto_region 8 with (fail)
          go_cut [45] (fun q wx => q = .bool false ∧ Both W wx r n' m' L')
          case first =>
            go_region_with (first
              | (go_at_call 15; (with_reducible refine (HA.out _ _ _ HG0.out).mono ?_); rintro e wa ⟨rfl, ha, ka⟩; have HGa := Lib.hid ha; have HRa := Lib.hid (HR0.out.grown ka HM0.out); have HXa := Lib.hid (HE0.out.grown ka (fun k hk => by cases hk; exact Nat.le_refl _)); have hca := HC.out wa HXa.out; clear ha ka)
              | (go_at_call 16; (with_reducible refine (HR.out _ _ _ HRa.out).mono ?_); rintro e wb ⟨v', rfl, hr, kr⟩; have HBo : Hid (Both W wb r n' m' L') := Lib.hid ⟨HGa.out.below kr (by omega) (by omega), ⟨v', hr⟩, hr2, ext_below HXa.out kr (by omega)⟩; clear hr kr)
              | (go_at_call 16; (with_reducible refine (HR.out _ _ _ HR0.out).mono ?_); rintro e wc ⟨v', rfl, hr, kr⟩; have HRc := Lib.hid hr; have HGc := Lib.hid (HG0.out.below kr (by omega) (by omega)); have HXc := Lib.hid (ext_below HE0.out kr (by omega)); have hcc := HC.out wc HXc.out; clear hr kr)
              | (go_at_call 15; (with_reducible refine (HA.out _ _ _ HGc.out).mono ?_); rintro e wd ⟨rfl, ha, ka⟩; have HBo : Hid (Both W wd r n' m' L') := Lib.hid ⟨ha, ⟨v', HRc.out.grown ka HGc.out.map.is⟩, hr2, HXc.out.grown ka (fun k hk => by cases hk; exact Nat.le_refl _)⟩; clear ha ka))
            all_goals
              go_wp2
              go_meet
              exact ⟨rfl, HBo.out⟩
          case rest =>
            obtain ⟨rfl, hb⟩ := hcut
            clear HG0 HR0 HE0 HM0 hcw HA HR HB
            have HB1 := Lib.hid hb
            obtain ⟨t, is, hti, hsp, hsr⟩ := secret_both n' m' L' hb.alike
            have HSP := Lib.hid hsp; have HSR := Lib.hid hsr; have HTI := Lib.hid hti
            clear hb hsp hsr hti
            go_upto_if 56 with (go_at_call 17; (with_reducible refine (have_any _ _ _ _ _ _ HB1.out.g).mono ?_); rintro e w2 ⟨rfl, x2⟩; have HB2 := Lib.hid (HB1.out.move x2); obtain ⟨v, hv⟩ := HB2.out.rv; obtain ⟨pv, cv, rfl, hcl⟩ := hv.buf.cells; have cr := hv.blk.cell 0 _ rfl; have HV := Lib.hid hv; have HCl := Lib.hid hcl; clear x2 hv hcl)
            go_cut [10] (fun q wx => q = .int .i64 (haveN n' L' : Int) ∧ w2 = wx)
            case first =>
              by_cases hL0 : L' = []
              · subst hL0
                go_wp2
                go_meet
                exact ⟨rfl, rfl⟩
              · obtain ⟨x, hx⟩ : ∃ x, L'[0]? = some x := ⟨_, List.getElem?_eq_getElem (List.length_pos_iff.2 hL0)⟩
                obtain ⟨q, rfl, hq1, hq2, hc0, hc1, hc2⟩ := HCl.out 0 x hx
                have hpos : 0 < L'.length := List.length_pos_iff.2 hL0
                have hposi : (0 : Int) < (L'.length : Int) := by omega
                have c1 : w2.cell? ⟨q, 1, none⟩ = some (.int .i64 (n' : Int)) := by simpa using hc1
                have HN := Lib.hid (haveN_some (n := n') hL0)
                clear hx hq1 hq2 hc0 hc1 hc2
                go_wp2
                go_meet
                exact ⟨by rw [HN.out], rfl⟩
            case rest =>
              obtain ⟨rfl, rfl⟩ := hcut
              clear cr
              go_upto_region 16 with (first
                | (go_at_call 18; (with_reducible refine (HSP.out _ _ _ HB2.out.g).mono ?_); rintro e w4 ⟨rfl, x4⟩; have X4 := Lib.hid x4; have HV4 := Lib.hid (HV.out.ext x4); clear x4)
                | (go_at_call 19; (with_reducible refine (HSR.out _ _ _ HV4.out).mono ?_); rintro e w5 ⟨rfl, x5⟩; have HB5 := Lib.hid ((HB2.out.move X4.out).move x5); have cr := (HV4.out.ext x5).blk.cell 0 _ rfl; clear x5))
              go_cut [93] (fun q wx => q = .bool false ∧ w5 = wx)
              case first =>
                rcases HTI.out with ⟨h1, h2⟩ | ⟨h1, h2⟩
                · subst h1 h2
                  go_wp2
                  go_meet
                  exact ⟨rfl, rfl⟩
                · subst h2
                  have hn1 : ¬ t.toList = [] := fun q => h1 (by apply ByteArray.ext; have := congrArg List.toArray q; simpa [ByteArray.toList_eq] using this)
                  have hn2 : t.toList.isEmpty = false := by simpa using hn1
                  clear h1
                  go_wp2
                  go_meet
                  exact ⟨rfl, rfl⟩
              case rest =>
                obtain ⟨rfl, rfl⟩ := hcut
                clear cr
                by_cases hjd : j < dn
                · obtain ⟨a2, x, rfl, hab2, hc2⟩ := HD.out j hjd
                  have cd := (HB5.out.ext.below.cell (p := a2.add j) (by rw [add_block]; exact hab2)).trans hc2
                  clear hab2 hc2
                  cases x
                  · go_wp2
                    go_roundg (gk - 1)
                    case measure => omega
                    case rel => exact ⟨j + 1, r, n', m', L', by omega, by go_num, rfl, HB5.out⟩
                  · go_wp2_with (first
                      | (go_at_call 20; (with_reducible refine (drop_any _ _ _ _ _ _ HB5.out.g).mono ?_); rintro e w6 ⟨rfl, hg6, k6⟩; have HG7 := Lib.hid (hg6.alloc (.cells #[.slice none 0 0] 43)); have HX6 := Lib.hid (HB5.out.ext.grown k6 (fun k hk => by cases hk; exact Nat.le_refl _)); have HS6 : Hid (W.heap.size + 2 ≤ w6.heap.size) := Lib.hid (by have := k6.size; have := HB5.out.hr; have := HB5.out.rv.choose_spec.blk.lt; omega); clear hg6 k6)
                      | (go_at_call 17; (with_reducible refine (have_none _ _ _ _ _ HG7.out).mono ?_); rintro e w8 ⟨rfl, x8⟩; have X8 := Lib.hid x8; clear x8))
                    have HB8 : Hid (Both W w8 w6.heap.size n' m' []) := Lib.hid (Both.move ⟨HG7.out, ⟨_, Blk.new w6 [.slice none 0 0] 43, BufH.nil _ _ _, HG7.out.alike⟩, HS6.out, HX6.out.alloc _⟩ X8.out)
                    go_roundg (gk - 1)
                    case measure => omega
                    case rel => exact ⟨j + 1, _, n', m', [], by omega, by go_num, rfl, HB8.out⟩
                · go_wp2
                  go_roundg (gk - 1)
                  case measure => omega
                  case rel => exact ⟨j + 1, r, n', m', L', by omega, by go_num, rfl, HB5.out⟩
        · obtain rfl : j = l.length := by omega
          clear hb
          go_wp2_with (go_at_call 8; refine (share_works _).mono ?_; rintro e w3 ⟨rfl, x3⟩)
          go_ret
          exact ⟨rfl, HB.out.ext.trans x3⟩
end Go.Proofs.Ytadincbeimfakaa
