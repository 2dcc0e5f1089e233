/- Contract: whether two lists of rows are the same, by the document. -/
import Derived.Test.YtkjcpjalldbahaaDoorM36
import Derived.Test.YtkjcpjalldbahaaDoorM37
import Derived.StillTailTactics
namespace Go.Proofs.YtkjcpjalldbahaaDoor
open Go.RowKit

theorem listsR_eq {α : Type} {l m : List α} (hlm : l.length = m.length) (h : ∀ i, i < l.length → l[i]? = m[i]?) : l = m := by
  apply List.ext_getElem?
  intro i
  by_cases hi : i < l.length
  · exact h i hi
  · rw [List.getElem?_eq_none (by omega), List.getElem?_eq_none (by omega)]
set_option maxRecDepth 100000 in
set_option maxHeartbeats 4000000 in
theorem rsame18_is (w : World) (p q : Option Addr) (c d n k : Nat) (M K : List Ent) (hn : M.length = n) (hk : K.length = k) (hM : RowsP w p M) (hK : RowsP w q K) (hs : ∀ e ∈ M, e.L.length ≤ 1000000) (hn6 : n ≤ 1000000) (hk6 : k ≤ 1000000) (b : Bool) (hb : b = true ↔ M.map Ent.row = K.map Ent.row) :
    Calls Tryd.prog 10 #[.slice p n c, .slice q k d] w fun e w' => e = .returned (.bool b) ∧ Ext w w' := by
  have HL := Lib.hid hM
  have HM := Lib.hid hK
  have HB := Lib.hid hb
  have HSm := Lib.hid hs
  by_cases hnk : n = k
  · subst hnk
    have HN := Lib.hid hn; have HK := Lib.hid hk
    clear hM hK hb hn hk hs
    go_enter Tryd.func10, Tryd.ntmps10
    go_wp2
    go_loopw [5] (fun i wr => ∃ j : Nat, j ≤ n ∧ i = .int .i64 (j : Int) ∧ Hid (∀ i, i < j → (M.map Ent.row)[i]? = (K.map Ent.row)[i]?) ∧ Hid (Ext w wr)) (fun i _ => n - (intOf i).toNat)
    case atStart => exact ⟨0, Nat.zero_le _, rfl, Lib.hid (fun i hi => by omega), Lib.hid (Ext.refl _)⟩
    case round =>
      obtain ⟨j, hj, rfl, hs, hx⟩ := hrel
      by_cases hlt : j < n
      · obtain ⟨⟨xp, xm, xL, xa, xc⟩, hxj⟩ : ∃ x, M[j]? = some x := ⟨_, List.getElem?_eq_getElem (by have := HN.out; omega)⟩
        obtain ⟨⟨yp, ym, yL, ya, yc⟩, hyj⟩ : ∃ y, K[j]? = some y := ⟨_, List.getElem?_eq_getElem (by have := HK.out; omega)⟩
        obtain ⟨a, rfl, a0, a1, a2⟩ := HL.out.three hx.out hxj
        obtain ⟨a', rfl, b0, b1, b2⟩ := HM.out.three hx.out hyj
        dsimp only at a0 a1 a2 b0 b1 b2
        have HX : Hid ((M.map Ent.row)[j]? = some ⟨xp, xm, xL⟩) := Lib.hid (by rw [List.getElem?_map, hxj]; rfl)
        have HY : Hid ((K.map Ent.row)[j]? = some ⟨yp, ym, yL⟩) := Lib.hid (by rw [List.getElem?_map, hyj]; rfl)
        by_cases hxy : xp = yp
        · subst hxy
          have hxl : xL.length ≤ 1000000 := HSm.out _ (List.mem_of_getElem? hxj)
          have HS := Lib.hid (fun u (x : Ext w u) => rsame_any u xm ym xa ya xc yc xL yL ((HL.out.2 _ (List.mem_of_getElem? hxj)).ext x) ((HM.out.2 _ (List.mem_of_getElem? hyj)).ext x) (by omega))
          have HA3 := Lib.hid (fun u (x : Ext w u) => HL.out.three x hxj)
          have HB3 := Lib.hid (fun u (x : Ext w u) => HM.out.three x hyj)
          obtain ⟨n1, hn1⟩ : ∃ n1, xL.length = n1 := ⟨_, rfl⟩
          obtain ⟨n2, hn2⟩ : ∃ n2, yL.length = n2 := ⟨_, rfl⟩
          dsimp only at HA3 HB3
          rw [hn1] at a2 HA3 HS
          rw [hn2] at b2 HB3 HS
          clear hn1 hn2
          have x0 : Ext wr wr.drew := (Ext.refl wr).drew
          have HX0 := Lib.hid (hx.out.trans x0)
          have HKeep : Hid (∀ u, Ext w u → u.cell? (a.add (j * 3)) = some (.string xp) ∧ u.cell? ⟨(a.add (j * 3)).block, (a.add (j * 3)).off + 1, none⟩ = some (.int .u64 (xm : Int)) ∧ u.cell? ⟨(a.add (j * 3)).block, (a.add (j * 3)).off + 2, none⟩ = some (.slice xa n1 xc) ∧ u.cell? (a'.add (j * 3)) = some (.string xp) ∧ u.cell? ⟨(a'.add (j * 3)).block, (a'.add (j * 3)).off + 1, none⟩ = some (.int .u64 (ym : Int)) ∧ u.cell? ⟨(a'.add (j * 3)).block, (a'.add (j * 3)).off + 2, none⟩ = some (.slice ya n2 yc) ∧ Ext w u) := Lib.hid (fun u x => by
            obtain ⟨q, e, h0, h1, h2⟩ := HA3.out u x
            cases e
            obtain ⟨q', e', g0, g1, g2⟩ := HB3.out u x
            cases e'
            exact ⟨h0, h1, h2, g0, g1, g2, x⟩)
          have hS0 := HKeep.out _ hx.out
          have hS1 := HKeep.out _ HX0.out
          by_cases hcc : xm = ym ∧ xL = yL
          · rw [decide_eq_true hcc] at HS
            have HE : Hid ((M.map Ent.row)[j]? = (K.map Ent.row)[j]?) := Lib.hid (by rw [HX.out, HY.out, hcc.1, hcc.2])
            clear hxj hyj hcc hxl
            go_wp2
            go_region_held3 (fun u => u.cell? (a.add (j * 3)) = some (.string xp) ∧ u.cell? ⟨(a.add (j * 3)).block, (a.add (j * 3)).off + 1, none⟩ = some (.int .u64 (xm : Int)) ∧ u.cell? ⟨(a.add (j * 3)).block, (a.add (j * 3)).off + 2, none⟩ = some (.slice xa n1 xc) ∧ u.cell? (a'.add (j * 3)) = some (.string xp) ∧ u.cell? ⟨(a'.add (j * 3)).block, (a'.add (j * 3)).off + 1, none⟩ = some (.int .u64 (ym : Int)) ∧ u.cell? ⟨(a'.add (j * 3)).block, (a'.add (j * 3)).off + 2, none⟩ = some (.slice ya n2 yc) ∧ Ext w u) (first | exact hS1 | exact hS0 | exact hS2 | assumption | go_keep) (first | (go_at_call 24; refine (HS.out _ HX0.out).mono ?_; rintro e w3 ⟨rfl, x3⟩; have HX3 := Lib.hid (HX0.out.trans x3); have hS2 := HKeep.out _ HX3.out; clear x3))
            all_goals
              go_wp2
              go_roundw
              case rel =>
                refine ⟨j + 1, hlt, by go_num, Lib.hid fun i hi => ?_, HX3⟩
                by_cases hij : i = j
                · rw [hij]; exact HE.out
                · exact hs.out i (by omega)
              case measure => simp [intOf]; omega
          · rw [decide_eq_false hcc] at HS
            have hbf : b = false := by
              cases b with
              | false => rfl
              | true =>
                have := HB.out.1 rfl
                have h1 := HX.out
                rw [this, HY.out] at h1
                simp only [Option.some.injEq, RowP.mk.injEq, true_and] at h1
                exact absurd ⟨h1.1.symm, h1.2.symm⟩ hcc
            subst hbf
            clear hxj hyj hcc hxl
            go_wp2
            go_region_held3 (fun u => u.cell? (a.add (j * 3)) = some (.string xp) ∧ u.cell? ⟨(a.add (j * 3)).block, (a.add (j * 3)).off + 1, none⟩ = some (.int .u64 (xm : Int)) ∧ u.cell? ⟨(a.add (j * 3)).block, (a.add (j * 3)).off + 2, none⟩ = some (.slice xa n1 xc) ∧ u.cell? (a'.add (j * 3)) = some (.string xp) ∧ u.cell? ⟨(a'.add (j * 3)).block, (a'.add (j * 3)).off + 1, none⟩ = some (.int .u64 (ym : Int)) ∧ u.cell? ⟨(a'.add (j * 3)).block, (a'.add (j * 3)).off + 2, none⟩ = some (.slice ya n2 yc) ∧ Ext w u) (first | exact hS1 | exact hS0 | exact hS2 | assumption | go_keep) (first | (go_at_call 24; refine (HS.out _ HX0.out).mono ?_; rintro e w3 ⟨rfl, x3⟩; have HX3 := Lib.hid (HX0.out.trans x3); have hS2 := HKeep.out _ HX3.out; clear x3))
            all_goals
              go_wp2
              go_ret
              exact ⟨rfl, HX3.out⟩
        · have hne := txt_ne hxy
          have hbf : b = false := by
            cases b with
            | false => rfl
            | true =>
              have := HB.out.1 rfl
              have h1 := HX.out
              rw [this, HY.out] at h1
              simp only [Option.some.injEq, RowP.mk.injEq] at h1
              exact absurd h1.1.symm hxy
          subst hbf
          clear hxj hyj
          go_wp2
          go_quiet (fail)
          go_wp2
          go_ret
          exact ⟨rfl, hx.out.drewN _⟩
      · obtain rfl : j = n := by omega
        have hbt : b = true := HB.out.2 (listsR_eq (by rw [List.length_map, List.length_map, HN.out, HK.out]) (by rw [List.length_map, HN.out]; exact hs.out))
        subst hbt
        go_wp2
        go_ret
        exact ⟨rfl, hx.out⟩
  · have hbf : b = false := by
      cases b with
      | false => rfl
      | true =>
        have := congrArg List.length (hb.1 rfl)
        rw [List.length_map, List.length_map] at this
        omega
    subst hbf
    have hnk2 : ((n : Int) != (k : Int)) = true := by rw [bne_iff_ne]; omega
    clear hM hK hb hn hk hs
    go_enter Tryd.func10, Tryd.ntmps10
    go_wp2
    go_ret
    exact ⟨rfl, Ext.refl _⟩
end Go.Proofs.YtkjcpjalldbahaaDoor
