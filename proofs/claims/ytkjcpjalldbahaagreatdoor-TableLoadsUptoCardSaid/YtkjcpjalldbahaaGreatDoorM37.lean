/- Contract: whether two lists of rows are the same, by the document. Contract: the law's stands: a table has just the document's rows. -/
import Derived.Test.YtkjcpjalldbahaaGreatDoorM24
import Derived.Test.YtkjcpjalldbahaaGreatDoorM35
import Derived.StillTailTactics
import Derived.Test.YtkjcpjalldbahaaGreatDoorM36
import Derived.Test.YtkjcpjalldbahaaGreatDoorM20
section
namespace Go.Proofs.YtkjcpjalldbahaaGreatDoor
open Go.RowKit

theorem listsR_eq {α : Type} {l m : List α} (hlm : l.length = m.length) (h : ∀ i, i < l.length → l[i]? = m[i]?) : l = m := by
  apply List.ext_getElem?
  intro i
  by_cases hi : i < l.length
  · exact h i hi
  · rw [List.getElem?_eq_none (by omega), List.getElem?_eq_none (by omega)]
set_option maxRecDepth 100000 in
set_option maxHeartbeats 4000000 in
theorem rsame18_is (w : World) (p q : Option Addr) (c d n k : Nat) (M K : List Ent) (hn : M.length = n) (hk : K.length = k) (hM : RowsP w p M) (hK : RowsP w q K) (hs : ∀ e ∈ M, e.L.length ≤ 1000000) (hn6 : n ≤ 1000000) (hk6 : k ≤ 1000000) (b : Bool) (hb : b = true ↔ M.map Ent.row = K.map Ent.row) :
    Calls Tryz.prog 23 #[.slice p n c, .slice q k d] w fun e w' => e = .returned (.bool b) ∧ Ext w w' := by
  have HL := Lib.hid hM
  have HM := Lib.hid hK
  have HB := Lib.hid hb
  have HSm := Lib.hid hs
  by_cases hnk : n = k
  · subst hnk
    have HN := Lib.hid hn; have HK := Lib.hid hk
    clear hM hK hb hn hk hs
    go_enter Tryz.func23, Tryz.ntmps23
    go_wp2
    go_loopw [5] (fun i wr => ∃ j : Nat, j ≤ n ∧ i = .int .i64 (j : Int) ∧ Hid (∀ i, i < j → (M.map Ent.row)[i]? = (K.map Ent.row)[i]?) ∧ Hid (Ext w wr)) (fun i _ => n - (intOf i).toNat)
    case atStart => exact ⟨0, Nat.zero_le _, rfl, Lib.hid (fun i hi => by omega), Lib.hid (Ext.refl _)⟩
    case round =>
      obtain ⟨j, hj, rfl, hs, hx⟩ := hrel
      by_cases hlt : j < n
      · obtain ⟨⟨xp, xm, xL, xa, xc⟩, hxj⟩ : ∃ x, M[j]? = some x := ⟨_, List.getElem?_eq_getElem (by have := HN.out; omega)⟩
        obtain ⟨⟨yp, ym, yL, ya, yc⟩, hyj⟩ : ∃ y, K[j]? = some y := ⟨_, List.getElem?_eq_getElem (by have := HK.out; omega)⟩
        obtain ⟨a, rfl, a0, a1, a2⟩ := HL.out.three hx.out hxj
        obtain ⟨a', rfl, b0, b1, b2⟩ := HM.out.three hx.out hyj
        dsimp only at a0 a1 a2 b0 b1 b2
        have HX : Hid ((M.map Ent.row)[j]? = some ⟨xp, xm, xL⟩) := Lib.hid (by rw [List.getElem?_map, hxj]; rfl)
        have HY : Hid ((K.map Ent.row)[j]? = some ⟨yp, ym, yL⟩) := Lib.hid (by rw [List.getElem?_map, hyj]; rfl)
        by_cases hxy : xp = yp
        · subst hxy
          have hxl : xL.length ≤ 1000000 := HSm.out _ (List.mem_of_getElem? hxj)
          have HS := Lib.hid (fun u (x : Ext w u) => rsame_any u xm ym xa ya xc yc xL yL ((HL.out.2 _ (List.mem_of_getElem? hxj)).ext x) ((HM.out.2 _ (List.mem_of_getElem? hyj)).ext x) (by omega))
          have HA3 := Lib.hid (fun u (x : Ext w u) => HL.out.three x hxj)
          have HB3 := Lib.hid (fun u (x : Ext w u) => HM.out.three x hyj)
          obtain ⟨n1, hn1⟩ : ∃ n1, xL.length = n1 := ⟨_, rfl⟩
          obtain ⟨n2, hn2⟩ : ∃ n2, yL.length = n2 := ⟨_, rfl⟩
          dsimp only at HA3 HB3
          rw [hn1] at a2 HA3 HS
          rw [hn2] at b2 HB3 HS
          clear hn1 hn2
          have x0 : Ext wr wr.drew := (Ext.refl wr).drew
          have HX0 := Lib.hid (hx.out.trans x0)
          have HKeep : Hid (∀ u, Ext w u → u.cell? (a.add (j * 3)) = some (.string xp) ∧ u.cell? ⟨(a.add (j * 3)).block, (a.add (j * 3)).off + 1, none⟩ = some (.int .u64 (xm : Int)) ∧ u.cell? ⟨(a.add (j * 3)).block, (a.add (j * 3)).off + 2, none⟩ = some (.slice xa n1 xc) ∧ u.cell? (a'.add (j * 3)) = some (.string xp) ∧ u.cell? ⟨(a'.add (j * 3)).block, (a'.add (j * 3)).off + 1, none⟩ = some (.int .u64 (ym : Int)) ∧ u.cell? ⟨(a'.add (j * 3)).block, (a'.add (j * 3)).off + 2, none⟩ = some (.slice ya n2 yc) ∧ Ext w u) := Lib.hid (fun u x => by
            obtain ⟨q, e, h0, h1, h2⟩ := HA3.out u x
            cases e
            obtain ⟨q', e', g0, g1, g2⟩ := HB3.out u x
            cases e'
            exact ⟨h0, h1, h2, g0, g1, g2, x⟩)
          have hS0 := HKeep.out _ hx.out
          have hS1 := HKeep.out _ HX0.out
          by_cases hcc : xm = ym ∧ xL = yL
          · rw [decide_eq_true hcc] at HS
            have HE : Hid ((M.map Ent.row)[j]? = (K.map Ent.row)[j]?) := Lib.hid (by rw [HX.out, HY.out, hcc.1, hcc.2])
            clear hxj hyj hcc hxl
            go_wp2
            go_region_held3 (fun u => u.cell? (a.add (j * 3)) = some (.string xp) ∧ u.cell? ⟨(a.add (j * 3)).block, (a.add (j * 3)).off + 1, none⟩ = some (.int .u64 (xm : Int)) ∧ u.cell? ⟨(a.add (j * 3)).block, (a.add (j * 3)).off + 2, none⟩ = some (.slice xa n1 xc) ∧ u.cell? (a'.add (j * 3)) = some (.string xp) ∧ u.cell? ⟨(a'.add (j * 3)).block, (a'.add (j * 3)).off + 1, none⟩ = some (.int .u64 (ym : Int)) ∧ u.cell? ⟨(a'.add (j * 3)).block, (a'.add (j * 3)).off + 2, none⟩ = some (.slice ya n2 yc) ∧ Ext w u) (first | exact hS1 | exact hS0 | exact hS2 | assumption | go_keep) (first | (go_at_call 51; refine (HS.out _ HX0.out).mono ?_; rintro e w3 ⟨rfl, x3⟩; have HX3 := Lib.hid (HX0.out.trans x3); have hS2 := HKeep.out _ HX3.out; clear x3))
            all_goals
              go_wp2
              go_roundw
              case rel =>
                refine ⟨j + 1, hlt, by go_num, Lib.hid fun i hi => ?_, HX3⟩
                by_cases hij : i = j
                · rw [hij]; exact HE.out
                · exact hs.out i (by omega)
              case measure => simp [intOf]; omega
          · rw [decide_eq_false hcc] at HS
            have hbf : b = false := by
              cases b with
              | false => rfl
              | true =>
                have := HB.out.1 rfl
                have h1 := HX.out
                rw [this, HY.out] at h1
                simp only [Option.some.injEq, RowP.mk.injEq, true_and] at h1
                exact absurd ⟨h1.1.symm, h1.2.symm⟩ hcc
            subst hbf
            clear hxj hyj hcc hxl
            go_wp2
            go_region_held3 (fun u => u.cell? (a.add (j * 3)) = some (.string xp) ∧ u.cell? ⟨(a.add (j * 3)).block, (a.add (j * 3)).off + 1, none⟩ = some (.int .u64 (xm : Int)) ∧ u.cell? ⟨(a.add (j * 3)).block, (a.add (j * 3)).off + 2, none⟩ = some (.slice xa n1 xc) ∧ u.cell? (a'.add (j * 3)) = some (.string xp) ∧ u.cell? ⟨(a'.add (j * 3)).block, (a'.add (j * 3)).off + 1, none⟩ = some (.int .u64 (ym : Int)) ∧ u.cell? ⟨(a'.add (j * 3)).block, (a'.add (j * 3)).off + 2, none⟩ = some (.slice ya n2 yc) ∧ Ext w u) (first | exact hS1 | exact hS0 | exact hS2 | assumption | go_keep) (first | (go_at_call 51; refine (HS.out _ HX0.out).mono ?_; rintro e w3 ⟨rfl, x3⟩; have HX3 := Lib.hid (HX0.out.trans x3); have hS2 := HKeep.out _ HX3.out; clear x3))
            all_goals
              go_wp2
              go_ret
              exact ⟨rfl, HX3.out⟩
        · have hne := txt_ne hxy
          have hbf : b = false := by
            cases b with
            | false => rfl
            | true =>
              have := HB.out.1 rfl
              have h1 := HX.out
              rw [this, HY.out] at h1
              simp only [Option.some.injEq, RowP.mk.injEq] at h1
              exact absurd h1.1.symm hxy
          subst hbf
          clear hxj hyj
          go_wp2
          go_quiet (fail)
          go_wp2
          go_ret
          exact ⟨rfl, hx.out.drewN _⟩
      · obtain rfl : j = n := by omega
        have hbt : b = true := HB.out.2 (listsR_eq (by rw [List.length_map, List.length_map, HN.out, HK.out]) (by rw [List.length_map, HN.out]; exact hs.out))
        subst hbt
        go_wp2
        go_ret
        exact ⟨rfl, hx.out⟩
  · have hbf : b = false := by
      cases b with
      | false => rfl
      | true =>
        have := congrArg List.length (hb.1 rfl)
        rw [List.length_map, List.length_map] at this
        omega
    subst hbf
    have hnk2 : ((n : Int) != (k : Int)) = true := by rw [bne_iff_ne]; omega
    clear hM hK hb hn hk hs
    go_enter Tryz.func23, Tryz.ntmps23
    go_wp2
    go_ret
    exact ⟨rfl, Ext.refl _⟩
end Go.Proofs.YtkjcpjalldbahaaGreatDoor
end

section
namespace Go.Proofs.YtkjcpjalldbahaaGreatDoor
open Go.RowKit Go.ChangeMaps Go.MapKept

set_option maxRecDepth 100000 in
set_option maxHeartbeats 8000000 in
theorem stands_any (w : World) (t b r : Nat) (qp qb : Int) (R : List RowP) (h : Both w t b r qp qb R) (hl : R.length ≤ 60000) :
    Calls Tryz.prog 10 #[.pointer (some ⟨t, 0, none⟩), .pointer (some ⟨r, 0, none⟩)] w fun e w' => e = .returned (.bool true) ∧ Ext w w' := by
  have HB := Lib.hid h
  have HSz := Lib.hid (tSize_any w 0 t b qp qb R h.one)
  have HRo := Lib.hid (fun u (x : IsT u 0 t b qp qb R) => trows_any u 0 t b qp qb R x (by omega))
  obtain ⟨p0, c0, M0, hB0, hP0, hM0, hG0, hc0⟩ := h.two
  obtain ⟨rl, hrl⟩ : ∃ n, M0.length = n := ⟨_, rfl⟩
  have hRl : R.length = rl := by rw [← hM0, List.length_map, hrl]
  have HSa : Hid (∀ u p c M, Ext w u → M.map Ent.row = R → RowsP u p M → Calls Tryz.prog 23 #[.slice p rl c, .slice p0 rl c0] u fun e w' => e = .returned (.bool true) ∧ Ext u w') := Lib.hid (fun u p c M x hM hP => rsame18_is u p p0 c c0 rl rl M M0 (by rw [← hRl, ← hM, List.length_map]) hrl hP (hP0.ext x) (fun e he => by have := (hG0.each e.row (by rw [← hM]; exact List.mem_map.2 ⟨e, he, rfl⟩)).len; have h3 : e.L.length ≤ 8 := this; omega) (by omega) (by omega) true (by rw [hM, hM0]; simp))
  have HBy := Lib.hid (fun u (x : Ext w u) => rbytes_any u p0 c0 M0 (hP0.ext x) (fun e he => hG0.each _ (by rw [← hM0]; exact List.mem_map.2 ⟨e, he, rfl⟩)) (by omega))
  rw [hrl, hM0] at HBy
  rw [hRl] at HSz HRo
  have HB0 := Lib.hid hB0
  rw [hrl] at HB0
  have HS := Lib.hid (fun u (x : Ext w u) => (HB0.out.ext x).cell 2 _ rfl)
  generalize bytesR R = by_ at *
  clear h hB0 hP0 hM0 hG0 hc0 hrl hRl hl
  go_enter Tryz.func10, Tryz.ntmps10
  go_upto_region 2 with (go_at_call 28; refine HSz.out.mono ?_; rintro e w1 ⟨rfl, x1⟩; have HX1 := Lib.hid x1; clear x1)
  have HX1d := Lib.hid HX1.out.drew
  have HB1d := Lib.hid (HB.out.ext HX1d.out)
  have hS0 := HS.out _ HX1d.out
  refine wp_region_held_drew (S := fun u => u.cell? ⟨r, 2, none⟩ = some (.slice p0 rl c0)) (by kernel_rfl) hS0 (fun hHeld => ?_)
  refine wpAnyH_take (i := 0) (oi := { dst := some 12, op := Go.Op.move (Go.Operand.tmp 0), type := 28, pos := "law.go:111", after := #[], guard := none }) (v := ?_) rfl (by kernel_rfl) (by kernel_rfl) (by kernel_rfl) (fun _ _ _ h => h) (Or.inl ⟨by rfl, ?_⟩) (by assumption) ?_
  rotate_left
  · (intro u hSw; (try dsimp only at hSw); go_simp; try (with_reducible rfl))
  try simp only [Act.put, List.setIfInBounds_toArray, List.set_cons_zero, List.set_cons_succ]
  refine wpAnyH_take (i := 2) (oi := { dst := some 14, op := Go.Op.move (Go.Operand.tmp 1), type := 30, pos := "law.go:111", after := #[], guard := none }) (v := ?_) rfl (by kernel_rfl) (by kernel_rfl) (by kernel_rfl) (fun _ _ _ h => h) (Or.inl ⟨by rfl, ?_⟩) (by assumption) ?_
  rotate_left
  · (intro u hSw; (try dsimp only at hSw); go_simp; try (with_reducible rfl))
  try simp only [Act.put, List.setIfInBounds_toArray, List.set_cons_zero, List.set_cons_succ]
  refine wpAnyH_take (i := 3) (oi := { dst := some 15, op := Go.Op.nilCheck (Go.Operand.tmp 14), type := 0, pos := "law.go:111", after := #[{ on := 2, ground := Go.Ground.data }], guard := none }) (v := ?_) rfl (by kernel_rfl) (by kernel_rfl) (by kernel_rfl) (fun _ _ _ h => h) (Or.inl ⟨by rfl, ?_⟩) (by assumption) ?_
  rotate_left
  · (intro u hSw; (try dsimp only at hSw); go_simp; try (with_reducible rfl))
  try simp only [Act.put, List.setIfInBounds_toArray, List.set_cons_zero, List.set_cons_succ]
  refine wpAnyH_take (i := 4) (oi := { dst := some 16, op := Go.Op.fieldAddr 33 (Go.Operand.tmp 15) 1, type := 0, pos := "law.go:111", after := #[{ on := 3, ground := Go.Ground.data }], guard := none }) (v := ?_) rfl (by kernel_rfl) (by kernel_rfl) (by kernel_rfl) (fun _ _ _ h => h) (Or.inl ⟨by rfl, ?_⟩) (by assumption) ?_
  rotate_left
  · (intro u hSw; (try dsimp only at hSw); go_simp; try (with_reducible rfl))
  try simp only [Act.put, List.setIfInBounds_toArray, List.set_cons_zero, List.set_cons_succ]
  refine wpAnyH_take (i := 5) (oi := { dst := some 17, op := Go.Op.load 31 (Go.Operand.tmp 16), type := 31, pos := "law.go:111", after := #[{ on := 4, ground := Go.Ground.data }], guard := none }) (v := ?_) rfl (by kernel_rfl) (by kernel_rfl) (by kernel_rfl) (fun _ _ _ h => h) (Or.inl ⟨by rfl, ?_⟩) (by assumption) ?_
  rotate_left
  · (intro u hSw; (try dsimp only at hSw); go_simp; try (with_reducible rfl))
  try simp only [Act.put, List.setIfInBounds_toArray, List.set_cons_zero, List.set_cons_succ]
  refine wpAnyH_ready (rs := [1]) (by kernel_rfl) (by simp) ?_
  refine AllReadyH.cons (o := { dst := some 13, op := Go.Op.call { callee := Go.Callee.value (Go.Operand.func 20), args := #[Go.Operand.tmp 12], argTypes := #[28] }, type := 31, pos := "law.go:111", after := #[{ on := 0, ground := Go.Ground.data }], guard := none }) rfl (fun K hK => ?_) AllReadyH.nil
  go_simp
  go_at_call 20
  refine (HRo.out _ HB1d.out.one).mono ?_
  rintro e w2 ⟨p2, ⟨c2, M2, rfl, hM2, r2⟩, x2⟩
  have HM2 := Lib.hid hM2
  have HR2 := Lib.hid r2.rowsP
  have HX2 := Lib.hid (HX1d.out.trans x2)
  have hS2 := HS.out _ HX2.out
  clear hM2 r2 x2
  go_wp2_with fail
  refine hK.out _ _ hS2 (fun hHeld => ?_)
  clear hK K
  try simp only [Act.put, List.setIfInBounds_toArray, List.set_cons_zero, List.set_cons_succ]
  refine wpAnyH_ready (rs := [6]) (by kernel_rfl) (by simp) ?_
  refine AllReadyH.cons (o := { dst := some 18, op := Go.Op.call { callee := Go.Callee.value (Go.Operand.func 23), args := #[Go.Operand.tmp 13, Go.Operand.tmp 17], argTypes := #[31, 31] }, type := 4, pos := "law.go:111", after := #[{ on := 1, ground := Go.Ground.data }, { on := 5, ground := Go.Ground.data }, { on := 1, ground := Go.Ground.chain }], guard := none }) rfl (fun K hK => ?_) AllReadyH.nil
  go_simp
  go_at_call 23
  refine (HSa.out _ p2 c2 M2 HX2.out HM2.out HR2.out).mono ?_
  rintro e w3 ⟨rfl, x3⟩
  have HX3 := Lib.hid (HX2.out.trans x3)
  have hS3 := HS.out _ HX3.out
  clear x3
  go_wp2_with fail
  refine hK.out _ _ hS3 (fun hHeld => ?_)
  clear hK K
  try simp only [Act.put, List.setIfInBounds_toArray, List.set_cons_zero, List.set_cons_succ]
  refine wpAnyH_take (i := 7) (oi := { dst := some 19, op := Go.Op.move (Go.Operand.tmp 18), type := 4, pos := "law.go:111", after := #[{ on := 6, ground := Go.Ground.data }, { on := 6, ground := Go.Ground.chain }], guard := none }) (v := ?_) rfl (by kernel_rfl) (by kernel_rfl) (by kernel_rfl) (fun _ _ _ h => h) (Or.inl ⟨by rfl, ?_⟩) (by assumption) ?_
  rotate_left
  · (intro u hSw; (try dsimp only at hSw); go_simp; try (with_reducible rfl))
  try simp only [Act.put, List.setIfInBounds_toArray, List.set_cons_zero, List.set_cons_succ]
  refine wpAnyH_take (i := 8) (oi := { dst := some 20, op := Go.Op.move (Go.Operand.tmp 5), type := 3, pos := "law.go:111", after := #[{ on := 7, ground := Go.Ground.guard }], guard := some (7, true) }) (v := ?_) rfl (by kernel_rfl) (by kernel_rfl) (by kernel_rfl) (fun _ _ _ h => h) (Or.inl ⟨by rfl, ?_⟩) (by assumption) ?_
  rotate_left
  · (intro u hSw; (try dsimp only at hSw); go_simp; try (with_reducible rfl))
  try simp only [Act.put, List.setIfInBounds_toArray, List.set_cons_zero, List.set_cons_succ]
  refine wpAnyH_take (i := 9) (oi := { dst := some 21, op := Go.Op.move (Go.Operand.tmp 1), type := 30, pos := "law.go:111", after := #[{ on := 7, ground := Go.Ground.guard }], guard := some (7, true) }) (v := ?_) rfl (by kernel_rfl) (by kernel_rfl) (by kernel_rfl) (fun _ _ _ h => h) (Or.inl ⟨by rfl, ?_⟩) (by assumption) ?_
  rotate_left
  · (intro u hSw; (try dsimp only at hSw); go_simp; try (with_reducible rfl))
  try simp only [Act.put, List.setIfInBounds_toArray, List.set_cons_zero, List.set_cons_succ]
  refine wpAnyH_take (i := 10) (oi := { dst := some 22, op := Go.Op.nilCheck (Go.Operand.tmp 21), type := 0, pos := "law.go:111", after := #[{ on := 9, ground := Go.Ground.data }, { on := 7, ground := Go.Ground.guard }], guard := some (7, true) }) (v := ?_) rfl (by kernel_rfl) (by kernel_rfl) (by kernel_rfl) (fun _ _ _ h => h) (Or.inl ⟨by rfl, ?_⟩) (by assumption) ?_
  rotate_left
  · (intro u hSw; (try dsimp only at hSw); go_simp; try (with_reducible rfl))
  try simp only [Act.put, List.setIfInBounds_toArray, List.set_cons_zero, List.set_cons_succ]
  refine wpAnyH_take (i := 11) (oi := { dst := some 23, op := Go.Op.fieldAddr 33 (Go.Operand.tmp 22) 1, type := 0, pos := "law.go:111", after := #[{ on := 10, ground := Go.Ground.data }, { on := 7, ground := Go.Ground.guard }], guard := some (7, true) }) (v := ?_) rfl (by kernel_rfl) (by kernel_rfl) (by kernel_rfl) (fun _ _ _ h => h) (Or.inl ⟨by rfl, ?_⟩) (by assumption) ?_
  rotate_left
  · (intro u hSw; (try dsimp only at hSw); go_simp; try (with_reducible rfl))
  try simp only [Act.put, List.setIfInBounds_toArray, List.set_cons_zero, List.set_cons_succ]
  refine wpAnyH_take (i := 12) (oi := { dst := some 24, op := Go.Op.load 31 (Go.Operand.tmp 23), type := 31, pos := "law.go:111", after := #[{ on := 11, ground := Go.Ground.data }, { on := 7, ground := Go.Ground.guard }], guard := some (7, true) }) (v := ?_) rfl (by kernel_rfl) (by kernel_rfl) (by kernel_rfl) (fun _ _ _ h => h) (Or.inl ⟨by rfl, ?_⟩) (by assumption) ?_
  rotate_left
  · (intro u hSw; (try dsimp only at hSw); go_simp; try (with_reducible rfl))
  try simp only [Act.put, List.setIfInBounds_toArray, List.set_cons_zero, List.set_cons_succ]
  refine wpAnyH_take (i := 13) (oi := { dst := some 25, op := Go.Op.call { callee := Go.Callee.builtin Go.Builtin.len, args := #[Go.Operand.tmp 24], argTypes := #[31] }, type := 3, pos := "law.go:111", after := #[{ on := 12, ground := Go.Ground.data }, { on := 7, ground := Go.Ground.guard }], guard := some (7, true) }) (v := ?_) rfl (by kernel_rfl) (by kernel_rfl) (by kernel_rfl) (fun _ _ _ h => h) (Or.inl ⟨by rfl, ?_⟩) (by assumption) ?_
  rotate_left
  · (intro u hSw; (try dsimp only at hSw); go_simp; try (with_reducible rfl))
  try simp only [Act.put, List.setIfInBounds_toArray, List.set_cons_zero, List.set_cons_succ]
  refine wpAnyH_take (i := 14) (oi := { dst := some 26, op := Go.Op.binOp Go.BinOp.eql 3 (Go.Operand.tmp 20) (Go.Operand.tmp 25) 3, type := 4, pos := "law.go:111", after := #[{ on := 8, ground := Go.Ground.data }, { on := 13, ground := Go.Ground.data }, { on := 7, ground := Go.Ground.guard }], guard := some (7, true) }) (v := ?_) rfl (by kernel_rfl) (by kernel_rfl) (by kernel_rfl) (fun _ _ _ h => h) (Or.inl ⟨by rfl, ?_⟩) (by assumption) ?_
  rotate_left
  · (intro u hSw; (try dsimp only at hSw); go_simp; try (with_reducible rfl))
  try simp only [Act.put, List.setIfInBounds_toArray, List.set_cons_zero, List.set_cons_succ]
  refine wpAnyH_take (i := 15) (oi := { dst := some 27, op := Go.Op.pick (Go.Operand.tmp 19) (Go.Operand.tmp 26) (Go.Operand.const (Go.Value.bool false)), type := 4, pos := "law.go:111", after := #[{ on := 7, ground := Go.Ground.data }, { on := 14, ground := Go.Ground.data }], guard := none }) (v := ?_) rfl (by kernel_rfl) (by kernel_rfl) (by kernel_rfl) (fun _ _ _ h => h) (Or.inl ⟨by rfl, ?_⟩) (by assumption) ?_
  rotate_left
  · (intro u hSw; (try dsimp only at hSw); go_simp; try (with_reducible rfl))
  try simp only [Act.put, List.setIfInBounds_toArray, List.set_cons_zero, List.set_cons_succ]
  refine wpAnyH_take (i := 16) (oi := { dst := some 28, op := Go.Op.move (Go.Operand.tmp 27), type := 4, pos := "law.go:111", after := #[{ on := 15, ground := Go.Ground.data }, { on := 7, ground := Go.Ground.chain }], guard := none }) (v := ?_) rfl (by kernel_rfl) (by kernel_rfl) (by kernel_rfl) (fun _ _ _ h => h) (Or.inl ⟨by rfl, ?_⟩) (by assumption) ?_
  rotate_left
  · (intro u hSw; (try dsimp only at hSw); go_simp; try (with_reducible rfl))
  try simp only [Act.put, List.setIfInBounds_toArray, List.set_cons_zero, List.set_cons_succ]
  refine wpAnyH_take (i := 17) (oi := { dst := some 29, op := Go.Op.move (Go.Operand.tmp 6), type := 3, pos := "law.go:111", after := #[{ on := 16, ground := Go.Ground.guard }], guard := some (16, true) }) (v := ?_) rfl (by kernel_rfl) (by kernel_rfl) (by kernel_rfl) (fun _ _ _ h => h) (Or.inl ⟨by rfl, ?_⟩) (by assumption) ?_
  rotate_left
  · (intro u hSw; (try dsimp only at hSw); go_simp; try (with_reducible rfl))
  try simp only [Act.put, List.setIfInBounds_toArray, List.set_cons_zero, List.set_cons_succ]
  refine wpAnyH_take (i := 18) (oi := { dst := some 30, op := Go.Op.move (Go.Operand.tmp 1), type := 30, pos := "law.go:111", after := #[{ on := 16, ground := Go.Ground.guard }], guard := some (16, true) }) (v := ?_) rfl (by kernel_rfl) (by kernel_rfl) (by kernel_rfl) (fun _ _ _ h => h) (Or.inl ⟨by rfl, ?_⟩) (by assumption) ?_
  rotate_left
  · (intro u hSw; (try dsimp only at hSw); go_simp; try (with_reducible rfl))
  try simp only [Act.put, List.setIfInBounds_toArray, List.set_cons_zero, List.set_cons_succ]
  refine wpAnyH_take (i := 19) (oi := { dst := some 31, op := Go.Op.nilCheck (Go.Operand.tmp 30), type := 0, pos := "law.go:111", after := #[{ on := 18, ground := Go.Ground.data }, { on := 16, ground := Go.Ground.guard }], guard := some (16, true) }) (v := ?_) rfl (by kernel_rfl) (by kernel_rfl) (by kernel_rfl) (fun _ _ _ h => h) (Or.inl ⟨by rfl, ?_⟩) (by assumption) ?_
  rotate_left
  · (intro u hSw; (try dsimp only at hSw); go_simp; try (with_reducible rfl))
  try simp only [Act.put, List.setIfInBounds_toArray, List.set_cons_zero, List.set_cons_succ]
  refine wpAnyH_take (i := 20) (oi := { dst := some 32, op := Go.Op.fieldAddr 33 (Go.Operand.tmp 31) 1, type := 0, pos := "law.go:111", after := #[{ on := 19, ground := Go.Ground.data }, { on := 16, ground := Go.Ground.guard }], guard := some (16, true) }) (v := ?_) rfl (by kernel_rfl) (by kernel_rfl) (by kernel_rfl) (fun _ _ _ h => h) (Or.inl ⟨by rfl, ?_⟩) (by assumption) ?_
  rotate_left
  · (intro u hSw; (try dsimp only at hSw); go_simp; try (with_reducible rfl))
  try simp only [Act.put, List.setIfInBounds_toArray, List.set_cons_zero, List.set_cons_succ]
  refine wpAnyH_take (i := 21) (oi := { dst := some 33, op := Go.Op.load 31 (Go.Operand.tmp 32), type := 31, pos := "law.go:111", after := #[{ on := 20, ground := Go.Ground.data }, { on := 16, ground := Go.Ground.guard }], guard := some (16, true) }) (v := ?_) rfl (by kernel_rfl) (by kernel_rfl) (by kernel_rfl) (fun _ _ _ h => h) (Or.inl ⟨by rfl, ?_⟩) (by assumption) ?_
  rotate_left
  · (intro u hSw; (try dsimp only at hSw); go_simp; try (with_reducible rfl))
  try simp only [Act.put, List.setIfInBounds_toArray, List.set_cons_zero, List.set_cons_succ]
  refine wpAnyH_ready (rs := [22]) (by kernel_rfl) (by simp) ?_
  refine AllReadyH.cons (o := { dst := some 34, op := Go.Op.call { callee := Go.Callee.value (Go.Operand.func 32), args := #[Go.Operand.tmp 33], argTypes := #[31] }, type := 3, pos := "law.go:111", after := #[{ on := 21, ground := Go.Ground.data }, { on := 16, ground := Go.Ground.chain }, { on := 16, ground := Go.Ground.guard }], guard := some (16, true) }) rfl (fun K hK => ?_) AllReadyH.nil
  go_simp
  go_at_call 32
  refine (HBy.out _ HX3.out).mono ?_
  rintro e w4 ⟨rfl, x4⟩
  have HX4 := Lib.hid (HX3.out.trans x4)
  have hS4 := HS.out _ HX4.out
  clear x4
  go_wp2_with fail
  refine hK.out _ _ hS4 (fun hHeld => ?_)
  clear hK K
  try simp only [Act.put, List.setIfInBounds_toArray, List.set_cons_zero, List.set_cons_succ]
  refine wpAnyH_take (i := 23) (oi := { dst := some 35, op := Go.Op.binOp Go.BinOp.eql 3 (Go.Operand.tmp 29) (Go.Operand.tmp 34) 3, type := 4, pos := "law.go:111", after := #[{ on := 17, ground := Go.Ground.data }, { on := 22, ground := Go.Ground.data }, { on := 16, ground := Go.Ground.guard }], guard := some (16, true) }) (v := ?_) rfl (by kernel_rfl) (by kernel_rfl) (by kernel_rfl) (fun _ _ _ h => h) (Or.inl ⟨by rfl, ?_⟩) (by assumption) ?_
  rotate_left
  · (intro u hSw; (try dsimp only at hSw); go_simp; try (with_reducible rfl))
  try simp only [Act.put, List.setIfInBounds_toArray, List.set_cons_zero, List.set_cons_succ]
  refine wpAnyH_take (i := 24) (oi := { dst := some 36, op := Go.Op.pick (Go.Operand.tmp 28) (Go.Operand.tmp 35) (Go.Operand.const (Go.Value.bool false)), type := 4, pos := "law.go:111", after := #[{ on := 16, ground := Go.Ground.data }, { on := 23, ground := Go.Ground.data }], guard := none }) (v := ?_) rfl (by kernel_rfl) (by kernel_rfl) (by kernel_rfl) (fun _ _ _ h => h) (Or.inl ⟨by rfl, ?_⟩) (by assumption) ?_
  rotate_left
  · (intro u hSw; (try dsimp only at hSw); go_simp; try (with_reducible rfl))
  try simp only [Act.put, List.setIfInBounds_toArray, List.set_cons_zero, List.set_cons_succ]
  refine wpAnyH_take (i := 25) (oi := { dst := some 4, op := Go.Op.assign (Go.Operand.tmp 36), type := 4, pos := "law.go:111", after := #[{ on := 24, ground := Go.Ground.data }, { on := 22, ground := Go.Ground.chain }, { on := 0, ground := Go.Ground.phase }, { on := 1, ground := Go.Ground.phase }, { on := 2, ground := Go.Ground.phase }, { on := 3, ground := Go.Ground.phase }, { on := 4, ground := Go.Ground.phase }, { on := 5, ground := Go.Ground.phase }, { on := 6, ground := Go.Ground.phase }, { on := 7, ground := Go.Ground.phase }, { on := 8, ground := Go.Ground.phase }, { on := 9, ground := Go.Ground.phase }, { on := 10, ground := Go.Ground.phase }, { on := 11, ground := Go.Ground.phase }, { on := 12, ground := Go.Ground.phase }, { on := 13, ground := Go.Ground.phase }, { on := 14, ground := Go.Ground.phase }, { on := 15, ground := Go.Ground.phase }, { on := 16, ground := Go.Ground.phase }, { on := 17, ground := Go.Ground.phase }, { on := 18, ground := Go.Ground.phase }, { on := 19, ground := Go.Ground.phase }, { on := 20, ground := Go.Ground.phase }, { on := 21, ground := Go.Ground.phase }, { on := 22, ground := Go.Ground.phase }, { on := 23, ground := Go.Ground.phase }, { on := 24, ground := Go.Ground.phase }], guard := none }) (v := ?_) rfl (by kernel_rfl) (by kernel_rfl) (by kernel_rfl) (fun _ _ _ h => h) (Or.inl ⟨by rfl, ?_⟩) (by assumption) ?_
  rotate_left
  · (intro u hSw; (try dsimp only at hSw); go_simp; try (with_reducible rfl))
  try simp only [Act.put, List.setIfInBounds_toArray, List.set_cons_zero, List.set_cons_succ]
  refine wpAnyH_done (by kernel_rfl) ?_ _
  go_wp2
  go_ret
  exact ⟨rfl, HX4.out⟩
end Go.Proofs.YtkjcpjalldbahaaGreatDoor
end
