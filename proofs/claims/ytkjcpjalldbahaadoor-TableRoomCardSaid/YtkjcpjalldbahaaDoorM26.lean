/- Contracts: what a table tells of itself, by the program. -/
import Derived.Test.YtkjcpjalldbahaaDoorM25
import Derived.Test.YtkjcpjalldbahaaDoorM12
section
namespace Go.Proofs.YtkjcpjalldbahaaDoor
open Go.RowKit Go.ChangeMaps Go.MapKept

theorem tsize_no (w : World) :
    Calls Tryd.prog 14 #[.pointer none] w fun e w' => e = .returned (.tuple #[.int .i64 0, .int .i64 0]) ∧ w = w' := by
  go_enter Tryd.func14, Tryd.ntmps14
  go_wp2_with (go_at_call 20; refine (tthere_no _).mono ?_; rintro e w1 ⟨rfl, rfl⟩)
  go_ret2
  exact ⟨rfl, rfl⟩
theorem tSize_any (w : World) (lo t b : Nat) (qp qb : Int) (R : List RowP) (h : IsT w lo t b qp qb R) :
    Calls Tryd.prog 14 #[.pointer (some ⟨t, 0, none⟩)] w fun e w' => e = .returned (.tuple #[.int .i64 (R.length : Int), .int .i64 (bytesR R : Int)]) ∧ Ext w w' := by
  have hc := h.cell
  have h3 := h.blk.cell 3 _ rfl
  have hl := fun ty => (h.map.ext ((Ext.refl w).drew)).len h.good.up ty
  have hc' : w.drew.cell? ⟨t, 2, none⟩ = some (.map (some b)) := hc
  have h3' : w.drew.cell? ⟨t, 3, none⟩ = _ := h3
  generalize R.length = n at *
  generalize bytesR R = y at *
  clear h
  go_enter Tryd.func14, Tryd.ntmps14
  go_wp2_with (go_at_call 20; refine (tthere_yes _ t b hc).mono ?_; rintro e w1 ⟨rfl, rfl⟩)
  go_region
  all_goals
    go_wp2
    go_ret2
    exact ⟨rfl, (Ext.refl _).drew⟩
theorem run_maxI (ts : Array TypeId) (t : TypeId) (a b n : Int) (hn : n = max a b) (u : World) : (Builtin.max_ ts t #[.int .i64 a, .int .i64 b]).run Tryd.prog u = .ok (.int .i64 n) u := by
  simp [Builtin.max_, Builtin.max2]
  omega
theorem over_le (qp qb : Int) (R D : List RowP) : (!overR qp qb R D) = (decide ((D.length : Int) ≤ max qp R.length) && decide ((bytesR D : Int) ≤ max qb (bytesR R))) := by
  unfold overR
  rw [Bool.eq_iff_iff]
  simp
  omega
set_option maxRecDepth 100000 in
set_option maxHeartbeats 4000000 in
theorem fits_any (w : World) (lo t b : Nat) (qp qb : Int) (R : List RowP) (h : IsT w lo t b qp qb R) (hl : R.length ≤ 900000) (mb lo2 : Nat) (X D : List RowP) (hX : IsM w lo2 mb X) (hXg : GoodR X) (hXl : X.length ≤ 10000) (hD : GoodR D) (hov : Ov R X D) :
    Calls Tryd.prog 31 #[.pointer (some ⟨t, 0, none⟩), .map (some mb)] w fun e w' => e = .returned (.bool (!overR qp qb R D)) ∧ Ext w w' := by
  have HSz := Lib.hid (tSize_any w lo t b qp qb R h)
  have HT := Lib.hid h
  obtain ⟨M, hM⟩ := hX
  have HM := Lib.hid hM
  have HXG := Lib.hid hXg
  have HXL := Lib.hid hXl
  have HRL := Lib.hid hl
  have HDG := Lib.hid hD
  have HOV := Lib.hid hov
  have HOL := Lib.hid (over_le qp qb R D)
  have HTL := Lib.hid (fun u (x : Ext w u) ty => (h.map.ext x).len h.good.up ty)
  have HTB := Lib.hid h.blk
  obtain ⟨rl, hrl⟩ : ∃ rl, R.length = rl := ⟨_, rfl⟩
  obtain ⟨rb, hrb⟩ : ∃ rb, bytesR R = rb := ⟨_, rfl⟩
  rw [hrl, hrb] at HSz HOL
  rw [hrl] at HTL HRL
  rw [hrb] at HTB
  have HRl := Lib.hid hrl; have HRb := Lib.hid hrb
  clear h hM hXg hXl hl hD hov hrl hrb
  go_enter Tryd.func31, Tryd.ntmps31
  go_wp2_with (first
    | (go_at_call 14; refine HSz.out.mono ?_; rintro e w1 ⟨rfl, x1⟩; have HXs := Lib.hid x1; clear x1)
    | (at_range; refine wpList_range_L _ rfl _ 61 rfl 9 54 Tryd.underlying61 mb (M.map kvE) rfl (HM.out.ext HXs.out).map ?_; intro w0 hrg hx0 hs0))
  have HRG := Lib.hid hrg; have HX0 := Lib.hid (HXs.out.trans hx0); have HS0 := Lib.hid hs0
  clear hrg hx0 hs0
  go_frame
  go_loopw [5, 6] (fun pv bv wr => ∃ (left : List (Value × Value)) (done : List Ent) (np nb : Nat), pv = .int .i64 (np : Int) ∧ bv = .int .i64 (nb : Int) ∧ Hid (np = (layR R (done.map Ent.row)).length) ∧ Hid (nb = bytesR (layR R (done.map Ent.row))) ∧ Hid (Gone M left done) ∧ Hid (RangeL wr Tryd.prog 9 mb w1.heap.size (M.map kvE) left) ∧ Hid (Ext w wr)) (fun _ _ wr => wr.rangeLeft mb w1.heap.size)
  case atStart => exact ⟨M.map kvE, [], rl, rb, rfl, rfl, Lib.hid HRl.out.symm, Lib.hid HRb.out.symm, Lib.hid (Gone.start HM.out.paths), HRG, HX0⟩
  case round =>
    obtain ⟨left, done, np, nb, rfl, rfl, HNP, HNB, HGo, HR, HE⟩ := hrel
    go_wp2_with (at_next; refine wpList_next_L _ rfl _ rfl 9 (fun x : { e : Ent // e ∈ M } => kvE x.1) mb w1.heap.size (M.map kvE) left HGo.out.inv rfl HR.out ?_ ?_)
    · intro h0
      have hD : layR R (done.map Ent.row) = D := layR_ov HOV.out HT.out.good.up HDG.out.up HGo.out.paths (fun x => by
        have hst := HGo.out
        rw [h0] at hst
        rw [List.mem_map, HM.out.rows x]
        constructor
        · rintro ⟨e, he, q⟩; exact ⟨e, (hst.stop e).1 he, q⟩
        · rintro ⟨e, he, q⟩; exact ⟨e, (hst.stop e).2 he, q⟩)
      have e1 := HNP.out
      have e2 := HNB.out
      rw [hD] at e1 e2
      have HF := HOL
      rw [← e1, ← e2] at HF
      have T1 := Lib.hid (HTB.out.ext HE.out)
      have c0 := T1.out.cell 0 _ rfl
      have c1 := T1.out.cell 1 _ rfl
      have c2 := T1.out.cell 2 _ rfl
      have c3 := T1.out.cell 3 _ rfl
      have hlen := HTL.out wr HE.out
      have hlen' := fun n => HTL.out (wr.drewN n) (HE.out.drewN n)
      obtain ⟨mA, hmA⟩ : ∃ mA, max qp (rl : Int) = mA := ⟨_, rfl⟩
      obtain ⟨mB, hmB⟩ : ∃ mB, max qb (rb : Int) = mB := ⟨_, rfl⟩
      have hm1 := fun ts t u => run_maxI ts t qp (rl : Int) mA hmA.symm u
      have hm2 := fun ts t u => run_maxI ts t qb (rb : Int) mB hmB.symm u
      rw [hmA, hmB] at HF
      clear h0 hD e1 e2 hmA hmB
      by_cases hA : (np : Int) ≤ mA
      · by_cases hB : (nb : Int) ≤ mB
        all_goals
          go_wp2
          go_quiet (fail)
          go_wp2
          go_ret
          exact ⟨by rw [HF.out]; simp [hA, hB], HE.out.drewN _⟩
      · have hA' : decide ((np : Int) ≤ mA) = false := decide_eq_false hA
        go_wp2
        go_quiet (fail)
        go_wp2
        go_ret
        exact ⟨by rw [HF.out, hA']; rfl, HE.out.drewN _⟩
    · intro x hxM left' w2 hq hrg1 hg1 hs1 hen
      obtain ⟨xp, xm, xL, xa, xc⟩ := x
      obtain ⟨G1, hfree⟩ := HGo.out.step hxM hq
      have HG1 := Lib.hid G1; have HR1 := Lib.hid hrg1; have HQL := Lib.hid hq.length_eq
      have HE1 := Lib.hid (HE.out.grown hg1 (fun k hk => by cases hk; exact HXs.out.size))
      have hfr : ∀ y ∈ done.map Ent.row, y.p ≠ xp := fun y hy => by
        obtain ⟨z, hz, rfl⟩ := List.mem_map.1 hy
        exact hfree z hz
      have hlook := layR_look HT.out.good.up HGo.out.paths hfr
      have hup := layR_rises (done.map Ent.row) HT.out.good.up
      have hby := bytes_with hup ⟨xp, xm, xL⟩
      have hln := len_with hup ⟨xp, xm, xL⟩
      rw [← layR_snoc] at hby hln
      have hxr : (⟨xp, xm, xL⟩ : RowP) ∈ X := (HM.out.rows _).2 ⟨_, hxM, rfl⟩
      have hxok := HXG.out.each _ hxr
      have hent := HM.out.ents _ hxM
      have hold : oldR (layR R (done.map Ent.row)) xp = oldR R xp := by unfold oldR; rw [hlook]
      have hhas : hasR (layR R (done.map Ent.row)) xp = hasR R xp := by unfold hasR; rw [hlook]
      dsimp only at hby hln
      rw [hold] at hby
      rw [hhas] at hln
      have hps := may_size hxok.path
      have hsz := mayL_size hxok.cell
      have hxl := hxok.len
      have hszr := hxok.size
      dsimp only at hps hsz hxl
      have HS := Lib.hid (fun u (x : Ext w u) => tsize_any u xp (by omega) xm xa xc xL (hent.vers.vers.ext x) (by omega) (by omega))
      have HH := Lib.hid (fun u (x : Ext w u) => thas_any u lo t b qp qb R (HT.out.ext x) xp (by omega))
      have hgl := GoodR.bytes (layR_good (done.map Ent.row) HT.out.good (fun r hr => by
        obtain ⟨z, hz, rfl⟩ := List.mem_map.1 hr
        exact HXG.out.each _ ((HM.out.rows _).2 ⟨z, HGo.out.sub z hz, rfl⟩))).each
      have hll := layR_len (done.map Ent.row) HT.out.good.up
      have hdl : done.length ≤ X.length := by
        have h1 := HGo.out.perm.length_eq
        have h2 := (HM.out.perm HXG.out.up).length_eq
        simp only [List.length_append, List.length_map] at h1 h2
        omega
      have hXL := HXL.out
      have hRL := HRL.out
      rw [List.length_map, HRl.out] at hll
      rw [← HNB.out] at hby hgl
      rw [← HNP.out] at hln hll hgl
      have hmap : (done.map Ent.row) ++ [(⟨xp, xm, xL⟩ : RowP)] = (done ++ [Ent.mk xp xm xL xa xc]).map Ent.row := by simp [Ent.row]
      rw [hmap] at hby hln
      obtain ⟨z, hz⟩ : ∃ z, szR ⟨xp, xm, xL⟩ = z := ⟨_, rfl⟩
      obtain ⟨nb', hnb'⟩ : ∃ nb', bytesR (layR R ((done ++ [Ent.mk xp xm xL xa xc]).map Ent.row)) = nb' := ⟨_, rfl⟩
      obtain ⟨np', hnp'⟩ : ∃ np', (layR R ((done ++ [Ent.mk xp xm xL xa xc]).map Ent.row)).length = np' := ⟨_, rfl⟩
      rw [hz] at HS hby hszr
      rw [hnb'] at hby
      rw [hnp'] at hln
      have HNB' := Lib.hid hnb'.symm; have HNP' := Lib.hid hnp'.symm
      have hw1 : IntKind.i64.wrap ((nb : Int) + (z : Int)) = (nb : Int) + (z : Int) := IntWalk.i64_in _ ⟨by omega, by omega⟩
      cases hb : hasR R xp with
      | false =>
        have hn : lookR R xp = none := by
          unfold hasR at hb
          cases e : lookR R xp with
          | none => rfl
          | some r => rw [e] at hb; cases hb
        rw [show oldR R xp = 0 by simp [oldR, hn]] at hby
        rw [hb] at HH hln
        simp only [Bool.false_eq_true, if_false] at hln
        have hw2 : IntKind.i64.wrap ((np : Int) + 1) = (np' : Int) := by rw [IntWalk.i64_in _ ⟨by omega, by omega⟩]; omega
        replace hw1 : IntKind.i64.wrap ((nb : Int) + (z : Int)) = (nb' : Int) := by omega
        unfold kvE at hen ⊢
        dsimp only at hen ⊢
        generalize xL.length = n at *
        clear hq G1 hrg1 hg1 hs1 hfree hfr hlook hup hby hln hxr hxok hent hold hhas hps hsz hxl hszr hgl hll hdl hXL hRL hmap hz hnb' hnp' hb hn hxM
        go_wp2_with (first | (go_at_call 34; refine (HS.out _ (HE1.out.alloc _)).mono ?_; rintro e w3 ⟨rfl, x3⟩; have HX3 := Lib.hid ((HE1.out.alloc _).trans x3); have HR3 := Lib.hid ((HR1.out.alloc _).ext x3); clear x3) | (go_at_call 26; refine (HH.out _ HX3.out).mono ?_; rintro e w4 ⟨rfl, x4⟩; have HX4 := Lib.hid (HX3.out.trans x4); have HR4 := Lib.hid (HR3.out.ext x4); clear x4))
        go_roundw
        case rel => exact ⟨left', done ++ [Ent.mk xp xm xL xa xc], np', nb', rfl, rfl, HNP', HNB', HG1, HR4, HX4⟩
        case measure =>
          have e := HQL.out
          rw [HR4.out.left_eq, HR.out.left_eq, e, List.length_cons]
          omega
      | true =>
        obtain ⟨r, hr⟩ : ∃ r, lookR R xp = some r := by
          unfold hasR at hb
          cases e : lookR R xp with
          | none => rw [e] at hb; cases hb
          | some r => exact ⟨r, rfl⟩
        obtain ⟨hr1, hr2⟩ := lookR_mem hr
        have hrok := HT.out.good.each r hr1
        obtain ⟨ra, rc, hv, _, hrun⟩ := HT.out.map.look xp (by omega)
        rw [cellR_some hr] at hv hrun
        have hrs := mayL_size hrok.cell
        have hrn := hrok.len
        have hrz := hrok.size
        have HS2 := Lib.hid (fun u (x : Ext w u) => tsize_any u xp (by omega) r.m ra rc r.L (hv.ext x) (by omega) (by omega))
        rw [show szR ⟨xp, r.m, r.L⟩ = szR r by unfold szR; rw [hr2]] at HS2
        rw [show oldR R xp = szR r by simp [oldR, hr]] at hby
        rw [hb] at HH hln
        simp only [if_true] at hln
        obtain ⟨z2, hz2⟩ : ∃ z2, szR r = z2 := ⟨_, rfl⟩
        rw [hz2] at HS2 hby hrz
        have HNP2 : Hid (np = (layR R ((done ++ [Ent.mk xp xm xL xa xc]).map Ent.row)).length) := Lib.hid (by rw [← HNP'.out]; omega)
        have hw2 : IntKind.i64.wrap (((nb : Int) + (z : Int)) - (z2 : Int)) = (nb' : Int) := by rw [IntWalk.i64_in _ ⟨by omega, by omega⟩]; omega
        have HRun := Lib.hid hrun
        have HTC := Lib.hid (fun u (x : Ext w u) => (HT.out.ext x).cell)
        unfold kvE at hen ⊢
        dsimp only at hen ⊢
        generalize xL.length = n at *
        generalize r.L.length = n2 at *
        generalize r.m = m2 at *
        clear hq G1 hrg1 hg1 hs1 hfree hfr hlook hup hby hln hxr hxok hent hold hhas hps hsz hxl hszr hgl hll hdl hXL hRL hmap hz hnb' hnp' hb hxM hr hr1 hr2 hrok hv hrun hrs hrn hrz hz2
        go_wp2_with (first | (go_at_call 34; with_reducible refine (HS.out _ (HE1.out.alloc _)).mono ?_; rintro e w3 ⟨rfl, x3⟩; have HX3 := Lib.hid ((HE1.out.alloc _).trans x3); have HR3 := Lib.hid ((HR1.out.alloc _).ext x3); clear x3) | (go_at_call 26; refine (HH.out _ HX3.out).mono ?_; rintro e w4 ⟨rfl, x4⟩; have HX4 := Lib.hid (HX3.out.trans x4); have HR4 := Lib.hid (HR3.out.ext x4); have hc4 := HTC.out _ HX4.out; have hl4 := HRun.out _ HX4.out false; simp only [Bool.false_eq_true, if_false] at hl4; clear x4) | (go_at_call 34; refine (HS2.out _ HX4.out).mono ?_; rintro e w5 ⟨rfl, x5⟩; have HX5 := Lib.hid (HX4.out.trans x5); have HR5 := Lib.hid (HR4.out.ext x5); clear x5))
        go_roundw
        case rel => exact ⟨left', done ++ [Ent.mk xp xm xL xa xc], np, nb', rfl, rfl, HNP2, HNB', HG1, HR5, HX5⟩
        case measure =>
          have e := HQL.out
          rw [HR5.out.left_eq, HR.out.left_eq, e, List.length_cons]
          omega
end Go.Proofs.YtkjcpjalldbahaaDoor
end
