/- Contracts: what a table tells of itself, by the program. A slice of one-cell elements of a type, in a block of its own, beside others. -/
import Derived.Test.YtkjcpjalldbahaaGreatDoorM19
import Derived.Test.YtkjcpjalldbahaaGreatDoorM05
import Derived.Test.YtkjcpjalldbahaaGreatDoorM14
section
namespace Go.Proofs.YtkjcpjalldbahaaGreatDoor
open Go.RowKit Go.ChangeMaps Go.MapKept

theorem tsize_no (w : World) :
    Calls Tryz.prog 28 #[.pointer none] w fun e w' => e = .returned (.tuple #[.int .i64 0, .int .i64 0]) ∧ w = w' := by
  go_enter Tryz.func28, Tryz.ntmps28
  go_wp2_with (go_at_call 33; refine (tthere_no _).mono ?_; rintro e w1 ⟨rfl, rfl⟩)
  go_ret2
  exact ⟨rfl, rfl⟩
theorem tSize_any (w : World) (lo t b : Nat) (qp qb : Int) (R : List RowP) (h : IsT w lo t b qp qb R) :
    Calls Tryz.prog 28 #[.pointer (some ⟨t, 0, none⟩)] w fun e w' => e = .returned (.tuple #[.int .i64 (R.length : Int), .int .i64 (bytesR R : Int)]) ∧ Ext w w' := by
  have hc := h.cell
  have h3 := h.blk.cell 3 _ rfl
  have hl := fun ty => (h.map.ext ((Ext.refl w).drew)).len h.good.up ty
  have hc' : w.drew.cell? ⟨t, 2, none⟩ = some (.map (some b)) := hc
  have h3' : w.drew.cell? ⟨t, 3, none⟩ = _ := h3
  generalize R.length = n at *
  generalize bytesR R = y at *
  clear h
  go_enter Tryz.func28, Tryz.ntmps28
  go_wp2_with (go_at_call 33; refine (tthere_yes _ t b hc).mono ?_; rintro e w1 ⟨rfl, rfl⟩)
  go_region
  all_goals
    go_wp2
    go_ret2
    exact ⟨rfl, (Ext.refl _).drew⟩
theorem run_maxI (ts : Array TypeId) (t : TypeId) (a b n : Int) (hn : n = max a b) (u : World) : (Builtin.max_ ts t #[.int .i64 a, .int .i64 b]).run Tryz.prog u = .ok (.int .i64 n) u := by
  simp [Builtin.max_, Builtin.max2]
  omega
theorem over_le (qp qb : Int) (R D : List RowP) : (!overR qp qb R D) = (decide ((D.length : Int) ≤ max qp R.length) && decide ((bytesR D : Int) ≤ max qb (bytesR R))) := by
  unfold overR
  rw [Bool.eq_iff_iff]
  simp
  omega
set_option maxRecDepth 100000 in
set_option maxHeartbeats 4000000 in
theorem fits_any (w : World) (lo t b : Nat) (qp qb : Int) (R : List RowP) (h : IsT w lo t b qp qb R) (hl : R.length ≤ 900000) (mb lo2 : Nat) (X D : List RowP) (hX : IsM w lo2 mb X) (hXg : GoodR X) (hXl : X.length ≤ 10000) (hD : GoodR D) (hov : Ov R X D) :
    Calls Tryz.prog 76 #[.pointer (some ⟨t, 0, none⟩), .map (some mb)] w fun e w' => e = .returned (.bool (!overR qp qb R D)) ∧ Ext w w' := by
  have HSz := Lib.hid (tSize_any w lo t b qp qb R h)
  have HT := Lib.hid h
  obtain ⟨M, hM⟩ := hX
  have HM := Lib.hid hM
  have HXG := Lib.hid hXg
  have HXL := Lib.hid hXl
  have HRL := Lib.hid hl
  have HDG := Lib.hid hD
  have HOV := Lib.hid hov
  have HOL := Lib.hid (over_le qp qb R D)
  have HTL := Lib.hid (fun u (x : Ext w u) ty => (h.map.ext x).len h.good.up ty)
  have HTB := Lib.hid h.blk
  obtain ⟨rl, hrl⟩ : ∃ rl, R.length = rl := ⟨_, rfl⟩
  obtain ⟨rb, hrb⟩ : ∃ rb, bytesR R = rb := ⟨_, rfl⟩
  rw [hrl, hrb] at HSz HOL
  rw [hrl] at HTL HRL
  rw [hrb] at HTB
  have HRl := Lib.hid hrl; have HRb := Lib.hid hrb
  clear h hM hXg hXl hl hD hov hrl hrb
  go_enter Tryz.func76, Tryz.ntmps76
  go_wp2_with (first
    | (go_at_call 28; refine HSz.out.mono ?_; rintro e w1 ⟨rfl, x1⟩; have HXs := Lib.hid x1; clear x1)
    | (at_range; refine wpList_range_L _ rfl _ 71 rfl 9 55 Tryz.underlying71 mb (M.map kvE) rfl (HM.out.ext HXs.out).map ?_; intro w0 hrg hx0 hs0))
  have HRG := Lib.hid hrg; have HX0 := Lib.hid (HXs.out.trans hx0); have HS0 := Lib.hid hs0
  clear hrg hx0 hs0
  go_frame
  go_loopw [5, 6] (fun pv bv wr => ∃ (left : List (Value × Value)) (done : List Ent) (np nb : Nat), pv = .int .i64 (np : Int) ∧ bv = .int .i64 (nb : Int) ∧ Hid (np = (layR R (done.map Ent.row)).length) ∧ Hid (nb = bytesR (layR R (done.map Ent.row))) ∧ Hid (Gone M left done) ∧ Hid (RangeL wr Tryz.prog 9 mb w1.heap.size (M.map kvE) left) ∧ Hid (Ext w wr)) (fun _ _ wr => wr.rangeLeft mb w1.heap.size)
  case atStart => exact ⟨M.map kvE, [], rl, rb, rfl, rfl, Lib.hid HRl.out.symm, Lib.hid HRb.out.symm, Lib.hid (Gone.start HM.out.paths), HRG, HX0⟩
  case round =>
    obtain ⟨left, done, np, nb, rfl, rfl, HNP, HNB, HGo, HR, HE⟩ := hrel
    go_wp2_with (at_next; refine wpList_next_L _ rfl _ rfl 9 (fun x : { e : Ent // e ∈ M } => kvE x.1) mb w1.heap.size (M.map kvE) left HGo.out.inv rfl HR.out ?_ ?_)
    · intro h0
      have hD : layR R (done.map Ent.row) = D := layR_ov HOV.out HT.out.good.up HDG.out.up HGo.out.paths (fun x => by
        have hst := HGo.out
        rw [h0] at hst
        rw [List.mem_map, HM.out.rows x]
        constructor
        · rintro ⟨e, he, q⟩; exact ⟨e, (hst.stop e).1 he, q⟩
        · rintro ⟨e, he, q⟩; exact ⟨e, (hst.stop e).2 he, q⟩)
      have e1 := HNP.out
      have e2 := HNB.out
      rw [hD] at e1 e2
      have HF := HOL
      rw [← e1, ← e2] at HF
      have T1 := Lib.hid (HTB.out.ext HE.out)
      have c0 := T1.out.cell 0 _ rfl
      have c1 := T1.out.cell 1 _ rfl
      have c2 := T1.out.cell 2 _ rfl
      have c3 := T1.out.cell 3 _ rfl
      have hlen := HTL.out wr HE.out
      have hlen' := fun n => HTL.out (wr.drewN n) (HE.out.drewN n)
      obtain ⟨mA, hmA⟩ : ∃ mA, max qp (rl : Int) = mA := ⟨_, rfl⟩
      obtain ⟨mB, hmB⟩ : ∃ mB, max qb (rb : Int) = mB := ⟨_, rfl⟩
      have hm1 := fun ts t u => run_maxI ts t qp (rl : Int) mA hmA.symm u
      have hm2 := fun ts t u => run_maxI ts t qb (rb : Int) mB hmB.symm u
      rw [hmA, hmB] at HF
      clear h0 hD e1 e2 hmA hmB
      by_cases hA : (np : Int) ≤ mA
      · by_cases hB : (nb : Int) ≤ mB
        all_goals
          go_wp2
          go_quiet (fail)
          go_wp2
          go_ret
          exact ⟨by rw [HF.out]; simp [hA, hB], HE.out.drewN _⟩
      · have hA' : decide ((np : Int) ≤ mA) = false := decide_eq_false hA
        go_wp2
        go_quiet (fail)
        go_wp2
        go_ret
        exact ⟨by rw [HF.out, hA']; rfl, HE.out.drewN _⟩
    · intro x hxM left' w2 hq hrg1 hg1 hs1 hen
      obtain ⟨xp, xm, xL, xa, xc⟩ := x
      obtain ⟨G1, hfree⟩ := HGo.out.step hxM hq
      have HG1 := Lib.hid G1; have HR1 := Lib.hid hrg1; have HQL := Lib.hid hq.length_eq
      have HE1 := Lib.hid (HE.out.grown hg1 (fun k hk => by cases hk; exact HXs.out.size))
      have hfr : ∀ y ∈ done.map Ent.row, y.p ≠ xp := fun y hy => by
        obtain ⟨z, hz, rfl⟩ := List.mem_map.1 hy
        exact hfree z hz
      have hlook := layR_look HT.out.good.up HGo.out.paths hfr
      have hup := layR_rises (done.map Ent.row) HT.out.good.up
      have hby := bytes_with hup ⟨xp, xm, xL⟩
      have hln := len_with hup ⟨xp, xm, xL⟩
      rw [← layR_snoc] at hby hln
      have hxr : (⟨xp, xm, xL⟩ : RowP) ∈ X := (HM.out.rows _).2 ⟨_, hxM, rfl⟩
      have hxok := HXG.out.each _ hxr
      have hent := HM.out.ents _ hxM
      have hold : oldR (layR R (done.map Ent.row)) xp = oldR R xp := by unfold oldR; rw [hlook]
      have hhas : hasR (layR R (done.map Ent.row)) xp = hasR R xp := by unfold hasR; rw [hlook]
      dsimp only at hby hln
      rw [hold] at hby
      rw [hhas] at hln
      have hps := may_size hxok.path
      have hsz := mayL_size hxok.cell
      have hxl := hxok.len
      have hszr := hxok.size
      dsimp only at hps hsz hxl
      have HS := Lib.hid (fun u (x : Ext w u) => tsize_any u xp (by omega) xm xa xc xL (hent.vers.vers.ext x) (by omega) (by omega))
      have HH := Lib.hid (fun u (x : Ext w u) => thas_any u lo t b qp qb R (HT.out.ext x) xp (by omega))
      have hgl := GoodR.bytes (layR_good (done.map Ent.row) HT.out.good (fun r hr => by
        obtain ⟨z, hz, rfl⟩ := List.mem_map.1 hr
        exact HXG.out.each _ ((HM.out.rows _).2 ⟨z, HGo.out.sub z hz, rfl⟩))).each
      have hll := layR_len (done.map Ent.row) HT.out.good.up
      have hdl : done.length ≤ X.length := by
        have h1 := HGo.out.perm.length_eq
        have h2 := (HM.out.perm HXG.out.up).length_eq
        simp only [List.length_append, List.length_map] at h1 h2
        omega
      have hXL := HXL.out
      have hRL := HRL.out
      rw [List.length_map, HRl.out] at hll
      rw [← HNB.out] at hby hgl
      rw [← HNP.out] at hln hll hgl
      have hmap : (done.map Ent.row) ++ [(⟨xp, xm, xL⟩ : RowP)] = (done ++ [Ent.mk xp xm xL xa xc]).map Ent.row := by simp [Ent.row]
      rw [hmap] at hby hln
      obtain ⟨z, hz⟩ : ∃ z, szR ⟨xp, xm, xL⟩ = z := ⟨_, rfl⟩
      obtain ⟨nb', hnb'⟩ : ∃ nb', bytesR (layR R ((done ++ [Ent.mk xp xm xL xa xc]).map Ent.row)) = nb' := ⟨_, rfl⟩
      obtain ⟨np', hnp'⟩ : ∃ np', (layR R ((done ++ [Ent.mk xp xm xL xa xc]).map Ent.row)).length = np' := ⟨_, rfl⟩
      rw [hz] at HS hby hszr
      rw [hnb'] at hby
      rw [hnp'] at hln
      have HNB' := Lib.hid hnb'.symm; have HNP' := Lib.hid hnp'.symm
      have hw1 : IntKind.i64.wrap ((nb : Int) + (z : Int)) = (nb : Int) + (z : Int) := IntWalk.i64_in _ ⟨by omega, by omega⟩
      cases hb : hasR R xp with
      | false =>
        have hn : lookR R xp = none := by
          unfold hasR at hb
          cases e : lookR R xp with
          | none => rfl
          | some r => rw [e] at hb; cases hb
        rw [show oldR R xp = 0 by simp [oldR, hn]] at hby
        rw [hb] at HH hln
        simp only [Bool.false_eq_true, if_false] at hln
        have hw2 : IntKind.i64.wrap ((np : Int) + 1) = (np' : Int) := by rw [IntWalk.i64_in _ ⟨by omega, by omega⟩]; omega
        replace hw1 : IntKind.i64.wrap ((nb : Int) + (z : Int)) = (nb' : Int) := by omega
        unfold kvE at hen ⊢
        dsimp only at hen ⊢
        generalize xL.length = n at *
        clear hq G1 hrg1 hg1 hs1 hfree hfr hlook hup hby hln hxr hxok hent hold hhas hps hsz hxl hszr hgl hll hdl hXL hRL hmap hz hnb' hnp' hb hn hxM
        go_wp2_with (first | (go_at_call 74; refine (HS.out _ (HE1.out.alloc _)).mono ?_; rintro e w3 ⟨rfl, x3⟩; have HX3 := Lib.hid ((HE1.out.alloc _).trans x3); have HR3 := Lib.hid ((HR1.out.alloc _).ext x3); clear x3) | (go_at_call 48; refine (HH.out _ HX3.out).mono ?_; rintro e w4 ⟨rfl, x4⟩; have HX4 := Lib.hid (HX3.out.trans x4); have HR4 := Lib.hid (HR3.out.ext x4); clear x4))
        go_roundw
        case rel => exact ⟨left', done ++ [Ent.mk xp xm xL xa xc], np', nb', rfl, rfl, HNP', HNB', HG1, HR4, HX4⟩
        case measure =>
          have e := HQL.out
          rw [HR4.out.left_eq, HR.out.left_eq, e, List.length_cons]
          omega
      | true =>
        obtain ⟨r, hr⟩ : ∃ r, lookR R xp = some r := by
          unfold hasR at hb
          cases e : lookR R xp with
          | none => rw [e] at hb; cases hb
          | some r => exact ⟨r, rfl⟩
        obtain ⟨hr1, hr2⟩ := lookR_mem hr
        have hrok := HT.out.good.each r hr1
        obtain ⟨ra, rc, hv, _, hrun⟩ := HT.out.map.look xp (by omega)
        rw [cellR_some hr] at hv hrun
        have hrs := mayL_size hrok.cell
        have hrn := hrok.len
        have hrz := hrok.size
        have HS2 := Lib.hid (fun u (x : Ext w u) => tsize_any u xp (by omega) r.m ra rc r.L (hv.ext x) (by omega) (by omega))
        rw [show szR ⟨xp, r.m, r.L⟩ = szR r by unfold szR; rw [hr2]] at HS2
        rw [show oldR R xp = szR r by simp [oldR, hr]] at hby
        rw [hb] at HH hln
        simp only [if_true] at hln
        obtain ⟨z2, hz2⟩ : ∃ z2, szR r = z2 := ⟨_, rfl⟩
        rw [hz2] at HS2 hby hrz
        have HNP2 : Hid (np = (layR R ((done ++ [Ent.mk xp xm xL xa xc]).map Ent.row)).length) := Lib.hid (by rw [← HNP'.out]; omega)
        have hw2 : IntKind.i64.wrap (((nb : Int) + (z : Int)) - (z2 : Int)) = (nb' : Int) := by rw [IntWalk.i64_in _ ⟨by omega, by omega⟩]; omega
        have HRun := Lib.hid hrun
        have HTC := Lib.hid (fun u (x : Ext w u) => (HT.out.ext x).cell)
        unfold kvE at hen ⊢
        dsimp only at hen ⊢
        generalize xL.length = n at *
        generalize r.L.length = n2 at *
        generalize r.m = m2 at *
        clear hq G1 hrg1 hg1 hs1 hfree hfr hlook hup hby hln hxr hxok hent hold hhas hps hsz hxl hszr hgl hll hdl hXL hRL hmap hz hnb' hnp' hb hxM hr hr1 hr2 hrok hv hrun hrs hrn hrz hz2
        go_wp2_with (first | (go_at_call 74; with_reducible refine (HS.out _ (HE1.out.alloc _)).mono ?_; rintro e w3 ⟨rfl, x3⟩; have HX3 := Lib.hid ((HE1.out.alloc _).trans x3); have HR3 := Lib.hid ((HR1.out.alloc _).ext x3); clear x3) | (go_at_call 48; refine (HH.out _ HX3.out).mono ?_; rintro e w4 ⟨rfl, x4⟩; have HX4 := Lib.hid (HX3.out.trans x4); have HR4 := Lib.hid (HR3.out.ext x4); have hc4 := HTC.out _ HX4.out; have hl4 := HRun.out _ HX4.out false; simp only [Bool.false_eq_true, if_false] at hl4; clear x4) | (go_at_call 74; refine (HS2.out _ HX4.out).mono ?_; rintro e w5 ⟨rfl, x5⟩; have HX5 := Lib.hid (HX4.out.trans x5); have HR5 := Lib.hid (HR4.out.ext x5); clear x5))
        go_roundw
        case rel => exact ⟨left', done ++ [Ent.mk xp xm xL xa xc], np, nb', rfl, rfl, HNP2, HNB', HG1, HR5, HX5⟩
        case measure =>
          have e := HQL.out
          rw [HR5.out.left_eq, HR.out.left_eq, e, List.length_cons]
          omega
end Go.Proofs.YtkjcpjalldbahaaGreatDoor
end

section
namespace Go.Proofs.YtkjcpjalldbahaaGreatDoor
open Go.RowKit

/-- A slice of these cells of this type; its block does not lie below B. -/
structure IsA (w : World) (B : Nat) (T : TypeId) (p : Option Addr) (c : Nat) (vs : List Value) : Prop where
  sl : Sl w (kp p) 1 1 T p vs.length c vs
  low : ∀ g, p = some ⟨g, 0, none⟩ → B ≤ g
/-- All but blocks of this type were kept, and all below a place. -/
structure KeepA (T : TypeId) (B : Nat) (w w' : World) : Prop where
  below : Below B w w'
  keep : ∀ (g : Nat) (o : Obj), w.heap[g]? = some o → (∀ cur fr, o ≠ .cells cur T fr) → w'.heap[g]? = some o
section
variable {w w' : World} {B : Nat} {T : TypeId} {p : Option Addr} {c : Nat} {vs : List Value}
theorem IsA.ext (h : IsA w B T p c vs) (x : Ext w w') : IsA w' B T p c vs := ⟨h.sl.ext x, h.low⟩
theorem IsA.nil (w : World) (B : Nat) (T : TypeId) : IsA w B T none 0 [] := ⟨Sl.nil _ _ _ _ _, fun _ h => by cases h⟩
theorem IsA.keepA {A : Nat} {T' : TypeId} (h : IsA w B T p c vs) (k : KeepA T' A w w') (hT : T ≠ T') : IsA w' B T p c vs :=
  ⟨⟨h.sl.1, h.sl.2.1, h.sl.2.2.1, fun hc => by
    obtain ⟨g, cur, h1, h2, h3, h4⟩ := h.sl.2.2.2 hc
    exact ⟨g, cur, h1, h2, k.keep _ _ h3 (fun _ _ e => hT (by cases e; rfl)), h4⟩⟩, h.low⟩
theorem IsA.keepV {A : Nat} (h : IsA w B T p c vs) (k : KeepV A w w') (hT : T ≠ 41) : IsA w' B T p c vs :=
  ⟨⟨h.sl.1, h.sl.2.1, h.sl.2.2.1, fun hc => by
    obtain ⟨g, cur, h1, h2, h3, h4⟩ := h.sl.2.2.2 hc
    exact ⟨g, cur, h1, h2, k.keep _ _ h3 (fun _ _ e => hT (by cases e; rfl)), h4⟩⟩, h.low⟩
theorem IsA.parted (h : IsA w B T p c vs) {b o : Nat} {T' : TypeId} {cs : List Value} (hb : Blk w b T' cs) (hT : T' ≠ T) (u : Value) : IsA (w.setCell ⟨b, o, none⟩ u) B T p c vs :=
  ⟨h.sl.parted hb hT fun g hg => Below.heap_setCell _ _ _ _ (by simpa using hg), h.low⟩
theorem IsV.keepA {A : Nat} {T' : TypeId} {L : List Ver} (h : IsV w B p c L) (k : KeepA T' A w w') (hT : 41 ≠ T') : IsV w' B p c L :=
  ⟨⟨h.sl.1, h.sl.2.1, h.sl.2.2.1, fun hc => by
    obtain ⟨g, cur, h1, h2, h3, h4⟩ := h.sl.2.2.2 hc
    exact ⟨g, cur, h1, h2, k.keep _ _ h3 (fun _ _ e => hT (by cases e; rfl)), h4⟩⟩, h.low⟩
theorem Blk.keepA {A b : Nat} {T' : TypeId} {cs : List Value} (h : Blk w b T' cs) (k : KeepA T A w w') (hT : T' ≠ T) : Blk w' b T' cs := k.keep _ _ h (fun _ _ e => hT (by cases e; rfl))
theorem Ext.keptA {v : World} (hv : Ext v w) (k : KeepA T v.heap.size w w') : Ext v w' := hv.trans3 k.below
theorem KeepA.base {A : Nat} (h : KeepA T B w w') (hA : A ≤ B) : KeepA T A w w' := ⟨⟨h.below.os, h.below.tape, h.below.output, h.below.size, fun g hg => h.below.block g (by omega)⟩, h.keep⟩
theorem keepA_of_fr {κ' : Foot} {n : Nat} (hs : Sl w (kp p) 1 1 T p n c vs) (hl : ∀ g, p = some ⟨g, 0, none⟩ → B ≤ g) (hB : B ≤ w.heap.size) (f : Fr (kp p) (fun j => j = 1) w w' κ') (hx : c = 0 → Ext w w') : KeepA T B w w' := by
  refine ⟨f.below (by decide) (fun g hg => ?_) hB, fun g o ho hn => ?_⟩
  · unfold kp
    rw [if_neg fun e => by have := hl g e; omega]
  · by_cases hc : c = 0
    · exact ((hx hc).block g (heap_lt ho)).trans ho
    · obtain ⟨g', cur, e1, _, h3, _⟩ := hs.2.2.2 (by omega)
      by_cases e : g = g'
      · subst e
        rw [h3] at ho
        cases ho
        exact absurd rfl (hn _ _)
      · refine (f.other g (heap_lt ho) fun q => ?_).trans ho
        have := kp_one q
        rw [e1] at this
        cases this
        exact e rfl
/-- An element. -/
theorem IsA.at_ (h : IsA w B T p c vs) {i : Nat} {u : Value} (hu : vs[i]? = some u) : ∃ g, p = some ⟨g, 0, none⟩ ∧ B ≤ g ∧ w.cell? ⟨g, i, none⟩ = some u ∧ w.frozen? ⟨g, i, none⟩ = false := by
  obtain ⟨g, h1, _, _, h4, h5⟩ := h.sl.cell (j := i) hu
  exact ⟨g, h1, h.low g h1, h4, h5⟩
/-- An element written over. -/
theorem IsA.put {g i : Nat} (h : IsA w B T (some ⟨g, 0, none⟩) c vs) (hi : i < vs.length) (u : Value) : IsA (w.setCell ⟨g, i, none⟩ u) B T (some ⟨g, 0, none⟩) c (vs.set i u) ∧ KeepA T B w (w.setCell ⟨g, i, none⟩ u) := by
  obtain ⟨g', cur, e, e1, hg, hcs, hcell⟩ := h.sl.2.2.2 (by have := h.sl.2.1; omega)
  cases e
  have hlow := h.low g rfl
  have h1 : (w.setCell ⟨g, i, none⟩ u).heap[g]? = some (.cells (cur.setIfInBounds i u) T (0, 0)) := by
    simp [World.setCell, Array.getElem?_modify, hg]
  refine ⟨⟨⟨by simp, by rw [List.length_set]; exact h.sl.2.1, .inr ⟨g, rfl⟩, fun _ => ⟨g, _, rfl, e1, h1, by simpa using hcs, fun j v hj => ?_⟩⟩, h.low⟩, ⟨(Below.refl _ _).setCell (p := ⟨g, i, none⟩) hlow _, fun x o ho hn => ?_⟩⟩
  · have hic : i < cur.size := by have := h.sl.2.1; have : c * 1 ≤ cur.size := hcs; omega
    by_cases e : j = i
    · subst e
      rw [List.getElem?_set_self hi] at hj
      rw [Array.getElem?_setIfInBounds]
      simp [hic, hj]
    · rw [List.getElem?_set_ne (Ne.symm e)] at hj
      rw [Array.getElem?_setIfInBounds]
      simp [Ne.symm e]
      exact hcell j v hj
  · by_cases e : x = g
    · subst e
      rw [hg] at ho
      cases ho
      exact absurd rfl (hn _ _)
    · exact (Below.heap_setCell _ _ _ _ e).trans ho
/-- One element more. -/
theorem isA_grown {w4 : World} {B n c4 g0 : Nat} {p p4 : Option Addr} {κ4 : Foot} {vs : List Value} {u : Value} (s : Sl w4 κ4 1 1 T p4 (n + 1) c4 (vs ++ [u])) (hl : vs.length = n) (e : p4 = p ∨ p4 = some ⟨g0, 0, none⟩) (low : ∀ g, p = some ⟨g, 0, none⟩ → B ≤ g) (hB : B ≤ g0) : IsA w4 B T p4 c4 (vs ++ [u]) := by
  refine ⟨by rw [show (vs ++ [u]).length = n + 1 by simp [hl]]; exact s.kp, fun g hg => ?_⟩
  rcases e with q | q
  · exact low g (by rw [← q]; exact hg)
  · rw [q] at hg; cases hg; exact hB
end
/-- One text, one number of eight bits, as what is appended. -/
theorem infoU64 : (Tryz.prog.info? 25).map (fun i => (i.zero, i.size, i.bytes)) = some (some (.int .u64 0), 1, 8) := by kernel_rfl
theorem src_u64 (w : World) (g : Nat) (s : Nat) (h : w.cell? ⟨g, 0, none⟩ = some (.int .u64 (s : Int))) : Src Tryz.prog 1 58 (.slice (some ⟨g, 0, none⟩) 1 1) 1 [.int .u64 (s : Int)] w := by
  refine Src.ofSlice w Tryz.underlying58 ⟨g, 0, none⟩ 1 1 _ (by simp) (fun j v hj => ?_) (fun u hu => by simp at hu; subst hu; rfl)
  match j, hj with
  | 0, hj => simp at hj; subst hj; rw [Addr.add_mid, Nat.zero_add]; exact h
  | n + 1, hj => simp at hj
def nuV (P : List Nat) : List Value := P.map (fun x : Nat => Value.int .u64 (x : Int))
theorem nuV_one (P : List Nat) : ∀ u ∈ nuV P, u.oneCell' = true := fun u hu => by
  obtain ⟨_, _, rfl⟩ := List.mem_map.1 hu; rfl
theorem nuV_app (P Q : List Nat) : nuV (P ++ Q) = nuV P ++ nuV Q := by simp [nuV]
theorem nuV_len (P : List Nat) : (nuV P).length = P.length := by simp [nuV]
theorem src_text (w : World) (g : Nat) (s : ByteArray) (h : w.cell? ⟨g, 0, none⟩ = some (.string s)) : Src Tryz.prog 1 36 (.slice (some ⟨g, 0, none⟩) 1 1) 1 [.string s] w := by
  refine Src.ofSlice w Tryz.underlying36 ⟨g, 0, none⟩ 1 1 _ (by simp) (fun j v hj => ?_) (fun u hu => by simp at hu; subst hu; rfl)
  match j, hj with
  | 0, hj => simp at hj; subst hj; rw [Addr.add_mid, Nat.zero_add]; exact h
  | n + 1, hj => simp at hj
theorem blk_clash {w : World} {B g c i : Nat} {T T' : TypeId} {vs cs : List Value} (h : IsA w B T (some ⟨g, 0, none⟩) c vs) (hi : i < vs.length) (hb : Blk w g T' cs) (hT : T' ≠ T) : False := by
  obtain ⟨g', cur, e, e1, hg, hcs, hcell⟩ := h.sl.2.2.2 (by have := h.sl.2.1; omega)
  cases e
  have := hb
  unfold Blk at this
  rw [this] at hg
  cases hg
  exact hT rfl
end Go.Proofs.YtkjcpjalldbahaaGreatDoor
end
