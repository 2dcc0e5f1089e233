/- The walk of TableLoads. -/
import Derived.Test.YtkjcpjalldbahaaGreatDoorLoadsL18
import Derived.Test.YtkjcpjalldbahaaGreatDoorTablePlaysWalk
import Derived.Test.YtkjcpjalldbahaaGreatDoorOpenB18
namespace Go.Proofs.YtkjcpjalldbahaaGreatDoor
open Go.RowKit Go.ChangeMaps Go.MapKept

theorem IsT.lo_any {w : World} {lo lo' t b : Nat} {qp qb : Int} (h : IsT w lo t b qp qb []) : IsT w lo' t b qp qb [] := by
  obtain ⟨M, hm⟩ := h.map
  have hM : M = [] := by
    cases M with
    | nil => rfl
    | cons e t => have := (hm.rows e.row).2 ⟨e, by simp, rfl⟩; cases this
  subst hM
  exact ⟨h.blk, ⟨[], hm.map, (fun e he => by cases he), hm.rows⟩, h.good⟩
theorem acts_one2 {w : World} {g : Nat} {T : TypeId} {x : ActR} (h : Blk w g T x.cells) (hE : EditsP w x.ea x.E) (hR : RowsP w x.ra x.R) (hP : TextsP w x.pa x.P) : ActsR w (some ⟨g, 0, none⟩) [x] := fun k z hk => by
  match k, hk with
  | 0, hk =>
    simp at hk
    subst hk
    refine ⟨⟨_, rfl, h.lt, fun j v hv => ?_⟩, hE, hR, hP⟩
    rw [Addr.add_mid, Nat.zero_add, Nat.zero_mul, Nat.zero_add]
    exact h.cell j v hv
  | n + 1, hk => simp at hk
theorem lay_fresh {R : List RowP} (h : GoodR R) : layR [] R = R := by
  refine rows_ext (layR_rises _ RisesR.nil) h.up fun x => ?_
  rw [layR_mem R RisesR.nil h.up.nodup x]
  constructor
  · rintro (q | ⟨q, _⟩)
    · exact q
    · cases q
  · exact .inl
theorem HasV.lt {w : World} {q : Option Addr} (h : HasV w q) : ∀ x, q = some x → x.block < w.heap.size := fun x hx => by
  obtain ⟨g, cs, h1, h2, _⟩ := h
  rw [hx] at h1
  cases h1
  exact h2.lt
theorem Sl.set3 {w : World} {κ : Foot} {k z n c : Nat} {p : Option Addr} {vs cs : List Value} {g : Nat} (h : Sl w κ k z 57 p n c vs) (hb : Blk w g 41 cs) (u0 u1 u2 : Value) : Sl (((w.setCell ⟨g, 0, none⟩ u0).setCell ⟨g, 1, none⟩ u1).setCell ⟨g, 2, none⟩ u2) κ k z 57 p n c vs := by
  have h1 := h.parted (w' := w.setCell ⟨g, 0, none⟩ u0) hb (by decide) (fun x hx => Below.heap_setCell _ _ _ _ (by simpa using hx))
  have b1 := hb.set_ 0 u0
  have h2 := h1.parted (w' := (w.setCell ⟨g, 0, none⟩ u0).setCell ⟨g, 1, none⟩ u1) b1 (by decide) (fun x hx => Below.heap_setCell _ _ _ _ (by simpa using hx))
  have b2 := b1.set_ 1 u1
  exact h2.parted b2 (by decide) (fun x hx => Below.heap_setCell _ _ _ _ (by simpa using hx))
theorem HasV.set3 {w : World} {q : Option Addr} {cs : List Value} {g : Nat} (h : HasV w q) (hb : Blk w g 41 cs) (u0 u1 u2 : Value) : HasV (((w.setCell ⟨g, 0, none⟩ u0).setCell ⟨g, 1, none⟩ u1).setCell ⟨g, 2, none⟩ u2) q :=
  ((h.set_ hb 0 u0).set_ (hb.set_ 0 u0) 1 u1).set_ ((hb.set_ 0 u0).set_ 1 u1) 2 u2
theorem Turn.set3 {S : Nat → Prop} {v w : World} {g : Nat} (h : Turn S v w) (hg : S g) (u0 u1 u2 : Value) : Turn S v (((w.setCell ⟨g, 0, none⟩ u0).setCell ⟨g, 1, none⟩ u1).setCell ⟨g, 2, none⟩ u2) :=
  ((h.setCell (p := ⟨g, 0, none⟩) (.inl hg) u0).setCell (p := ⟨g, 1, none⟩) (.inl hg) u1).setCell (p := ⟨g, 2, none⟩) (.inl hg) u2
theorem Blk.three {w : World} {g : Nat} {T : TypeId} {cs : List Value} (h : Blk w g T cs) (h3 : 3 ≤ cs.length) : ∃ v0 v1 v2, w.cell? ⟨g, 0, none⟩ = some v0 ∧ w.cell? ⟨g, 1, none⟩ = some v1 ∧ w.cell? ⟨g, 2, none⟩ = some v2 :=
  ⟨cs[0], cs[1], cs[2], h.cell 0 _ (by simp), h.cell 1 _ (by simp), h.cell 2 _ (by simp)⟩
theorem pair_new {u : World} {t b : Nat} {qp qb : Int} {R : List RowP} (h : IsT u 0 t b qp qb R) : Pair (u.alloc (.cells #[.int .i64 0, .int .i64 0, .slice none 0 0] 33)) t b u.heap.size qp qb R 0 0 [] :=
  ⟨h.ext ((Ext.refl u).alloc _), ⟨none, 0, [], Blk.new u [.int .i64 0, .int .i64 0, .slice none 0 0] 33, RowsP.empty _ _, rfl, GoodR.nil, Nat.le_refl _⟩, fun q => by
    have h1 := h.blk.lt
    have h2 := h.map.lt
    rcases q with q | q <;> omega⟩
theorem Sl.turnT {S : Nat → Prop} {w w' : World} {κ : Foot} {k z : Nat} {T : TypeId} {p : Option Addr} {n c : Nat} {vs : List Value} (h : Sl w κ k z T p n c vs) (f : Turn S w w') (hS : ∀ g, S g → ∀ cur fr, w.heap[g]? ≠ some (.cells cur T fr)) : Sl w' κ k z T p n c vs := by
  refine ⟨h.1, h.2.1, h.2.2.1, fun hc => ?_⟩
  obtain ⟨g, cur, h1, h2, h3, h4⟩ := h.2.2.2 hc
  exact ⟨g, cur, h1, h2, (f.other g (heap_lt h3) (fun q => hS g q cur (0, 0) h3)).trans h3, h4⟩
/-- The cells of rows, without their versions. -/
def RowsH (w : World) (p : Option Addr) (M : List Ent) : Prop := ∀ (k : Nat) (x : Ent), M[k]? = some x → ∃ a, p = some a ∧ w.cell? ⟨(a.add (k * 3)).block, (a.add (k * 3)).off + 2, none⟩ = some (.slice x.a x.L.length x.c)
theorem rowsH_of {w : World} {κ : Foot} {p : Option Addr} {n c : Nat} {M : List Ent} (h : Sl w κ 1 3 57 p n c (entCells M)) : RowsH w p M := fun k x hk => by
  obtain ⟨g, h1, _, _, h4, _⟩ := h.cell (entCells_get M k x hk 2 _ rfl)
  refine ⟨_, h1, ?_⟩
  have : w.cell? ((⟨g, 0, none⟩ : Addr).add (k * 3 + 2)) = some (.slice x.a x.L.length x.c) := by
    rw [Addr.add_mid, Nat.zero_add]
    exact h4
  exact ver_at this
theorem does18n_any (w : World) (t b r : Nat) (qp qb : Int) (R : List RowP) (up ub : Int) (U : List RowP) (h : Pair w t b r qp qb R up ub U) (hl : R.length ≤ 40000) (hu : U.length ≤ 40000) (x : ActR) (hx : x.Fine) (hE : EditsP w x.ea x.E) (hR : RowsP w x.ra x.R) (hP : TextsP w x.pa x.P) (hn : x.E.length + x.R.length + x.P.length ≤ 1100) :
    Calls Tryz.prog 9 #[.pointer (some ⟨t, 0, none⟩), .pointer (some ⟨r, 0, none⟩), .agg #[.int .u8 (x.dv : Int), .slice x.ea x.E.length x.ec, .slice x.ra x.R.length x.rc, .slice x.pa x.P.length x.pc]] w (DoesQ t b r qp qb R (x.E.length + x.R.length + x.P.length) w) := by
  have up' : ∀ {n : Nat} {e : Ending} {w' : World}, n ≤ x.E.length + x.R.length + x.P.length → DoesQ t b r qp qb R n w e w' → DoesQ t b r qp qb R (x.E.length + x.R.length + x.P.length) w e w' := fun hle q => ⟨q.yes, by
    obtain ⟨R', h1, h2⟩ := q.tab
    exact ⟨R', h1, by omega⟩, q.turn⟩
  have hes : ∀ e ∈ x.E, e.p.size ≤ 140737488351232 ∧ e.t.size ≤ 140737488351232 := fun e he => by
    have := hx.sz.et e he
    omega
  rcases (show x.dv % 4 = 0 ∨ x.dv % 4 = 1 ∨ x.dv % 4 = 2 ∨ x.dv % 4 = 3 by omega) with q | q | q | q
  · exact (does0n_any w t b r qp qb R up ub U h hl hu x.dv q x.ea x.E.length x.ec x.ra x.R.length x.rc x.pa x.P.length x.pc x.E hE rfl (by omega) hes).mono fun e w' => up' (by omega)
  · exact (does1n_any w t b r qp qb R up ub U h hl hu x.dv q x.ea x.E.length x.ec x.ra x.R.length x.rc x.pa x.P.length x.pc x.E hE rfl (by omega) hes).mono fun e w' => up' (by omega)
  · exact (does2n_any w t b r qp qb R up ub U h hl hu x.dv q x.ea x.E.length x.ec x.ra x.R.length x.rc x.pa x.P.length x.pc x.R hR rfl (by omega) hx.fit hx.cap).mono fun e w' => up' (by omega)
  · exact (does3n_any w t b r qp qb R up ub U h hl hu x.dv q x.ea x.E.length x.ec x.ra x.R.length x.rc x.pa x.P.length x.pc x.P hP rfl (by omega) hx.ps).mono fun e w' => up' (by omega)
set_option maxRecDepth 1000000 in
set_option maxHeartbeats 16000000 in
theorem TableLoads_walk (w : World) (s1 : Option Addr) (c1 : Nat) (A : List ActR) (s2 : Option Addr) (c2 : Nat) (l2 : List EditO) (s3 : Option Addr) (c3 : Nat) (l3 : List ByteArray) (f1 : ActsR w s1 A) (y1 : ∀ x ∈ A, x.Fine) (z1 : A.length ≤ 1048576) (f2 : EditOsP w s2 l2) (y2 : ∀ x, x ∈ l2 → x.Ok ∧ x.Path.size ≤ 1048576 ∧ x.Text.size ≤ 1048576) (z2 : l2.length ≤ 1048576) (f3 : TextsP w s3 l3) (y3 : ∀ x, x ∈ l3 → x.size ≤ 1048576) (z3 : l3.length ≤ 1048576) :
    Calls Tryz.prog 4 #[.slice s1 A.length c1, .slice s2 l2.length c2, .slice s3 l3.length c3] w fun e w' => e = .returned (.bool true) ∧ Ext w w' := by
  obtain ⟨LE, hLE⟩ : ∃ A, l2.map EditO.toP = A := ⟨_, rfl⟩
  have g2 := f2.edits
  have ok2 : ∀ e ∈ l2.map EditO.toP, e.p.size ≤ 1048576 ∧ e.t.size ≤ 1048576 := fun e he => by
    obtain ⟨x, hx, rfl⟩ := List.mem_map.1 he
    exact (y2 x hx).2
  obtain ⟨n1, hn1⟩ : ∃ n, A.length = n := ⟨_, rfl⟩
  obtain ⟨n2, hn2⟩ : ∃ n, l2.length = n := ⟨_, rfl⟩
  obtain ⟨n3, hn3⟩ : ∃ n, l3.length = n := ⟨_, rfl⟩
  have hl2 : LE.length = n2 := by rw [← hLE, List.length_map, hn2]
  rw [hLE] at g2 ok2
  have HH1 := Lib.hid (heavy2_any w s1 c1 A f1 (by omega) (fun x hx => (y1 x hx).sz))
  have HH2 : Hid (∀ u, Ext w u → Calls Tryz.prog 6 #[.slice (some ⟨u.heap.size, 0, none⟩) 1 1] (u.alloc (.cells #[.int .u8 0, .slice s2 n2 c2, .slice none 0 0, .slice s3 n3 c3] 38)) (HeavyR18 [⟨0, LE, s2, c2, [], none, 0, l3, s3, c3⟩] (u.alloc (.cells #[.int .u8 0, .slice s2 n2 c2, .slice none 0 0, .slice s3 n3 c3] 38)))) := Lib.hid (fun u x => heavy2_any _ _ 1 [⟨0, LE, s2, c2, [], none, 0, l3, s3, c3⟩] (acts_one2 (by
    have := Blk.new u [.int .u8 0, .slice s2 n2 c2, .slice none 0 0, .slice s3 n3 c3] 38
    unfold ActR.cells
    dsimp only
    rw [hl2, hn3]
    exact this) (g2.ext (x.alloc _)) (RowsP.empty _ _) (f3.ext (x.alloc _))) (by simp) (fun y hy => by
      rw [List.mem_singleton] at hy
      subst hy
      exact ⟨by dsimp only; omega, by simp, by dsimp only; omega, ok2, fun e he => by cases he⟩))
  rw [hn1] at HH1 z1 ⊢
  rw [hn2] at z2 ⊢
  rw [hn3] at z3 ⊢
  have HW := Lib.hid (fun u => works18_any u)
  have HA := Lib.hid f1
  have HY := Lib.hid y1
  have HE2 := Lib.hid g2
  have HO2 := Lib.hid ok2
  have HP3 := Lib.hid f3
  have HO3 := Lib.hid y3
  have HN1 := Lib.hid hn1; have HL2 := Lib.hid hl2; have HL3 := Lib.hid hn3
  clear hLE f1 f2 f3 y1 y2 y3 g2 ok2 hn1 hn2 hn3 hl2 l2
  go_enter Tryz.func4, Tryz.ntmps4
  go_upto_if 29 with (first
    | (go_at_call 6; (with_reducible refine HH1.out.mono ?_); rintro e w1 ⟨b, rfl, hb, x1⟩; have HX1 := Lib.hid x1; have HHb := Lib.hid hb; clear x1 hb; rcases b with _ | _)
    | (go_at_call 6; (with_reducible refine (HH2.out _ HX1.out).mono ?_); rintro e w2 ⟨b2, rfl, hb2, x2⟩; have HX2 := Lib.hid ((HX1.out.alloc _).trans x2); have HHc := Lib.hid hb2; clear x2 hb2; rcases b2 with _ | _))
  rotate_left
  · go_wp2_with (go_at_call 7; refine (HW.out _).mono ?_; rintro e w9 ⟨rfl, x9⟩)
    go_ret
    exact ⟨rfl, HX2.out.trans x9⟩
  · go_wp2_with (go_at_call 7; refine (HW.out _).mono ?_; rintro e w9 ⟨rfl, x9⟩)
    go_ret
    exact ⟨rfl, HX1.out.trans x9⟩
  have hcnt := (HHb.out (by first | trivial | rfl)).2
  have hcnt2 := (HHc.out (by first | trivial | rfl)).2
  simp only [cntA, List.map_cons, List.map_nil, List.sum_cons, List.sum_nil] at hcnt2
  rw [HL2.out, HL3.out] at hcnt2
  have hc2 : n2 ≤ 1024 := by omega
  have hc3 : n3 ≤ 1024 := by omega
  clear hcnt2 HHb HHc HH1 HH2 HX1
  have HQ := Lib.hid (Blk.new w2 [.int .i64 40, .int .i64 4096] 23)
  have HX3 := Lib.hid (HX2.out.alloc (.cells #[.int .i64 40, .int .i64 4096] 23))
  go_upto_region 4 with (fail)
  go_cut [8, 9] (fun av bv wx => ∃ (ta ba tb bb : Nat), av = .pointer (some ⟨ta, 0, none⟩) ∧ bv = .pointer (some ⟨tb, 0, none⟩) ∧ Hid (IsT wx 0 ta ba 40 4096 []) ∧ Hid (IsT wx 0 tb bb 40 4096 []) ∧ Hid (ta ≠ tb ∧ ta ≠ bb ∧ ba ≠ tb ∧ ba ≠ bb ∧ w.heap.size ≤ ta ∧ w.heap.size ≤ ba ∧ w.heap.size ≤ tb ∧ w.heap.size ≤ bb) ∧ Hid (Ext w wx))
  case first =>
    have HN1 := Lib.hid (fun u => tnew_any u 40 4096 0)
    have HN2 := Lib.hid (fun u => tnew_any u 40 4096 0)
    generalize hV : w2.alloc (.cells #[.int .i64 40, .int .i64 4096] 23) = V at *
    have d0 : V.drew.cell? ⟨w2.heap.size, 0, none⟩ = _ := HQ.out.drew.cell 0 _ rfl
    have d1 : V.drew.cell? ⟨w2.heap.size, 1, none⟩ = _ := HQ.out.drew.cell 1 _ rfl
    clear hV
    go_region_law (first
      | (go_simp; go_at_call 8; refine (HN1.out _).mono ?_; rintro e w4 ⟨t1, b1, rfl, i1, x4, k1, k1'⟩; have HI1 := Lib.hid i1; have HX4 := Lib.hid ((HX3.out.drew).trans x4); have HK1 : Hid (w.heap.size ≤ t1 ∧ w.heap.size ≤ b1) := Lib.hid ⟨Nat.le_trans HX3.out.drew.size k1, Nat.le_trans HX3.out.drew.size k1'⟩; have q4 := HQ.out.drew.ext x4; have d0 := q4.cell 0 _ rfl; have d1 := q4.cell 1 _ rfl; clear HN1 i1 x4 k1 k1' q4)
      | (go_simp; go_at_call 8; refine (HN2.out _).mono ?_; rintro e w5 ⟨t2, b2, rfl, i2, x5, k2, k2'⟩; have HI2 := Lib.hid i2; have HX5 := Lib.hid (HX4.out.trans x5); have HI1' := Lib.hid (HI1.out.ext x5); have HK2 : Hid (w4.heap.size ≤ t2 ∧ w4.heap.size ≤ b2) := Lib.hid ⟨k2, k2'⟩; clear HN2 i2 x5 k2 k2'))
    all_goals
      go_wp2
      go_meet
      have h1 := HI1.out.blk.lt
      have h2 := HI1.out.map.lt
      obtain ⟨h3, h4⟩ := HK1.out
      obtain ⟨h5, h6⟩ := HK2.out
      first
        | exact ⟨t1, b1, t2, b2, rfl, rfl, HI1', HI2, Lib.hid ⟨by omega, by omega, by omega, by omega, by omega, by omega, by omega, by omega⟩, HX5⟩
        | exact ⟨t2, b2, t1, b1, rfl, rfl, HI2, HI1', Lib.hid ⟨by omega, by omega, by omega, by omega, by omega, by omega, by omega, by omega⟩, HX5⟩
  case rest =>
    obtain ⟨ta, ba, tb, bb, rfl, rfl, HTa, HTb, HNe, HXc⟩ := hcut
    have HSa : Hid (∀ g, TB ta ba g → w.heap.size ≤ g ∧ ¬ TB tb bb g) := Lib.hid (fun g q => by
      obtain ⟨q1, q2, q3, q4, q5, q6, q7, q8⟩ := HNe.out
      rcases q with rfl | rfl
      · exact ⟨q5, fun q => by rcases q with q | q <;> simp_all⟩
      · exact ⟨q6, fun q => by rcases q with q | q <;> simp_all⟩)
    have HSb : Hid (∀ g, TB tb bb g → w.heap.size ≤ g ∧ ¬ TB ta ba g) := Lib.hid (fun g q => by
      obtain ⟨q1, q2, q3, q4, q5, q6, q7, q8⟩ := HNe.out
      rcases q with rfl | rfl
      · exact ⟨q7, fun q => by rcases q with q | q <;> simp_all⟩
      · exact ⟨q8, fun q => by rcases q with q | q <;> simp_all⟩)
    have HSa1 : Hid (¬ TB ta ba tb) := Lib.hid (fun q => (HSa.out tb q).2 (Or.inl rfl))
    have HSa2 : Hid (¬ TB ta ba bb) := Lib.hid (fun q => (HSa.out bb q).2 (Or.inr rfl))
    have HSb1 : Hid (¬ TB tb bb ta) := Lib.hid (fun q => (HSb.out ta q).2 (Or.inl rfl))
    have HSb2 : Hid (¬ TB tb bb ba) := Lib.hid (fun q => (HSb.out ba q).2 (Or.inr rfl))
    clear HNe HQ HX2 HX3
    go_wp2
    go_loopw [10] (fun iv wr => ∃ (i : Nat) (R : List RowP), i ≤ n1 ∧ iv = .int .i64 (i : Int) ∧ Hid (IsT wr 0 ta ba 40 4096 R) ∧ Hid (IsT wr 0 tb bb 40 4096 []) ∧ Hid (R.length ≤ cntA (A.take i)) ∧ Hid (Ext w wr)) (fun iv _ => n1 - (intOf iv).toNat)
    case atStart => exact ⟨0, [], Nat.zero_le _, rfl, HTa, HTb, Lib.hid (Nat.zero_le _), HXc⟩
    case round =>
      clear HTa HTb HXc
      obtain ⟨i, R, hi, rfl, HTa, HTb, HRl, HX⟩ := hrel
      by_cases hlt : i < n1
      · obtain ⟨x, hx⟩ : ∃ x, A[i]? = some x := ⟨_, List.getElem?_eq_getElem (by have := HN1.out; omega)⟩
        obtain ⟨ZT, hZT⟩ : ∃ Z : Obj, Obj.cells #[.int .i64 0, .int .i64 0, .slice none 0 0] 33 = Z := ⟨_, rfl⟩
        have HPr := Lib.hid (pair_new HTa.out)
        obtain ⟨⟨a, rfl, hab, hcl⟩, hE, hR, hP⟩ := (HA.out.ext (HX.out.alloc (.cells #[.int .i64 0, .int .i64 0, .slice none 0 0] 33))) i _ hx
        have hfi := HY.out _ (List.mem_of_getElem? hx)
        have hct := cntA_take hx
        have hc1 := cntA_le A i
        have hc2' := cntA_le A (i + 1)
        have hRl := HRl.out
        have HDo := Lib.hid (does18n_any _ ta ba wr.heap.size 40 4096 R 0 0 [] HPr.out (by omega) (by simp) x hfi hE hR hP (by omega))
        obtain ⟨xn, hxn⟩ : ∃ n, x.E.length + x.R.length + x.P.length = n := ⟨_, rfl⟩
        rw [hxn] at HDo hct
        obtain ⟨dv, E, ea, ec, RR, ra, rc, P, pa, pc⟩ := x
        have g0 := hcl 0 _ rfl
        have g1 := actR_at (hcl 1 _ rfl)
        have g2 := actR_at (hcl 2 _ rfl)
        have g3 := actR_at (hcl 3 _ rfl)
        rw [Nat.add_zero] at g0
        have HR2 : Hid (∀ R' : List RowP, R'.length ≤ R.length + xn → R'.length ≤ cntA (A.take (i + 1))) := Lib.hid (fun (R' : List RowP) h => by omega)
        have hbl := HTb.out.blk.lt
        have hml := HTb.out.map.lt
        have HNr : Hid (¬ TR ta ba wr.heap.size tb ∧ ¬ TR ta ba wr.heap.size bb) := Lib.hid ⟨(fun q => q.elim HSa1.out (fun q => by omega)), (fun q => q.elim HSa2.out (fun q => by omega))⟩
        dsimp only at g0 g1 g2 g3 HDo
        generalize E.length = el at *
        generalize RR.length = rrl at *
        generalize P.length = pl at *
        clear hx hab hcl hE hR hP hfi hct hc1 hc2' hRl hxn hbl hml hZT
        go_wp2_with (go_at_call 9; refine HDo.out.mono ?_; intro e w5 hq5; obtain ⟨⟨v5, rfl⟩, ⟨R2, ht5, hl5⟩, hk5⟩ := hq5; have HT5 := Lib.hid ht5; have HL5 := Lib.hid (HR2.out R2 hl5); have HX5 : Hid (Ext w w5) := Lib.hid (((Turn.ofExt _ (HX.out.alloc _)).trans hk5).toExt (fun g q => by rcases q with q | q; exact (HSa.out g q).1; subst q; exact HX.out.size)); have HTb5 : Hid (IsT w5 0 tb bb 40 4096 []) := Lib.hid ((HTb.out.ext ((Ext.refl _).alloc _)).turn hk5 HNr.out.1 HNr.out.2 (fun g q => by rcases q with q | q; exact HPr.out.one.noT g q; exact HPr.out.two.noT g q)); clear ht5 hl5 hk5)
        go_roundw
        case rel => exact ⟨i + 1, R2, hlt, by go_num, HT5, HTb5, HL5, HX5⟩
        case measure => simp [intOf]; omega
      · obtain rfl : i = n1 := by omega
        have hRl := HRl.out
        have hc1 := cntA_le A i
        obtain ⟨rl, hrl⟩ : ∃ n, R.length = n := ⟨_, rfl⟩
        have hrl6 : rl ≤ 1024 := by omega
        have HGd := Lib.hid HTa.out.good
        have HRLn := Lib.hid hrl
        have HRoA := Lib.hid (fun u (x : IsT u 0 ta ba 40 4096 R) => trows_any u 0 ta ba 40 4096 R x (by omega))
        have HRoB := Lib.hid (fun u lo (x : IsT u lo tb bb 40 4096 R) => trows_any u lo tb bb 40 4096 R x (by omega))
        rw [hrl] at HRoA HRoB
        have HCo : Hid (∀ u p c M (hM : M.map Ent.row = R) (hP : RowsP u p M), Calls Tryz.prog 22 #[.slice p rl c] u fun e w' => ∃ q c' K, e = .returned (.slice q rl c') ∧ K.map Ent.row = R ∧ IsRows w' u.heap.size q c' K ∧ Ext u w') := Lib.hid (fun u p c M hM hP => by
          have hl : M.length = rl := by rw [← hrl, ← hM, List.length_map]
          have := copied18_any u p c M hP (fun e he => by have := (HGd.out.each e.row (by rw [← hM]; exact List.mem_map.2 ⟨e, he, rfl⟩)).len; have h3 : e.L.length ≤ 8 := this; omega) (by omega)
          rw [hl, hM] at this
          exact this)
        have HLd : Hid (∀ u lo p c K (x : IsT u lo tb bb 40 4096 []) (hlo : lo ≤ u.heap.size) (hK : K.map Ent.row = R) (hP : RowsP u p K), Calls Tryz.prog 21 #[.pointer (some ⟨tb, 0, none⟩), .slice p rl c] u fun e w' => e = .returned (.int .i64 0) ∧ IsT w' lo tb bb 40 4096 R ∧ Turn (TB tb bb) u w') := Lib.hid (fun u lo p c K x hlo hK hP => by
          have hl : K.length = rl := by rw [← hrl, ← hK, List.length_map]
          have := tload_ok u lo tb bb 40 4096 [] x hlo (by simp) p c K hP (fun e he => HGd.out.each e.row (by rw [← hK]; exact List.mem_map.2 ⟨e, he, rfl⟩)) (by omega)
          rw [hl, hK, lay_fresh HGd.out] at this
          exact this.mono fun e w' hp => hp.fine (dup_fresh R [] (by simpa using HGd.out.up.nodup)))
        have HSm : Hid (∀ u p c M q d K (hM : M.map Ent.row = R) (hK : K.map Ent.row = R) (h1 : RowsP u p M) (h2 : RowsP u q K), Calls Tryz.prog 23 #[.slice p rl c, .slice q rl d] u fun e w' => e = .returned (.bool true) ∧ Ext u w') := Lib.hid (fun u p c M q d K hM hK h1 h2 => rsame18_is u p q c d rl rl M K (by rw [← hrl, ← hM, List.length_map]) (by rw [← hrl, ← hK, List.length_map]) h1 h2 (fun e he => by have := (HGd.out.each e.row (by rw [← hM]; exact List.mem_map.2 ⟨e, he, rfl⟩)).len; have h3 : e.L.length ≤ 8 := this; omega) (by omega) (by omega) true (by rw [hM, hK]; simp))
        have hbt := HTb.out.blk.lt
        have hbm := HTb.out.map.lt
        have HbLt : Hid (tb < wr.heap.size ∧ bb < wr.heap.size) := Lib.hid ⟨hbt, hbm⟩
        clear hRl hc1 hrl hbt hbm
        go_wp2_with (first
          | (go_at_call 20; (with_reducible refine (HRoA.out _ HTa.out).mono ?_); rintro e w4 ⟨p4, ⟨c4, M4, rfl, hM4, r4⟩, x4⟩; have HM4 := Lib.hid hM4; have HI4 := Lib.hid r4; have HX4 := Lib.hid (HX.out.trans x4); have HTu4 := Lib.hid (Turn.ofExt (TB tb bb) x4); have HTb4 : Hid (IsT w4 w4.heap.size tb bb 40 4096 []) := Lib.hid ((HTb.out.ext x4).lo_any); have HTa4 := Lib.hid (HTa.out.ext x4); clear hM4 r4 x4)
          | (go_at_call 22; (with_reducible refine (HCo.out _ p4 c4 M4 HM4.out HI4.out.rowsP).mono ?_); rintro e w5 ⟨q5, c5, K5, rfl, hK5, r5, x5⟩; have HK5 := Lib.hid hK5; have HR5 := Lib.hid r5.rowsP; have HX5 := Lib.hid (HX4.out.trans x5); have HTu5 := Lib.hid (HTu4.out.ext x5); have HTa5 := Lib.hid (HTa4.out.ext x5); have HTb5 := Lib.hid (HTb4.out.ext x5); have HI5 := Lib.hid (HI4.out.ext x5); have HSz5 := Lib.hid x5.size; clear hK5 r5 x5)
          | (go_at_call 21; (with_reducible refine (HLd.out _ _ q5 c5 K5 HTb5.out HSz5.out HK5.out HR5.out).mono ?_); rintro e w6 ⟨rfl, t6, k6⟩; have HTb6 := Lib.hid t6; have HTa6 : Hid (IsT w6 0 ta ba 40 4096 R) := Lib.hid (HTa5.out.turn k6 HSb1.out HSb2.out HTb5.out.noT); have HSl6 := Lib.hid (HI5.out.sl.turnT k6 (HTb5.out.typed (by decide))); have HV6 : Hid (∀ e ∈ M4, e.L ≠ [] → HasV w6 e.a) := Lib.hid (fun e he hL => ((HI5.out.vers e he).hasV hL).1.turn k6 HTb5.out.noT); have HTu6 := Lib.hid (HTu5.out.trans k6); have HX6 : Hid (Ext w w6) := Lib.hid (((Turn.ofExt (TB tb bb) HX5.out).trans k6).toExt (fun g q => (HSb.out g q).1)); have HSz6 := Lib.hid (Nat.le_trans HSz5.out k6.size); clear t6 k6)
          | (go_at_call 20; (with_reducible refine (HRoA.out _ HTa6.out).mono ?_); rintro e w7 ⟨p7, ⟨c7, M7, rfl, hM7, r7⟩, x7⟩; have HM7 := Lib.hid hM7; have HR7 := Lib.hid r7.rowsP; have HTb7 := Lib.hid (HTb6.out.ext x7); have HX7 := Lib.hid x7; clear hM7 r7 x7)
          | (go_at_call 20; (with_reducible refine (HRoB.out _ _ HTb7.out).mono ?_); rintro e w8 ⟨p8, ⟨c8, M8, rfl, hM8, r8⟩, x8⟩; have HM8 := Lib.hid hM8; have HR8 := Lib.hid r8.rowsP; have HR7b := Lib.hid (HR7.out.ext x8); have HX8 := Lib.hid (HX7.out.trans x8); clear hM8 r8 x8)
          | (go_at_call 23; (with_reducible refine (HSm.out _ p7 c7 M7 p8 c8 M8 HM7.out HM8.out HR7b.out HR8.out).mono ?_); rintro e w9 ⟨rfl, x9⟩; have HX9 := Lib.hid (HX8.out.trans x9); clear x9))
        have HVb : Hid (∀ e ∈ M4, e.L ≠ [] → ∀ x, e.a = some x → wr.heap.size ≤ x.block ∧ x.block < w4.heap.size) := Lib.hid (fun e he hL x hx => by
          obtain ⟨q1, q2⟩ := (HI4.out.vers e he).hasV hL
          exact ⟨q2 x hx, q1.lt x hx⟩)
        have HSl9 := Lib.hid (HSl6.out.ext HX9.out)
        have HV9 : Hid (∀ e ∈ M4, e.L ≠ [] → HasV w9 e.a) := Lib.hid (fun e he hL => (HV6.out e he hL).ext HX9.out)
        have HTb9 := Lib.hid (HTb6.out.ext HX9.out)
        have HTu9 := Lib.hid (HTu6.out.ext HX9.out)
        have HXw9 := Lib.hid (HX6.out.trans HX9.out)
        have HSz9 := Lib.hid (Nat.le_trans HSz6.out HX9.out.size)
        have HMl : Hid (M4.length = rl) := Lib.hid (by rw [← List.length_map (f := Ent.row), HM4.out, HRLn.out])
        rw [HMl.out] at HSl9
        obtain ⟨W0, hW0⟩ : ∃ W0, W0 = wr := ⟨_, rfl⟩
        subst hW0
        clear HI4 HI5 HTb4 HTa4 HTb5 HTa5 HTu4 HTu5 HX4 HX5 HK5 HR5 HSl6 HV6 HTu6 HX6 HX7 HX8 HM7 HR7 HM8 HR8 HR7b HTb7 HTb6 HTa6
        go_loopw [12] (fun iv wx => ∃ (j : Nat), j ≤ rl ∧ iv = .int .i64 (j : Int) ∧ Hid (Sl wx (kp p4) 1 3 57 p4 rl c4 (entCells M4)) ∧ Hid (∀ e ∈ M4, e.L ≠ [] → HasV wx e.a) ∧ Hid (Turn (fun g => W0.heap.size ≤ g ∧ g < w4.heap.size) w9 wx)) (fun iv _ => rl - (intOf iv).toNat)
        case atStart => exact ⟨0, Nat.zero_le _, rfl, HSl9, HV9, Lib.hid (Turn.refl _ _)⟩
        case round =>
          obtain ⟨j, hj, rfl, HSl, HV, HTs⟩ := hrel
          by_cases hlt2 : j < rl
          · obtain ⟨⟨xp, xm, xL, xa, xc⟩, hx⟩ : ∃ x, M4[j]? = some x := ⟨_, List.getElem?_eq_getElem (by have := HMl.out; omega)⟩
            have hmem := List.mem_of_getElem? hx
            have hne : xL ≠ [] := (HGd.out.each _ (by rw [← HM4.out]; exact List.mem_map.2 ⟨_, hmem, rfl⟩)).some_
            obtain ⟨pa, rfl, h2⟩ := rowsH_of HSl.out j _ hx
            obtain ⟨g, cs, hga, hb, h3⟩ := HV.out _ hmem hne
            have hgS := HVb.out _ hmem hne
            dsimp only at hga h2 hgS
            subst hga
            have hgS2 := hgS _ rfl
            obtain ⟨v0, v1, v2, e0, e1, e2⟩ := hb.three h3
            have z0 := hb.frozen 0
            have z1 := hb.frozen 1
            have z2' := hb.frozen 2
            have HB := Lib.hid hb
            have HgS : Hid (W0.heap.size ≤ g ∧ g < w4.heap.size) := Lib.hid hgS2
            obtain ⟨vl, hvl⟩ : ∃ n, xL.length = n := ⟨_, rfl⟩
            have hvp : 0 < vl := by rw [← hvl]; exact List.length_pos_iff.2 hne
            have hvd : decide ((0 : Int) < (vl : Int)) = true := decide_eq_true (by omega)
            rw [hvl] at h2
            clear hx hmem hne hb h3 hgS hgS2 hvl
            go_wp2
            go_roundw
            case rel => exact ⟨j + 1, hlt2, by go_num, Lib.hid (HSl.out.set3 HB.out _ _ _), Lib.hid (fun e he hL => (HV.out e he hL).set3 HB.out _ _ _), Lib.hid (HTs.out.set3 HgS.out _ _ _)⟩
            case measure => simp [intOf]; omega
          · obtain rfl : j = rl := by omega
            have HTaE := Lib.hid (HTa.out.turn (HTu9.out.then_ HTs.out (fun g q => .inr q.1)) HSb1.out HSb2.out HTb.out.noT)
            have HTbE := Lib.hid (HTb9.out.turnLo HTs.out (fun q => by have := HbLt.out.1; omega) (fun q => by have := HbLt.out.2; omega) (fun g q => q.2))
            have HXE : Hid (Ext w wr) := Lib.hid (((Turn.ofExt _ HXw9.out).trans HTs.out).toExt (fun g q => Nat.le_trans HX.out.size q.1))
            have HSzE := Lib.hid (Nat.le_trans HSz9.out HTs.out.size)
            clear HSl HV HTs HSl9 HV9 HTb9 HTu9 HXw9 HSz9 HTa HTb HVb HCo HLd HSm HRoA HRoB
            go_wp2
            go_loopw [13] (fun iv wy => ∃ (k : Nat) (RF : List RowP), k ≤ n2 ∧ iv = .int .i64 (k : Int) ∧ Hid (IsT wy 0 ta ba 40 4096 RF) ∧ Hid (IsT wy w4.heap.size tb bb 40 4096 RF) ∧ Hid (RF.length ≤ j + k) ∧ Hid (w4.heap.size ≤ wy.heap.size) ∧ Hid (Ext w wy)) (fun iv _ => n2 - (intOf iv).toNat)
            case atStart => exact ⟨0, R, Nat.zero_le _, rfl, HTaE, HTbE, Lib.hid (by rw [HRLn.out]; exact Nat.le_refl _), HSzE, HXE⟩
            case round =>
              clear HTaE HTbE HXE HSzE HX HGd HM4 HRLn HMl
              obtain ⟨k, RF, hk, rfl, HA, HB, HRl, HSz, HX⟩ := hrel
              by_cases hlt3 : k < n2
              · obtain ⟨⟨ek, ep, ea, ew, en, et⟩, hx⟩ : ∃ x, LE[k]? = some x := ⟨_, List.getElem?_eq_getElem (by have := HL2.out; omega)⟩
                obtain ⟨ep1, ep2⟩ := HO2.out _ (List.mem_of_getElem? hx)
                have HEx := Lib.hid (fun u (x : Ext w u) => HE2.out.six x hx)
                obtain ⟨pa, e0, a0, a1, a2, a3, a4, a5⟩ := HEx.out _ HX.out
                dsimp only at a0 a1 a2 a3 a4 a5 ep1 ep2
                cases e0
                have hOne : ∀ e ∈ [(⟨ek, ep, ea, ew, en, et⟩ : EditP)], e.p.size ≤ 140737488351232 ∧ e.t.size ≤ 140737488351232 := fun e he => by rw [List.mem_singleton] at he; subst he; exact ⟨by dsimp only; omega, by dsimp only; omega⟩
                have HAp := Lib.hid (fun u lo t b (h : IsT u lo t b 40 4096 RF) (hlo : lo ≤ u.heap.size) p (hp : EditsP u p [(⟨ek, ep, ea, ew, en, et⟩ : EditP)]) => apply_any u lo t b 40 4096 RF h hlo (by have := HRl.out; omega) p 1 [(⟨ek, ep, ea, ew, en, et⟩ : EditP)] hp (by simp) hOne)
                have hgd := apply_good 40 4096 HA.out.good [(⟨ek, ep, ea, ew, en, et⟩ : EditP)]
                obtain ⟨⟨te, tat, tD, tv⟩, hTT⟩ : ∃ T, applyR 40 4096 RF [(⟨ek, ep, ea, ew, en, et⟩ : EditP)] = T := ⟨_, rfl⟩
                rw [hTT] at HAp hgd
                dsimp only at HAp hgd
                simp only [List.length_cons, List.length_nil, Nat.zero_add] at HAp
                have HRl2 : Hid (tD.length ≤ j + (k + 1)) := Lib.hid (by have := hgd.2.1; have := HRl.out; simp at *; omega)
                obtain ⟨vl, hvl⟩ : ∃ n, tv.length = n := ⟨_, rfl⟩
                have HVL := Lib.hid hvl
                have hv6 : vl ≤ 1000000 := by have := hgd.2.2; simp at this; omega
                rw [hvl] at HAp
                have HE4 : Hid (EditsP (wr.alloc (.cells #[.int .u8 (ek : Int), .string ep, .bool ea, .int .u64 (ew : Int), .int .u64 (en : Int), .string et] 62)) (some ⟨wr.heap.size, 0, none⟩) [(⟨ek, ep, ea, ew, en, et⟩ : EditP)]) := Lib.hid (Blk.editsP (l := [(⟨ek, ep, ea, ew, en, et⟩ : EditP)]) (Blk.new wr [.int .u8 (ek : Int), .string ep, .bool ea, .int .u64 (ew : Int), .int .u64 (en : Int), .string et] 62))
                have HX4 := Lib.hid ((Ext.refl wr).alloc (.cells #[.int .u8 (ek : Int), .string ep, .bool ea, .int .u64 (ew : Int), .int .u64 (en : Int), .string et] 62))
                clear hx ep1 ep2 hOne hgd hTT hvl
                go_wp2_with (first
                  | (go_at_call 24; (with_reducible refine (HAp.out _ _ ta ba (HA.out.ext HX4.out) (Nat.zero_le _) _ HE4.out).mono ?_); rintro e w2 ⟨va, cva, rfl, t2, k2, l2'⟩; have HA2 := Lib.hid t2; have HAv := Lib.hid l2'; have HB2 : Hid (IsT w2 w4.heap.size tb bb 40 4096 RF) := Lib.hid ((HB.out.ext HX4.out).turn k2 HSa1.out HSa2.out (HA.out.ext HX4.out).noT); have HX5 : Hid (Ext w w2) := Lib.hid (((Turn.ofExt (TB ta ba) (HX.out.trans HX4.out)).trans k2).toExt (fun g q => (HSa.out g q).1)); have HSz2 := Lib.hid (Nat.le_trans HSz.out (Nat.le_trans HX4.out.size k2.size)); obtain ⟨pb, e0, b0, b1, b2, b3, b4, b5⟩ := HEx.out _ HX5.out; (try dsimp only at b0 b1 b2 b3 b4 b5); cases e0; have HE6 : Hid (EditsP (w2.alloc (.cells #[.int .u8 (ek : Int), .string ep, .bool ea, .int .u64 (ew : Int), .int .u64 (en : Int), .string et] 62)) (some ⟨w2.heap.size, 0, none⟩) [(⟨ek, ep, ea, ew, en, et⟩ : EditP)]) := Lib.hid (Blk.editsP (l := [(⟨ek, ep, ea, ew, en, et⟩ : EditP)]) (Blk.new w2 [.int .u8 (ek : Int), .string ep, .bool ea, .int .u64 (ew : Int), .int .u64 (en : Int), .string et] 62)); have HX6 := Lib.hid ((Ext.refl w2).alloc (.cells #[.int .u8 (ek : Int), .string ep, .bool ea, .int .u64 (ew : Int), .int .u64 (en : Int), .string et] 62)); have HSz3 := Lib.hid (Nat.le_trans HSz2.out HX6.out.size); clear t2 k2 l2')
                  | (go_at_call 24; (with_reducible refine (HAp.out _ _ tb bb (HB2.out.ext HX6.out) HSz3.out _ HE6.out).mono ?_); rintro e w3 ⟨vb, cvb, rfl, t3, k3, l3'⟩; have HB3 := Lib.hid t3; have HBv := Lib.hid l3'; have HA3 : Hid (IsT w3 0 ta ba 40 4096 tD) := Lib.hid ((HA2.out.ext HX6.out).turn k3 HSb1.out HSb2.out (HB2.out.ext HX6.out).noT); have HAv3 := Lib.hid ((HAv.out.ext HX6.out).turnN k3 ((HB2.out.ext HX6.out).typed (by decide))); have HX7 : Hid (Ext w w3) := Lib.hid (((Turn.ofExt (TB tb bb) (HX5.out.trans HX6.out)).trans k3).toExt (fun g q => (HSb.out g q).1)); have HSz4 := Lib.hid (Nat.le_trans HSz3.out k3.size); clear t3 k3 l3')
                  | (go_at_call 25; refine (numbers18_is _ va vb cva cvb vl vl tv tv HVL.out HVL.out HAv3.out.numsP HBv.out.numsP hv6 hv6 true (by simp)).mono ?_; rintro e w7 ⟨rfl, x7⟩; have HA7 := Lib.hid (HA3.out.ext x7); have HB7 := Lib.hid (HB3.out.ext x7); have HX8 := Lib.hid (HX7.out.trans x7); have HSz5 := Lib.hid (Nat.le_trans HSz4.out x7.size); clear x7))
                go_roundw
                case rel => exact ⟨k + 1, tD, hlt3, by go_num, HA7, HB7, HRl2, HSz5, HX8⟩
                case measure => simp [intOf]; omega
              · obtain rfl : k = n2 := by omega
                have hRl := HRl.out
                obtain ⟨DR, hDR⟩ : ∃ D, dropsR RF l3 = D := ⟨_, rfl⟩
                have hdl0 := dropsR_len l3 RF
                have HDa := Lib.hid (fun u (x : IsT u 0 ta ba 40 4096 RF) (y : TextsP u s3 l3) => tdrops_any u 0 ta ba 40 4096 RF x (by omega) s3 c3 l3 y (fun t ht => by have := HO3.out t ht; omega) (by rw [HL3.out]; omega))
                have HDb := Lib.hid (fun u lo (x : IsT u lo tb bb 40 4096 RF) (y : TextsP u s3 l3) => tdrops_any u lo tb bb 40 4096 RF x (by omega) s3 c3 l3 y (fun t ht => by have := HO3.out t ht; omega) (by rw [HL3.out]; omega))
                rw [hDR] at HDa HDb hdl0
                rw [HL3.out] at HDa HDb
                have hgD : GoodR DR := by rw [← hDR]; exact dropsR_good l3 HA.out.good
                have HGD := Lib.hid hgD
                obtain ⟨dl, hdl⟩ : ∃ n, DR.length = n := ⟨_, rfl⟩
                obtain ⟨fl, hfl⟩ : ∃ n, RF.length = n := ⟨_, rfl⟩
                have hdl6 : dl ≤ 2048 := by omega
                have HDL := Lib.hid hdl
                have HRa := Lib.hid (fun u (x : IsT u 0 ta ba 40 4096 DR) => trows_any u 0 ta ba 40 4096 DR x (by omega))
                have HRb := Lib.hid (fun u lo (x : IsT u lo tb bb 40 4096 DR) => trows_any u lo tb bb 40 4096 DR x (by omega))
                have HSm : Hid (∀ u p c M q d K (hM : M.map Ent.row = DR) (hK : K.map Ent.row = DR) (h1 : RowsP u p M) (h2 : RowsP u q K), Calls Tryz.prog 23 #[.slice p dl c, .slice q dl d] u fun e w' => e = .returned (.bool true) ∧ Ext u w') := Lib.hid (fun u p c M q d K hM hK h1 h2 => rsame18_is u p q c d dl dl M K (by rw [← hdl, ← hM, List.length_map]) (by rw [← hdl, ← hK, List.length_map]) h1 h2 (fun e he => by have := (HGD.out.each e.row (by rw [← hM]; exact List.mem_map.2 ⟨e, he, rfl⟩)).len; have h3 : e.L.length ≤ 8 := this; omega) (by omega) (by omega) true (by rw [hM, hK]; simp))
                rw [hdl] at HDa HDb HRa HRb
                rw [hfl] at HDa HDb
                have HP9 := Lib.hid (HP3.out.ext HX.out)
                clear hRl hDR hdl0 hgD hdl hfl
                go_upto_region 27 with (first
                  | (go_at_call 26; (with_reducible refine (HDa.out _ HA.out HP9.out).mono ?_); rintro e wa ⟨rfl, ia, ka⟩; have HAa := Lib.hid ia; have HBa := Lib.hid (HB.out.turn ka HSa1.out HSa2.out HA.out.noT); have HXa : Hid (Ext w wa) := Lib.hid (((Turn.ofExt (TB ta ba) HX.out).trans ka).toExt (fun g q => (HSa.out g q).1)); have HPa := Lib.hid (HP3.out.ext HXa.out); clear ia ka)
                  | (go_at_call 26; (with_reducible refine (HDb.out _ _ HBa.out HPa.out).mono ?_); rintro e wb ⟨rfl, ib, kb⟩; have HBb := Lib.hid ib; have HAb := Lib.hid (HAa.out.turn kb HSb1.out HSb2.out HBa.out.noT); have HXb : Hid (Ext w wb) := Lib.hid (((Turn.ofExt (TB tb bb) HXa.out).trans kb).toExt (fun g q => (HSb.out g q).1)); clear ib kb)
                  | (go_at_call 20; (with_reducible refine (HRa.out _ HAb.out).mono ?_); rintro e wc ⟨pc, ⟨cc, Mc, rfl, hMc, rc⟩, xc⟩; have HMc := Lib.hid hMc; have HRc := Lib.hid rc.rowsP; have HBc := Lib.hid (HBb.out.ext xc); have HAc := Lib.hid (HAb.out.ext xc); have HXc := Lib.hid (HXb.out.trans xc); clear hMc rc xc)
                  | (go_at_call 20; (with_reducible refine (HRb.out _ _ HBc.out).mono ?_); rintro e wd ⟨pd, ⟨cd, Md, rfl, hMd, rd⟩, xd⟩; have HMd := Lib.hid hMd; have HRd := Lib.hid rd.rowsP; have HRc2 := Lib.hid (HRc.out.ext xd); have HAd := Lib.hid (HAc.out.ext xd); have HXd := Lib.hid (HXc.out.trans xd); clear hMd rd xd)
                  | (go_at_call 23; (with_reducible refine (HSm.out _ pc cc Mc pd cd Md HMc.out HMd.out HRc2.out HRd.out).mono ?_); rintro e we ⟨rfl, xe⟩; have HAe := Lib.hid (HAd.out.ext xe); have HXe := Lib.hid (HXd.out.trans xe); clear xe)
                  | (go_at_call 20; (with_reducible refine (HRa.out _ HAe.out).mono ?_); rintro e wf ⟨pf, ⟨cf, Mf, rfl, hMf, rf⟩, xf⟩; have HMf := Lib.hid hMf; have HIf := Lib.hid rf; have HAf := Lib.hid (HAe.out.ext xf); have HXf := Lib.hid (HXe.out.trans xf); clear hMf rf xf))
                by_cases hd0 : dl = 0
                · subst hd0
                  go_wp2_with (go_at_call 7; refine (HW.out _).mono ?_; rintro e wg ⟨rfl, xg⟩)
                  go_ret
                  exact ⟨rfl, HXf.out.trans xg⟩
                · have hd0f : ((dl : Int) == 0) = false := by simpa using (by omega : ¬ (dl : Int) = 0)
                  have hMl : Mf.length = dl := by rw [← List.length_map (f := Ent.row), HMf.out, HDL.out]
                  have hcf : dl ≤ cf := by have := HIf.out.sl.2.1; rw [hMl] at this; exact this
                  have hsl : ∀ u, (Instr.slice 31 (.slice pf dl cf) none (some (.int .i64 1)) none).run Tryz.prog u = .ok (.slice pf 1 cf) u := fun u => cut_head u pf dl cf 1 (by omega)
                  have htl : (Mf.take 1).length = 1 := by rw [List.length_take, hMl]; omega
                  obtain ⟨r0, t0, hD0⟩ : ∃ r t, DR = r :: t := by
                    cases hD : DR with
                    | nil => have := HDL.out; rw [hD] at this; simp at this; omega
                    | cons r t => exact ⟨r, t, rfl⟩
                  have htk : (Mf.take 1).map Ent.row = [r0] := by rw [List.map_take, HMf.out, hD0]; rfl
                  have hr0 : r0 ∈ DR := by rw [hD0]; simp
                  have HCo : Hid (Calls Tryz.prog 22 #[.slice pf 1 cf] wf fun e w' => ∃ q c' K, e = .returned (.slice q 1 c') ∧ K.map Ent.row = [r0] ∧ IsRows w' wf.heap.size q c' K ∧ Ext wf w') := Lib.hid (by
                    have := copied18_any wf pf cf (Mf.take 1) (HIf.out.rowsP.take 1) (fun e he => by have := (HGD.out.each e.row (by rw [← HMf.out]; exact List.mem_map.2 ⟨e, List.mem_of_mem_take he, rfl⟩)).len; have h3 : e.L.length ≤ 8 := this; omega) (by omega)
                    rw [htl, htk] at this
                    exact this)
                  have HLd : Hid (∀ u q c K (x : IsT u 0 ta ba 40 4096 DR) (hK : K.map Ent.row = [r0]) (hP : RowsP u q K), Calls Tryz.prog 21 #[.pointer (some ⟨ta, 0, none⟩), .slice q 1 c] u fun e w' => e = .returned (.int .i64 8) ∧ Ext u w') := Lib.hid (fun u q c K x hK hP => by
                    have hKl : K.length = 1 := by rw [← List.length_map (f := Ent.row), hK]; rfl
                    have := tload_ok u 0 ta ba 40 4096 DR x (Nat.zero_le _) (by have := HDL.out; omega) q c K hP (fun e he => by
                      have h1 : e.row ∈ [r0] := by rw [← hK]; exact List.mem_map.2 ⟨e, he, rfl⟩
                      rw [List.mem_singleton] at h1
                      rw [h1]
                      exact HGD.out.each _ hr0) (by omega)
                    rw [hKl, hK] at this
                    refine this.mono fun e w' hp => hp.twice ?_
                    unfold dupR
                    rw [show hasR DR r0.p = true from hasR_iff.2 ⟨r0, hr0, rfl⟩]
                    rfl)
                  clear hMl htl hD0 htk hr0
                  go_wp2_with (first
                    | (go_at_call 22; refine HCo.out.mono ?_; rintro e wg ⟨qg, cg, Kg, rfl, hKg, rg, xg⟩; have HKg := Lib.hid hKg; have HRg := Lib.hid rg.rowsP; have HAg := Lib.hid (HAf.out.ext xg); have HXg := Lib.hid (HXf.out.trans xg); clear hKg rg xg)
                    | (go_at_call 21; refine (HLd.out _ qg cg Kg HAg.out HKg.out HRg.out).mono ?_; rintro e wh ⟨rfl, xh⟩; have HXh := Lib.hid (HXg.out.trans xh); clear xh)
                    | (go_at_call 7; refine (HW.out _).mono ?_; rintro e wi ⟨rfl, xi⟩; have HXi := Lib.hid (HXh.out.trans xi); clear xi))
                  go_ret
                  exact ⟨rfl, HXi.out⟩
end Go.Proofs.YtkjcpjalldbahaaGreatDoor
