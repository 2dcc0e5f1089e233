/- The walk of TablePlays. -/
import Derived.Test.YtkjcpjalldbahaaGreatDoorM37
import Derived.Test.YtkjcpjalldbahaaGreatDoorHeavy2
import Derived.Test.YtkjcpjalldbahaaGreatDoorM39
import Derived.Test.YtkjcpjalldbahaaGreatDoorM40
import Derived.Deep.RegionLaw
import Derived.Deep.DeepCutAuto
namespace Go.Proofs.YtkjcpjalldbahaaGreatDoor
open Go.RowKit Go.ChangeMaps Go.MapKept

theorem readL_new (n : Nat) : readL 0 [] n = (3, ⟨0, 0, ⟨#[]⟩⟩) := by
  simp [readL, findL, posL, mayL, rise]
theorem rtreadR_is {R : List RowP} (p : ByteArray) (n : Nat) : rtreadR R p n = treadR R p n := by
  unfold rtreadR treadR
  rw [piecesB_may]
  by_cases h : (piecesB p).length = 0
  · rw [if_pos h, if_neg (by simp [h])]
  · rw [if_neg h, if_pos (decide_eq_true (by omega))]
    cases e : lookR R p with
    | some r =>
      rw [if_pos (by unfold hasR; rw [e]; rfl), read_one]
    | none =>
      rw [if_neg (by unfold hasR; rw [e]; simp), cellR_none e, readL_new]
section
variable {w : World} {r : Nat} {qp qb : Int} {R : List RowP}
theorem vers_len {M : List Ent} (h : GoodR (M.map Ent.row)) : ∀ e ∈ M, e.L.length ≤ 140737488355328 := fun e he => by
  have := (h.each e.row (List.mem_map.2 ⟨e, he, rfl⟩)).len
  have h3 : e.L.length ≤ 8 := this
  omega
theorem irt_now (h : IsRT w r qp qb R) (hl : R.length ≤ 60000) (s : ByteArray) : Calls Tryz.prog 14 #[.pointer (some ⟨r, 0, none⟩), .string s] w fun e w' => e = .returned (.int .u64 (nowL (cellR R s).2 : Int)) ∧ Ext w w' := by
  obtain ⟨p, c, M, h1, h2, rfl, h4, _⟩ := h
  rw [List.length_map] at hl
  exact rtnow_any w r qp qb p c M h1 h2 h4.up (by omega) (vers_len h4) s
theorem irt_last (h : IsRT w r qp qb R) (hl : R.length ≤ 60000) (s : ByteArray) : Calls Tryz.prog 16 #[.pointer (some ⟨r, 0, none⟩), .string s] w fun e w' => e = .returned (.int .u64 ((cellR R s).1 : Int)) ∧ Ext w w' := by
  obtain ⟨p, c, M, h1, h2, rfl, h4, _⟩ := h
  rw [List.length_map] at hl
  exact rtlast_any w r qp qb p c M h1 h2 h4.up (by omega) s
theorem irt_read (h : IsRT w r qp qb R) (hl : R.length ≤ 60000) (s : ByteArray) (hs : s.size ≤ 140737488351232) (m : Nat) : Calls Tryz.prog 12 #[.pointer (some ⟨r, 0, none⟩), .string s, .int .u64 (m : Int)] w fun e w' => e = .returned (.tuple #[.agg #[.int .u64 ((treadR R s m).2.n : Int), .int .u8 ((treadR R s m).2.s : Int), .string (treadR R s m).2.t], .int .i64 ((treadR R s m).1 : Int)]) ∧ Ext w w' := by
  obtain ⟨p, c, M, h1, h2, rfl, h4, _⟩ := h
  rw [List.length_map] at hl
  have := rtread_any w r qp qb p c M h1 h2 h4.up (by omega) (vers_len h4) s hs m
  rwa [rtreadR_is] at this
theorem irt_list (h : IsRT w r qp qb R) (hl : R.length ≤ 60000) (s : ByteArray) (hs : s.size ≤ 140737488351232) : Calls Tryz.prog 19 #[.pointer (some ⟨r, 0, none⟩), .string s] w fun e w' => ∃ v, e = .returned v ∧ BufS w' w.heap.size v (namesB s (liveR R)) ∧ Ext w w' := by
  obtain ⟨p, c, M, h1, h2, rfl, h4, _⟩ := h
  rw [List.length_map] at hl
  have := rtlist_any w r qp qb p c M h1 h2 (fun e he => h4.each _ (List.mem_map.2 ⟨e, he, rfl⟩)) (by omega) s hs
  rwa [liveE_row] at this
end
/-- What an act of the law's arguments is. -/
structure ActR.Fine (x : ActR) : Prop where
  sz : x.Sz 1048576 1048576 1048576
  fit : ∀ e ∈ x.R, e.Fit
  cap : x.R.length ≤ x.rc
  ps : ∀ s ∈ x.P, s.size ≤ 140737488351232
theorem does18_any (w : World) (t b r : Nat) (qp qb : Int) (R : List RowP) (h : Both w t b r qp qb R) (hl : R.length ≤ 40000) (x : ActR) (hx : x.Fine) (hE : EditsP w x.ea x.E) (hR : RowsP w x.ra x.R) (hP : TextsP w x.pa x.P) (hn : x.E.length + x.R.length + x.P.length ≤ 1100) :
    Calls Tryz.prog 9 #[.pointer (some ⟨t, 0, none⟩), .pointer (some ⟨r, 0, none⟩), .agg #[.int .u8 (x.dv : Int), .slice x.ea x.E.length x.ec, .slice x.ra x.R.length x.rc, .slice x.pa x.P.length x.pc]] w (DoesP t b r qp qb R (x.E.length + x.R.length + x.P.length) w) := by
  have up : ∀ {n : Nat} {e : Ending} {w' : World}, n ≤ x.E.length + x.R.length + x.P.length → DoesP t b r qp qb R n w e w' → DoesP t b r qp qb R (x.E.length + x.R.length + x.P.length) w e w' := fun hle q => ⟨q.yes, by
    obtain ⟨R', h1, h2⟩ := q.both
    exact ⟨R', h1, by omega⟩, q.turn⟩
  have hes : ∀ e ∈ x.E, e.p.size ≤ 140737488351232 ∧ e.t.size ≤ 140737488351232 := fun e he => by
    have := hx.sz.et e he
    omega
  rcases (show x.dv % 4 = 0 ∨ x.dv % 4 = 1 ∨ x.dv % 4 = 2 ∨ x.dv % 4 = 3 by omega) with q | q | q | q
  · exact (does0_any w t b r qp qb R h hl x.dv q x.ea x.E.length x.ec x.ra x.R.length x.rc x.pa x.P.length x.pc x.E hE rfl (by omega) hes).mono fun e w' => up (by omega)
  · exact (does1_any w t b r qp qb R h hl x.dv q x.ea x.E.length x.ec x.ra x.R.length x.rc x.pa x.P.length x.pc x.E hE rfl (by omega) hes).mono fun e w' => up (by omega)
  · exact (does2_any w t b r qp qb R h hl x.dv q x.ea x.E.length x.ec x.ra x.R.length x.rc x.pa x.P.length x.pc x.R hR rfl (by omega) hx.fit hx.cap).mono fun e w' => up (by omega)
  · exact (does3_any w t b r qp qb R h hl x.dv q x.ea x.E.length x.ec x.ra x.R.length x.rc x.pa x.P.length x.pc x.P hP rfl (by omega) hx.ps).mono fun e w' => up (by omega)
theorem ActsR.ext {w w' : World} {p : Option Addr} {A : List ActR} (h : ActsR w p A) (x : Ext w w') : ActsR w' p A := fun k y hk => by
  obtain ⟨⟨a, h1, h2, h3⟩, h4, h5, h6⟩ := h k y hk
  exact ⟨⟨a, h1, Nat.lt_of_lt_of_le h2 x.size, fun j v hv => by rw [x.below.cell (p := a.add (k * 4 + j)) (by rw [add_blockV]; omega)]; exact h3 j v hv⟩, h4.ext x, h5.ext x, h6.ext x⟩
theorem both_new1 {w4 : World} {t b : Nat} {qp qb : Int} (h : IsT w4 0 t b qp qb []) : Both (w4.alloc (.cells #[.int .i64 qp, .int .i64 qb, .slice none 0 0] 33)) t b w4.heap.size qp qb [] :=
  ⟨h.ext ((Ext.refl w4).alloc _), ⟨none, 0, [], Blk.new w4 [.int .i64 qp, .int .i64 qb, .slice none 0 0] 33, RowsP.empty _ _, rfl, GoodR.nil, Nat.le_refl _⟩, fun q => by
    have h1 := h.blk.lt
    have h2 := h.map.lt
    rcases q with q | q <;> omega⟩
theorem both_new2 {u w4 : World} {t b : Nat} {qp qb : Int} (x : Ext (u.alloc (.cells #[.int .i64 qp, .int .i64 qb, .slice none 0 0] 33)) w4) (h : IsT w4 0 t b qp qb []) (h1 : (u.alloc (.cells #[.int .i64 qp, .int .i64 qb, .slice none 0 0] 33)).heap.size ≤ t) (h2 : (u.alloc (.cells #[.int .i64 qp, .int .i64 qb, .slice none 0 0] 33)).heap.size ≤ b) : Both w4 t b u.heap.size qp qb [] :=
  ⟨h, ⟨none, 0, [], (Blk.new u [.int .i64 qp, .int .i64 qb, .slice none 0 0] 33).ext x, RowsP.empty _ _, rfl, GoodR.nil, Nat.le_refl _⟩, fun q => by
    simp at h1 h2
    rcases q with q | q <;> omega⟩
theorem low_three {B t b r : Nat} (h1 : B ≤ t) (h2 : B ≤ b) (h3 : B ≤ r) : ∀ g, TR t b r g → B ≤ g := fun g q => by
  rcases q with (q | q) | q <;> (subst q; assumption)
theorem namesB_len (p : ByteArray) (R : List RowP) : (namesB p (liveR R)).length ≤ R.length := by
  unfold namesB
  rw [List.length_map]
  have h := names_len p.data.toList (dataL (liveR R)) (dataL (liveR R)).length
  rw [List.take_length] at h
  refine Nat.le_trans h ?_
  unfold dataL liveR
  rw [List.length_map, List.length_map]
  exact List.length_filter_le _ _
theorem cntA_le (A : List ActR) (j : Nat) : cntA (A.take j) ≤ cntA A := by
  conv => rhs; rw [← List.take_append_drop j A]
  unfold cntA
  rw [List.map_append, List.sum_append]
  omega
set_option maxRecDepth 1000000 in
set_option maxHeartbeats 8000000 in
theorem TablePlays_walk (w : World) (q : QuotaO) (s1 : Option Addr) (c1 : Nat) (A : List ActR) (path : ByteArray) (m : Int) (pre : ByteArray) (_hq : q.Ok) (f1 : ActsR w s1 A) (y1 : ∀ x ∈ A, x.Fine) (z1 : A.length ≤ 1048576) (hp : path.size ≤ 140737488351232) (hm : 0 ≤ m ∧ m ≤ 18446744073709551615) (hpx : pre.size ≤ 140737488351232) :
    Calls Tryz.prog 3 #[.agg q.cells.toArray, .slice s1 A.length c1, .string path, .int .u64 m, .string pre] w fun e w' => e = .returned (.bool true) ∧ Ext w w' := by
  obtain ⟨qp, qb⟩ := q
  unfold QuotaO.cells
  dsimp only
  obtain ⟨mn, rfl⟩ : ∃ mn : Nat, m = (mn : Int) := ⟨m.toNat, (Int.toNat_of_nonneg hm.1).symm⟩
  clear hm
  have HXV := Lib.hid ((Ext.refl w).alloc (.cells #[.int .i64 qp, .int .i64 qb] 23))
  have HQ := Lib.hid (Blk.new w [.int .i64 qp, .int .i64 qb] 23)
  have HHe := Lib.hid (heavy2_any (w.alloc (.cells #[.int .i64 qp, .int .i64 qb] 23)) s1 c1 A (f1.ext HXV.out) (by omega) (fun x hx => (y1 x hx).sz))
  have HW := Lib.hid (fun u => works18_any u)
  have HA := Lib.hid (f1.ext HXV.out)
  have HY := Lib.hid y1
  obtain ⟨n, hn⟩ : ∃ n, A.length = n := ⟨_, rfl⟩
  have HN := Lib.hid hn
  rw [hn] at HHe z1 ⊢
  have hwl : IntKind.i64.wrap ((path.size : Int) + (pre.size : Int)) = (path.size : Int) + (pre.size : Int) := IntWalk.i64_in _ ⟨by omega, by omega⟩
  clear f1 y1 hn
  by_cases hbig : (500 : Int) < (path.size : Int) + (pre.size : Int)
  · go_enter Tryz.func3, Tryz.ntmps3
    go_upto_region 2 with (go_at_call 6; refine HHe.out.mono ?_; rintro e w1 ⟨b, rfl, hb, x1⟩; have HX1 := Lib.hid x1; clear x1 hb; rcases b with _ | _)
    all_goals
      go_wp2_with (go_at_call 7; refine (HW.out _).mono ?_; rintro e w2 ⟨rfl, x2⟩)
      go_ret
      exact ⟨rfl, HXV.out.trans (HX1.out.trans x2)⟩
  · have hbigd : decide ((500 : Int) < (path.size : Int) + (pre.size : Int)) = false := decide_eq_false hbig
    go_enter Tryz.func3, Tryz.ntmps3
    go_upto_if 27 with (go_at_call 6; refine HHe.out.mono ?_; rintro e w1 ⟨b, rfl, hb, x1⟩; have HX1 := Lib.hid x1; have HHb := Lib.hid hb; clear x1 hb; rcases b with _ | _)
    rotate_left
    · go_wp2_with (go_at_call 7; refine (HW.out _).mono ?_; rintro e w2 ⟨rfl, x2⟩)
      go_ret
      exact ⟨rfl, HXV.out.trans (HX1.out.trans x2)⟩
    have hcnt := (HHb.out (by first | trivial | rfl)).2
    clear HHe HHb
    have HQr := Lib.hid (fun u (x : Ext (w.alloc (.cells #[.int .i64 qp, .int .i64 qb] 23)) u) => HQ.out.ext x)
    have HNw := Lib.hid (fun u => tnew_any u qp qb 0)
    have HX2 := Lib.hid (HXV.out.trans HX1.out)
    go_upto_region 3 with (fail)
    go_cut [11, 12] (fun av bv wx => ∃ (t b r : Nat), av = .pointer (some ⟨t, 0, none⟩) ∧ bv = .pointer (some ⟨r, 0, none⟩) ∧ Hid (Both wx t b r qp qb []) ∧ Hid (∀ g, TR t b r g → (w.alloc (.cells #[.int .i64 qp, .int .i64 qb] 23)).heap.size ≤ g) ∧ Hid (Ext (w.alloc (.cells #[.int .i64 qp, .int .i64 qb] 23)) wx))
    case first =>
      have d0 := (HQr.out _ HX1.out.drew).cell 0 _ rfl
      have d1 := (HQr.out _ HX1.out.drew).cell 1 _ rfl
      have c0 := (HQr.out _ (HX1.out.alloc (.cells #[.int .i64 qp, .int .i64 qb, .slice none 0 0] 33)).drew).cell 0 _ rfl
      have c1' := (HQr.out _ (HX1.out.alloc (.cells #[.int .i64 qp, .int .i64 qb, .slice none 0 0] 33)).drew).cell 1 _ rfl
      go_region_law (first
        | (go_simp; go_at_call 8; refine (HNw.out _).mono ?_; rintro e w4 ⟨t1, b1, rfl, i1, x4, k1, k1'⟩; have HI1 := Lib.hid i1; have HX4 := Lib.hid x4; have HK1 := Lib.hid (And.intro k1 k1'); (first | (have q4 := HQr.out _ (HX1.out.drew.trans x4)) | (have q4 := HQr.out _ ((HX1.out.alloc _).drew.trans x4))); have d0 := q4.cell 0 _ rfl; have d1 := q4.cell 1 _ rfl; clear HNw i1 x4 k1 k1' q4))
      all_goals
        go_wp2
        go_meet
        obtain ⟨k1, k2⟩ := HK1.out
        have hsz := HX1.out.size
        first
          | exact ⟨t1, b1, w4.heap.size, rfl, rfl, Lib.hid (both_new1 HI1.out), Lib.hid (low_three (Nat.le_trans hsz k1) (Nat.le_trans hsz k2) (Nat.le_trans hsz HX4.out.size)), Lib.hid ((HX1.out.drew.trans HX4.out).alloc _)⟩
          | exact ⟨t1, b1, w1.heap.size, rfl, rfl, Lib.hid (both_new2 (u := w1) ((Ext.refl _).drew.trans HX4.out) HI1.out k1 k2), Lib.hid (low_three (Nat.le_trans hsz (Nat.le_trans (Nat.le_succ _) (by simpa using k1))) (Nat.le_trans hsz (Nat.le_trans (Nat.le_succ _) (by simpa using k2))) hsz), Lib.hid ((HX1.out.alloc _).drew.trans HX4.out)⟩
    case rest =>
      obtain ⟨t, b, r, rfl, rfl, HBo, HLo, HX3⟩ := hcut
      clear HX1 HX2 HQr HNw HQ
      go_wp2
      go_loopw [13] (fun iv wr => ∃ (i : Nat) (R : List RowP), i ≤ n ∧ iv = .int .i64 (i : Int) ∧ Hid (Both wr t b r qp qb R) ∧ Hid (R.length ≤ cntA (A.take i)) ∧ Hid (Ext (w.alloc (.cells #[.int .i64 qp, .int .i64 qb] 23)) wr)) (fun iv _ => n - (intOf iv).toNat)
      case atStart => exact ⟨0, [], Nat.zero_le _, rfl, HBo, Lib.hid (Nat.zero_le _), HX3⟩
      case round =>
        clear HBo HX3
        obtain ⟨i, R, hi, rfl, HBo, HRl, HX⟩ := hrel
        by_cases hlt : i < n
        · obtain ⟨x, hx⟩ : ∃ x, A[i]? = some x := ⟨_, List.getElem?_eq_getElem (by have := HN.out; omega)⟩
          obtain ⟨⟨a, rfl, hab, hcl⟩, hE, hR, hP⟩ := (HA.out.ext HX.out) i _ hx
          have hfi := HY.out _ (List.mem_of_getElem? hx)
          have hct := cntA_take hx
          have hc1 := cntA_le A i
          have hc2 := cntA_le A (i + 1)
          have hRl := HRl.out
          have HDo := Lib.hid (does18_any wr t b r qp qb R HBo.out (by omega) x hfi hE hR hP (by omega))
          obtain ⟨xn, hxn⟩ : ∃ n, x.E.length + x.R.length + x.P.length = n := ⟨_, rfl⟩
          rw [hxn] at HDo hct
          obtain ⟨dv, E, ea, ec, RR, ra, rc, P, pa, pc⟩ := x
          have g0 : wr.cell? (a.add (i * 4)) = _ := hcl 0 _ rfl
          have g1 := actR_at (hcl 1 _ rfl)
          have g2 := actR_at (hcl 2 _ rfl)
          have g3 := actR_at (hcl 3 _ rfl)
          have HR2 : Hid (∀ R' : List RowP, R'.length ≤ R.length + xn → R'.length ≤ cntA (A.take (i + 1)) ∧ R'.length ≤ 2000) := Lib.hid (fun (R' : List RowP) h => by omega)
          dsimp only at g0 g1 g2 g3 HDo
          generalize E.length = el at *
          generalize RR.length = rrl at *
          generalize P.length = pl at *
          clear hx hab hcl hE hR hP hfi hct hc1 hc2 hRl hxn
          go_upto_region 9 with (first
            | (go_at_call 9; refine HDo.out.mono ?_; intro e w2 hq2; obtain ⟨rfl, ⟨R2, hb2, hl2⟩, hk2⟩ := hq2; have HB2 := Lib.hid hb2; have HL2 := Lib.hid (HR2.out R2 hl2); have HX2 : Hid (Ext (w.alloc (.cells #[.int .i64 qp, .int .i64 qb] 23)) w2) := Lib.hid (((Turn.ofExt _ HX.out).trans hk2).toExt HLo.out); clear hb2 hl2 hk2)
            | (go_at_call 10; refine (stands_any _ t b r qp qb R2 HB2.out (by have := HL2.out.2; omega)).mono ?_; rintro e w3 ⟨rfl, x3⟩; have HX3 := Lib.hid (HX2.out.trans x3); have HB3 := Lib.hid (HB2.out.ext x3); clear x3))
          have hR2l : R2.length ≤ 60000 := by have := HL2.out.2; omega
          obtain ⟨⟨er, rn, rs, rt⟩, hrd⟩ : ∃ x, treadR R2 path mn = x := ⟨_, rfl⟩
          have HRd := Lib.hid (fun u (x : Both u t b r qp qb R2) => tread_any u 0 t b qp qb R2 x.one path hp mn)
          have HRr := Lib.hid (fun u (x : Both u t b r qp qb R2) => irt_read x.two hR2l path hp mn)
          rw [hrd] at HRd HRr
          dsimp only at HRd HRr
          have HNp := Lib.hid (fun u (x : Both u t b r qp qb R2) => tnow_any u 0 t b qp qb R2 x.one path (by omega))
          have HNr := Lib.hid (fun u (x : Both u t b r qp qb R2) => irt_now x.two hR2l path)
          have HLp := Lib.hid (fun u (x : Both u t b r qp qb R2) => tlast_any u 0 t b qp qb R2 x.one path (by omega))
          have HLr := Lib.hid (fun u (x : Both u t b r qp qb R2) => irt_last x.two hR2l path)
          have HSp := Lib.hid (fun u (x : Both u t b r qp qb R2) => tlist_any u 0 t b qp qb R2 x.one (by omega) pre hpx)
          have HSr := Lib.hid (fun u (x : Both u t b r qp qb R2) => irt_list x.two hR2l pre hpx)
          have hnl := namesB_len pre R2
          obtain ⟨nv, hnv⟩ : ∃ x, nowL (cellR R2 path).2 = x := ⟨_, rfl⟩
          obtain ⟨lv, hlv⟩ : ∃ x, (cellR R2 path).1 = x := ⟨_, rfl⟩
          obtain ⟨NL, hNL⟩ : ∃ x, namesB pre (liveR R2) = x := ⟨_, rfl⟩
          rw [hnv] at HNp HNr
          rw [hlv] at HLp HLr
          rw [hNL] at HSp HSr hnl
          obtain ⟨nl, hnl2⟩ : ∃ x, NL.length = x := ⟨_, rfl⟩
          have HNL := Lib.hid hnl2
          have hnl6 : nl ≤ 1000000 := by omega
          have hq : ∀ u, (binOp .neq 41 (.agg #[.int .u64 (rn : Int), .int .u8 (rs : Int), .string rt]) (.agg #[.int .u64 (rn : Int), .int .u8 (rs : Int), .string rt])).run Tryz.prog u = .ok (.bool false) u := fun u => ver_neq ⟨rn, rs, rt⟩ ⟨rn, rs, rt⟩ false (by simp) u
          clear hrd hnl hnv hlv hNL hnl2 hR2l g0 g1 g2 g3
          go_wp2_with (first
            | (go_at_call 11; refine (HRd.out _ HB3.out).mono ?_; rintro e w4 ⟨rfl, x4⟩; have HX4 := Lib.hid ((HX3.out.trans x4).alloc (.cells #[.int .u64 (rn : Int), .int .u8 (rs : Int), .string rt] 41)); have HB4 := Lib.hid ((HB3.out.ext x4).ext ((Ext.refl w4).alloc (.cells #[.int .u64 (rn : Int), .int .u8 (rs : Int), .string rt] 41))); have HVa := Lib.hid (Blk.new w4 [.int .u64 (rn : Int), .int .u8 (rs : Int), .string rt] 41); clear x4)
            | (go_at_call 12; refine (HRr.out _ HB4.out).mono ?_; rintro e w5 ⟨rfl, x5⟩; have HX5 := Lib.hid ((HX4.out.trans x5).alloc (.cells #[.int .u64 (rn : Int), .int .u8 (rs : Int), .string rt] 41)); have HB5 := Lib.hid ((HB4.out.ext x5).ext ((Ext.refl w5).alloc (.cells #[.int .u64 (rn : Int), .int .u8 (rs : Int), .string rt] 41))); have A5 := (HVa.out.ext x5).alloc (.cells #[.int .u64 (rn : Int), .int .u8 (rs : Int), .string rt] 41); have a0 := A5.cell 0 _ rfl; have a1 := A5.cell 1 _ rfl; have a2 := A5.cell 2 _ rfl; have B5 := Blk.new w5 [.int .u64 (rn : Int), .int .u8 (rs : Int), .string rt] 41; have b0 := B5.cell 0 _ rfl; have b1 := B5.cell 1 _ rfl; have b2 := B5.cell 2 _ rfl; clear x5)
            | (go_at_call 13; refine (HNp.out _ HB5.out).mono ?_; rintro e w6 ⟨rfl, x6⟩; have HX6 := Lib.hid (HX5.out.trans x6); have HB6 := Lib.hid (HB5.out.ext x6); clear x6)
            | (go_at_call 14; refine (HNr.out _ HB6.out).mono ?_; rintro e w7 ⟨rfl, x7⟩; have HX7 := Lib.hid (HX6.out.trans x7); have HB7 := Lib.hid (HB6.out.ext x7); clear x7)
            | (go_at_call 15; refine (HLp.out _ HB7.out).mono ?_; rintro e w8 ⟨rfl, x8⟩; have HX8 := Lib.hid (HX7.out.trans x8); have HB8 := Lib.hid (HB7.out.ext x8); clear x8)
            | (go_at_call 16; refine (HLr.out _ HB8.out).mono ?_; rintro e w9 ⟨rfl, x9⟩; have HX9 := Lib.hid (HX8.out.trans x9); have HB9 := Lib.hid (HB8.out.ext x9); clear x9)
            | (go_at_call 18; refine (HSp.out _ HB9.out).mono ?_; rintro e wa ⟨va, rfl, ba, xa⟩; obtain ⟨pl1, cl1, rfl, tl1, -⟩ := ba.texts; rw [HNL.out]; have HTa := Lib.hid tl1; have HXa := Lib.hid (HX9.out.trans xa); have HBa := Lib.hid (HB9.out.ext xa); clear ba xa tl1)
            | (go_at_call 19; refine (HSr.out _ HBa.out).mono ?_; rintro e wb ⟨vb, rfl, bb, xb⟩; obtain ⟨pl2, cl2, rfl, tl2, -⟩ := bb.texts; rw [HNL.out]; have HTb := Lib.hid tl2; have HTa2 := Lib.hid (HTa.out.ext xb); have HXb := Lib.hid (HXa.out.trans xb); have HBb := Lib.hid (HBa.out.ext xb); clear bb xb tl2)
            | (go_at_call 17; refine (texts18_is _ pl1 pl2 cl1 cl2 nl nl NL NL HNL.out HNL.out HTa2.out HTb.out hnl6 hnl6 true (by simp)).mono ?_; rintro e wc ⟨rfl, xc⟩; have HXc := Lib.hid (HXb.out.trans xc); have HBc := Lib.hid (HBb.out.ext xc); clear xc))
          go_roundw
          case rel => exact ⟨i + 1, R2, hlt, by go_num, HBc, Lib.hid HL2.out.1, HXc⟩
          case measure => simp [intOf]; omega
        · obtain rfl : i = n := by omega
          go_wp2_with (go_at_call 7; refine (HW.out _).mono ?_; rintro e w2 ⟨rfl, x2⟩)
          go_ret
          exact ⟨rfl, HXV.out.trans (HX.out.trans x2)⟩
end Go.Proofs.YtkjcpjalldbahaaGreatDoor
