/- The walk of TableRoom. -/
import Derived.Test.YtkjcpjalldbahaaDoorM32
import Derived.Test.YtkjcpjalldbahaaDoorM34
import Derived.Test.YtkjcpjalldbahaaDoorOpenQuota
import Derived.Test.YtkjcpjalldbahaaDoorWorks18
import Derived.Test.YtkjcpjalldbahaaDoorHeavy1
import Derived.Deep.RegionLaw
import Derived.Deep.DeepCutAuto
namespace Go.Proofs.YtkjcpjalldbahaaDoor
open Go.RowKit Go.ChangeMaps Go.MapKept

theorem acts_one {w : World} {g : Nat} {T : TypeId} {x : ActR} (h : Blk w g T x.cells) (hE : EditsP w x.ea x.E) (hR : RowsP w x.ra x.R) (hP : TextsP w x.pa x.P) : ActsR w (some ⟨g, 0, none⟩) [x] := fun k z hk => by
  match k, hk with
  | 0, hk =>
    simp at hk
    subst hk
    refine ⟨⟨_, rfl, h.lt, fun j v hv => ?_⟩, hE, hR, hP⟩
    rw [Addr.add_mid, Nat.zero_add, Nat.zero_mul, Nat.zero_add]
    exact h.cell j v hv
  | n + 1, hk => simp at hk
theorem fit_rows {M K : List Ent} (h : K.map Ent.row = M.map Ent.row) (hM : ∀ e ∈ M, e.Fit) : ∀ e ∈ K, e.Fit := fun e he => by
  have : e.row ∈ M.map Ent.row := by rw [← h]; exact List.mem_map.2 ⟨e, he, rfl⟩
  obtain ⟨x, hx, hr⟩ := List.mem_map.1 this
  have f := hM x hx
  obtain ⟨xp, xm, xL, xa, xc⟩ := x
  obtain ⟨ep, em, eL, ea, ec⟩ := e
  simp only [Ent.row, RowP.mk.injEq] at hr
  obtain ⟨rfl, rfl, rfl⟩ := hr
  exact ⟨f.p, f.m, f.L, f.n⟩
set_option maxRecDepth 1000000 in
set_option maxHeartbeats 8000000 in
theorem TableRoom_walk (w : World) (q : QuotaO) (s1 : Option Addr) (c1 : Nat) (l1 : List Ent) (s2 : Option Addr) (c2 : Nat) (l2 : List EditO) (_hq : q.Ok) (f1 : RowsP w s1 l1) (y1 : ∀ x, x ∈ l1 → x.Fit) (z1 : l1.length ≤ 140737488355328) (f2 : EditOsP w s2 l2) (y2 : ∀ x, x ∈ l2 → x.Ok) (z2 : l2.length ≤ 140737488355328) :
    Calls Tryd.prog 4 #[.agg q.cells.toArray, .slice s1 l1.length c1, .slice s2 l2.length c2] w fun e w' => e = .returned (.bool true) ∧ Ext w w' := by
  obtain ⟨qp, qb⟩ := q
  unfold QuotaO.cells
  dsimp only
  obtain ⟨LE, hLE⟩ : ∃ A, l2.map EditO.toP = A := ⟨_, rfl⟩
  have g2 := f2.edits
  have ok2 := edits_ok y2
  obtain ⟨n1, hn1⟩ : ∃ n, l1.length = n := ⟨_, rfl⟩
  obtain ⟨n2, hn2⟩ : ∃ n, l2.length = n := ⟨_, rfl⟩
  have hl2 : LE.length = n2 := by rw [← hLE, List.length_map, hn2]
  rw [hLE] at g2 ok2
  rw [hn1] at z1 ⊢
  rw [hn2] at z2 ⊢
  clear hLE f2 y2 hn2 l2
  have HXV := Lib.hid ((Ext.refl w).alloc (.cells #[.int .i64 qp, .int .i64 qb] 31))
  have HQ := Lib.hid (Blk.new w [.int .i64 qp, .int .i64 qb] 31)
  have HHe : Hid (Calls Tryd.prog 5 #[.slice (some ⟨w.heap.size + 1, 0, none⟩) 1 1] ((w.alloc (.cells #[.int .i64 qp, .int .i64 qb] 31)).alloc (.cells #[.int .u8 0, .slice s2 n2 c2, .slice s1 n1 c1, .slice none 0 0] 27)) (HeavyR18 [⟨0, LE, s2, c2, l1, s1, c1, [], none, 0⟩] ((w.alloc (.cells #[.int .i64 qp, .int .i64 qb] 31)).alloc (.cells #[.int .u8 0, .slice s2 n2 c2, .slice s1 n1 c1, .slice none 0 0] 27)))) := Lib.hid (heavy1_any _ _ 1 [⟨0, LE, s2, c2, l1, s1, c1, [], none, 0⟩] (acts_one (by
    have := Blk.new1V w (.cells #[.int .i64 qp, .int .i64 qb] 31) [.int .u8 0, .slice s2 n2 c2, .slice s1 n1 c1, .slice none 0 0] 27
    unfold ActR.cells
    dsimp only
    rw [hn1, hl2]
    exact this) (g2.ext (HXV.out.alloc _)) (f1.ext (HXV.out.alloc _)) (TextsP.none _)) (by simp) (fun x hx => by
      rw [List.mem_singleton] at hx
      subst hx
      refine ⟨by dsimp only; omega, by dsimp only; omega, by simp, fun e he => ?_, fun e he => ?_⟩
      · exact ok2 e he
      · have := y1 e he
        have h1 := this.n
        exact ⟨by omega, fun v hv => (this.L v hv).t⟩))
  have HW := Lib.hid (fun u => works18_any u)
  have HXa := Lib.hid ((Ext.refl (w.alloc (.cells #[.int .i64 qp, .int .i64 qb] 31))).alloc (.cells #[.int .u8 0, .slice s2 n2 c2, .slice s1 n1 c1, .slice none 0 0] 27))
  have HA1 := Lib.hid (f1.ext HXV.out); have HA2 := Lib.hid (g2.ext HXV.out); have HO1 := Lib.hid y1; have HO2 := Lib.hid ok2; have HL1 := Lib.hid hn1; have HL2 := Lib.hid hl2
  clear f1 g2 y1 ok2 hn1 hl2 z1 z2
  go_enter Tryd.func4, Tryd.ntmps4
  go_upto_if 22 with (go_at_call 5; refine HHe.out.mono ?_; rintro e w1 ⟨b, rfl, hb, x1⟩; have HX1 := Lib.hid (HXa.out.trans x1); have HB := Lib.hid hb; clear x1 hb)
  cases b
  case true =>
    go_wp2_with (go_at_call 6; refine (HW.out _).mono ?_; rintro e w2 ⟨rfl, x2⟩)
    go_ret
    exact ⟨rfl, HXV.out.trans (HX1.out.trans x2)⟩
  case false =>
    have hcnt := (HB.out rfl).2
    simp only [cntA, List.map_cons, List.map_nil, List.sum_cons, List.sum_nil] at hcnt
    rw [HL1.out, HL2.out] at hcnt
    have hc1 : n1 ≤ 1024 := by omega
    have hc2 : n2 ≤ 1024 := by omega
    clear hcnt HB HHe
    have HQr := Lib.hid (fun u (x : Ext (w.alloc (.cells #[.int .i64 qp, .int .i64 qb] 31)) u) => HQ.out.ext x)
    have d0 := (HQr.out _ HX1.out).cell 0 _ rfl
    have d1 := (HQr.out _ HX1.out).cell 1 _ rfl
    obtain ⟨RR, hRR⟩ : ∃ RR, l1.map Ent.row = RR := ⟨_, rfl⟩
    have HNw := Lib.hid (fun u => tnew_any u qp qb 0)
    have HCo := Lib.hid (fun u (x : Ext (w.alloc (.cells #[.int .i64 qp, .int .i64 qb] 31)) u) => copied18_any u s1 c1 l1 (HA1.out.ext x) (fun e he => (HO1.out e he).n) (by rw [HL1.out]; omega))
    rw [HL1.out, hRR] at HCo
    have hlen := loadR_len (R := []) (l := RR) RisesR.nil
    have HLd : Hid (∀ u t b (h : IsT u 0 t b qp qb []) p c K (hK : K.map Ent.row = RR) (hM : RowsP u p K), Calls Tryd.prog 12 #[.pointer (some ⟨t, 0, none⟩), .slice p n1 c] u fun e w' => e = .returned (.int .i64 ((loadR [] RR).1 : Int)) ∧ IsT w' 0 t b qp qb (loadR [] RR).2 ∧ Turn (TB t b) u w') := Lib.hid (fun u t b h p c K hK hM => by
      have hKl : K.length = n1 := by rw [← HL1.out, ← List.length_map (f := Ent.row), hK, ← hRR, List.length_map]
      have := tload_any u 0 t b qp qb [] h (Nat.zero_le _) (by simp) p c K hM (fit_rows (hK.trans hRR.symm) HO1.out) (by omega)
      rw [hK, hKl] at this
      exact this)
    obtain ⟨⟨lc, R0⟩, hlr⟩ : ∃ x, loadR [] RR = x := ⟨_, rfl⟩
    rw [hlr] at HLd hlen
    dsimp only at HLd hlen
    have HR0 : Hid (R0.length ≤ n1) := Lib.hid (by rw [← hRR, List.length_map, HL1.out] at hlen; simpa using hlen)
    clear hRR hlen hlr
    go_wp2_with (first
      | (go_at_call 7; refine (HNw.out _).mono ?_; rintro e w4 ⟨t, b, rfl, i4, x4, k4, k4'⟩; have HI4 := Lib.hid i4; have HX4 := Lib.hid (HX1.out.trans x4); have HK4 : Hid (∀ g, TB t b g → (w.alloc (.cells #[.int .i64 qp, .int .i64 qb] 31)).heap.size ≤ g) := Lib.hid (fun g q => (by rcases q with q | q <;> (subst q; first | exact Nat.le_trans HX1.out.size k4 | exact Nat.le_trans HX1.out.size k4'))); clear i4 x4 k4 k4')
      | (go_at_call 13; refine (HCo.out _ HX4.out).mono ?_; rintro e w5 ⟨q5, c5, K, rfl, hK, r5, x5⟩; have HKr := Lib.hid hK; have HR5 := Lib.hid r5.rowsP; have HI5 := Lib.hid (HI4.out.ext x5); have HX5 := Lib.hid (HX4.out.trans x5); clear hK r5 x5)
      | (go_at_call 12; refine (HLd.out _ t b HI5.out _ _ K HKr.out HR5.out).mono ?_; rintro e w6 ⟨rfl, i6, k6⟩; have HI6 := Lib.hid i6; have HX6 : Hid (Ext (w.alloc (.cells #[.int .i64 qp, .int .i64 qb] 31)) w6) := Lib.hid (((Turn.ofExt (TB t b) HX5.out).trans k6).toExt HK4.out); clear i6 k6))
    clear HX4 HX5 HI4 HI5 HKr HR5 HX1 HXa HLd HCo HNw d0 d1
    go_loopw [8] (fun iv wr => ∃ (i : Nat) (R : List RowP), i ≤ n2 ∧ iv = .int .i64 (i : Int) ∧ Hid (IsT wr 0 t b qp qb R) ∧ Hid (R.length ≤ n1 + i) ∧ Hid (Ext (w.alloc (.cells #[.int .i64 qp, .int .i64 qb] 31)) wr)) (fun iv _ => n2 - (intOf iv).toNat)
    case atStart => exact ⟨0, R0, Nat.zero_le _, rfl, HI6, HR0, HX6⟩
    case round =>
      obtain ⟨i, R, hi, rfl, HA, HRl, HX⟩ := hrel
      by_cases hlt : i < n2
      · obtain ⟨⟨ek, ep, ea, ew, en, et⟩, hx⟩ : ∃ x, LE[i]? = some x := ⟨_, List.getElem?_eq_getElem (by have := HL2.out; omega)⟩
        obtain ⟨ep1, ep2⟩ := HO2.out _ (List.mem_of_getElem? hx)
        have HEx := Lib.hid (fun u (x : Ext (w.alloc (.cells #[.int .i64 qp, .int .i64 qb] 31)) u) => HA2.out.six x hx)
        dsimp only at ep1 ep2
        have hOne : ∀ e ∈ [(⟨ek, ep, ea, ew, en, et⟩ : EditP)], e.p.size ≤ 140737488351232 ∧ e.t.size ≤ 140737488351232 := fun e he => by rw [List.mem_singleton] at he; subst he; exact ⟨ep1, ep2⟩
        have HAp := Lib.hid (fun u (h : IsT u 0 t b qp qb R) p (hp : EditsP u p [(⟨ek, ep, ea, ew, en, et⟩ : EditP)]) => apply_any u 0 t b qp qb R h (Nat.zero_le _) (by have := HRl.out; omega) p 1 [(⟨ek, ep, ea, ew, en, et⟩ : EditP)] hp (by simp) hOne)
        have HTr := Lib.hid (fun u (h : IsT u 0 t b qp qb R) p (hp : EditsP u p [(⟨ek, ep, ea, ew, en, et⟩ : EditP)]) => try_any u 0 t b qp qb R h (by have := HRl.out; omega) p 1 [(⟨ek, ep, ea, ew, en, et⟩ : EditP)] hp (by simp) hOne)
        have hgd := apply_good qp qb HA.out.good [(⟨ek, ep, ea, ew, en, et⟩ : EditP)]
        have hroom := room_one HA.out.good ⟨ek, ep, ea, ew, en, et⟩ qp qb
        obtain ⟨⟨te, tat, tD, tv⟩, hTT⟩ : ∃ T, applyR qp qb R [(⟨ek, ep, ea, ew, en, et⟩ : EditP)] = T := ⟨_, rfl⟩
        rw [hTT] at HAp HTr hgd hroom
        obtain ⟨hr1, hr2, hr3, hr4⟩ := hroom
        dsimp only at HAp HTr hgd hr1 hr2 hr3 hr4
        simp only [List.length_cons, List.length_nil, Nat.zero_add] at HAp HTr
        have HRl2 : Hid (tD.length ≤ n1 + (i + 1)) := Lib.hid (by have := hgd.2.1; have := HRl.out; simp at *; omega)
        have HSz := Lib.hid (fun u (h : IsT u 0 t b qp qb R) => tSize_any u 0 t b qp qb R h)
        have HSz2 := Lib.hid (fun u (h : IsT u 0 t b qp qb tD) => tSize_any u 0 t b qp qb tD h)
        have hr1' : te ≠ 0 → tD.length = R.length ∧ bytesR tD = bytesR R := fun q => by rw [hr1 q]; exact ⟨rfl, rfl⟩
        clear hr1
        generalize tv.length = lv at *
        obtain ⟨rl, hrl⟩ : ∃ n, R.length = n := ⟨_, rfl⟩
        obtain ⟨rb, hrb⟩ : ∃ n, bytesR R = n := ⟨_, rfl⟩
        obtain ⟨dl, hdl⟩ : ∃ n, tD.length = n := ⟨_, rfl⟩
        obtain ⟨db, hdb⟩ : ∃ n, bytesR tD = n := ⟨_, rfl⟩
        rw [hrl, hrb] at HSz
        rw [hdl, hdb] at HSz2
        rw [hdl, hdb, hrl, hrb] at hr1'
        rw [hdl, hrl] at hr2
        rw [hdb, hrb] at hr3
        clear hx ep1 ep2 hOne hgd hTT hrl hrb hdl hdb
        have HFin : Hid (te = 0 ∧ (((¬ qp < (dl : Int) ∧ decide (qp < (dl : Int)) = false) ∨ (qp < (dl : Int) ∧ ¬ rl < dl ∧ decide ((rl : Int) < (dl : Int)) = false)) ∧ ((¬ qb < (db : Int) ∧ decide (qb < (db : Int)) = false) ∨ (qb < (db : Int) ∧ ¬ rb < db ∧ decide ((rb : Int) < (db : Int)) = false))) ∨ (((te : Int) != 0) = true ∧ ((te : Int) == 0) = false ∧ dl = rl ∧ db = rb ∧ (((te : Int) == 180) = false ∨ (((te : Int) == 180) = true ∧ ((ek : Int) == 3) = false)))) := Lib.hid (by
          by_cases h0 : te = 0
          · left
            have q2 := hr2 h0
            have q3 := hr3 h0
            refine ⟨h0, ?_, ?_⟩
            · by_cases h1 : qp < (dl : Int)
              · exact .inr ⟨h1, by omega, decide_eq_false (by omega)⟩
              · exact .inl ⟨h1, decide_eq_false h1⟩
            · by_cases h1 : qb < (db : Int)
              · exact .inr ⟨h1, by omega, decide_eq_false (by omega)⟩
              · exact .inl ⟨h1, decide_eq_false h1⟩
          · right
            obtain ⟨q1, q2⟩ := hr1' h0
            refine ⟨by have : ¬ (te : Int) = 0 := (by omega); simpa using this, by have : ¬ (te : Int) = 0 := (by omega); simpa using this, q1, q2, ?_⟩
            by_cases h1 : te = 180
            · right
              have h3 : ¬ ek = 3 := fun e => hr4 e h1
              exact ⟨by have : (te : Int) = 180 := (by omega); simpa using this, by have : ¬ (ek : Int) = 3 := (by omega); simpa using this⟩
            · left
              have : ¬ (te : Int) = 180 := (by omega)
              simpa using this)
        clear hr1' hr2 hr3 hr4
        go_upto_region 12 with (first
          | (go_at_call 14; (with_reducible refine (HSz.out _ HA.out).mono ?_); rintro e w2 ⟨rfl, x2⟩; have HX2 := Lib.hid (HX.out.trans x2); have HA2' := Lib.hid (HA.out.ext x2); obtain ⟨pa, e0, a0, a1, a2, a3, a4, a5⟩ := HEx.out _ HX2.out; (try dsimp only at a0 a1 a2 a3 a4 a5); cases e0; have HE4 : Hid (EditsP (w2.alloc (.cells #[.int .u8 (ek : Int), .string ep, .bool ea, .int .u64 (ew : Int), .int .u64 (en : Int), .string et] 40)) (some ⟨w2.heap.size, 0, none⟩) [(⟨ek, ep, ea, ew, en, et⟩ : EditP)]) := Lib.hid (Blk.editsP (l := [(⟨ek, ep, ea, ew, en, et⟩ : EditP)]) (Blk.new w2 [.int .u8 (ek : Int), .string ep, .bool ea, .int .u64 (ew : Int), .int .u64 (en : Int), .string et] 40)); have HX4 := Lib.hid ((Ext.refl w2).alloc (.cells #[.int .u8 (ek : Int), .string ep, .bool ea, .int .u64 (ew : Int), .int .u64 (en : Int), .string et] 40)); clear x2)
          | (go_at_call 15; (with_reducible refine (HTr.out _ (HA2'.out.ext HX4.out) _ HE4.out).mono ?_); rintro e w3 ⟨rfl, x3⟩; have HX3 := Lib.hid ((HX2.out.trans HX4.out).trans x3); have HA3 := Lib.hid ((HA2'.out.ext HX4.out).ext x3); obtain ⟨pb, e0, b0, b1, b2, b3, b4, b5⟩ := HEx.out _ HX3.out; (try dsimp only at b0 b1 b2 b3 b4 b5); cases e0; have HE5 : Hid (EditsP (w3.alloc (.cells #[.int .u8 (ek : Int), .string ep, .bool ea, .int .u64 (ew : Int), .int .u64 (en : Int), .string et] 40)) (some ⟨w3.heap.size, 0, none⟩) [(⟨ek, ep, ea, ew, en, et⟩ : EditP)]) := Lib.hid (Blk.editsP (l := [(⟨ek, ep, ea, ew, en, et⟩ : EditP)]) (Blk.new w3 [.int .u8 (ek : Int), .string ep, .bool ea, .int .u64 (ew : Int), .int .u64 (en : Int), .string et] 40)); have HX5 := Lib.hid ((Ext.refl w3).alloc (.cells #[.int .u8 (ek : Int), .string ep, .bool ea, .int .u64 (ew : Int), .int .u64 (en : Int), .string et] 40)); clear x3)
          | (go_at_call 8; (with_reducible refine (HAp.out _ (HA3.out.ext HX5.out) _ HE5.out).mono ?_); rintro e w6 ⟨va, cva, rfl, t6, k6, -⟩; have HA6 := Lib.hid t6; have HX6' : Hid (Ext (w.alloc (.cells #[.int .i64 qp, .int .i64 qb] 31)) w6) := Lib.hid (((Turn.ofExt (TB t b) (HX3.out.trans HX5.out)).trans k6).toExt HK4.out); clear t6 k6)
          | (go_at_call 14; (with_reducible refine (HSz2.out _ HA6.out).mono ?_); rintro e w7 ⟨rfl, x7⟩; have HX7 := Lib.hid (HX6'.out.trans x7); have HA7 := Lib.hid (HA6.out.ext x7); clear x7))
        clear a0 a1 a2 a3 a4 a5 b0 b1 b2 b3 b4 b5
        have d0 := (HQr.out _ HX7.out).cell 0 _ rfl
        have d1 := (HQr.out _ HX7.out).cell 1 _ rfl
        obtain ⟨pa, e0, a0, a1, a2, a3, a4, a5⟩ := HEx.out _ HX7.out
        (try dsimp only at a0 a1 a2 a3 a4 a5)
        cases e0
        clear HEx HAp HTr HSz HSz2 HE4 HE5 HX2 HX3 HX4 HX5 HX6' HA2' HA3 HA6
        rcases HFin.out with ⟨rfl, ⟨h1, h1a⟩ | ⟨h1, h1a, h1b⟩, ⟨h2, h2a⟩ | ⟨h2, h2a, h2b⟩⟩ | ⟨h1, h2, rfl, rfl, h3 | ⟨h3, h4⟩⟩
        all_goals
          clear HFin
          go_wp2
          go_roundw
          case rel => exact ⟨i + 1, tD, hlt, by go_num, HA7, HRl2, HX7⟩
          case measure => simp [intOf]; omega
      · obtain rfl : i = n2 := by omega
        go_wp2_with (go_at_call 6; refine (HW.out _).mono ?_; rintro e w2 ⟨rfl, x2⟩)
        go_ret
        exact ⟨rfl, HXV.out.trans (HX.out.trans x2)⟩
end Go.Proofs.YtkjcpjalldbahaaDoor
