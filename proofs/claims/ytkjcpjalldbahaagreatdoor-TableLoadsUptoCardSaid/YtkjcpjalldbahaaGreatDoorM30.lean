/- Contract: the document's one: rows behind an edit. -/
import Derived.Test.YtkjcpjalldbahaaGreatDoorM27
import Derived.Test.YtkjcpjalldbahaaGreatDoorM29
import Derived.Deep.RegionHeld3
import Derived.Deep.DeepCutAuto
section
namespace Go.Proofs.YtkjcpjalldbahaaGreatDoor
open Go.RowKit Go.ChangeMaps Go.MapKept

theorem VersP.cellSet {w : World} {q : Option Addr} {L : List Ver} (h : VersP w q L) {b : Nat} {T : TypeId} {cs : List Value} (hb : Blk w b T cs) (hc : ∀ v ∈ cs, ∀ k, v ≠ .int .u8 k) (o : Nat) (u : Value) : VersP (w.setCell ⟨b, o, none⟩ u) q L := fun k x hk => by
  obtain ⟨a, h1, h2, h3⟩ := h k x hk
  have hn : a.block ≠ b := fun e => by
    have h4 := h3 1 _ rfl
    unfold Blk at hb
    unfold World.cell? at h4
    rw [add_blockV, e, hb] at h4
    dsimp only at h4
    split at h4
    · cases h4
    · have : cs[(a.add (k * 3 + 1)).off]? = some (.int .u8 (x.s : Int)) := by simpa using h4
      exact hc _ (List.mem_of_getElem? this) _ rfl
  refine ⟨a, h1, by simpa [World.setCell] using h2, fun j v hv => ?_⟩
  rw [← h3 j v hv]
  unfold World.cell?
  rw [add_blockV, Below.heap_setCell _ _ _ _ hn]
/-- What the document's one answers. -/
def OneP (M : List Ent) (E : EditP) (w : World) (e : Ending) (w' : World) : Prop :=
  (∃ q c' K, e = .returned (.tuple #[.slice q (List.length K) c', .int .u64 ((editR (M.map Ent.row) E).1.last : Int), .int .i64 0]) ∧ (editR (M.map Ent.row) E).1.e = 0 ∧ K.map Ent.row = (editR (M.map Ent.row) E).2 ∧ RowsP w' q K ∧ (NewP w q ∧ (∀ e ∈ K, (∃ x ∈ M, e.a = x.a ∧ e.L = x.L) ∨ NewP w e.a) ∧ List.length K ≤ c') ∧ Ext w w') ∨
  (∃ q c' n, e = .returned (.tuple #[.slice q n c', .int .u64 0, .int .i64 ((editR (M.map Ent.row) E).1.e : Int)]) ∧ (editR (M.map Ent.row) E).1.e ≠ 0 ∧ Ext w w')
theorem edit_bad {R : List RowP} {E : EditP} (h : mayB E.p.data.toList = false ∨ (E.k ≠ 1 ∧ E.k ≠ 2 ∧ E.k ≠ 3)) : (editR R E).1.e = 2 := by
  show (outR _ _ E).e = 2
  unfold outR
  rcases h with h | ⟨h1, h2, h3⟩
  · rw [h]; rfl
  · rw [if_neg h1, if_neg h2, if_neg h3]
    split <;> rfl

set_option maxRecDepth 100000 in
set_option maxHeartbeats 8000000 in
theorem rone1_any (w : World) (p : Option Addr) (c : Nat) (M : List Ent) (hM : RowsP w p M) (hG : GoodR (M.map Ent.row)) (hn : M.length ≤ 100000) (ep : ByteArray) (ea : Bool) (ew en : Nat) (et : ByteArray) (hp : ep.size ≤ 140737488351232) (ht : et.size ≤ 140737488351232) :
    Calls Tryz.prog 54 #[.slice p M.length c, .agg #[.int .u8 1, .string ep, .bool ea, .int .u64 (ew : Int), .int .u64 (en : Int), .string et]] w (OneP M ⟨1, ep, ea, ew, en, et⟩ w) := by
  have HPc := Lib.hid (fun u => rPieces_any ep hp u)
  have HA := Lib.hid (fun u (x : Ext w u) => rtat_any u p c M (hM.ext x) (by omega) ep)
  have HX0 := Lib.hid ((Ext.refl w).alloc (.cells #[.int .u8 1, .string ep, .bool ea, .int .u64 (ew : Int), .int .u64 (en : Int), .string et] 62))
  have HB0 := Lib.hid (Blk.new w [.int .u8 1, .string ep, .bool ea, .int .u64 (ew : Int), .int .u64 (en : Int), .string et] 62)
  have HP := Lib.hid (hM.ext HX0.out)
  have hn2 := hn
  obtain ⟨n, hnn⟩ : ∃ n, M.length = n := ⟨_, rfl⟩
  have HN := Lib.hid hnn
  rw [hnn] at hn HA ⊢
  obtain ⟨kp', hk⟩ : ∃ k, (piecesB ep).length = k := ⟨_, rfl⟩
  have hmayd := piecesB_may ep
  rw [hk] at hmayd
  unfold TextsR at HPc
  rw [hk] at HPc
  clear hk
  go_enter Tryz.func54, Tryz.ntmps54
  by_cases hk0 : kp' = 0
  · subst hk0
    have HBad := Lib.hid (edit_bad (R := M.map Ent.row) (E := ⟨1, ep, ea, ew, en, et⟩) (.inl (by rw [hmayd]; rfl)))
    clear hmayd hM hG hnn
    go_wp2_with (go_at_call 36; refine (HPc.out _).mono ?_; rintro e w1 ⟨pp, cc, rfl, h1, x1⟩; have HX1 := Lib.hid (HX0.out.trans x1); clear x1 h1)
    exact bodyPost_ret (results_tmp3 rfl _ _ _) rfl (.inr ⟨p, c, n, by rw [HBad.out]; rfl, by rw [HBad.out]; decide, HX1.out⟩)
  · have hkf : ((kp' : Int) == 0) = false := by simpa using (by omega : ¬ (kp' : Int) = 0)
    have hmay : mayB ep.data.toList = true := by rw [hmayd]; exact decide_eq_true (by omega)
    obtain ⟨⟨m, L⟩, hcell⟩ : ∃ x, cellR (M.map Ent.row) ep = x := ⟨_, rfl⟩
    have hgc := GoodR.cell hG.each ep
    rw [hcell] at hgc
    have hm := hgc.2
    have hL8 := (mayL_iff.1 hgc.1).1
    dsimp only at hm hL8
    obtain ⟨⟨oe, ol, oL⟩, hout⟩ : ∃ o, putL m L ea ew et = o := ⟨_, rfl⟩
    have hed1 : (editR (M.map Ent.row) ⟨1, ep, ea, ew, en, et⟩).1 = ⟨oe, ol, oL⟩ := by
      show outR (cellR _ _).1 (cellR _ _).2 _ = _
      rw [hcell]
      unfold outR
      dsimp only
      rw [if_pos hmay, if_pos rfl]
      exact hout
    have HEd1 := Lib.hid hed1
    have HCell := Lib.hid hcell
    obtain ⟨l, hl⟩ : ∃ l, L.length = l := ⟨_, rfl⟩
    have HLl := Lib.hid hl
    have HCo : Hid (∀ u q cq, VersP u q L → Calls Tryz.prog 77 #[.agg #[.int .u64 (m : Int), .slice q l cq], .bool ea, .int .u64 (ew : Int), .string et] u fun e w' => ∃ q2, (∃ c2, e = .returned (.tuple #[.agg #[.int .u64 (ol : Int), .slice q2 oL.length c2], .int .i64 (oe : Int)])) ∧ VersP w' q2 oL ∧ Kin u q L q2 oL ∧ Ext u w') := Lib.hid (fun u q cq h => by
      have y := Ext.refl u
      have := rput_any u m q cq L (h.ext y) (by omega) hm ea ew et (by omega)
      rw [hout, hl] at this
      refine this.mono ?_
      rintro e w' ⟨q2, h1, h2, h4, h3⟩
      exact ⟨q2, h1, h2, h4, h3⟩)
    have HG := Lib.hid hG
    have HNl := Lib.hid hnn
    have HPw := Lib.hid hM
    have HLk : Hid (∀ (j : Nat) (x : Ent), M[j]? = some x → x.p = ep → m = x.m ∧ L = x.L) := Lib.hid (fun j x hx e => by
      have hlk := lookR_of hG.up (List.mem_map.2 ⟨x, List.mem_of_getElem? hx, rfl⟩)
      have h2 := cellR_some hlk
      rw [show x.row.p = ep from e, hcell] at h2
      simpa [Ent.row] using h2)
    have HNo : Hid ((∀ y ∈ M, y.p ≠ ep) → m = 0 ∧ L = []) := Lib.hid (fun hno => by
      have h2 := cellR_none (R := M.map Ent.row) (p := ep) (lookR_none.2 fun x hx => by
        obtain ⟨y, hy, rfl⟩ := List.mem_map.1 hx
        exact hno y hy)
      rw [hcell] at h2
      simpa using h2)
    clear hmayd hM hG hnn hcell hgc hed1 hl hout hL8 hm hk0
    go_upto_region 5 with (first
      | (go_at_call 36; refine (HPc.out _).mono ?_; rintro e w1 ⟨pp, cc, rfl, h1, x1⟩; have HX1 := Lib.hid x1; have HB1 := Lib.hid ((HB0.out.ext x1).alloc (.cells #[.int .u64 0, .slice none 0 0] 55)); have HZ1 := Lib.hid (Blk.new w1 [.int .u64 0, .slice none 0 0] 55); have HXz := Lib.hid (HX1.out.alloc (.cells #[.int .u64 0, .slice none 0 0] 55)); have e1 := HB1.out.cell 1 _ rfl; have z0 := HZ1.out.frozen 0; have z1 := HZ1.out.frozen 1; have y0 := HZ1.out.cell 0 _ rfl; have y1 := HZ1.out.cell 1 _ rfl; clear x1 h1)
      | (go_at_call 37; refine (HA.out _ (HX0.out.trans HXz.out)).mono ?_; rintro e w2 ⟨rfl, hq⟩; have HQ := Lib.hid hq; clear hq; obtain ⟨ki, rfl, HKi⟩ := at_split HQ.out; have HK := Lib.hid HKi; clear HKi))
    rcases HK.out with ⟨j, x, rfl, hx, hxp⟩ | ⟨rfl, hno⟩
    · obtain ⟨rfl, rfl⟩ := HLk.out j x hx hxp
      obtain ⟨pa, rfl, c0, c1, c2⟩ := HP.out.three HXz.out hx
      have hv := HP.out.2 _ (List.mem_of_getElem? hx)
      have hjn : j < n := by have := (List.getElem?_eq_some_iff.1 hx).1; have := HNl.out; omega
      have HMe := Lib.hid (show ∃ y ∈ M, y.a = x.a ∧ y.L = x.L from ⟨x, List.mem_of_getElem? hx, rfl, rfl⟩)
      obtain ⟨xp, m, L, q, cq⟩ := x
      dsimp only at c0 c1 c2 hv HLl HCo HMe
      have HKi : Hid (∀ (u : World) {q2 : Option Addr}, Kin u q L q2 oL → (w.alloc (.cells #[.int .u8 1, .string ep, .bool ea, .int .u64 (ew : Int), .int .u64 (en : Int), .string et] 62)).heap.size ≤ u.heap.size → (∃ y ∈ M, q2 = y.a ∧ oL = y.L) ∨ NewP w q2) := Lib.hid (fun u q2 hk hu => by
        rcases hk with ⟨rfl, rfl⟩ | hk
        · obtain ⟨y, hy, h1, h2⟩ := HMe.out
          exact .inl ⟨y, hy, h1.symm, h2.symm⟩
        · exact .inr fun a e => Nat.le_trans (Nat.le_trans HX0.out.size hu) (hk a e))
      rw [HLl.out] at c2
      have HVw := Lib.hid hv
      clear hx hxp hv HQ HK HLk HNo
      go_upto_region 7 with (fail)
      have HBz := Lib.hid (Blk.new w1 [.int .u64 (m : Int), .slice q l cq] 55)
      have HXv := Lib.hid (HX1.out.alloc (.cells #[.int .u64 (m : Int), .slice q l cq] 55))
      have HVz := Lib.hid (HVw.out.ext HXv.out)
      clear z0 z1 y0 y1 c0 c1 c2 e1
      generalize w1.alloc (.cells #[.int .u64 (m : Int), .slice q l cq] 55) = wz at *
      have HEz := Lib.hid (HB0.out.ext HXv.out)
      have HBy := Lib.hid (HBz.out.alloc (.cells #[.int .u64 (m : Int), .slice q l cq] 55))
      have HEy := Lib.hid (HEz.out.alloc (.cells #[.int .u64 (m : Int), .slice q l cq] 55))
      have HDy := Lib.hid (Blk.new wz [.int .u64 (m : Int), .slice q l cq] 55)
      have HXy := Lib.hid (HXv.out.alloc (.cells #[.int .u64 (m : Int), .slice q l cq] 55))
      have HVy := Lib.hid (HVz.out.ext ((Ext.refl wz).alloc (.cells #[.int .u64 (m : Int), .slice q l cq] 55)))
      have x0 := HBz.out.cell 0 _ rfl
      have x1 := HBz.out.cell 1 _ rfl
      have y0 := HBy.out.cell 0 _ rfl
      have y1 := HBy.out.cell 1 _ rfl
      have g0 := HEy.out.cell 0 _ rfl
      have g1 := HEy.out.cell 1 _ rfl
      have g2 := HEy.out.cell 2 _ rfl
      have g3 := HEy.out.cell 3 _ rfl
      have g4 := HEy.out.cell 4 _ rfl
      have g5 := HEy.out.cell 5 _ rfl
      obtain ⟨ok, hok⟩ : ∃ k, oL.length = k := ⟨_, rfl⟩
      have HOk := Lib.hid hok
      rw [hok] at HCo
      clear hok
      go_upto_region 14 with (go_at_call 77; refine (HCo.out _ q cq HVy.out).mono ?_; rintro e w3 ⟨q2, ⟨c2, rfl⟩, v2, n2, x3⟩; have HKn := Lib.hid (HKi.out _ n2 HXy.out.size); have HV3 := Lib.hid v2; have HX3 := Lib.hid (HXy.out.trans x3); have HD3 := Lib.hid (HDy.out.ext x3); have d0 := HD3.out.cell 0 _ rfl; have d1 := HD3.out.cell 1 _ rfl; have f0 := HD3.out.frozen 0; have f1 := HD3.out.frozen 1; clear v2 n2 x3)
      have HDv := Lib.hid ((HD3.out.set_ 0 (.int .u64 (ol : Int))).set_ 1 (.slice q2 ok c2))
      have HXu := Lib.hid ((HX3.out.setCell (p := ⟨wz.heap.size, 0, none⟩) HXv.out.size (.int .u64 (ol : Int))).setCell (p := ⟨wz.heap.size, 1, none⟩) HXv.out.size (.slice q2 ok c2))
      have HVu := Lib.hid ((HV3.out.cellSet HD3.out (by simp) 0 (.int .u64 (ol : Int))).cellSet (HD3.out.set_ 0 (.int .u64 (ol : Int))) (by simp) 1 (.slice q2 ok c2))
      clear x0 x1 y0 y1 d0 d1 f0 f1 g0 g1 g2 g3 g4 g5
      generalize (w3.setCell ⟨wz.heap.size, 0, none⟩ (.int .u64 (ol : Int))).setCell ⟨wz.heap.size, 1, none⟩ (.slice q2 ok c2) = V at *
      by_cases hoe : oe = 0
      · subst hoe
        have HWi := Lib.hid (fun u (x : Ext V u) => rwith_any u (some pa) c M (HPw.out.ext (HX0.out.trans (HXu.out.trans x))) (by omega) ⟨ep, ol, oL, q2, c2⟩ (HVu.out.ext x))
        rw [HNl.out] at HWi
        dsimp only at HWi
        rw [HOk.out] at HWi
        have HFi : Hid ((withE ⟨ep, ol, oL, q2, c2⟩ false M).map Ent.row = (editR (M.map Ent.row) ⟨1, ep, ea, ew, en, et⟩).2) := Lib.hid (by rw [withE_is HG.out.up, edit_fine (by rw [HEd1.out]), HEd1.out]; rfl)
        have HFm := Lib.hid (fun e (he : e ∈ withE ⟨ep, ol, oL, q2, c2⟩ false M) => withE_mem he)
        generalize withE ⟨ep, ol, oL, q2, c2⟩ false M = F at *
        have HS := Lib.hid (fun u (x : Ext V u) => (show u.cell? ⟨w.heap.size, 1, none⟩ = some (.string ep) ∧ u.cell? ⟨wz.heap.size, 0, none⟩ = some (.int .u64 (ol : Int)) ∧ u.cell? ⟨wz.heap.size, 1, none⟩ = some (.slice q2 ok c2) ∧ Ext V u from ⟨((HB0.out.ext HXu.out).ext x).cell 1 _ rfl, (HDv.out.ext x).cell 0 _ rfl, (HDv.out.ext x).cell 1 _ rfl, x⟩))
        have hE : Ext V V.drew := (Ext.refl _).drew
        have hS0 := HS.out _ (Ext.refl V)
        have hS := HS.out _ hE
        go_upto_region 16 with (fail)
        go_region_held3 (fun u => u.cell? ⟨w.heap.size, 1, none⟩ = some (.string ep) ∧ u.cell? ⟨wz.heap.size, 0, none⟩ = some (.int .u64 (ol : Int)) ∧ u.cell? ⟨wz.heap.size, 1, none⟩ = some (.slice q2 ok c2) ∧ Ext V u) (first | with_reducible exact hS | with_reducible exact hS0 | assumption | go_keep) (first | (go_at_call 56; refine (HWi.out _ hE).mono ?_; rintro e w6 ⟨pq, cp, rfl, r6, n6, xx⟩; have HN6 : Hid (NewP w pq) := Lib.hid (fun a e => Nat.le_trans (HX0.out.trans (HXu.out.trans hE)).size (n6.1 a e)); have HL6 := Lib.hid n6.2; have HR6 := Lib.hid r6; have HX6 := Lib.hid (HX0.out.trans (HXu.out.trans (hE.trans xx))); have hE := hE.trans xx; have hS := HS.out _ hE; clear xx r6 n6))
        all_goals
          go_wp2
          exact bodyPost_ret (results_tmp3 rfl _ _ _) rfl (.inl ⟨pq, cp, F, by rw [HEd1.out]; rfl, by rw [HEd1.out], HFi.out, HR6.out, ⟨HN6.out, fun e he => by
          rcases HFm.out e he with rfl | he
          · exact HKn.out
          · exact .inl ⟨e, he, rfl, rfl⟩, HL6.out⟩, HX6.out⟩)
      · have hne : ((oe : Int) != 0) = true := by have : ¬ (oe : Int) = 0 := (by omega); simpa using this
        go_wp2
        exact bodyPost_ret (results_tmp3 rfl _ _ _) rfl (.inr ⟨(some pa), c, n, by rw [HEd1.out]; rfl, by rw [HEd1.out]; exact hoe, HX0.out.trans HXu.out⟩)
    · obtain ⟨rfl, rfl⟩ := HNo.out hno
      have HKi : Hid (∀ (u : World) {q2 : Option Addr}, Kin u none [] q2 oL → (w.alloc (.cells #[.int .u8 1, .string ep, .bool ea, .int .u64 (ew : Int), .int .u64 (en : Int), .string et] 62)).heap.size ≤ u.heap.size → (∃ y ∈ M, q2 = y.a ∧ oL = y.L) ∨ NewP w q2) := Lib.hid (fun u q2 hk hu => by
        rcases hk with ⟨rfl, rfl⟩ | hk
        · exact .inr fun a e => by cases e
        · exact .inr fun a e => Nat.le_trans (Nat.le_trans HX0.out.size hu) (hk a e))
      have hl0 := HLl.out
      simp only [List.length_nil] at hl0
      subst hl0
      clear hno HQ HK HLk HNo
      go_upto_region 7 with (fail)
      obtain ⟨q, hq⟩ : ∃ q : Option Addr, none = q := ⟨_, rfl⟩
      have HVz := Lib.hid (VersP.nil (w1.alloc (.cells #[.int .u64 0, .slice none 0 0] 55)) none)
      have HBz := HZ1
      have HXv := HXz
      clear z0 z1 y0 y1 e1 hq q
      generalize w1.alloc (.cells #[.int .u64 0, .slice none 0 0] 55) = wz at *
      have HEz := Lib.hid (HB0.out.ext HXv.out)
      have HBy := Lib.hid (HBz.out.alloc (.cells #[.int .u64 0, .slice none 0 0] 55))
      have HEy := Lib.hid (HEz.out.alloc (.cells #[.int .u64 0, .slice none 0 0] 55))
      have HDy := Lib.hid (Blk.new wz [.int .u64 0, .slice none 0 0] 55)
      have HXy := Lib.hid (HXv.out.alloc (.cells #[.int .u64 0, .slice none 0 0] 55))
      have HVy := Lib.hid (HVz.out.ext ((Ext.refl wz).alloc (.cells #[.int .u64 0, .slice none 0 0] 55)))
      have x0 := HBz.out.cell 0 _ rfl
      have x1 := HBz.out.cell 1 _ rfl
      have y0 := HBy.out.cell 0 _ rfl
      have y1 := HBy.out.cell 1 _ rfl
      have g0 := HEy.out.cell 0 _ rfl
      have g1 := HEy.out.cell 1 _ rfl
      have g2 := HEy.out.cell 2 _ rfl
      have g3 := HEy.out.cell 3 _ rfl
      have g4 := HEy.out.cell 4 _ rfl
      have g5 := HEy.out.cell 5 _ rfl
      obtain ⟨ok, hok⟩ : ∃ k, oL.length = k := ⟨_, rfl⟩
      have HOk := Lib.hid hok
      rw [hok] at HCo
      clear hok
      go_upto_region 14 with (go_at_call 77; refine (HCo.out _ none 0 HVy.out).mono ?_; rintro e w3 ⟨q2, ⟨c2, rfl⟩, v2, n2, x3⟩; have HKn := Lib.hid (HKi.out _ n2 HXy.out.size); have HV3 := Lib.hid v2; have HX3 := Lib.hid (HXy.out.trans x3); have HD3 := Lib.hid (HDy.out.ext x3); have d0 := HD3.out.cell 0 _ rfl; have d1 := HD3.out.cell 1 _ rfl; have f0 := HD3.out.frozen 0; have f1 := HD3.out.frozen 1; clear v2 n2 x3)
      have HDv := Lib.hid ((HD3.out.set_ 0 (.int .u64 (ol : Int))).set_ 1 (.slice q2 ok c2))
      have HXu := Lib.hid ((HX3.out.setCell (p := ⟨wz.heap.size, 0, none⟩) HXv.out.size (.int .u64 (ol : Int))).setCell (p := ⟨wz.heap.size, 1, none⟩) HXv.out.size (.slice q2 ok c2))
      have HVu := Lib.hid ((HV3.out.cellSet HD3.out (by simp) 0 (.int .u64 (ol : Int))).cellSet (HD3.out.set_ 0 (.int .u64 (ol : Int))) (by simp) 1 (.slice q2 ok c2))
      clear x0 x1 y0 y1 d0 d1 f0 f1 g0 g1 g2 g3 g4 g5
      generalize (w3.setCell ⟨wz.heap.size, 0, none⟩ (.int .u64 (ol : Int))).setCell ⟨wz.heap.size, 1, none⟩ (.slice q2 ok c2) = V at *
      by_cases hoe : oe = 0
      · subst hoe
        have HWi := Lib.hid (fun u (x : Ext V u) => rwith_any u p c M (HPw.out.ext (HX0.out.trans (HXu.out.trans x))) (by omega) ⟨ep, ol, oL, q2, c2⟩ (HVu.out.ext x))
        rw [HNl.out] at HWi
        dsimp only at HWi
        rw [HOk.out] at HWi
        have HFi : Hid ((withE ⟨ep, ol, oL, q2, c2⟩ false M).map Ent.row = (editR (M.map Ent.row) ⟨1, ep, ea, ew, en, et⟩).2) := Lib.hid (by rw [withE_is HG.out.up, edit_fine (by rw [HEd1.out]), HEd1.out]; rfl)
        have HFm := Lib.hid (fun e (he : e ∈ withE ⟨ep, ol, oL, q2, c2⟩ false M) => withE_mem he)
        generalize withE ⟨ep, ol, oL, q2, c2⟩ false M = F at *
        have HS := Lib.hid (fun u (x : Ext V u) => (show u.cell? ⟨w.heap.size, 1, none⟩ = some (.string ep) ∧ u.cell? ⟨wz.heap.size, 0, none⟩ = some (.int .u64 (ol : Int)) ∧ u.cell? ⟨wz.heap.size, 1, none⟩ = some (.slice q2 ok c2) ∧ Ext V u from ⟨((HB0.out.ext HXu.out).ext x).cell 1 _ rfl, (HDv.out.ext x).cell 0 _ rfl, (HDv.out.ext x).cell 1 _ rfl, x⟩))
        have hE : Ext V V.drew := (Ext.refl _).drew
        have hS0 := HS.out _ (Ext.refl V)
        have hS := HS.out _ hE
        go_upto_region 16 with (fail)
        go_region_held3 (fun u => u.cell? ⟨w.heap.size, 1, none⟩ = some (.string ep) ∧ u.cell? ⟨wz.heap.size, 0, none⟩ = some (.int .u64 (ol : Int)) ∧ u.cell? ⟨wz.heap.size, 1, none⟩ = some (.slice q2 ok c2) ∧ Ext V u) (first | with_reducible exact hS | with_reducible exact hS0 | assumption | go_keep) (first | (go_at_call 56; refine (HWi.out _ hE).mono ?_; rintro e w6 ⟨pq, cp, rfl, r6, n6, xx⟩; have HN6 : Hid (NewP w pq) := Lib.hid (fun a e => Nat.le_trans (HX0.out.trans (HXu.out.trans hE)).size (n6.1 a e)); have HL6 := Lib.hid n6.2; have HR6 := Lib.hid r6; have HX6 := Lib.hid (HX0.out.trans (HXu.out.trans (hE.trans xx))); have hE := hE.trans xx; have hS := HS.out _ hE; clear xx r6 n6))
        all_goals
          go_wp2
          exact bodyPost_ret (results_tmp3 rfl _ _ _) rfl (.inl ⟨pq, cp, F, by rw [HEd1.out]; rfl, by rw [HEd1.out], HFi.out, HR6.out, ⟨HN6.out, fun e he => by
          rcases HFm.out e he with rfl | he
          · exact HKn.out
          · exact .inl ⟨e, he, rfl, rfl⟩, HL6.out⟩, HX6.out⟩)
      · have hne : ((oe : Int) != 0) = true := by have : ¬ (oe : Int) = 0 := (by omega); simpa using this
        go_wp2
        exact bodyPost_ret (results_tmp3 rfl _ _ _) rfl (.inr ⟨p, c, n, by rw [HEd1.out]; rfl, by rw [HEd1.out]; exact hoe, HX0.out.trans HXu.out⟩)

set_option maxRecDepth 100000 in
set_option maxHeartbeats 8000000 in
theorem rone2_any (w : World) (p : Option Addr) (c : Nat) (M : List Ent) (hM : RowsP w p M) (hG : GoodR (M.map Ent.row)) (hn : M.length ≤ 100000) (ep : ByteArray) (ea : Bool) (ew en : Nat) (et : ByteArray) (hp : ep.size ≤ 140737488351232) (_ht : et.size ≤ 140737488351232) :
    Calls Tryz.prog 54 #[.slice p M.length c, .agg #[.int .u8 2, .string ep, .bool ea, .int .u64 (ew : Int), .int .u64 (en : Int), .string et]] w (OneP M ⟨2, ep, ea, ew, en, et⟩ w) := by
  have HPc := Lib.hid (fun u => rPieces_any ep hp u)
  have HA := Lib.hid (fun u (x : Ext w u) => rtat_any u p c M (hM.ext x) (by omega) ep)
  have HX0 := Lib.hid ((Ext.refl w).alloc (.cells #[.int .u8 2, .string ep, .bool ea, .int .u64 (ew : Int), .int .u64 (en : Int), .string et] 62))
  have HB0 := Lib.hid (Blk.new w [.int .u8 2, .string ep, .bool ea, .int .u64 (ew : Int), .int .u64 (en : Int), .string et] 62)
  have HP := Lib.hid (hM.ext HX0.out)
  have hn2 := hn
  obtain ⟨n, hnn⟩ : ∃ n, M.length = n := ⟨_, rfl⟩
  have HN := Lib.hid hnn
  rw [hnn] at hn HA ⊢
  obtain ⟨kp', hk⟩ : ∃ k, (piecesB ep).length = k := ⟨_, rfl⟩
  have hmayd := piecesB_may ep
  rw [hk] at hmayd
  unfold TextsR at HPc
  rw [hk] at HPc
  clear hk
  go_enter Tryz.func54, Tryz.ntmps54
  by_cases hk0 : kp' = 0
  · subst hk0
    have HBad := Lib.hid (edit_bad (R := M.map Ent.row) (E := ⟨2, ep, ea, ew, en, et⟩) (.inl (by rw [hmayd]; rfl)))
    clear hmayd hM hG hnn
    go_wp2_with (go_at_call 36; refine (HPc.out _).mono ?_; rintro e w1 ⟨pp, cc, rfl, h1, x1⟩; have HX1 := Lib.hid (HX0.out.trans x1); clear x1 h1)
    exact bodyPost_ret (results_tmp3 rfl _ _ _) rfl (.inr ⟨p, c, n, by rw [HBad.out]; rfl, by rw [HBad.out]; decide, HX1.out⟩)
  · have hkf : ((kp' : Int) == 0) = false := by simpa using (by omega : ¬ (kp' : Int) = 0)
    have hmay : mayB ep.data.toList = true := by rw [hmayd]; exact decide_eq_true (by omega)
    obtain ⟨⟨m, L⟩, hcell⟩ : ∃ x, cellR (M.map Ent.row) ep = x := ⟨_, rfl⟩
    have hgc := GoodR.cell hG.each ep
    rw [hcell] at hgc
    have hm := hgc.2
    have hL8 := (mayL_iff.1 hgc.1).1
    dsimp only at hm hL8
    obtain ⟨⟨oe, ol, oL⟩, hout⟩ : ∃ o, delL m L ea ew = o := ⟨_, rfl⟩
    have hed1 : (editR (M.map Ent.row) ⟨2, ep, ea, ew, en, et⟩).1 = ⟨oe, ol, oL⟩ := by
      show outR (cellR _ _).1 (cellR _ _).2 _ = _
      rw [hcell]
      unfold outR
      dsimp only
      rw [if_pos hmay, if_neg (by decide : ¬ (2 : Nat) = 1), if_pos rfl]
      exact hout
    have HEd1 := Lib.hid hed1
    have HCell := Lib.hid hcell
    obtain ⟨l, hl⟩ : ∃ l, L.length = l := ⟨_, rfl⟩
    have HLl := Lib.hid hl
    have HCo : Hid (∀ u q cq, VersP u q L → Calls Tryz.prog 78 #[.agg #[.int .u64 (m : Int), .slice q l cq], .bool ea, .int .u64 (ew : Int)] u fun e w' => ∃ q2, (∃ c2, e = .returned (.tuple #[.agg #[.int .u64 (ol : Int), .slice q2 oL.length c2], .int .i64 (oe : Int)])) ∧ VersP w' q2 oL ∧ Kin u q L q2 oL ∧ Ext u w') := Lib.hid (fun u q cq h => by
      have y := Ext.refl u
      have := rdel_any u m q cq L (h.ext y) (by omega) hm ea ew
      rw [hout, hl] at this
      refine this.mono ?_
      rintro e w' ⟨q2, h1, h2, h4, h3⟩
      exact ⟨q2, h1, h2, h4, h3⟩)
    have HG := Lib.hid hG
    have HNl := Lib.hid hnn
    have HPw := Lib.hid hM
    have HLk : Hid (∀ (j : Nat) (x : Ent), M[j]? = some x → x.p = ep → m = x.m ∧ L = x.L) := Lib.hid (fun j x hx e => by
      have hlk := lookR_of hG.up (List.mem_map.2 ⟨x, List.mem_of_getElem? hx, rfl⟩)
      have h2 := cellR_some hlk
      rw [show x.row.p = ep from e, hcell] at h2
      simpa [Ent.row] using h2)
    have HNo : Hid ((∀ y ∈ M, y.p ≠ ep) → m = 0 ∧ L = []) := Lib.hid (fun hno => by
      have h2 := cellR_none (R := M.map Ent.row) (p := ep) (lookR_none.2 fun x hx => by
        obtain ⟨y, hy, rfl⟩ := List.mem_map.1 hx
        exact hno y hy)
      rw [hcell] at h2
      simpa using h2)
    clear hmayd hM hG hnn hcell hgc hed1 hl hout hL8 hm hk0
    go_upto_region 5 with (first
      | (go_at_call 36; refine (HPc.out _).mono ?_; rintro e w1 ⟨pp, cc, rfl, h1, x1⟩; have HX1 := Lib.hid x1; have HB1 := Lib.hid ((HB0.out.ext x1).alloc (.cells #[.int .u64 0, .slice none 0 0] 55)); have HZ1 := Lib.hid (Blk.new w1 [.int .u64 0, .slice none 0 0] 55); have HXz := Lib.hid (HX1.out.alloc (.cells #[.int .u64 0, .slice none 0 0] 55)); have e1 := HB1.out.cell 1 _ rfl; have z0 := HZ1.out.frozen 0; have z1 := HZ1.out.frozen 1; have y0 := HZ1.out.cell 0 _ rfl; have y1 := HZ1.out.cell 1 _ rfl; clear x1 h1)
      | (go_at_call 37; refine (HA.out _ (HX0.out.trans HXz.out)).mono ?_; rintro e w2 ⟨rfl, hq⟩; have HQ := Lib.hid hq; clear hq; obtain ⟨ki, rfl, HKi⟩ := at_split HQ.out; have HK := Lib.hid HKi; clear HKi))
    rcases HK.out with ⟨j, x, rfl, hx, hxp⟩ | ⟨rfl, hno⟩
    · obtain ⟨rfl, rfl⟩ := HLk.out j x hx hxp
      obtain ⟨pa, rfl, c0, c1, c2⟩ := HP.out.three HXz.out hx
      have hv := HP.out.2 _ (List.mem_of_getElem? hx)
      have hjn : j < n := by have := (List.getElem?_eq_some_iff.1 hx).1; have := HNl.out; omega
      have HMe := Lib.hid (show ∃ y ∈ M, y.a = x.a ∧ y.L = x.L from ⟨x, List.mem_of_getElem? hx, rfl, rfl⟩)
      obtain ⟨xp, m, L, q, cq⟩ := x
      dsimp only at c0 c1 c2 hv HLl HCo HMe
      have HKi : Hid (∀ (u : World) {q2 : Option Addr}, Kin u q L q2 oL → (w.alloc (.cells #[.int .u8 2, .string ep, .bool ea, .int .u64 (ew : Int), .int .u64 (en : Int), .string et] 62)).heap.size ≤ u.heap.size → (∃ y ∈ M, q2 = y.a ∧ oL = y.L) ∨ NewP w q2) := Lib.hid (fun u q2 hk hu => by
        rcases hk with ⟨rfl, rfl⟩ | hk
        · obtain ⟨y, hy, h1, h2⟩ := HMe.out
          exact .inl ⟨y, hy, h1.symm, h2.symm⟩
        · exact .inr fun a e => Nat.le_trans (Nat.le_trans HX0.out.size hu) (hk a e))
      rw [HLl.out] at c2
      have HVw := Lib.hid hv
      clear hx hxp hv HQ HK HLk HNo
      go_upto_region 7 with (fail)
      have HBz := Lib.hid (Blk.new w1 [.int .u64 (m : Int), .slice q l cq] 55)
      have HXv := Lib.hid (HX1.out.alloc (.cells #[.int .u64 (m : Int), .slice q l cq] 55))
      have HVz := Lib.hid (HVw.out.ext HXv.out)
      clear z0 z1 y0 y1 c0 c1 c2 e1
      generalize w1.alloc (.cells #[.int .u64 (m : Int), .slice q l cq] 55) = wz at *
      have HEz := Lib.hid (HB0.out.ext HXv.out)
      have HBy := Lib.hid (HBz.out.alloc (.cells #[.int .u64 (m : Int), .slice q l cq] 55))
      have HEy := Lib.hid (HEz.out.alloc (.cells #[.int .u64 (m : Int), .slice q l cq] 55))
      have HDy := Lib.hid (Blk.new wz [.int .u64 (m : Int), .slice q l cq] 55)
      have HXy := Lib.hid (HXv.out.alloc (.cells #[.int .u64 (m : Int), .slice q l cq] 55))
      have HVy := Lib.hid (HVz.out.ext ((Ext.refl wz).alloc (.cells #[.int .u64 (m : Int), .slice q l cq] 55)))
      have x0 := HBz.out.cell 0 _ rfl
      have x1 := HBz.out.cell 1 _ rfl
      have y0 := HBy.out.cell 0 _ rfl
      have y1 := HBy.out.cell 1 _ rfl
      have g0 := HEy.out.cell 0 _ rfl
      have g1 := HEy.out.cell 1 _ rfl
      have g2 := HEy.out.cell 2 _ rfl
      have g3 := HEy.out.cell 3 _ rfl
      have g4 := HEy.out.cell 4 _ rfl
      have g5 := HEy.out.cell 5 _ rfl
      obtain ⟨ok, hok⟩ : ∃ k, oL.length = k := ⟨_, rfl⟩
      have HOk := Lib.hid hok
      rw [hok] at HCo
      clear hok
      go_upto_region 14 with (go_at_call 78; refine (HCo.out _ q cq HVy.out).mono ?_; rintro e w3 ⟨q2, ⟨c2, rfl⟩, v2, n2, x3⟩; have HKn := Lib.hid (HKi.out _ n2 HXy.out.size); have HV3 := Lib.hid v2; have HX3 := Lib.hid (HXy.out.trans x3); have HD3 := Lib.hid (HDy.out.ext x3); have d0 := HD3.out.cell 0 _ rfl; have d1 := HD3.out.cell 1 _ rfl; have f0 := HD3.out.frozen 0; have f1 := HD3.out.frozen 1; clear v2 n2 x3)
      have HDv := Lib.hid ((HD3.out.set_ 0 (.int .u64 (ol : Int))).set_ 1 (.slice q2 ok c2))
      have HXu := Lib.hid ((HX3.out.setCell (p := ⟨wz.heap.size, 0, none⟩) HXv.out.size (.int .u64 (ol : Int))).setCell (p := ⟨wz.heap.size, 1, none⟩) HXv.out.size (.slice q2 ok c2))
      have HVu := Lib.hid ((HV3.out.cellSet HD3.out (by simp) 0 (.int .u64 (ol : Int))).cellSet (HD3.out.set_ 0 (.int .u64 (ol : Int))) (by simp) 1 (.slice q2 ok c2))
      clear x0 x1 y0 y1 d0 d1 f0 f1 g0 g1 g2 g3 g4 g5
      generalize (w3.setCell ⟨wz.heap.size, 0, none⟩ (.int .u64 (ol : Int))).setCell ⟨wz.heap.size, 1, none⟩ (.slice q2 ok c2) = V at *
      by_cases hoe : oe = 0
      · subst hoe
        have HWi := Lib.hid (fun u (x : Ext V u) => rwith_any u (some pa) c M (HPw.out.ext (HX0.out.trans (HXu.out.trans x))) (by omega) ⟨ep, ol, oL, q2, c2⟩ (HVu.out.ext x))
        rw [HNl.out] at HWi
        dsimp only at HWi
        rw [HOk.out] at HWi
        have HFi : Hid ((withE ⟨ep, ol, oL, q2, c2⟩ false M).map Ent.row = (editR (M.map Ent.row) ⟨2, ep, ea, ew, en, et⟩).2) := Lib.hid (by rw [withE_is HG.out.up, edit_fine (by rw [HEd1.out]), HEd1.out]; rfl)
        have HFm := Lib.hid (fun e (he : e ∈ withE ⟨ep, ol, oL, q2, c2⟩ false M) => withE_mem he)
        generalize withE ⟨ep, ol, oL, q2, c2⟩ false M = F at *
        have HS := Lib.hid (fun u (x : Ext V u) => (show u.cell? ⟨w.heap.size, 1, none⟩ = some (.string ep) ∧ u.cell? ⟨wz.heap.size, 0, none⟩ = some (.int .u64 (ol : Int)) ∧ u.cell? ⟨wz.heap.size, 1, none⟩ = some (.slice q2 ok c2) ∧ Ext V u from ⟨((HB0.out.ext HXu.out).ext x).cell 1 _ rfl, (HDv.out.ext x).cell 0 _ rfl, (HDv.out.ext x).cell 1 _ rfl, x⟩))
        have hE : Ext V V.drew := (Ext.refl _).drew
        have hS0 := HS.out _ (Ext.refl V)
        have hS := HS.out _ hE
        go_upto_region 16 with (fail)
        go_region_held3 (fun u => u.cell? ⟨w.heap.size, 1, none⟩ = some (.string ep) ∧ u.cell? ⟨wz.heap.size, 0, none⟩ = some (.int .u64 (ol : Int)) ∧ u.cell? ⟨wz.heap.size, 1, none⟩ = some (.slice q2 ok c2) ∧ Ext V u) (first | with_reducible exact hS | with_reducible exact hS0 | assumption | go_keep) (first | (go_at_call 56; refine (HWi.out _ hE).mono ?_; rintro e w6 ⟨pq, cp, rfl, r6, n6, xx⟩; have HN6 : Hid (NewP w pq) := Lib.hid (fun a e => Nat.le_trans (HX0.out.trans (HXu.out.trans hE)).size (n6.1 a e)); have HL6 := Lib.hid n6.2; have HR6 := Lib.hid r6; have HX6 := Lib.hid (HX0.out.trans (HXu.out.trans (hE.trans xx))); have hE := hE.trans xx; have hS := HS.out _ hE; clear xx r6 n6))
        all_goals
          go_wp2
          exact bodyPost_ret (results_tmp3 rfl _ _ _) rfl (.inl ⟨pq, cp, F, by rw [HEd1.out]; rfl, by rw [HEd1.out], HFi.out, HR6.out, ⟨HN6.out, fun e he => by
          rcases HFm.out e he with rfl | he
          · exact HKn.out
          · exact .inl ⟨e, he, rfl, rfl⟩, HL6.out⟩, HX6.out⟩)
      · have hne : ((oe : Int) != 0) = true := by have : ¬ (oe : Int) = 0 := (by omega); simpa using this
        go_wp2
        exact bodyPost_ret (results_tmp3 rfl _ _ _) rfl (.inr ⟨(some pa), c, n, by rw [HEd1.out]; rfl, by rw [HEd1.out]; exact hoe, HX0.out.trans HXu.out⟩)
    · obtain ⟨rfl, rfl⟩ := HNo.out hno
      have HKi : Hid (∀ (u : World) {q2 : Option Addr}, Kin u none [] q2 oL → (w.alloc (.cells #[.int .u8 2, .string ep, .bool ea, .int .u64 (ew : Int), .int .u64 (en : Int), .string et] 62)).heap.size ≤ u.heap.size → (∃ y ∈ M, q2 = y.a ∧ oL = y.L) ∨ NewP w q2) := Lib.hid (fun u q2 hk hu => by
        rcases hk with ⟨rfl, rfl⟩ | hk
        · exact .inr fun a e => by cases e
        · exact .inr fun a e => Nat.le_trans (Nat.le_trans HX0.out.size hu) (hk a e))
      have hl0 := HLl.out
      simp only [List.length_nil] at hl0
      subst hl0
      clear hno HQ HK HLk HNo
      go_upto_region 7 with (fail)
      obtain ⟨q, hq⟩ : ∃ q : Option Addr, none = q := ⟨_, rfl⟩
      have HVz := Lib.hid (VersP.nil (w1.alloc (.cells #[.int .u64 0, .slice none 0 0] 55)) none)
      have HBz := HZ1
      have HXv := HXz
      clear z0 z1 y0 y1 e1 hq q
      generalize w1.alloc (.cells #[.int .u64 0, .slice none 0 0] 55) = wz at *
      have HEz := Lib.hid (HB0.out.ext HXv.out)
      have HBy := Lib.hid (HBz.out.alloc (.cells #[.int .u64 0, .slice none 0 0] 55))
      have HEy := Lib.hid (HEz.out.alloc (.cells #[.int .u64 0, .slice none 0 0] 55))
      have HDy := Lib.hid (Blk.new wz [.int .u64 0, .slice none 0 0] 55)
      have HXy := Lib.hid (HXv.out.alloc (.cells #[.int .u64 0, .slice none 0 0] 55))
      have HVy := Lib.hid (HVz.out.ext ((Ext.refl wz).alloc (.cells #[.int .u64 0, .slice none 0 0] 55)))
      have x0 := HBz.out.cell 0 _ rfl
      have x1 := HBz.out.cell 1 _ rfl
      have y0 := HBy.out.cell 0 _ rfl
      have y1 := HBy.out.cell 1 _ rfl
      have g0 := HEy.out.cell 0 _ rfl
      have g1 := HEy.out.cell 1 _ rfl
      have g2 := HEy.out.cell 2 _ rfl
      have g3 := HEy.out.cell 3 _ rfl
      have g4 := HEy.out.cell 4 _ rfl
      have g5 := HEy.out.cell 5 _ rfl
      obtain ⟨ok, hok⟩ : ∃ k, oL.length = k := ⟨_, rfl⟩
      have HOk := Lib.hid hok
      rw [hok] at HCo
      clear hok
      go_upto_region 14 with (go_at_call 78; refine (HCo.out _ none 0 HVy.out).mono ?_; rintro e w3 ⟨q2, ⟨c2, rfl⟩, v2, n2, x3⟩; have HKn := Lib.hid (HKi.out _ n2 HXy.out.size); have HV3 := Lib.hid v2; have HX3 := Lib.hid (HXy.out.trans x3); have HD3 := Lib.hid (HDy.out.ext x3); have d0 := HD3.out.cell 0 _ rfl; have d1 := HD3.out.cell 1 _ rfl; have f0 := HD3.out.frozen 0; have f1 := HD3.out.frozen 1; clear v2 n2 x3)
      have HDv := Lib.hid ((HD3.out.set_ 0 (.int .u64 (ol : Int))).set_ 1 (.slice q2 ok c2))
      have HXu := Lib.hid ((HX3.out.setCell (p := ⟨wz.heap.size, 0, none⟩) HXv.out.size (.int .u64 (ol : Int))).setCell (p := ⟨wz.heap.size, 1, none⟩) HXv.out.size (.slice q2 ok c2))
      have HVu := Lib.hid ((HV3.out.cellSet HD3.out (by simp) 0 (.int .u64 (ol : Int))).cellSet (HD3.out.set_ 0 (.int .u64 (ol : Int))) (by simp) 1 (.slice q2 ok c2))
      clear x0 x1 y0 y1 d0 d1 f0 f1 g0 g1 g2 g3 g4 g5
      generalize (w3.setCell ⟨wz.heap.size, 0, none⟩ (.int .u64 (ol : Int))).setCell ⟨wz.heap.size, 1, none⟩ (.slice q2 ok c2) = V at *
      by_cases hoe : oe = 0
      · subst hoe
        have HWi := Lib.hid (fun u (x : Ext V u) => rwith_any u p c M (HPw.out.ext (HX0.out.trans (HXu.out.trans x))) (by omega) ⟨ep, ol, oL, q2, c2⟩ (HVu.out.ext x))
        rw [HNl.out] at HWi
        dsimp only at HWi
        rw [HOk.out] at HWi
        have HFi : Hid ((withE ⟨ep, ol, oL, q2, c2⟩ false M).map Ent.row = (editR (M.map Ent.row) ⟨2, ep, ea, ew, en, et⟩).2) := Lib.hid (by rw [withE_is HG.out.up, edit_fine (by rw [HEd1.out]), HEd1.out]; rfl)
        have HFm := Lib.hid (fun e (he : e ∈ withE ⟨ep, ol, oL, q2, c2⟩ false M) => withE_mem he)
        generalize withE ⟨ep, ol, oL, q2, c2⟩ false M = F at *
        have HS := Lib.hid (fun u (x : Ext V u) => (show u.cell? ⟨w.heap.size, 1, none⟩ = some (.string ep) ∧ u.cell? ⟨wz.heap.size, 0, none⟩ = some (.int .u64 (ol : Int)) ∧ u.cell? ⟨wz.heap.size, 1, none⟩ = some (.slice q2 ok c2) ∧ Ext V u from ⟨((HB0.out.ext HXu.out).ext x).cell 1 _ rfl, (HDv.out.ext x).cell 0 _ rfl, (HDv.out.ext x).cell 1 _ rfl, x⟩))
        have hE : Ext V V.drew := (Ext.refl _).drew
        have hS0 := HS.out _ (Ext.refl V)
        have hS := HS.out _ hE
        go_upto_region 16 with (fail)
        go_region_held3 (fun u => u.cell? ⟨w.heap.size, 1, none⟩ = some (.string ep) ∧ u.cell? ⟨wz.heap.size, 0, none⟩ = some (.int .u64 (ol : Int)) ∧ u.cell? ⟨wz.heap.size, 1, none⟩ = some (.slice q2 ok c2) ∧ Ext V u) (first | with_reducible exact hS | with_reducible exact hS0 | assumption | go_keep) (first | (go_at_call 56; refine (HWi.out _ hE).mono ?_; rintro e w6 ⟨pq, cp, rfl, r6, n6, xx⟩; have HN6 : Hid (NewP w pq) := Lib.hid (fun a e => Nat.le_trans (HX0.out.trans (HXu.out.trans hE)).size (n6.1 a e)); have HL6 := Lib.hid n6.2; have HR6 := Lib.hid r6; have HX6 := Lib.hid (HX0.out.trans (HXu.out.trans (hE.trans xx))); have hE := hE.trans xx; have hS := HS.out _ hE; clear xx r6 n6))
        all_goals
          go_wp2
          exact bodyPost_ret (results_tmp3 rfl _ _ _) rfl (.inl ⟨pq, cp, F, by rw [HEd1.out]; rfl, by rw [HEd1.out], HFi.out, HR6.out, ⟨HN6.out, fun e he => by
          rcases HFm.out e he with rfl | he
          · exact HKn.out
          · exact .inl ⟨e, he, rfl, rfl⟩, HL6.out⟩, HX6.out⟩)
      · have hne : ((oe : Int) != 0) = true := by have : ¬ (oe : Int) = 0 := (by omega); simpa using this
        go_wp2
        exact bodyPost_ret (results_tmp3 rfl _ _ _) rfl (.inr ⟨p, c, n, by rw [HEd1.out]; rfl, by rw [HEd1.out]; exact hoe, HX0.out.trans HXu.out⟩)

set_option maxRecDepth 100000 in
set_option maxHeartbeats 8000000 in
theorem rone3_any (w : World) (p : Option Addr) (c : Nat) (M : List Ent) (hM : RowsP w p M) (hG : GoodR (M.map Ent.row)) (hn : M.length ≤ 100000) (ep : ByteArray) (ea : Bool) (ew en : Nat) (et : ByteArray) (hp : ep.size ≤ 140737488351232) (_ht : et.size ≤ 140737488351232) :
    Calls Tryz.prog 54 #[.slice p M.length c, .agg #[.int .u8 3, .string ep, .bool ea, .int .u64 (ew : Int), .int .u64 (en : Int), .string et]] w (OneP M ⟨3, ep, ea, ew, en, et⟩ w) := by
  have HPc := Lib.hid (fun u => rPieces_any ep hp u)
  have HA := Lib.hid (fun u (x : Ext w u) => rtat_any u p c M (hM.ext x) (by omega) ep)
  have HX0 := Lib.hid ((Ext.refl w).alloc (.cells #[.int .u8 3, .string ep, .bool ea, .int .u64 (ew : Int), .int .u64 (en : Int), .string et] 62))
  have HB0 := Lib.hid (Blk.new w [.int .u8 3, .string ep, .bool ea, .int .u64 (ew : Int), .int .u64 (en : Int), .string et] 62)
  have HP := Lib.hid (hM.ext HX0.out)
  have hn2 := hn
  obtain ⟨n, hnn⟩ : ∃ n, M.length = n := ⟨_, rfl⟩
  have HN := Lib.hid hnn
  rw [hnn] at hn HA ⊢
  obtain ⟨kp', hk⟩ : ∃ k, (piecesB ep).length = k := ⟨_, rfl⟩
  have hmayd := piecesB_may ep
  rw [hk] at hmayd
  unfold TextsR at HPc
  rw [hk] at HPc
  clear hk
  go_enter Tryz.func54, Tryz.ntmps54
  by_cases hk0 : kp' = 0
  · subst hk0
    have HBad := Lib.hid (edit_bad (R := M.map Ent.row) (E := ⟨3, ep, ea, ew, en, et⟩) (.inl (by rw [hmayd]; rfl)))
    clear hmayd hM hG hnn
    go_wp2_with (go_at_call 36; refine (HPc.out _).mono ?_; rintro e w1 ⟨pp, cc, rfl, h1, x1⟩; have HX1 := Lib.hid (HX0.out.trans x1); clear x1 h1)
    exact bodyPost_ret (results_tmp3 rfl _ _ _) rfl (.inr ⟨p, c, n, by rw [HBad.out]; rfl, by rw [HBad.out]; decide, HX1.out⟩)
  · have hkf : ((kp' : Int) == 0) = false := by simpa using (by omega : ¬ (kp' : Int) = 0)
    have hmay : mayB ep.data.toList = true := by rw [hmayd]; exact decide_eq_true (by omega)
    obtain ⟨⟨m, L⟩, hcell⟩ : ∃ x, cellR (M.map Ent.row) ep = x := ⟨_, rfl⟩
    have hgc := GoodR.cell hG.each ep
    rw [hcell] at hgc
    have hm := hgc.2
    have hL8 := (mayL_iff.1 hgc.1).1
    dsimp only at hm hL8
    obtain ⟨⟨oe, ol, oL⟩, hout⟩ : ∃ o, desL m L en = o := ⟨_, rfl⟩
    have hed1 : (editR (M.map Ent.row) ⟨3, ep, ea, ew, en, et⟩).1 = ⟨oe, ol, oL⟩ := by
      show outR (cellR _ _).1 (cellR _ _).2 _ = _
      rw [hcell]
      unfold outR
      dsimp only
      rw [if_pos hmay, if_neg (by decide : ¬ (3 : Nat) = 1), if_neg (by decide : ¬ (3 : Nat) = 2), if_pos rfl]
      exact hout
    have HEd1 := Lib.hid hed1
    have HCell := Lib.hid hcell
    obtain ⟨l, hl⟩ : ∃ l, L.length = l := ⟨_, rfl⟩
    have HLl := Lib.hid hl
    have HCo : Hid (∀ u q cq, VersP u q L → Calls Tryz.prog 79 #[.agg #[.int .u64 (m : Int), .slice q l cq], .int .u64 (en : Int)] u fun e w' => ∃ q2, (∃ c2, e = .returned (.tuple #[.agg #[.int .u64 (ol : Int), .slice q2 oL.length c2], .int .i64 (oe : Int)])) ∧ VersP w' q2 oL ∧ Kin u q L q2 oL ∧ Ext u w') := Lib.hid (fun u q cq h => by
      have y := Ext.refl u
      have := rdes_any u m q cq L (h.ext y) (by omega) en
      rw [hout, hl] at this
      refine this.mono ?_
      rintro e w' ⟨q2, h1, h2, h4, h3⟩
      exact ⟨q2, h1, h2, h4, h3⟩)
    have HG := Lib.hid hG
    have HNl := Lib.hid hnn
    have HPw := Lib.hid hM
    have HLk : Hid (∀ (j : Nat) (x : Ent), M[j]? = some x → x.p = ep → m = x.m ∧ L = x.L) := Lib.hid (fun j x hx e => by
      have hlk := lookR_of hG.up (List.mem_map.2 ⟨x, List.mem_of_getElem? hx, rfl⟩)
      have h2 := cellR_some hlk
      rw [show x.row.p = ep from e, hcell] at h2
      simpa [Ent.row] using h2)
    have HNo : Hid ((∀ y ∈ M, y.p ≠ ep) → m = 0 ∧ L = []) := Lib.hid (fun hno => by
      have h2 := cellR_none (R := M.map Ent.row) (p := ep) (lookR_none.2 fun x hx => by
        obtain ⟨y, hy, rfl⟩ := List.mem_map.1 hx
        exact hno y hy)
      rw [hcell] at h2
      simpa using h2)
    clear hmayd hM hG hnn hcell hgc hed1 hl hout hL8 hm hk0
    go_upto_region 5 with (first
      | (go_at_call 36; refine (HPc.out _).mono ?_; rintro e w1 ⟨pp, cc, rfl, h1, x1⟩; have HX1 := Lib.hid x1; have HB1 := Lib.hid ((HB0.out.ext x1).alloc (.cells #[.int .u64 0, .slice none 0 0] 55)); have HZ1 := Lib.hid (Blk.new w1 [.int .u64 0, .slice none 0 0] 55); have HXz := Lib.hid (HX1.out.alloc (.cells #[.int .u64 0, .slice none 0 0] 55)); have e1 := HB1.out.cell 1 _ rfl; have z0 := HZ1.out.frozen 0; have z1 := HZ1.out.frozen 1; have y0 := HZ1.out.cell 0 _ rfl; have y1 := HZ1.out.cell 1 _ rfl; clear x1 h1)
      | (go_at_call 37; refine (HA.out _ (HX0.out.trans HXz.out)).mono ?_; rintro e w2 ⟨rfl, hq⟩; have HQ := Lib.hid hq; clear hq; obtain ⟨ki, rfl, HKi⟩ := at_split HQ.out; have HK := Lib.hid HKi; clear HKi))
    rcases HK.out with ⟨j, x, rfl, hx, hxp⟩ | ⟨rfl, hno⟩
    · obtain ⟨rfl, rfl⟩ := HLk.out j x hx hxp
      obtain ⟨pa, rfl, c0, c1, c2⟩ := HP.out.three HXz.out hx
      have hv := HP.out.2 _ (List.mem_of_getElem? hx)
      have hjn : j < n := by have := (List.getElem?_eq_some_iff.1 hx).1; have := HNl.out; omega
      have HMe := Lib.hid (show ∃ y ∈ M, y.a = x.a ∧ y.L = x.L from ⟨x, List.mem_of_getElem? hx, rfl, rfl⟩)
      obtain ⟨xp, m, L, q, cq⟩ := x
      dsimp only at c0 c1 c2 hv HLl HCo HMe
      have HKi : Hid (∀ (u : World) {q2 : Option Addr}, Kin u q L q2 oL → (w.alloc (.cells #[.int .u8 3, .string ep, .bool ea, .int .u64 (ew : Int), .int .u64 (en : Int), .string et] 62)).heap.size ≤ u.heap.size → (∃ y ∈ M, q2 = y.a ∧ oL = y.L) ∨ NewP w q2) := Lib.hid (fun u q2 hk hu => by
        rcases hk with ⟨rfl, rfl⟩ | hk
        · obtain ⟨y, hy, h1, h2⟩ := HMe.out
          exact .inl ⟨y, hy, h1.symm, h2.symm⟩
        · exact .inr fun a e => Nat.le_trans (Nat.le_trans HX0.out.size hu) (hk a e))
      rw [HLl.out] at c2
      have HVw := Lib.hid hv
      clear hx hxp hv HQ HK HLk HNo
      go_upto_region 7 with (fail)
      have HBz := Lib.hid (Blk.new w1 [.int .u64 (m : Int), .slice q l cq] 55)
      have HXv := Lib.hid (HX1.out.alloc (.cells #[.int .u64 (m : Int), .slice q l cq] 55))
      have HVz := Lib.hid (HVw.out.ext HXv.out)
      clear z0 z1 y0 y1 c0 c1 c2 e1
      generalize w1.alloc (.cells #[.int .u64 (m : Int), .slice q l cq] 55) = wz at *
      have HEz := Lib.hid (HB0.out.ext HXv.out)
      have HBy := Lib.hid (HBz.out.alloc (.cells #[.int .u64 (m : Int), .slice q l cq] 55))
      have HEy := Lib.hid (HEz.out.alloc (.cells #[.int .u64 (m : Int), .slice q l cq] 55))
      have HDy := Lib.hid (Blk.new wz [.int .u64 (m : Int), .slice q l cq] 55)
      have HXy := Lib.hid (HXv.out.alloc (.cells #[.int .u64 (m : Int), .slice q l cq] 55))
      have HVy := Lib.hid (HVz.out.ext ((Ext.refl wz).alloc (.cells #[.int .u64 (m : Int), .slice q l cq] 55)))
      have x0 := HBz.out.cell 0 _ rfl
      have x1 := HBz.out.cell 1 _ rfl
      have y0 := HBy.out.cell 0 _ rfl
      have y1 := HBy.out.cell 1 _ rfl
      have g0 := HEy.out.cell 0 _ rfl
      have g1 := HEy.out.cell 1 _ rfl
      have g2 := HEy.out.cell 2 _ rfl
      have g3 := HEy.out.cell 3 _ rfl
      have g4 := HEy.out.cell 4 _ rfl
      have g5 := HEy.out.cell 5 _ rfl
      obtain ⟨ok, hok⟩ : ∃ k, oL.length = k := ⟨_, rfl⟩
      have HOk := Lib.hid hok
      rw [hok] at HCo
      clear hok
      go_upto_region 14 with (go_at_call 79; refine (HCo.out _ q cq HVy.out).mono ?_; rintro e w3 ⟨q2, ⟨c2, rfl⟩, v2, n2, x3⟩; have HKn := Lib.hid (HKi.out _ n2 HXy.out.size); have HV3 := Lib.hid v2; have HX3 := Lib.hid (HXy.out.trans x3); have HD3 := Lib.hid (HDy.out.ext x3); have d0 := HD3.out.cell 0 _ rfl; have d1 := HD3.out.cell 1 _ rfl; have f0 := HD3.out.frozen 0; have f1 := HD3.out.frozen 1; clear v2 n2 x3)
      have HDv := Lib.hid ((HD3.out.set_ 0 (.int .u64 (ol : Int))).set_ 1 (.slice q2 ok c2))
      have HXu := Lib.hid ((HX3.out.setCell (p := ⟨wz.heap.size, 0, none⟩) HXv.out.size (.int .u64 (ol : Int))).setCell (p := ⟨wz.heap.size, 1, none⟩) HXv.out.size (.slice q2 ok c2))
      have HVu := Lib.hid ((HV3.out.cellSet HD3.out (by simp) 0 (.int .u64 (ol : Int))).cellSet (HD3.out.set_ 0 (.int .u64 (ol : Int))) (by simp) 1 (.slice q2 ok c2))
      clear x0 x1 y0 y1 d0 d1 f0 f1 g0 g1 g2 g3 g4 g5
      generalize (w3.setCell ⟨wz.heap.size, 0, none⟩ (.int .u64 (ol : Int))).setCell ⟨wz.heap.size, 1, none⟩ (.slice q2 ok c2) = V at *
      by_cases hoe : oe = 0
      · subst hoe
        have HWi := Lib.hid (fun u (x : Ext V u) => rwith_any u (some pa) c M (HPw.out.ext (HX0.out.trans (HXu.out.trans x))) (by omega) ⟨ep, ol, oL, q2, c2⟩ (HVu.out.ext x))
        rw [HNl.out] at HWi
        dsimp only at HWi
        rw [HOk.out] at HWi
        have HFi : Hid ((withE ⟨ep, ol, oL, q2, c2⟩ false M).map Ent.row = (editR (M.map Ent.row) ⟨3, ep, ea, ew, en, et⟩).2) := Lib.hid (by rw [withE_is HG.out.up, edit_fine (by rw [HEd1.out]), HEd1.out]; rfl)
        have HFm := Lib.hid (fun e (he : e ∈ withE ⟨ep, ol, oL, q2, c2⟩ false M) => withE_mem he)
        generalize withE ⟨ep, ol, oL, q2, c2⟩ false M = F at *
        have HS := Lib.hid (fun u (x : Ext V u) => (show u.cell? ⟨w.heap.size, 1, none⟩ = some (.string ep) ∧ u.cell? ⟨wz.heap.size, 0, none⟩ = some (.int .u64 (ol : Int)) ∧ u.cell? ⟨wz.heap.size, 1, none⟩ = some (.slice q2 ok c2) ∧ Ext V u from ⟨((HB0.out.ext HXu.out).ext x).cell 1 _ rfl, (HDv.out.ext x).cell 0 _ rfl, (HDv.out.ext x).cell 1 _ rfl, x⟩))
        have hE : Ext V V.drew := (Ext.refl _).drew
        have hS0 := HS.out _ (Ext.refl V)
        have hS := HS.out _ hE
        go_upto_region 16 with (fail)
        go_region_held3 (fun u => u.cell? ⟨w.heap.size, 1, none⟩ = some (.string ep) ∧ u.cell? ⟨wz.heap.size, 0, none⟩ = some (.int .u64 (ol : Int)) ∧ u.cell? ⟨wz.heap.size, 1, none⟩ = some (.slice q2 ok c2) ∧ Ext V u) (first | with_reducible exact hS | with_reducible exact hS0 | assumption | go_keep) (first | (go_at_call 56; refine (HWi.out _ hE).mono ?_; rintro e w6 ⟨pq, cp, rfl, r6, n6, xx⟩; have HN6 : Hid (NewP w pq) := Lib.hid (fun a e => Nat.le_trans (HX0.out.trans (HXu.out.trans hE)).size (n6.1 a e)); have HL6 := Lib.hid n6.2; have HR6 := Lib.hid r6; have HX6 := Lib.hid (HX0.out.trans (HXu.out.trans (hE.trans xx))); have hE := hE.trans xx; have hS := HS.out _ hE; clear xx r6 n6))
        all_goals
          go_wp2
          exact bodyPost_ret (results_tmp3 rfl _ _ _) rfl (.inl ⟨pq, cp, F, by rw [HEd1.out]; rfl, by rw [HEd1.out], HFi.out, HR6.out, ⟨HN6.out, fun e he => by
          rcases HFm.out e he with rfl | he
          · exact HKn.out
          · exact .inl ⟨e, he, rfl, rfl⟩, HL6.out⟩, HX6.out⟩)
      · have hne : ((oe : Int) != 0) = true := by have : ¬ (oe : Int) = 0 := (by omega); simpa using this
        go_wp2
        exact bodyPost_ret (results_tmp3 rfl _ _ _) rfl (.inr ⟨(some pa), c, n, by rw [HEd1.out]; rfl, by rw [HEd1.out]; exact hoe, HX0.out.trans HXu.out⟩)
    · obtain ⟨rfl, rfl⟩ := HNo.out hno
      have HKi : Hid (∀ (u : World) {q2 : Option Addr}, Kin u none [] q2 oL → (w.alloc (.cells #[.int .u8 3, .string ep, .bool ea, .int .u64 (ew : Int), .int .u64 (en : Int), .string et] 62)).heap.size ≤ u.heap.size → (∃ y ∈ M, q2 = y.a ∧ oL = y.L) ∨ NewP w q2) := Lib.hid (fun u q2 hk hu => by
        rcases hk with ⟨rfl, rfl⟩ | hk
        · exact .inr fun a e => by cases e
        · exact .inr fun a e => Nat.le_trans (Nat.le_trans HX0.out.size hu) (hk a e))
      have hl0 := HLl.out
      simp only [List.length_nil] at hl0
      subst hl0
      clear hno HQ HK HLk HNo
      go_upto_region 7 with (fail)
      obtain ⟨q, hq⟩ : ∃ q : Option Addr, none = q := ⟨_, rfl⟩
      have HVz := Lib.hid (VersP.nil (w1.alloc (.cells #[.int .u64 0, .slice none 0 0] 55)) none)
      have HBz := HZ1
      have HXv := HXz
      clear z0 z1 y0 y1 e1 hq q
      generalize w1.alloc (.cells #[.int .u64 0, .slice none 0 0] 55) = wz at *
      have HEz := Lib.hid (HB0.out.ext HXv.out)
      have HBy := Lib.hid (HBz.out.alloc (.cells #[.int .u64 0, .slice none 0 0] 55))
      have HEy := Lib.hid (HEz.out.alloc (.cells #[.int .u64 0, .slice none 0 0] 55))
      have HDy := Lib.hid (Blk.new wz [.int .u64 0, .slice none 0 0] 55)
      have HXy := Lib.hid (HXv.out.alloc (.cells #[.int .u64 0, .slice none 0 0] 55))
      have HVy := Lib.hid (HVz.out.ext ((Ext.refl wz).alloc (.cells #[.int .u64 0, .slice none 0 0] 55)))
      have x0 := HBz.out.cell 0 _ rfl
      have x1 := HBz.out.cell 1 _ rfl
      have y0 := HBy.out.cell 0 _ rfl
      have y1 := HBy.out.cell 1 _ rfl
      have g0 := HEy.out.cell 0 _ rfl
      have g1 := HEy.out.cell 1 _ rfl
      have g2 := HEy.out.cell 2 _ rfl
      have g3 := HEy.out.cell 3 _ rfl
      have g4 := HEy.out.cell 4 _ rfl
      have g5 := HEy.out.cell 5 _ rfl
      obtain ⟨ok, hok⟩ : ∃ k, oL.length = k := ⟨_, rfl⟩
      have HOk := Lib.hid hok
      rw [hok] at HCo
      clear hok
      go_upto_region 14 with (go_at_call 79; refine (HCo.out _ none 0 HVy.out).mono ?_; rintro e w3 ⟨q2, ⟨c2, rfl⟩, v2, n2, x3⟩; have HKn := Lib.hid (HKi.out _ n2 HXy.out.size); have HV3 := Lib.hid v2; have HX3 := Lib.hid (HXy.out.trans x3); have HD3 := Lib.hid (HDy.out.ext x3); have d0 := HD3.out.cell 0 _ rfl; have d1 := HD3.out.cell 1 _ rfl; have f0 := HD3.out.frozen 0; have f1 := HD3.out.frozen 1; clear v2 n2 x3)
      have HDv := Lib.hid ((HD3.out.set_ 0 (.int .u64 (ol : Int))).set_ 1 (.slice q2 ok c2))
      have HXu := Lib.hid ((HX3.out.setCell (p := ⟨wz.heap.size, 0, none⟩) HXv.out.size (.int .u64 (ol : Int))).setCell (p := ⟨wz.heap.size, 1, none⟩) HXv.out.size (.slice q2 ok c2))
      have HVu := Lib.hid ((HV3.out.cellSet HD3.out (by simp) 0 (.int .u64 (ol : Int))).cellSet (HD3.out.set_ 0 (.int .u64 (ol : Int))) (by simp) 1 (.slice q2 ok c2))
      clear x0 x1 y0 y1 d0 d1 f0 f1 g0 g1 g2 g3 g4 g5
      generalize (w3.setCell ⟨wz.heap.size, 0, none⟩ (.int .u64 (ol : Int))).setCell ⟨wz.heap.size, 1, none⟩ (.slice q2 ok c2) = V at *
      by_cases hoe : oe = 0
      · subst hoe
        have HWi := Lib.hid (fun u (x : Ext V u) => rwith_any u p c M (HPw.out.ext (HX0.out.trans (HXu.out.trans x))) (by omega) ⟨ep, ol, oL, q2, c2⟩ (HVu.out.ext x))
        rw [HNl.out] at HWi
        dsimp only at HWi
        rw [HOk.out] at HWi
        have HFi : Hid ((withE ⟨ep, ol, oL, q2, c2⟩ false M).map Ent.row = (editR (M.map Ent.row) ⟨3, ep, ea, ew, en, et⟩).2) := Lib.hid (by rw [withE_is HG.out.up, edit_fine (by rw [HEd1.out]), HEd1.out]; rfl)
        have HFm := Lib.hid (fun e (he : e ∈ withE ⟨ep, ol, oL, q2, c2⟩ false M) => withE_mem he)
        generalize withE ⟨ep, ol, oL, q2, c2⟩ false M = F at *
        have HS := Lib.hid (fun u (x : Ext V u) => (show u.cell? ⟨w.heap.size, 1, none⟩ = some (.string ep) ∧ u.cell? ⟨wz.heap.size, 0, none⟩ = some (.int .u64 (ol : Int)) ∧ u.cell? ⟨wz.heap.size, 1, none⟩ = some (.slice q2 ok c2) ∧ Ext V u from ⟨((HB0.out.ext HXu.out).ext x).cell 1 _ rfl, (HDv.out.ext x).cell 0 _ rfl, (HDv.out.ext x).cell 1 _ rfl, x⟩))
        have hE : Ext V V.drew := (Ext.refl _).drew
        have hS0 := HS.out _ (Ext.refl V)
        have hS := HS.out _ hE
        go_upto_region 16 with (fail)
        go_region_held3 (fun u => u.cell? ⟨w.heap.size, 1, none⟩ = some (.string ep) ∧ u.cell? ⟨wz.heap.size, 0, none⟩ = some (.int .u64 (ol : Int)) ∧ u.cell? ⟨wz.heap.size, 1, none⟩ = some (.slice q2 ok c2) ∧ Ext V u) (first | with_reducible exact hS | with_reducible exact hS0 | assumption | go_keep) (first | (go_at_call 56; refine (HWi.out _ hE).mono ?_; rintro e w6 ⟨pq, cp, rfl, r6, n6, xx⟩; have HN6 : Hid (NewP w pq) := Lib.hid (fun a e => Nat.le_trans (HX0.out.trans (HXu.out.trans hE)).size (n6.1 a e)); have HL6 := Lib.hid n6.2; have HR6 := Lib.hid r6; have HX6 := Lib.hid (HX0.out.trans (HXu.out.trans (hE.trans xx))); have hE := hE.trans xx; have hS := HS.out _ hE; clear xx r6 n6))
        all_goals
          go_wp2
          exact bodyPost_ret (results_tmp3 rfl _ _ _) rfl (.inl ⟨pq, cp, F, by rw [HEd1.out]; rfl, by rw [HEd1.out], HFi.out, HR6.out, ⟨HN6.out, fun e he => by
          rcases HFm.out e he with rfl | he
          · exact HKn.out
          · exact .inl ⟨e, he, rfl, rfl⟩, HL6.out⟩, HX6.out⟩)
      · have hne : ((oe : Int) != 0) = true := by have : ¬ (oe : Int) = 0 := (by omega); simpa using this
        go_wp2
        exact bodyPost_ret (results_tmp3 rfl _ _ _) rfl (.inr ⟨p, c, n, by rw [HEd1.out]; rfl, by rw [HEd1.out]; exact hoe, HX0.out.trans HXu.out⟩)

set_option maxRecDepth 100000 in
set_option maxHeartbeats 2000000 in
theorem rone0_any (w : World) (p : Option Addr) (c : Nat) (M : List Ent) (ek : Nat) (hk : ek ≠ 1 ∧ ek ≠ 2 ∧ ek ≠ 3) (ep : ByteArray) (ea : Bool) (ew en : Nat) (et : ByteArray) :
    Calls Tryz.prog 54 #[.slice p M.length c, .agg #[.int .u8 (ek : Int), .string ep, .bool ea, .int .u64 (ew : Int), .int .u64 (en : Int), .string et]] w (OneP M ⟨ek, ep, ea, ew, en, et⟩ w) := by
  have HX0 := Lib.hid ((Ext.refl w).alloc (.cells #[.int .u8 (ek : Int), .string ep, .bool ea, .int .u64 (ew : Int), .int .u64 (en : Int), .string et] 62))
  have HB0 := Lib.hid (Blk.new w [.int .u8 (ek : Int), .string ep, .bool ea, .int .u64 (ew : Int), .int .u64 (en : Int), .string et] 62)
  have b0 := HB0.out.cell 0 _ rfl
  have HBad := Lib.hid (edit_bad (R := M.map Ent.row) (E := ⟨ek, ep, ea, ew, en, et⟩) (.inr hk))
  generalize hn : M.length = n
  by_cases h0 : ek = 0
  · subst h0
    clear hk
    go_enter Tryz.func54, Tryz.ntmps54
    go_wp2
    exact bodyPost_ret (results_tmp3 rfl _ _ _) rfl (.inr ⟨p, c, n, by rw [HBad.out]; rfl, by rw [HBad.out]; decide, HX0.out⟩)
  · have h1 : ¬ (ek : Int) < 1 := by omega
    have h1d : decide ((ek : Int) < 1) = false := decide_eq_false h1
    have h2 : (3 : Int) < (ek : Int) := by omega
    clear hk
    go_enter Tryz.func54, Tryz.ntmps54
    go_wp2
    exact bodyPost_ret (results_tmp3 rfl _ _ _) rfl (.inr ⟨p, c, n, by rw [HBad.out]; rfl, by rw [HBad.out]; decide, HX0.out⟩)
theorem rone_any (w : World) (p : Option Addr) (c : Nat) (M : List Ent) (hM : RowsP w p M) (hG : GoodR (M.map Ent.row)) (hn : M.length ≤ 100000) (E : EditP) (hp : E.p.size ≤ 140737488351232) (ht : E.t.size ≤ 140737488351232) :
    Calls Tryz.prog 54 #[.slice p M.length c, .agg E.cells.toArray] w (OneP M E w) := by
  obtain ⟨ek, ep, ea, ew, en, et⟩ := E
  by_cases h1 : ek = 1
  · subst h1; exact rone1_any w p c M hM hG hn ep ea ew en et hp ht
  · by_cases h2 : ek = 2
    · subst h2; exact rone2_any w p c M hM hG hn ep ea ew en et hp ht
    · by_cases h3 : ek = 3
      · subst h3; exact rone3_any w p c M hM hG hn ep ea ew en et hp ht
      · exact rone0_any w p c M ek ⟨h1, h2, h3⟩ ep ea ew en et
end Go.Proofs.YtkjcpjalldbahaaGreatDoor
end
