/- Contracts: what edits would do, by the program. -/
import Derived.Test.YtkjcpjalldbahaaGreatDoorM20
section
namespace Go.Proofs.YtkjcpjalldbahaaGreatDoor
open Go.RowKit Go.ChangeMaps Go.MapKept

/-- An edit's cells. -/
def EditP.cells (e : EditP) : List Value := [.int .u8 (e.k : Int), .string e.p, .bool e.any, .int .u64 (e.want : Int), .int .u64 (e.n : Int), .string e.t]
/-- The cells from the address on, if there are any, are these edits. -/
def EditsP (w : World) (p : Option Addr) (l : List EditP) : Prop := ∀ (k : Nat) (x : EditP), l[k]? = some x → ∃ a, p = some a ∧ a.block < w.heap.size ∧ ∀ (j : Nat) (v : Value), x.cells[j]? = some v → w.cell? (a.add (k * 6 + j)) = some v
section
variable {w w' : World} {p : Option Addr} {l : List EditP}
theorem EditsP.ext (h : EditsP w p l) (hx : Ext w w') : EditsP w' p l := fun k x hk => by
  obtain ⟨a, h1, h2, h4⟩ := h k x hk
  exact ⟨a, h1, Nat.lt_of_lt_of_le h2 hx.size, fun j v hv => by rw [hx.below.cell (p := a.add (k * 6 + j)) (by rw [add_blockV]; omega)]; exact h4 j v hv⟩
theorem EditsP.turn {S : Nat → Prop} (h : EditsP w p l) (f : Turn S w w') (hS : ∀ g, S g → NoV w g) : EditsP w' p l := fun k x hk => by
  obtain ⟨a, h1, h2, h3⟩ := h k x hk
  have hn : ¬ S a.block := fun q => hS _ q (a.add (k * 6 + 3)) (add_blockV _ _) _ (h3 3 _ rfl)
  refine ⟨a, h1, Nat.lt_of_lt_of_le h2 f.size, fun j v hv => ?_⟩
  rw [← h3 j v hv]
  have hbl := f.other a.block h2 hn
  unfold World.cell?
  rw [add_blockV, hbl]
theorem EditsP.six (h : EditsP w p l) (hx : Ext w w') {j : Nat} {x : EditP} (hj : l[j]? = some x) : ∃ a, p = some a ∧ w'.cell? (a.add (j * 6)) = some (.int .u8 (x.k : Int)) ∧ w'.cell? ⟨(a.add (j * 6)).block, (a.add (j * 6)).off + 1, none⟩ = some (.string x.p) ∧ w'.cell? ⟨(a.add (j * 6)).block, (a.add (j * 6)).off + 2, none⟩ = some (.bool x.any) ∧
    w'.cell? ⟨(a.add (j * 6)).block, (a.add (j * 6)).off + 3, none⟩ = some (.int .u64 (x.want : Int)) ∧ w'.cell? ⟨(a.add (j * 6)).block, (a.add (j * 6)).off + 4, none⟩ = some (.int .u64 (x.n : Int)) ∧ w'.cell? ⟨(a.add (j * 6)).block, (a.add (j * 6)).off + 5, none⟩ = some (.string x.t) := by
  obtain ⟨a, e, _, h⟩ := (h.ext hx) j x hj
  have q : ∀ (k : Nat) (v : Option Value), w'.cell? (a.add (j * 6 + (k + 1))) = v → w'.cell? ⟨(a.add (j * 6)).block, (a.add (j * 6)).off + (k + 1), none⟩ = v := fun k v hh => by
    rw [← Go.Deep.add_add] at hh
    exact hh
  exact ⟨a, e, h 0 _ rfl, q 0 _ (h 1 _ rfl), q 1 _ (h 2 _ rfl), q 2 _ (h 3 _ rfl), q 3 _ (h 4 _ rfl), q 4 _ (h 5 _ rfl)⟩
theorem IsM.keepA {lo b A : Nat} {X : List RowP} {T' : TypeId} (h : IsM w lo b X) (k : KeepA T' A w w') (hT : 41 ≠ T') : IsM w' lo b X := by
  obtain ⟨M, h⟩ := h
  refine ⟨M, h.map.same ?_, fun e he => ⟨(h.ents e he).vers.keep k.below.size fun g cur fr q => ?_, (h.ents e he).low⟩, h.rows⟩
  · obtain ⟨es, c, hb⟩ := h.map.is
    rw [hb]
    exact k.keep _ _ hb (fun _ _ e => by cases e)
  · rw [q]
    exact k.keep _ _ q (fun _ _ e => hT (by cases e; rfl))
end
section
variable {w w' : World} {lo b g : Nat} {X : List RowP} {T : TypeId} {cs : List Value}
theorem IsM.setBlk (h : IsM w lo b X) (hb : Blk w g T cs) (hT : T ≠ 41) (o : Nat) (u : Value) : IsM (w.setCell ⟨g, o, none⟩ u) lo b X := by
  have hT' : Turn (fun x => x = g) w (w.setCell ⟨g, o, none⟩ u) := Turn.setCell (S := fun x => x = g) (p := ⟨g, o, none⟩) (Turn.refl _ w) (.inl rfl) u
  have hN : ∀ x, x = g → NoT w x := fun x e => by subst e; exact NoT.blk hb hT
  refine h.turn hT' (fun e => ?_) hN
  obtain ⟨M, hm⟩ := h
  obtain ⟨es, c, hbb⟩ := hm.map.is
  have h2 : w.heap[g]? = _ := hb
  rw [← e, hbb] at h2
  cases h2
theorem IsA.mapT {B c : Nat} {p : Option Addr} {vs : List Value} (h : IsA w B T p c vs) (k : w.mapTurned w' b) : IsA w' B T p c vs := by
  obtain ⟨es, clock, es', clock', hb, rfl⟩ := k
  refine ⟨⟨h.sl.1, h.sl.2.1, h.sl.2.2.1, fun hc => ?_⟩, h.low⟩
  obtain ⟨x, cur, e, q, hx, r⟩ := h.sl.2.2.2 hc
  refine ⟨x, cur, e, q, (heap_setBlock_other hb _ (fun e2 => ?_)).trans hx, r⟩
  rw [e2, hb] at hx
  cases hx
theorem Ext.mapT {u : World} (h : Ext w u) (k : u.mapTurned w' b) (hb : w.heap.size ≤ b) : Ext w w' := h.grown k.grown (fun x e => by cases e; exact hb)
end
theorem resT_row {fn : Func} {p u v : Tmp} {ty : TypeId} (h : fn.results = #[.cell p ty, .tmp u, .tmp v]) (tmps : Array Value) (w : World) (g : Nat) (cs : Array Value)
    (hp : tmps.getD p undef = .pointer (some ⟨g, 0, none⟩)) (hl : (loadVar ty ⟨g, 0, none⟩).run Tryz.prog w = .ok (.agg cs) w) :
    (results fn tmps).run Tryz.prog w = .ok (.tuple #[.agg cs, tmps.getD u undef, tmps.getD v undef]) w := by
  have hp' : tmps[p]?.getD undef = .pointer (some ⟨g, 0, none⟩) := by simpa using hp
  simp [results, h, hp', asAddr, hl]
theorem trial_info : (Tryz.prog.info? 96).map (·.size) = some 2 := by kernel_rfl
theorem load_trial (w : World) (g : Nat) (m : Value) (p : Option Addr) (n c : Nat) (h : Blk w g 96 [m, .slice p n c]) :
    (loadVar 96 ⟨g, 0, none⟩).run Tryz.prog w = .ok (.agg #[m, .slice p n c]) w :=
  run_loadVar_row w g 96 96 #[m, .slice p n c] (0, 0) _ h Tryz.underlying96 rfl trial_info
/-- What tried leaves, if there is no error. -/
def TriedP (w w' : World) (R : List RowP) (T : Tri) (k : Nat) (mo : Option Nat) (va : Option Addr) (n c : Nat) : Prop :=
  ∃ mb X, mo = some mb ∧ w.heap.size ≤ mb ∧ IsM w' w.heap.size mb X ∧ GoodR X ∧ Ov R X T.D ∧ X.length ≤ k ∧ n = T.v.length ∧ IsA w' w.heap.size 25 va c (nuV T.v)
theorem tried_no (w : World) (l : Value) :
    Calls Tryz.prog 52 #[.pointer none, l] w fun e w' => e = .returned (.tuple #[.agg #[.map none, .slice none 0 0], .int .i64 0, .int .i64 1]) ∧ Ext w w' := by
  have HB0 := Lib.hid (Blk.new w [.map none, .slice none 0 0] 96)
  go_enter Tryz.func52, Tryz.ntmps52
  go_wp2_with (go_at_call 33; refine (tthere_no _).mono ?_; rintro e w1 ⟨rfl, rfl⟩)
  exact bodyPost_ret (resT_row rfl _ _ w.heap.size #[.map none, .slice none 0 0] rfl (load_trial _ _ _ _ _ _ HB0.out)) rfl ⟨rfl, (Ext.refl w).alloc _⟩
set_option maxRecDepth 100000 in
set_option maxHeartbeats 4000000 in
theorem tried_any (w : World) (lo t b : Nat) (qp qb : Int) (R : List RowP) (h : IsT w lo t b qp qb R) (hl : R.length ≤ 800000) (p : Option Addr) (c : Nat) (L : List EditP) (hE : EditsP w p L) (hn : L.length ≤ 5000) (hs : ∀ e ∈ L, e.p.size ≤ 140737488351232 ∧ e.t.size ≤ 140737488351232) :
    Calls Tryz.prog 52 #[.pointer (some ⟨t, 0, none⟩), .slice p L.length c] w fun e w' => ∃ mo va n c', e = .returned (.tuple #[.agg #[.map mo, .slice va n c'], .int .i64 ((applyR qp qb R L).at_ : Int), .int .i64 ((applyR qp qb R L).e : Int)]) ∧ Ext w w' ∧ ((applyR qp qb R L).e = 0 → TriedP w w' R (applyR qp qb R L) L.length mo va n c') := by
  obtain ⟨nn, hnn⟩ : ∃ nn, L.length = nn := ⟨_, rfl⟩
  obtain ⟨T, hT⟩ : ∃ T, runE 0 R [] L = T := ⟨_, rfl⟩
  have HAp : Hid (applyR qp qb R L = if T.e = 0 then if overR qp qb R T.D then ⟨180, nn, R, []⟩ else ⟨0, 0, T.D, T.v⟩ else ⟨T.e, T.at_, R, []⟩) := Lib.hid (by unfold applyR; rw [hT, hnn])
  have HIT := Lib.hid h
  have HED := Lib.hid hE
  have HSZ := Lib.hid hs
  have HNN := Lib.hid hnn
  have HRL := Lib.hid hl
  have HRun0 := Lib.hid hT
  have hcell := (h.ext ((Ext.refl w).alloc (.cells #[.map none, .slice none 0 0] 96))).cell
  have hmm := @run_makeMap Tryz.prog
  rw [hnn] at hn ⊢
  generalize applyR qp qb R L = TT at *
  clear h hE hs hnn hl hT
  go_enter Tryz.func52, Tryz.ntmps52
  go_wp2_with (go_at_call 33; refine (tthere_yes _ t b hcell).mono ?_; rintro e w1 ⟨rfl, rfl⟩)
  have D0 : Hid (Blk (((w.alloc (.cells #[.map none, .slice none 0 0] 96)).alloc (.map #[] 0)).alloc (.cells #[.map (some (w.heap.size + 1)), .slice none 0 0] 96)) w.heap.size 96 [.map none, .slice none 0 0]) := Lib.hid (((Blk.new w [.map none, .slice none 0 0] 96).alloc _).alloc _)
  have D2 : Hid (Blk (((w.alloc (.cells #[.map none, .slice none 0 0] 96)).alloc (.map #[] 0)).alloc (.cells #[.map (some (w.heap.size + 1)), .slice none 0 0] 96)) (w.heap.size + 1 + 1) 96 [.map (some (w.heap.size + 1)), .slice none ([] : List Nat).length 0]) := Lib.hid (Blk.new2V w _ _ [.map (some (w.heap.size + 1)), .slice none 0 0] 96)
  have M0 : Hid (IsM (((w.alloc (.cells #[.map none, .slice none 0 0] 96)).alloc (.map #[] 0)).alloc (.cells #[.map (some (w.heap.size + 1)), .slice none 0 0] 96)) w.heap.size (w.heap.size + 1) []) := Lib.hid (by have := (IsM.made (w.alloc (.cells #[.map none, .slice none 0 0] 96)) w.heap.size).ext ((Ext.refl _).alloc (.cells #[.map (some (w.heap.size + 1)), .slice none 0 0] 96)); simpa using this)
  have X0 : Hid (Ext w (((w.alloc (.cells #[.map none, .slice none 0 0] 96)).alloc (.map #[] 0)).alloc (.cells #[.map (some (w.heap.size + 1)), .slice none 0 0] 96))) := Lib.hid ((((Ext.refl w).alloc _).alloc _).alloc _)
  clear hcell hmm
  go_loopw [21] (fun iv wr => ∃ (j : Nat) (X D : List RowP) (v : List Nat) (pv : Option Addr) (cv : Nat), j ≤ nn ∧ iv = .int .i64 (j : Int) ∧ Hid (runE j D v (L.drop j) = T) ∧ Hid (IsM wr w.heap.size (w.heap.size + 1) X) ∧ Hid (GoodR X ∧ GoodR D ∧ Ov R X D ∧ X.length ≤ j ∧ v.length ≤ j ∧ D.length ≤ R.length + j) ∧ Hid (Blk wr w.heap.size 96 [.map none, .slice none 0 0]) ∧ Hid (Blk wr (w.heap.size + 1 + 1) 96 [.map (some (w.heap.size + 1)), .slice pv v.length cv]) ∧ Hid (IsA wr w.heap.size 25 pv cv (nuV v)) ∧ Hid (Ext w wr)) (fun iv _ => nn - (intOf iv).toNat)
  case atStart => exact ⟨0, [], R, [], none, 0, Nat.zero_le _, rfl, Lib.hid (by rw [List.drop_zero]; exact HRun0.out), M0, Lib.hid ⟨GoodR.nil, HIT.out.good, Ov.start R, Nat.zero_le _, Nat.zero_le _, Nat.le_refl _⟩, D0, D2, Lib.hid (IsA.nil _ _ _), X0⟩
  case round =>
    obtain ⟨j, X, D, v, pv, cv, hj, rfl, HRun, HM, HG, B0, B2, HA, HX⟩ := hrel
    by_cases hlt : j < nn
    · obtain ⟨⟨ek, ep, ea, ew, en, et⟩, hx⟩ : ∃ x, L[j]? = some x := ⟨_, List.getElem?_eq_getElem (by have := HNN.out; omega)⟩
      have hdrop : L.drop j = ⟨ek, ep, ea, ew, en, et⟩ :: L.drop (j + 1) := by
        obtain ⟨q1, q2⟩ := List.getElem?_eq_some_iff.1 hx
        rw [← q2]
        exact List.drop_eq_getElem_cons q1
      have HRun2 : Hid (runE j D v (⟨ek, ep, ea, ew, en, et⟩ :: L.drop (j + 1)) = T) := Lib.hid (by rw [← hdrop]; exact HRun.out)
      obtain ⟨hs1, hs2⟩ := HSZ.out _ (List.mem_of_getElem? hx)
      dsimp only at hs1 hs2
      obtain ⟨a0, e0, c0, c1, c2, c3, c4, c5⟩ := HED.out.six HX.out hx
      dsimp only at c0 c1 c2 c3 c4 c5
      have HP0 := Lib.hid e0
      obtain ⟨gX, gD, gO, gl1, gl2, gl3⟩ := HG.out
      have hcd : cellR D ep = if hasR X ep then cellR X ep else cellR R ep := by
        have := gO.cell gD.up ep
        unfold cellR
        rw [this]
        split <;> rfl
      obtain ⟨⟨m, VL⟩, hml⟩ : ∃ q, cellR D ep = q := ⟨_, rfl⟩
      have hmay := GoodR.cell gD.each ep
      rw [hml] at hcd hmay
      have hed : editR D ⟨ek, ep, ea, ew, en, et⟩ = (outR m VL ⟨ek, ep, ea, ew, en, et⟩, if (outR m VL ⟨ek, ep, ea, ew, en, et⟩).e = 0 then withR ⟨ep, (outR m VL ⟨ek, ep, ea, ew, en, et⟩).last, (outR m VL ⟨ek, ep, ea, ew, en, et⟩).L⟩ D else D) := by unfold editR; dsimp only; rw [hml]
      have hom := out_may hmay.1 hmay.2 ⟨ek, ep, ea, ew, en, et⟩
      have hvl : VL.length ≤ 8 := (mayL_iff.1 hmay.1).1
      have HOC := Lib.hid (fun u a cc (hv : VersP u a VL) => outcome_any u m a cc VL hv (by omega) hmay.2 ek ep ea ew en et hs1 (by omega))
      obtain ⟨⟨er, la, LL⟩, hO⟩ : ∃ O, outR m VL ⟨ek, ep, ea, ew, en, et⟩ = O := ⟨_, rfl⟩
      rw [hO] at HOC hed hom
      dsimp only at hed hom HOC
      have HOK : Hid (er = 0 → OkR ⟨ep, la, LL⟩) := Lib.hid fun q => ⟨(hom.2.2 q).1, hom.1, (hom.2.2 q).2, hom.2.1⟩
      have HED2 := Lib.hid hed
      obtain ⟨nl, hnl⟩ : ∃ nl, LL.length = nl := ⟨_, rfl⟩
      obtain ⟨lv, hlv⟩ : ∃ lv, v.length = lv := ⟨_, rfl⟩
      have HLV := Lib.hid hlv
      rw [hlv] at B2
      have hlv5 : lv + 1 ≤ 1000000000 := by omega
      obtain ⟨nv, hnv⟩ : ∃ nv, VL.length = nv := ⟨_, rfl⟩
      have HNL := Lib.hid hnl
      rw [hnl, hnv] at HOC
      obtain ⟨ax, cx, hvx, -, hrx⟩ := HM.out.look ep (by omega)
      obtain ⟨ar, cr, hvr, -, hrr⟩ := (HIT.out.ext HX.out).map.look ep (by omega)
      have hB2 := B2.out.lt
      have nB2 : ¬ w.heap.size + 1 + 1 = wr.heap.size := by omega
      have d0 := (B2.out.alloc (.cells #[.int .u8 (ek : Int), .string ep, .bool ea, .int .u64 (ew : Int), .int .u64 (en : Int), .string et] 62)).cell 0 _ rfl
      have HSTO := Lib.hid (fun u (hu : IsM u w.heap.size (w.heap.size + 1) X) q cq (hv : VersT u q LL) (hlo : ∀ x, q = some x → w.heap.size ≤ x.block) => hu.store gX.up ⟨ep, la, LL⟩ (by dsimp only; omega) q cq hv hlo)
      dsimp only at HSTO
      rw [hnl] at HSTO
      cases hbx : hasR X ep with
      | true =>
        rw [hbx] at hcd hrx
        simp only [if_true] at hcd
        rw [← hcd] at hvx hrx
        dsimp only at hvx hrx
        rw [hnv] at hrx
        have HVX := Lib.hid hvx
        have hl1 := hrx (wr.alloc (.cells #[.int .u8 (ek : Int), .string ep, .bool ea, .int .u64 (ew : Int), .int .u64 (en : Int), .string et] 62)) ((Ext.refl _).alloc _) true
        simp only [if_true] at hl1
        cases e0
        have E9 := Lib.hid ((Blk.new wr [.int .u8 (ek : Int), .string ep, .bool ea, .int .u64 (ew : Int), .int .u64 (en : Int), .string et] 62).alloc (.cells #[.int .u64 (m : Int), .slice ax nv cx] 55))
        have E10 := Lib.hid (Blk.new1V wr (.cells #[.int .u8 (ek : Int), .string ep, .bool ea, .int .u64 (ew : Int), .int .u64 (en : Int), .string et] 62) [.int .u64 (m : Int), .slice ax nv cx] 55)
        have XE : Hid (Ext wr ((wr.alloc (.cells #[.int .u8 (ek : Int), .string ep, .bool ea, .int .u64 (ew : Int), .int .u64 (en : Int), .string et] 62)).alloc (.cells #[.int .u64 (m : Int), .slice ax nv cx] 55))) := Lib.hid (((Ext.refl wr).alloc _).alloc _)
        clear hx hdrop hs1 hs2 gX gD gO gl1 gl2 gl3 hcd hml hmay hed hom hvl hO hnl hnv hrx hrr hvr hvx hbx
        have HVW := Lib.hid (HVX.out.ext XE.out)
        have hw0 := HX.out.size
        by_cases her : er = 0
        · subst her
          have HRG : Hid (runE (j + 1) (withR ⟨ep, la, LL⟩ D) (v ++ [la]) (L.drop (j + 1)) = T) := Lib.hid (by
            have h1 := HRun2.out
            rw [runE_go (by rw [HED2.out]), HED2.out] at h1
            exact h1)
          have HOKR := Lib.hid (HOK.out rfl)
          go_wp2_with (first
            | (go_at_call 75; refine (HOC.out _ ax cx HVW.out).mono ?_; rintro e w2 ⟨q, c2, rfl, v2, x2⟩; have HX2 := Lib.hid (XE.out.trans x2); have HQL : Hid (∀ x, q = some x → w.heap.size ≤ x.block) := Lib.hid (fun x hx => Nat.le_trans (HX.out.trans XE.out).size (v2.low' x hx)); have F9 := Lib.hid (E9.out.ext x2); have F10 := Lib.hid (E10.out.ext x2); have f0 := F10.out.cell 0 _ rfl; have f1 := F10.out.cell 1 _ rfl; have ff0 := F10.out.frozen 0; have ff1 := F10.out.frozen 1; have G9 : Hid (Blk ((w2.setCell ⟨wr.heap.size + 1, 0, none⟩ (.int .u64 (la : Int))).setCell ⟨wr.heap.size + 1, 1, none⟩ (.slice q nl c2)) wr.heap.size 62 [.int .u8 (ek : Int), .string ep, .bool ea, .int .u64 (ew : Int), .int .u64 (en : Int), .string et]) := Lib.hid ((F9.out.other (by omega) 0 _).other (by omega) 1 _); have G10 : Hid (Blk ((w2.setCell ⟨wr.heap.size + 1, 0, none⟩ (.int .u64 (la : Int))).setCell ⟨wr.heap.size + 1, 1, none⟩ (.slice q nl c2)) (wr.heap.size + 1) 55 [.int .u64 (la : Int), .slice q nl c2]) := Lib.hid ((F10.out.set_ 0 _).set_ 1 _); have G2 : Hid (Blk ((w2.setCell ⟨wr.heap.size + 1, 0, none⟩ (.int .u64 (la : Int))).setCell ⟨wr.heap.size + 1, 1, none⟩ (.slice q nl c2)) (w.heap.size + 1 + 1) 96 _) := Lib.hid (((B2.out.ext HX2.out).other (by omega) 0 _).other (by omega) 1 _); have G0 : Hid (Blk ((w2.setCell ⟨wr.heap.size + 1, 0, none⟩ (.int .u64 (la : Int))).setCell ⟨wr.heap.size + 1, 1, none⟩ (.slice q nl c2)) w.heap.size 96 _) := Lib.hid (((B0.out.ext HX2.out).other (by omega) 0 _).other (by omega) 1 _); have GA : Hid (IsA ((w2.setCell ⟨wr.heap.size + 1, 0, none⟩ (.int .u64 (la : Int))).setCell ⟨wr.heap.size + 1, 1, none⟩ (.slice q nl c2)) w.heap.size 25 pv cv (nuV v)) := Lib.hid (((HA.out.ext HX2.out).parted F10.out (by decide) _).parted (F10.out.set_ 0 _) (by decide) _); have GM : Hid (IsM ((w2.setCell ⟨wr.heap.size + 1, 0, none⟩ (.int .u64 (la : Int))).setCell ⟨wr.heap.size + 1, 1, none⟩ (.slice q nl c2)) w.heap.size (w.heap.size + 1) X) := Lib.hid (((HM.out.ext HX2.out).setBlk F10.out (by decide) 0 _).setBlk (F10.out.set_ 0 _) (by decide) 1 _); have GV : Hid (VersT ((w2.setCell ⟨wr.heap.size + 1, 0, none⟩ (.int .u64 (la : Int))).setCell ⟨wr.heap.size + 1, 1, none⟩ (.slice q nl c2)) q LL) := Lib.hid ((v2.parted F10.out (by decide) _).parted (F10.out.set_ 0 _) (by decide) _).versT; have GX : Hid (Ext w ((w2.setCell ⟨wr.heap.size + 1, 0, none⟩ (.int .u64 (la : Int))).setCell ⟨wr.heap.size + 1, 1, none⟩ (.slice q nl c2))) := Lib.hid (((HX.out.trans HX2.out).setCell (p := ⟨wr.heap.size + 1, 0, none⟩) (by have := HX.out.size; show w.heap.size ≤ wr.heap.size + 1; omega) _).setCell (p := ⟨wr.heap.size + 1, 1, none⟩) (by have := HX.out.size; show w.heap.size ≤ wr.heap.size + 1; omega) _); obtain ⟨w4, hrun, hm4, ht4⟩ := HSTO.out ((w2.setCell ⟨wr.heap.size + 1, 0, none⟩ (.int .u64 (la : Int))).setCell ⟨wr.heap.size + 1, 1, none⟩ (.slice q nl c2)) GM.out q c2 GV.out HQL.out; have HM4 := Lib.hid hm4; have HT4 := Lib.hid ht4; have K0 := Lib.hid (G0.out.mapT ht4); have K2 := Lib.hid (G2.out.mapT ht4); have K10 := Lib.hid (G10.out.mapT ht4); have KA := Lib.hid (GA.out.mapT ht4); have KX := Lib.hid (GX.out.mapT ht4 (Nat.le_succ _)); have g20 := G2.out.cell 0 _ rfl; have g91 := G9.out.cell 1 _ rfl; have g100 := G10.out.cell 0 _ rfl; have g101 := G10.out.cell 1 _ rfl; have k21 := K2.out.cell 1 _ rfl; have k100 := K10.out.cell 0 _ rfl; have HA5 := Lib.hid (KA.out.ext ((Ext.refl w4).alloc (.cells #[.int .u64 (la : Int)] 25))); have HSLB : Hid (Sl (w4.alloc (.cells #[.int .u64 (la : Int)] 25)) (kp pv) 1 1 25 pv lv cv (nuV v)) := Lib.hid (by have := HA5.out.sl; rwa [nuV_len, HLV.out] at this); have HSRC : Hid (Src Tryz.prog 1 58 (.slice (some ⟨w4.heap.size, 0, none⟩) 1 1) 1 [.int .u64 (la : Int)] (w4.alloc (.cells #[.int .u64 (la : Int)] 25))) := Lib.hid (src_u64 _ _ _ ((Blk.new w4 [.int .u64 (la : Int)] 25).cell 0 _ rfl)); have L0 := Lib.hid (K0.out.alloc (.cells #[.int .u64 (la : Int)] 25)); have L2 := Lib.hid (K2.out.alloc (.cells #[.int .u64 (la : Int)] 25)); have LM := Lib.hid (HM4.out.ext ((Ext.refl w4).alloc (.cells #[.int .u64 (la : Int)] 25))); have LX := Lib.hid (KX.out.alloc (.cells #[.int .u64 (la : Int)] 25)); have HS5 : Hid (w.heap.size ≤ (w4.alloc (.cells #[.int .u64 (la : Int)] 25)).heap.size) := Lib.hid LX.out.size; clear x2 v2 hm4 ht4)
            | (refine wpList_append_sl rfl (.tmp 60) (.tmp 63) 58 58 rfl Tryz.underlying58 infoU64 rfl (by decide) rfl HSLB.out (nuV_one v) _ rfl 1 _ HSRC.out hlv5 ?_; intro p4 c4 w5 κ4 s4 f4 e4 x4 o4; have HK := Lib.hid (keepA_of_fr HSLB.out HA5.out.low HS5.out f4 x4); have HA6 : Hid (IsA w5 w.heap.size 25 p4 c4 (nuV (v ++ [la]))) := Lib.hid (by rw [nuV_app]; exact isA_grown s4 (by rw [nuV_len, HLV.out]) e4 HA5.out.low HS5.out); have N0 := Lib.hid (L0.out.keepA HK.out (by decide)); have N2 := Lib.hid (L2.out.keepA HK.out (by decide)); have NM := Lib.hid (LM.out.keepA HK.out (by decide)); have NX := Lib.hid (LX.out.keptA HK.out); have m21 := N2.out.cell 1 _ rfl; have mf21 := N2.out.frozen 1; clear s4 f4 e4 x4 o4))
          go_roundw
          case rel =>
            obtain ⟨gX, gD, gO, gl1, gl2, gl3⟩ := HG.out
            refine ⟨j + 1, withR ⟨ep, la, LL⟩ X, withR ⟨ep, la, LL⟩ D, v ++ [la], p4, c4, hlt, by go_num, HRG, Lib.hid (NM.out.setBlk N2.out (by decide) 1 _), Lib.hid ⟨gX.with_ HOKR.out, gD.with_ HOKR.out, gO.with_ gX.up gD.up _, ?_, ?_, ?_⟩, Lib.hid (N0.out.other (by omega) 1 _), Lib.hid ?_, Lib.hid (HA6.out.parted N2.out (by decide) _), Lib.hid (NX.out.setCell (p := ⟨w.heap.size + 1 + 1, 1, none⟩) (by show w.heap.size ≤ w.heap.size + 1 + 1; omega) _)⟩
            · have := len_with_le gX.up ⟨ep, la, LL⟩; omega
            · simp; omega
            · have := len_with_le gD.up ⟨ep, la, LL⟩; omega
            · have := N2.out.set_ 1 (.slice p4 (lv + 1) c4)
              rw [List.length_append, HLV.out]
              exact this
          case measure => simp [intOf]; omega
        · have he1 : ((er : Int) != 0) = true := by have : ¬ (er : Int) = 0 := (by omega); simpa using this
          have HRS : Hid (T = ⟨er, j, D, v⟩) := Lib.hid (by
            have h1 := HRun2.out
            rw [runE_stop (by rw [HED2.out]; exact her), HED2.out] at h1
            exact h1.symm)
          have HTT : Hid (TT = ⟨er, j, R, []⟩) := Lib.hid (by rw [HAp.out, HRS.out]; exact if_neg her)
          go_wp2_with (go_at_call 75; refine (HOC.out _ ax cx HVW.out).mono ?_; rintro e w2 ⟨q, c2, rfl, v2, x2⟩; have HX2 := Lib.hid (XE.out.trans x2); have F10 := Lib.hid (E10.out.ext x2); have f0 := F10.out.cell 0 _ rfl; have f1 := F10.out.cell 1 _ rfl; have ff0 := F10.out.frozen 0; have ff1 := F10.out.frozen 1; have G0 : Hid (Blk ((w2.setCell ⟨wr.heap.size + 1, 0, none⟩ (.int .u64 (la : Int))).setCell ⟨wr.heap.size + 1, 1, none⟩ (.slice q nl c2)) w.heap.size 96 [.map none, .slice none 0 0]) := Lib.hid (((B0.out.ext HX2.out).other (by omega) 0 _).other (by omega) 1 _); have GX : Hid (Ext w ((w2.setCell ⟨wr.heap.size + 1, 0, none⟩ (.int .u64 (la : Int))).setCell ⟨wr.heap.size + 1, 1, none⟩ (.slice q nl c2))) := Lib.hid (((HX.out.trans HX2.out).setCell (p := ⟨wr.heap.size + 1, 0, none⟩) (by have := HX.out.size; show w.heap.size ≤ wr.heap.size + 1; omega) _).setCell (p := ⟨wr.heap.size + 1, 1, none⟩) (by have := HX.out.size; show w.heap.size ≤ wr.heap.size + 1; omega) _); have g00 := G0.out.cell 0 _ rfl; have g01 := G0.out.cell 1 _ rfl; have gf0 := G0.out.frozen 0; have gf1 := G0.out.frozen 1; clear x2 v2)
          exact bodyPost_ret (resT_row rfl _ _ w.heap.size #[.map none, .slice none 0 0] rfl (load_trial _ _ _ _ _ _ ((G0.out.set_ 0 _).set_ 1 _))) rfl ⟨none, none, 0, 0, by rw [HTT.out]; rfl, (GX.out.setCell (p := ⟨w.heap.size, 0, none⟩) (Nat.le_refl _) _).setCell (p := ⟨w.heap.size, 1, none⟩) (Nat.le_refl _) _, fun q => by rw [HTT.out] at q; exact absurd q her⟩
      | false =>
        rw [hbx] at hcd hrx
        simp only [Bool.false_eq_true, if_false] at hcd
        rw [← hcd] at hvr hrr
        dsimp only at hvr hrr
        rw [hnv] at hrr
        have hxn : lookR X ep = none := by
          unfold hasR at hbx
          cases e : lookR X ep with
          | none => rfl
          | some r => rw [e] at hbx; cases hbx
        rw [cellR_none hxn] at hrx
        have hl1 := hrx (wr.alloc (.cells #[.int .u8 (ek : Int), .string ep, .bool ea, .int .u64 (ew : Int), .int .u64 (en : Int), .string et] 62)) ((Ext.refl _).alloc _) true
        simp only [if_true, List.length_nil] at hl1
        have hl1' : (Instr.lookup 71 (.map (some (w.heap.size + 1))) (.string ep) true).run Tryz.prog (wr.alloc (.cells #[.int .u8 (ek : Int), .string ep, .bool ea, .int .u64 (ew : Int), .int .u64 (en : Int), .string et] 62)) = .ok (.tuple #[.agg #[.int .u64 0, .slice ax 0 cx], .bool false]) (wr.alloc (.cells #[.int .u8 (ek : Int), .string ep, .bool ea, .int .u64 (ew : Int), .int .u64 (en : Int), .string et] 62)) := hl1
        have HVX := Lib.hid hvr
        cases e0
        have E9a := Lib.hid ((Blk.new wr [.int .u8 (ek : Int), .string ep, .bool ea, .int .u64 (ew : Int), .int .u64 (en : Int), .string et] 62).alloc (.cells #[.int .u64 0, .slice ax 0 cx] 55))
        have E10a := Lib.hid (Blk.new1V wr (.cells #[.int .u8 (ek : Int), .string ep, .bool ea, .int .u64 (ew : Int), .int .u64 (en : Int), .string et] 62) [.int .u64 0, .slice ax 0 cx] 55)
        have XEa : Hid (Ext wr ((wr.alloc (.cells #[.int .u8 (ek : Int), .string ep, .bool ea, .int .u64 (ew : Int), .int .u64 (en : Int), .string et] 62)).alloc (.cells #[.int .u64 0, .slice ax 0 cx] 55))) := Lib.hid (((Ext.refl wr).alloc _).alloc _)
        have hl2 := hrr _ XEa.out.drew false
        simp only [Bool.false_eq_true, if_false] at hl2
        have ht2 := (HIT.out.ext (HX.out.trans XEa.out.drew)).cell
        have r1 := E9a.out.drew.cell 1 _ rfl
        have r2 := E10a.out.drew.cell 0 _ rfl
        have r3 := E10a.out.drew.cell 1 _ rfl
        have r4 := E10a.out.drew.frozen 0
        have r5 := E10a.out.drew.frozen 1
        clear hx hdrop hs1 hs2 gX gD gO gl1 gl2 gl3 hcd hml hmay hed hom hvl hO hnl hnv hrx hrr hvr hvx hbx hxn hl1
        go_wp2
        go_region
        clear hl1' hl2 ht2 r1 r2 r3 r4 r5
        have E9 := Lib.hid (((Blk.new wr [.int .u8 (ek : Int), .string ep, .bool ea, .int .u64 (ew : Int), .int .u64 (en : Int), .string et] 62).alloc (.cells #[.int .u64 (m : Int), .slice ar nv cr] 55)).drew)
        have E10 := Lib.hid ((Blk.new1V wr (.cells #[.int .u8 (ek : Int), .string ep, .bool ea, .int .u64 (ew : Int), .int .u64 (en : Int), .string et] 62) [.int .u64 (m : Int), .slice ar nv cr] 55).drew)
        have XE : Hid (Ext wr ((wr.alloc (.cells #[.int .u8 (ek : Int), .string ep, .bool ea, .int .u64 (ew : Int), .int .u64 (en : Int), .string et] 62)).alloc (.cells #[.int .u64 (m : Int), .slice ar nv cr] 55)).drew) := Lib.hid ((((Ext.refl wr).alloc _).alloc _).drew)
        have HVW := Lib.hid (HVX.out.ext XE.out)
        have hw0 := HX.out.size
        have r0 := E9.out.cell 0 _ rfl
        have r1 := E9.out.cell 1 _ rfl
        have r2 := E9.out.cell 2 _ rfl
        have r3 := E9.out.cell 3 _ rfl
        have r4 := E9.out.cell 4 _ rfl
        have r5 := E9.out.cell 5 _ rfl
        have r6 := E10.out.cell 0 _ rfl
        have r7 := E10.out.cell 1 _ rfl
        by_cases her : er = 0
        · subst her
          have HRG : Hid (runE (j + 1) (withR ⟨ep, la, LL⟩ D) (v ++ [la]) (L.drop (j + 1)) = T) := Lib.hid (by
            have h1 := HRun2.out
            rw [runE_go (by rw [HED2.out]), HED2.out] at h1
            exact h1)
          have HOKR := Lib.hid (HOK.out rfl)
          go_wp2_with (first
            | (go_at_call 75; refine (HOC.out _ ar cr HVW.out).mono ?_; rintro e w2 ⟨q, c2, rfl, v2, x2⟩; have HX2 := Lib.hid (XE.out.trans x2); have HQL : Hid (∀ x, q = some x → w.heap.size ≤ x.block) := Lib.hid (fun x hx => Nat.le_trans (HX.out.trans XE.out).size (v2.low' x hx)); have F9 := Lib.hid (E9.out.ext x2); have F10 := Lib.hid (E10.out.ext x2); have f0 := F10.out.cell 0 _ rfl; have f1 := F10.out.cell 1 _ rfl; have ff0 := F10.out.frozen 0; have ff1 := F10.out.frozen 1; have G9 : Hid (Blk ((w2.setCell ⟨wr.heap.size + 1, 0, none⟩ (.int .u64 (la : Int))).setCell ⟨wr.heap.size + 1, 1, none⟩ (.slice q nl c2)) wr.heap.size 62 [.int .u8 (ek : Int), .string ep, .bool ea, .int .u64 (ew : Int), .int .u64 (en : Int), .string et]) := Lib.hid ((F9.out.other (by omega) 0 _).other (by omega) 1 _); have G10 : Hid (Blk ((w2.setCell ⟨wr.heap.size + 1, 0, none⟩ (.int .u64 (la : Int))).setCell ⟨wr.heap.size + 1, 1, none⟩ (.slice q nl c2)) (wr.heap.size + 1) 55 [.int .u64 (la : Int), .slice q nl c2]) := Lib.hid ((F10.out.set_ 0 _).set_ 1 _); have G2 : Hid (Blk ((w2.setCell ⟨wr.heap.size + 1, 0, none⟩ (.int .u64 (la : Int))).setCell ⟨wr.heap.size + 1, 1, none⟩ (.slice q nl c2)) (w.heap.size + 1 + 1) 96 _) := Lib.hid (((B2.out.ext HX2.out).other (by omega) 0 _).other (by omega) 1 _); have G0 : Hid (Blk ((w2.setCell ⟨wr.heap.size + 1, 0, none⟩ (.int .u64 (la : Int))).setCell ⟨wr.heap.size + 1, 1, none⟩ (.slice q nl c2)) w.heap.size 96 _) := Lib.hid (((B0.out.ext HX2.out).other (by omega) 0 _).other (by omega) 1 _); have GA : Hid (IsA ((w2.setCell ⟨wr.heap.size + 1, 0, none⟩ (.int .u64 (la : Int))).setCell ⟨wr.heap.size + 1, 1, none⟩ (.slice q nl c2)) w.heap.size 25 pv cv (nuV v)) := Lib.hid (((HA.out.ext HX2.out).parted F10.out (by decide) _).parted (F10.out.set_ 0 _) (by decide) _); have GM : Hid (IsM ((w2.setCell ⟨wr.heap.size + 1, 0, none⟩ (.int .u64 (la : Int))).setCell ⟨wr.heap.size + 1, 1, none⟩ (.slice q nl c2)) w.heap.size (w.heap.size + 1) X) := Lib.hid (((HM.out.ext HX2.out).setBlk F10.out (by decide) 0 _).setBlk (F10.out.set_ 0 _) (by decide) 1 _); have GV : Hid (VersT ((w2.setCell ⟨wr.heap.size + 1, 0, none⟩ (.int .u64 (la : Int))).setCell ⟨wr.heap.size + 1, 1, none⟩ (.slice q nl c2)) q LL) := Lib.hid ((v2.parted F10.out (by decide) _).parted (F10.out.set_ 0 _) (by decide) _).versT; have GX : Hid (Ext w ((w2.setCell ⟨wr.heap.size + 1, 0, none⟩ (.int .u64 (la : Int))).setCell ⟨wr.heap.size + 1, 1, none⟩ (.slice q nl c2))) := Lib.hid (((HX.out.trans HX2.out).setCell (p := ⟨wr.heap.size + 1, 0, none⟩) (by have := HX.out.size; show w.heap.size ≤ wr.heap.size + 1; omega) _).setCell (p := ⟨wr.heap.size + 1, 1, none⟩) (by have := HX.out.size; show w.heap.size ≤ wr.heap.size + 1; omega) _); obtain ⟨w4, hrun, hm4, ht4⟩ := HSTO.out ((w2.setCell ⟨wr.heap.size + 1, 0, none⟩ (.int .u64 (la : Int))).setCell ⟨wr.heap.size + 1, 1, none⟩ (.slice q nl c2)) GM.out q c2 GV.out HQL.out; have HM4 := Lib.hid hm4; have HT4 := Lib.hid ht4; have K0 := Lib.hid (G0.out.mapT ht4); have K2 := Lib.hid (G2.out.mapT ht4); have K10 := Lib.hid (G10.out.mapT ht4); have KA := Lib.hid (GA.out.mapT ht4); have KX := Lib.hid (GX.out.mapT ht4 (Nat.le_succ _)); have g20 := G2.out.cell 0 _ rfl; have g91 := G9.out.cell 1 _ rfl; have g100 := G10.out.cell 0 _ rfl; have g101 := G10.out.cell 1 _ rfl; have k21 := K2.out.cell 1 _ rfl; have k100 := K10.out.cell 0 _ rfl; have HA5 := Lib.hid (KA.out.ext ((Ext.refl w4).alloc (.cells #[.int .u64 (la : Int)] 25))); have HSLB : Hid (Sl (w4.alloc (.cells #[.int .u64 (la : Int)] 25)) (kp pv) 1 1 25 pv lv cv (nuV v)) := Lib.hid (by have := HA5.out.sl; rwa [nuV_len, HLV.out] at this); have HSRC : Hid (Src Tryz.prog 1 58 (.slice (some ⟨w4.heap.size, 0, none⟩) 1 1) 1 [.int .u64 (la : Int)] (w4.alloc (.cells #[.int .u64 (la : Int)] 25))) := Lib.hid (src_u64 _ _ _ ((Blk.new w4 [.int .u64 (la : Int)] 25).cell 0 _ rfl)); have L0 := Lib.hid (K0.out.alloc (.cells #[.int .u64 (la : Int)] 25)); have L2 := Lib.hid (K2.out.alloc (.cells #[.int .u64 (la : Int)] 25)); have LM := Lib.hid (HM4.out.ext ((Ext.refl w4).alloc (.cells #[.int .u64 (la : Int)] 25))); have LX := Lib.hid (KX.out.alloc (.cells #[.int .u64 (la : Int)] 25)); have HS5 : Hid (w.heap.size ≤ (w4.alloc (.cells #[.int .u64 (la : Int)] 25)).heap.size) := Lib.hid LX.out.size; clear x2 v2 hm4 ht4)
            | (refine wpList_append_sl rfl (.tmp 60) (.tmp 63) 58 58 rfl Tryz.underlying58 infoU64 rfl (by decide) rfl HSLB.out (nuV_one v) _ rfl 1 _ HSRC.out hlv5 ?_; intro p4 c4 w5 κ4 s4 f4 e4 x4 o4; have HK := Lib.hid (keepA_of_fr HSLB.out HA5.out.low HS5.out f4 x4); have HA6 : Hid (IsA w5 w.heap.size 25 p4 c4 (nuV (v ++ [la]))) := Lib.hid (by rw [nuV_app]; exact isA_grown s4 (by rw [nuV_len, HLV.out]) e4 HA5.out.low HS5.out); have N0 := Lib.hid (L0.out.keepA HK.out (by decide)); have N2 := Lib.hid (L2.out.keepA HK.out (by decide)); have NM := Lib.hid (LM.out.keepA HK.out (by decide)); have NX := Lib.hid (LX.out.keptA HK.out); have m21 := N2.out.cell 1 _ rfl; have mf21 := N2.out.frozen 1; clear s4 f4 e4 x4 o4))
          go_roundw
          case rel =>
            obtain ⟨gX, gD, gO, gl1, gl2, gl3⟩ := HG.out
            refine ⟨j + 1, withR ⟨ep, la, LL⟩ X, withR ⟨ep, la, LL⟩ D, v ++ [la], p4, c4, hlt, by go_num, HRG, Lib.hid (NM.out.setBlk N2.out (by decide) 1 _), Lib.hid ⟨gX.with_ HOKR.out, gD.with_ HOKR.out, gO.with_ gX.up gD.up _, ?_, ?_, ?_⟩, Lib.hid (N0.out.other (by omega) 1 _), Lib.hid ?_, Lib.hid (HA6.out.parted N2.out (by decide) _), Lib.hid (NX.out.setCell (p := ⟨w.heap.size + 1 + 1, 1, none⟩) (by show w.heap.size ≤ w.heap.size + 1 + 1; omega) _)⟩
            · have := len_with_le gX.up ⟨ep, la, LL⟩; omega
            · simp; omega
            · have := len_with_le gD.up ⟨ep, la, LL⟩; omega
            · have := N2.out.set_ 1 (.slice p4 (lv + 1) c4)
              rw [List.length_append, HLV.out]
              exact this
          case measure => simp [intOf]; omega
        · have he1 : ((er : Int) != 0) = true := by have : ¬ (er : Int) = 0 := (by omega); simpa using this
          have HRS : Hid (T = ⟨er, j, D, v⟩) := Lib.hid (by
            have h1 := HRun2.out
            rw [runE_stop (by rw [HED2.out]; exact her), HED2.out] at h1
            exact h1.symm)
          have HTT : Hid (TT = ⟨er, j, R, []⟩) := Lib.hid (by rw [HAp.out, HRS.out]; exact if_neg her)
          go_wp2_with (go_at_call 75; refine (HOC.out _ ar cr HVW.out).mono ?_; rintro e w2 ⟨q, c2, rfl, v2, x2⟩; have HX2 := Lib.hid (XE.out.trans x2); have F10 := Lib.hid (E10.out.ext x2); have f0 := F10.out.cell 0 _ rfl; have f1 := F10.out.cell 1 _ rfl; have ff0 := F10.out.frozen 0; have ff1 := F10.out.frozen 1; have G0 : Hid (Blk ((w2.setCell ⟨wr.heap.size + 1, 0, none⟩ (.int .u64 (la : Int))).setCell ⟨wr.heap.size + 1, 1, none⟩ (.slice q nl c2)) w.heap.size 96 [.map none, .slice none 0 0]) := Lib.hid (((B0.out.ext HX2.out).other (by omega) 0 _).other (by omega) 1 _); have GX : Hid (Ext w ((w2.setCell ⟨wr.heap.size + 1, 0, none⟩ (.int .u64 (la : Int))).setCell ⟨wr.heap.size + 1, 1, none⟩ (.slice q nl c2))) := Lib.hid (((HX.out.trans HX2.out).setCell (p := ⟨wr.heap.size + 1, 0, none⟩) (by have := HX.out.size; show w.heap.size ≤ wr.heap.size + 1; omega) _).setCell (p := ⟨wr.heap.size + 1, 1, none⟩) (by have := HX.out.size; show w.heap.size ≤ wr.heap.size + 1; omega) _); have g00 := G0.out.cell 0 _ rfl; have g01 := G0.out.cell 1 _ rfl; have gf0 := G0.out.frozen 0; have gf1 := G0.out.frozen 1; clear x2 v2)
          exact bodyPost_ret (resT_row rfl _ _ w.heap.size #[.map none, .slice none 0 0] rfl (load_trial _ _ _ _ _ _ ((G0.out.set_ 0 _).set_ 1 _))) rfl ⟨none, none, 0, 0, by rw [HTT.out]; rfl, (GX.out.setCell (p := ⟨w.heap.size, 0, none⟩) (Nat.le_refl _) _).setCell (p := ⟨w.heap.size, 1, none⟩) (Nat.le_refl _) _, fun q => by rw [HTT.out] at q; exact absurd q her⟩
    · obtain rfl : j = nn := by omega
      have hT : T = ⟨0, j, D, v⟩ := by
        have h1 := HRun.out
        rw [List.drop_of_length_le (by rw [HNN.out]; exact Nat.le_refl _), runE_nil] at h1
        exact h1.symm
      obtain ⟨gX, gD, gO, gl1, gl2, gl3⟩ := HG.out
      have HF := Lib.hid (fits_any wr lo t b qp qb R (HIT.out.ext HX.out) (by have := HRL.out; omega) (w.heap.size + 1) w.heap.size X D HM.out gX (by omega) gD gO)
      have HAq := HAp.out
      rw [hT] at HAq
      simp only [if_true] at HAq
      obtain ⟨lv, hlv⟩ : ∃ lv, v.length = lv := ⟨_, rfl⟩
      have HLV := Lib.hid hlv
      rw [hlv] at B2
      have d0 := B2.out.cell 0 _ rfl
      cases hov : overR qp qb R D with
      | true =>
        rw [hov] at HF HAq
        simp only [if_true] at HAq
        have HTT := Lib.hid HAq
        clear hT gX gD gO gl1 gl2 gl3 HAq hlv hov
        go_wp2_with (go_at_call 76; refine HF.out.mono ?_; rintro e w2 ⟨rfl, x2⟩; have HX2 := Lib.hid (HX.out.trans x2); have G0 := Lib.hid (B0.out.ext x2); have g00 := G0.out.cell 0 _ rfl; have g01 := G0.out.cell 1 _ rfl; have gf0 := G0.out.frozen 0; have gf1 := G0.out.frozen 1; clear x2)
        exact bodyPost_ret (resT_row rfl _ _ w.heap.size #[.map none, .slice none 0 0] rfl (load_trial _ _ _ _ _ _ ((G0.out.set_ 0 _).set_ 1 _))) rfl ⟨none, none, 0, 0, by rw [HTT.out]; rfl, (HX2.out.setCell (p := ⟨w.heap.size, 0, none⟩) (Nat.le_refl _) _).setCell (p := ⟨w.heap.size, 1, none⟩) (Nat.le_refl _) _, fun q => by rw [HTT.out] at q; simp at q⟩
      | false =>
        rw [hov] at HF HAq
        simp only [Bool.false_eq_true, if_false] at HAq
        have HTT := Lib.hid HAq
        clear hT gX gD gO gl1 gl2 gl3 HAq hlv hov
        go_wp2_with (go_at_call 76; refine HF.out.mono ?_; rintro e w2 ⟨rfl, x2⟩; have HX2 := Lib.hid (HX.out.trans x2); have G0 := Lib.hid (B0.out.ext x2); have G2 := Lib.hid (B2.out.ext x2); have GM := Lib.hid (HM.out.ext x2); have GA := Lib.hid (HA.out.ext x2); have g00 := G0.out.cell 0 _ rfl; have g01 := G0.out.cell 1 _ rfl; have gf0 := G0.out.frozen 0; have gf1 := G0.out.frozen 1; have g20 := G2.out.cell 0 _ rfl; have g21 := G2.out.cell 1 _ rfl; clear x2)
        exact bodyPost_ret (resT_row rfl _ _ w.heap.size #[.map (some (w.heap.size + 1)), .slice pv lv cv] rfl (load_trial _ _ _ _ _ _ ((G0.out.set_ 0 _).set_ 1 _))) rfl ⟨some (w.heap.size + 1), pv, lv, cv, by rw [HTT.out]; rfl, (HX2.out.setCell (p := ⟨w.heap.size, 0, none⟩) (Nat.le_refl _) _).setCell (p := ⟨w.heap.size, 1, none⟩) (Nat.le_refl _) _, fun q => ⟨w.heap.size + 1, X, rfl, Nat.le_succ _, (GM.out.setBlk G0.out (by decide) 0 _).setBlk (G0.out.set_ 0 _) (by decide) 1 _, HG.out.1, by rw [HTT.out]; exact HG.out.2.2.1, HG.out.2.2.2.1, by rw [HTT.out]; exact HLV.out.symm, by rw [HTT.out]; exact (GA.out.parted G0.out (by decide) _).parted (G0.out.set_ 0 _) (by decide) _⟩⟩
end Go.Proofs.YtkjcpjalldbahaaGreatDoor
end
