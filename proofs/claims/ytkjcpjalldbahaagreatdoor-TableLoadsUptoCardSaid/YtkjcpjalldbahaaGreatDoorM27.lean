/- Contract: the document's with: rows with one, in its place. -/
import Derived.Test.YtkjcpjalldbahaaGreatDoorM25
import Derived.Test.YtkjcpjalldbahaaGreatDoorM26
import Derived.BigQuiet
import Derived.Deep.QuietTactic
import Derived.Laws.Cover1
section
namespace Go.Proofs.YtkjcpjalldbahaaGreatDoor
open Go.RowKit Go.ChangeMaps Go.MapKept

theorem lessB (a b : ByteArray) : Op.bytesLess a.toList b.toList = decide (a.data.toList < b.data.toList) := by
  rw [bytesLess_eq, Lib.toList_data, Lib.toList_data]
def withE (x : Ent) : Bool → List Ent → List Ent
  | d, [] => if d then [] else [x]
  | d, y :: t => (if !d && !decide (keyR y.row < keyR x.row) then [x] else []) ++ ((if y.p = x.p then [] else [y]) ++ withE x (d || !decide (keyR y.row < keyR x.row)) t)
theorem withE_true {x : Ent} : ∀ {l : List Ent}, (∀ y ∈ l, y.p ≠ x.p) → withE x true l = l
  | [], _ => rfl
  | y :: t, h => by
    unfold withE
    rw [Bool.true_or, withE_true (l := t) fun z hz => h z (by simp [hz]), if_neg (h y (by simp))]
    simp
theorem withE_is {x : Ent} : ∀ {M : List Ent}, RisesR (M.map Ent.row) → (withE x false M).map Ent.row = withR x.row (M.map Ent.row)
  | [], _ => rfl
  | y :: t, h => by
    obtain ⟨h1, h2⟩ := List.pairwise_cons.1 h
    unfold withE
    rw [List.map_cons, withR]
    by_cases hk : keyR y.row < keyR x.row
    · rw [if_pos hk]
      have hne : y.p ≠ x.p := fun e => lt_not hk (by unfold keyR; exact congrArg (fun z : ByteArray => z.data.toList) e)
      simp only [hk, decide_true, Bool.not_true, Bool.and_false, Bool.or_false, Bool.false_eq_true, if_false, List.nil_append, if_neg hne]
      rw [List.map_append, withE_is h2]
      rfl
    · rw [if_neg hk]
      simp only [hk, decide_false, Bool.not_false, Bool.and_true, Bool.or_true, if_true]
      by_cases he : keyR y.row = keyR x.row
      · rw [if_pos he]
        have hp : y.p = x.p := path_ext he
        rw [if_pos hp, withE_true fun z hz e => lt_not (h1 z.row (List.mem_map.2 ⟨z, hz, rfl⟩)) (by unfold keyR; exact congrArg (fun z : ByteArray => z.data.toList) (hp.trans e.symm))]
        rfl
      · rw [if_neg he]
        have hp : ¬ y.p = x.p := fun e => he (by unfold keyR; exact congrArg (fun z : ByteArray => z.data.toList) e)
        have hlt := lt_tri _ _ hk he
        rw [if_neg hp, withE_true fun z hz e => lt_not (List.lt_trans hlt (h1 z.row (List.mem_map.2 ⟨z, hz, rfl⟩))) (by unfold keyR; exact congrArg (fun z : ByteArray => z.data.toList) e.symm)]
        rfl
theorem withE_mem {x e : Ent} : ∀ {d : Bool} {M : List Ent}, e ∈ withE x d M → e = x ∨ e ∈ M
  | d, [], h => by cases d <;> simp_all [withE]
  | d, y :: t, h => by
    unfold withE at h
    rcases List.mem_append.1 h with h | h
    · split at h
      · exact .inl (by simpa using h)
      · cases h
    · rcases List.mem_append.1 h with h | h
      · split at h
        · cases h
        · exact .inr (by simp at h; simp [h])
      · rcases withE_mem h with q | q
        · exact .inl q
        · exact .inr (by simp [q])
theorem withE_len {x : Ent} : ∀ {d : Bool} {M : List Ent}, (withE x d M).length ≤ M.length + if d then 0 else 1
  | d, [] => by cases d <;> simp [withE]
  | d, y :: t => by
    have ih := withE_len (x := x) (d := d || !decide (keyR y.row < keyR x.row)) (M := t)
    unfold withE
    simp only [List.length_append, List.length_cons]
    revert ih
    generalize (withE x (d || !decide (keyR y.row < keyR x.row)) t).length = n
    generalize decide (keyR y.row < keyR x.row) = b
    intro ih
    have h3 : (if y.p = x.p then ([] : List Ent) else [y]).length ≤ 1 := by split <;> simp
    cases d <;> cases b <;> simp at ih ⊢ <;> omega
/-- A slice of rows of its own; it does not lie below B. -/
structure RowsS (w : World) (B : Nat) (p : Option Addr) (c : Nat) (K : List Ent) : Prop where
  sl : Sl w (kp p) 1 3 57 p K.length c (entCells K)
  low : ∀ g, p = some ⟨g, 0, none⟩ → B ≤ g
section
variable {w w' : World} {B : Nat} {p : Option Addr} {c : Nat} {K : List Ent}
theorem RowsS.nil (w : World) (B : Nat) : RowsS w B none 0 [] := ⟨Sl.nil _ _ _ _ _, fun _ h => by cases h⟩
theorem RowsS.ext (h : RowsS w B p c K) (x : Ext w w') : RowsS w' B p c K := ⟨h.sl.ext x, h.low⟩
theorem RowsS.rowsP (h : RowsS w B p c K) (hv : ∀ e ∈ K, VersP w e.a e.L) : RowsP w p K := ⟨fun k x hk => by
  obtain ⟨g, h1, h2, _, _, _⟩ := h.sl.cell (entCells_get K k x hk 0 _ rfl)
  refine ⟨_, h1, h2, fun j v hv => ?_⟩
  obtain ⟨g', e, _, _, h4, _⟩ := h.sl.cell (entCells_get K k x hk j v hv)
  rw [h1] at e
  cases e
  rw [Addr.add_mid, Nat.zero_add]
  exact h4, hv⟩
theorem RowsS.newP (h : RowsS w B p c K) {w0 : World} (hB : w0.heap.size ≤ B) : NewP w0 p := fun a e => by
  rcases h.sl.2.2.1 with e1 | ⟨g, e1⟩
  · rw [e1] at e; cases e
  · rw [e1] at e; cases e; show w0.heap.size ≤ g; have := h.low g e1; omega
theorem rowsS_grown {w4 : World} {n c4 g0 : Nat} {p4 : Option Addr} {κ4 : Foot} {e : Ent} (s : Sl w4 κ4 1 3 57 p4 (n + 1) c4 (entCells K ++ entCells [e])) (hl : K.length = n) (he : p4 = p ∨ p4 = some ⟨g0, 0, none⟩) (low : ∀ g, p = some ⟨g, 0, none⟩ → B ≤ g) (hB : B ≤ g0) : RowsS w4 B p4 c4 (K ++ [e]) := by
  refine ⟨?_, fun g hg => ?_⟩
  · rw [entCells_app, List.length_append, hl]
    exact s.kp
  · rcases he with q | q
    · rw [q] at hg; exact low g hg
    · rw [q] at hg; cases hg; exact hB
theorem RowsP.box {x : Ent} (w : World) : Src Tryz.prog 3 31 (.slice (some ⟨w.heap.size, 0, none⟩) 1 1) 1 (entCells [x]) (w.alloc (.cells x.cells.toArray 57)) := src_row _ _ x (by
  have := Blk.new w x.cells 57
  exact this)
end
set_option maxRecDepth 100000 in
set_option maxHeartbeats 8000000 in
theorem rwith_any (w : World) (p : Option Addr) (c : Nat) (M : List Ent) (hM : RowsP w p M) (hn : M.length ≤ 1000000) (x : Ent) (hx : VersP w x.a x.L) :
    Calls Tryz.prog 56 #[.slice p M.length c, .agg #[.string x.p, .int .u64 (x.m : Int), .slice x.a x.L.length x.c]] w fun e w' => ∃ q c', e = .returned (.slice q (withE x false M).length c') ∧ RowsP w' q (withE x false M) ∧ (NewP w q ∧ (withE x false M).length ≤ c') ∧ Ext w w' := by
  obtain ⟨xp, xm, xL, xa, xc⟩ := x
  dsimp only at hx ⊢
  obtain ⟨n, hnn⟩ : ∃ n, M.length = n := ⟨_, rfl⟩
  obtain ⟨xl, hxl⟩ : ∃ n, xL.length = n := ⟨_, rfl⟩
  have HN := Lib.hid hnn
  have HXL := Lib.hid hxl
  rw [hnn] at hn ⊢
  rw [hxl]
  obtain ⟨F, hF⟩ : ∃ F, withE ⟨xp, xm, xL, xa, xc⟩ false M = F := ⟨_, rfl⟩
  have HF := Lib.hid hF
  rw [hF]
  have HFin : Hid (∀ u q cc, Ext w u → RowsS u 0 q cc F → RowsP u q F) := Lib.hid (fun u q cc h1 h2 => h2.rowsP (fun e he => by
    rw [← hF] at he
    rcases withE_mem he with rfl | he
    · exact hx.ext h1
    · exact (hM.2 e he).ext h1))
  have HX0 := Lib.hid ((Ext.refl w).alloc (.cells #[.string xp, .int .u64 (xm : Int), .slice xa xl xc] 57))
  have HB0 := Lib.hid (Blk.new w [.string xp, .int .u64 (xm : Int), .slice xa xl xc] 57)
  have HP := Lib.hid (hM.ext HX0.out)
  clear hM hx hnn hxl hF
  go_enter Tryz.func56, Tryz.ntmps56
  go_wp2
  generalize w.alloc (.cells #[.string xp, .int .u64 (xm : Int), .slice xa xl xc] 57) = V0 at *
  have HBx := Lib.hid (fun u (x : Ext V0 u) => HB0.out.ext x)
  go_loopw [5, 6, 7] (fun mv dv iv wr => ∃ (j : Nat) (d : Bool) (K : List Ent) (pv : Option Addr) (cv kl : Nat), j ≤ n ∧ kl ≤ 2 * j ∧ iv = .int .i64 (j : Int) ∧ dv = .bool d ∧ mv = .slice pv kl cv ∧ Hid (K.length = kl) ∧ Hid (K ++ withE ⟨xp, xm, xL, xa, xc⟩ d (M.drop j) = F) ∧ Hid (RowsS wr V0.heap.size pv cv K) ∧ Hid (Ext V0 wr)) (fun _ _ iv _ => n - (intOf iv).toNat)
  case atStart => exact ⟨0, false, [], none, 0, 0, Nat.zero_le _, Nat.zero_le _, rfl, rfl, rfl, Lib.hid rfl, Lib.hid (by rw [List.drop_zero]; exact HF.out), Lib.hid (RowsS.nil _ _), Lib.hid (Ext.refl _)⟩
  case round =>
    obtain ⟨j, d, K, pv, cv, kl, hj, hkl, rfl, rfl, rfl, HKL, HEq0, HSo, HX⟩ := hrel
    by_cases hlt : j < n
    · obtain ⟨⟨yp, ym, yL, ya, yc⟩, hy⟩ : ∃ y, M[j]? = some y := ⟨_, List.getElem?_eq_getElem (by have := HN.out; omega)⟩
      have hEq := HEq0.out
      have hdrop : M.drop j = ⟨yp, ym, yL, ya, yc⟩ :: M.drop (j + 1) := by
        obtain ⟨q1, q2⟩ := List.getElem?_eq_some_iff.1 hy
        rw [← q2]
        exact List.drop_eq_getElem_cons q1
      rw [hdrop] at hEq
      unfold withE at hEq
      have HYs := Lib.hid (fun u (x : Ext V0 u) => HP.out.three x hy)
      obtain ⟨yl, hyl⟩ : ∃ n, yL.length = n := ⟨_, rfl⟩
      have HYL := Lib.hid hyl
      obtain ⟨pb, rfl, g0, g1, g2⟩ := HYs.out wr HX.out
      have bu := HBx.out wr HX.out
      have b0 := bu.cell 0 _ rfl
      dsimp only at HYs g0 g1 g2 hEq
      rw [hyl] at HYs g2
      clear hdrop hy hyl bu
      cases d with
      | false =>
        by_cases hb0 : keyR (Ent.row ⟨yp, ym, yL, ya, yc⟩) < keyR (Ent.row ⟨xp, xm, xL, xa, xc⟩)
        · have hb : Op.bytesLess yp.toList xp.toList = true := by rw [lessB]; exact decide_eq_true hb0
          have hpe : ¬ yp = xp := fun e => lt_not hb0 (by unfold keyR; exact congrArg (fun z : ByteArray => z.data.toList) e)
          have hne := txtY_ne hpe
          have HEq : Hid (K ++ ([⟨yp, ym, yL, ya, yc⟩] ++ withE ⟨xp, xm, xL, xa, xc⟩ false (M.drop (j + 1))) = F) := Lib.hid (by rw [← hEq]; simp [hb0, hpe])
          clear hb0 hpe hEq
          go_wp2
          go_quiet (fail)
          have HXU := Lib.hid (HX.out.drewN nq)
          have HSU := Lib.hid (HSo.out.ext ((Ext.refl wr).drewN nq))
          generalize wr.drewN nq = U at *
          have bu := HBx.out U HXU.out
          have b0 := bu.cell 0 _ rfl
          have b1 := bu.cell 1 _ rfl
          have b2 := bu.cell 2 _ rfl
          go_upto_region 9 with (fail)
          obtain ⟨yb, ye, g0, g1, g2⟩ := HYs.out U HXU.out
          cases ye
          go_quiet (fail)
          have HXW := Lib.hid (HXU.out.drewN nq)
          have HSW := Lib.hid (HSU.out.ext ((Ext.refl U).drewN nq))
          generalize U.drewN nq = V at *
          obtain ⟨yb2, ye, k0, k1, k2⟩ := HYs.out V HXW.out
          cases ye
          have HSLY : Hid (Sl (V.alloc (.cells #[.string yp, .int .u64 (ym : Int), .slice ya yl yc] 57)) (kp pv) 1 3 57 pv kl cv (entCells K)) := Lib.hid (by have := (HSW.out.ext ((Ext.refl V).alloc (.cells #[.string yp, .int .u64 (ym : Int), .slice ya yl yc] 57))).sl; rwa [HKL.out] at this)
          have HSRY : Hid (Src Tryz.prog 3 31 (.slice (some ⟨V.heap.size, 0, none⟩) 1 1) 1 (entCells [⟨yp, ym, yL, ya, yc⟩]) (V.alloc (.cells #[.string yp, .int .u64 (ym : Int), .slice ya yl yc] 57))) := Lib.hid (by have := RowsP.box (x := ⟨yp, ym, yL, ya, yc⟩) V; unfold Ent.cells at this; dsimp only at this; rw [HYL.out] at this; exact this)
          have HSZY : Hid (V0.heap.size ≤ (V.alloc (.cells #[.string yp, .int .u64 (ym : Int), .slice ya yl yc] 57)).heap.size) := Lib.hid (HXW.out.alloc _).size
          go_wp2_with (first | (refine wpList_append_sl rfl (.tmp 38) (.tmp 43) 31 31 rfl Tryz.underlying31 infoRow rfl (by decide) rfl HSLY.out (entCells_one K) _ rfl 1 _ HSRY.out (by omega) ?_; intro p6 c6 w6 κ4 s4 f4 e4 x4 o4; have HKp6 := Lib.hid (keepA_of_frZ HSLY.out HSW.out.low HSZY.out f4 x4); have HS6 : Hid (RowsS w6 V0.heap.size p6 c6 (K ++ [⟨yp, ym, yL, ya, yc⟩])) := Lib.hid (rowsS_grown s4 HKL.out e4 HSW.out.low HSZY.out); have HX6 : Hid (Ext V0 w6) := Lib.hid ((HXW.out.alloc _).trans3 HKp6.out.below); clear s4 f4 e4 x4 o4))
          go_roundw
          case rel => exact ⟨j + 1, false, K ++ [⟨yp, ym, yL, ya, yc⟩], p6, c6, kl + 1, by omega, by omega, by go_num, rfl, rfl, Lib.hid (by rw [List.length_append, HKL.out]; rfl), Lib.hid (by rw [← HEq.out]; try simp), HS6, HX6⟩
          case measure => simp [intOf]; omega
        · have hb : Op.bytesLess yp.toList xp.toList = false := by rw [lessB]; exact decide_eq_false hb0
          by_cases he : xp = yp
          · subst he
            have HEq : Hid (K ++ ([⟨xp, xm, xL, xa, xc⟩] ++ withE ⟨xp, xm, xL, xa, xc⟩ true (M.drop (j + 1))) = F) := Lib.hid (by rw [← hEq]; simp [hb0])
            clear hb0 hEq
            go_wp2
            go_quiet (fail)
            have HXU := Lib.hid (HX.out.drewN nq)
            have HSU := Lib.hid (HSo.out.ext ((Ext.refl wr).drewN nq))
            generalize wr.drewN nq = U at *
            have bu := HBx.out U HXU.out
            have b0 := bu.cell 0 _ rfl
            have b1 := bu.cell 1 _ rfl
            have b2 := bu.cell 2 _ rfl
            have HSLX : Hid (Sl (U.alloc (.cells #[.string xp, .int .u64 (xm : Int), .slice xa xl xc] 57)) (kp pv) 1 3 57 pv kl cv (entCells K)) := Lib.hid (by have := (HSU.out.ext ((Ext.refl U).alloc (.cells #[.string xp, .int .u64 (xm : Int), .slice xa xl xc] 57))).sl; rwa [HKL.out] at this)
            have HSRX : Hid (Src Tryz.prog 3 31 (.slice (some ⟨U.heap.size, 0, none⟩) 1 1) 1 (entCells [⟨xp, xm, xL, xa, xc⟩]) (U.alloc (.cells #[.string xp, .int .u64 (xm : Int), .slice xa xl xc] 57))) := Lib.hid (by have := RowsP.box (x := ⟨xp, xm, xL, xa, xc⟩) U; unfold Ent.cells at this; dsimp only at this; rw [HXL.out] at this; exact this)
            have HSZX : Hid (V0.heap.size ≤ (U.alloc (.cells #[.string xp, .int .u64 (xm : Int), .slice xa xl xc] 57)).heap.size) := Lib.hid (HXU.out.alloc _).size
            go_upto_region 9 with (first | (refine wpList_append_sl rfl (.tmp 26) (.tmp 28) 31 31 rfl Tryz.underlying31 infoRow rfl (by decide) rfl HSLX.out (entCells_one K) _ rfl 1 _ HSRX.out (by omega) ?_; intro p5 c5 w5 κ4 s4 f4 e4 x4 o4; have HKp5 := Lib.hid (keepA_of_frZ HSLX.out HSU.out.low HSZX.out f4 x4); have HS5 : Hid (RowsS w5 V0.heap.size p5 c5 (K ++ [⟨xp, xm, xL, xa, xc⟩])) := Lib.hid (rowsS_grown s4 HKL.out e4 HSU.out.low HSZX.out); have HX5 : Hid (Ext V0 w5) := Lib.hid ((HXU.out.alloc _).trans3 HKp5.out.below); clear s4 f4 e4 x4 o4))
            have HKL2 : Hid ((K ++ [(⟨xp, xm, xL, xa, xc⟩ : Ent)]).length = kl + 1) := Lib.hid (by rw [List.length_append, HKL.out]; rfl)
            have bv := HBx.out w5 HX5.out
            have e0 := bv.cell 0 _ rfl
            clear b0 b1 b2 bu
            obtain ⟨yb, ye, g0, g1, g2⟩ := HYs.out w5 HX5.out
            cases ye
            go_quiet (fail)
            have HXW := Lib.hid (HX5.out.drewN nq)
            have HSW := Lib.hid (HS5.out.ext ((Ext.refl w5).drewN nq))
            generalize w5.drewN nq = V at *
            go_wp2
            go_roundw
            case rel => exact ⟨j + 1, true, (K ++ [⟨xp, xm, xL, xa, xc⟩]), p5, c5, (kl + 1), by omega, by omega, by go_num, rfl, rfl, HKL2, Lib.hid (by rw [← HEq.out]; try simp), HSW, HXW⟩
            case measure => simp [intOf]; omega
          · have hpe : ¬ yp = xp := fun e => he e.symm
            have hne := txtY_ne hpe
            have HEq : Hid (K ++ ([⟨xp, xm, xL, xa, xc⟩] ++ ([⟨yp, ym, yL, ya, yc⟩] ++ withE ⟨xp, xm, xL, xa, xc⟩ true (M.drop (j + 1)))) = F) := Lib.hid (by rw [← hEq]; simp [hb0, hpe])
            clear hb0 hpe he hEq
            go_wp2
            go_quiet (fail)
            have HXU := Lib.hid (HX.out.drewN nq)
            have HSU := Lib.hid (HSo.out.ext ((Ext.refl wr).drewN nq))
            generalize wr.drewN nq = U at *
            have bu := HBx.out U HXU.out
            have b0 := bu.cell 0 _ rfl
            have b1 := bu.cell 1 _ rfl
            have b2 := bu.cell 2 _ rfl
            have HSLX : Hid (Sl (U.alloc (.cells #[.string xp, .int .u64 (xm : Int), .slice xa xl xc] 57)) (kp pv) 1 3 57 pv kl cv (entCells K)) := Lib.hid (by have := (HSU.out.ext ((Ext.refl U).alloc (.cells #[.string xp, .int .u64 (xm : Int), .slice xa xl xc] 57))).sl; rwa [HKL.out] at this)
            have HSRX : Hid (Src Tryz.prog 3 31 (.slice (some ⟨U.heap.size, 0, none⟩) 1 1) 1 (entCells [⟨xp, xm, xL, xa, xc⟩]) (U.alloc (.cells #[.string xp, .int .u64 (xm : Int), .slice xa xl xc] 57))) := Lib.hid (by have := RowsP.box (x := ⟨xp, xm, xL, xa, xc⟩) U; unfold Ent.cells at this; dsimp only at this; rw [HXL.out] at this; exact this)
            have HSZX : Hid (V0.heap.size ≤ (U.alloc (.cells #[.string xp, .int .u64 (xm : Int), .slice xa xl xc] 57)).heap.size) := Lib.hid (HXU.out.alloc _).size
            go_upto_region 9 with (first | (refine wpList_append_sl rfl (.tmp 26) (.tmp 28) 31 31 rfl Tryz.underlying31 infoRow rfl (by decide) rfl HSLX.out (entCells_one K) _ rfl 1 _ HSRX.out (by omega) ?_; intro p5 c5 w5 κ4 s4 f4 e4 x4 o4; have HKp5 := Lib.hid (keepA_of_frZ HSLX.out HSU.out.low HSZX.out f4 x4); have HS5 : Hid (RowsS w5 V0.heap.size p5 c5 (K ++ [⟨xp, xm, xL, xa, xc⟩])) := Lib.hid (rowsS_grown s4 HKL.out e4 HSU.out.low HSZX.out); have HX5 : Hid (Ext V0 w5) := Lib.hid ((HXU.out.alloc _).trans3 HKp5.out.below); clear s4 f4 e4 x4 o4))
            have HKL2 : Hid ((K ++ [(⟨xp, xm, xL, xa, xc⟩ : Ent)]).length = kl + 1) := Lib.hid (by rw [List.length_append, HKL.out]; rfl)
            have bv := HBx.out w5 HX5.out
            have e0 := bv.cell 0 _ rfl
            clear b0 b1 b2 bu
            obtain ⟨yb, ye, g0, g1, g2⟩ := HYs.out w5 HX5.out
            cases ye
            go_quiet (fail)
            have HXW := Lib.hid (HX5.out.drewN nq)
            have HSW := Lib.hid (HS5.out.ext ((Ext.refl w5).drewN nq))
            generalize w5.drewN nq = V at *
            obtain ⟨yb2, ye, k0, k1, k2⟩ := HYs.out V HXW.out
            cases ye
            have HSLY : Hid (Sl (V.alloc (.cells #[.string yp, .int .u64 (ym : Int), .slice ya yl yc] 57)) (kp p5) 1 3 57 p5 (kl + 1) c5 (entCells (K ++ [⟨xp, xm, xL, xa, xc⟩]))) := Lib.hid (by have := (HSW.out.ext ((Ext.refl V).alloc (.cells #[.string yp, .int .u64 (ym : Int), .slice ya yl yc] 57))).sl; rwa [HKL2.out] at this)
            have HSRY : Hid (Src Tryz.prog 3 31 (.slice (some ⟨V.heap.size, 0, none⟩) 1 1) 1 (entCells [⟨yp, ym, yL, ya, yc⟩]) (V.alloc (.cells #[.string yp, .int .u64 (ym : Int), .slice ya yl yc] 57))) := Lib.hid (by have := RowsP.box (x := ⟨yp, ym, yL, ya, yc⟩) V; unfold Ent.cells at this; dsimp only at this; rw [HYL.out] at this; exact this)
            have HSZY : Hid (V0.heap.size ≤ (V.alloc (.cells #[.string yp, .int .u64 (ym : Int), .slice ya yl yc] 57)).heap.size) := Lib.hid (HXW.out.alloc _).size
            go_wp2_with (first | (refine wpList_append_sl rfl (.tmp 38) (.tmp 43) 31 31 rfl Tryz.underlying31 infoRow rfl (by decide) rfl HSLY.out (entCells_one (K ++ [⟨xp, xm, xL, xa, xc⟩])) _ rfl 1 _ HSRY.out (by omega) ?_; intro p6 c6 w6 κ4 s4 f4 e4 x4 o4; have HKp6 := Lib.hid (keepA_of_frZ HSLY.out HSW.out.low HSZY.out f4 x4); have HS6 : Hid (RowsS w6 V0.heap.size p6 c6 ((K ++ [⟨xp, xm, xL, xa, xc⟩]) ++ [⟨yp, ym, yL, ya, yc⟩])) := Lib.hid (rowsS_grown s4 HKL2.out e4 HSW.out.low HSZY.out); have HX6 : Hid (Ext V0 w6) := Lib.hid ((HXW.out.alloc _).trans3 HKp6.out.below); clear s4 f4 e4 x4 o4))
            go_roundw
            case rel => exact ⟨j + 1, true, (K ++ [⟨xp, xm, xL, xa, xc⟩]) ++ [⟨yp, ym, yL, ya, yc⟩], p6, c6, (kl + 1) + 1, by omega, by omega, by go_num, rfl, rfl, Lib.hid (by rw [List.length_append, HKL2.out]; rfl), Lib.hid (by rw [← HEq.out]; try simp), HS6, HX6⟩
            case measure => simp [intOf]; omega
      | true =>
        by_cases he : xp = yp
        · subst he
          have HEq : Hid (K ++ withE ⟨xp, xm, xL, xa, xc⟩ true (M.drop (j + 1)) = F) := Lib.hid (by rw [← hEq]; simp)
          clear hEq
          go_wp2
          go_quiet (fail)
          have HXU := Lib.hid (HX.out.drewN nq)
          have HSU := Lib.hid (HSo.out.ext ((Ext.refl wr).drewN nq))
          generalize wr.drewN nq = U at *
          have bu := HBx.out U HXU.out
          have b0 := bu.cell 0 _ rfl
          have b1 := bu.cell 1 _ rfl
          have b2 := bu.cell 2 _ rfl
          go_upto_region 9 with (fail)
          obtain ⟨yb, ye, g0, g1, g2⟩ := HYs.out U HXU.out
          cases ye
          go_quiet (fail)
          have HXW := Lib.hid (HXU.out.drewN nq)
          have HSW := Lib.hid (HSU.out.ext ((Ext.refl U).drewN nq))
          generalize U.drewN nq = V at *
          go_wp2
          go_roundw
          case rel => exact ⟨j + 1, true, K, pv, cv, kl, by omega, by omega, by go_num, rfl, rfl, HKL, Lib.hid (by rw [← HEq.out]; try simp), HSW, HXW⟩
          case measure => simp [intOf]; omega
        · have hpe : ¬ yp = xp := fun e => he e.symm
          have hne := txtY_ne hpe
          have HEq : Hid (K ++ ([⟨yp, ym, yL, ya, yc⟩] ++ withE ⟨xp, xm, xL, xa, xc⟩ true (M.drop (j + 1))) = F) := Lib.hid (by rw [← hEq]; simp [hpe])
          clear hpe he hEq
          go_wp2
          go_quiet (fail)
          have HXU := Lib.hid (HX.out.drewN nq)
          have HSU := Lib.hid (HSo.out.ext ((Ext.refl wr).drewN nq))
          generalize wr.drewN nq = U at *
          have bu := HBx.out U HXU.out
          have b0 := bu.cell 0 _ rfl
          have b1 := bu.cell 1 _ rfl
          have b2 := bu.cell 2 _ rfl
          go_upto_region 9 with (fail)
          obtain ⟨yb, ye, g0, g1, g2⟩ := HYs.out U HXU.out
          cases ye
          go_quiet (fail)
          have HXW := Lib.hid (HXU.out.drewN nq)
          have HSW := Lib.hid (HSU.out.ext ((Ext.refl U).drewN nq))
          generalize U.drewN nq = V at *
          obtain ⟨yb2, ye, k0, k1, k2⟩ := HYs.out V HXW.out
          cases ye
          have HSLY : Hid (Sl (V.alloc (.cells #[.string yp, .int .u64 (ym : Int), .slice ya yl yc] 57)) (kp pv) 1 3 57 pv kl cv (entCells K)) := Lib.hid (by have := (HSW.out.ext ((Ext.refl V).alloc (.cells #[.string yp, .int .u64 (ym : Int), .slice ya yl yc] 57))).sl; rwa [HKL.out] at this)
          have HSRY : Hid (Src Tryz.prog 3 31 (.slice (some ⟨V.heap.size, 0, none⟩) 1 1) 1 (entCells [⟨yp, ym, yL, ya, yc⟩]) (V.alloc (.cells #[.string yp, .int .u64 (ym : Int), .slice ya yl yc] 57))) := Lib.hid (by have := RowsP.box (x := ⟨yp, ym, yL, ya, yc⟩) V; unfold Ent.cells at this; dsimp only at this; rw [HYL.out] at this; exact this)
          have HSZY : Hid (V0.heap.size ≤ (V.alloc (.cells #[.string yp, .int .u64 (ym : Int), .slice ya yl yc] 57)).heap.size) := Lib.hid (HXW.out.alloc _).size
          go_wp2_with (first | (refine wpList_append_sl rfl (.tmp 38) (.tmp 43) 31 31 rfl Tryz.underlying31 infoRow rfl (by decide) rfl HSLY.out (entCells_one K) _ rfl 1 _ HSRY.out (by omega) ?_; intro p6 c6 w6 κ4 s4 f4 e4 x4 o4; have HKp6 := Lib.hid (keepA_of_frZ HSLY.out HSW.out.low HSZY.out f4 x4); have HS6 : Hid (RowsS w6 V0.heap.size p6 c6 (K ++ [⟨yp, ym, yL, ya, yc⟩])) := Lib.hid (rowsS_grown s4 HKL.out e4 HSW.out.low HSZY.out); have HX6 : Hid (Ext V0 w6) := Lib.hid ((HXW.out.alloc _).trans3 HKp6.out.below); clear s4 f4 e4 x4 o4))
          go_roundw
          case rel => exact ⟨j + 1, true, K ++ [⟨yp, ym, yL, ya, yc⟩], p6, c6, kl + 1, by omega, by omega, by go_num, rfl, rfl, Lib.hid (by rw [List.length_append, HKL.out]; rfl), Lib.hid (by rw [← HEq.out]; try simp), HS6, HX6⟩
          case measure => simp [intOf]; omega
    · obtain rfl : j = n := by omega
      have hEq := HEq0.out
      rw [List.drop_of_length_le (by rw [HN.out]; exact Nat.le_refl _)] at hEq
      cases d with
      | true =>
        have hFe : K = F := by rw [← hEq]; simp [withE]
        clear hEq
        go_wp2
        go_ret
        subst hFe
        exact ⟨pv, cv, by rw [HKL.out]; rfl, HFin.out _ _ _ (HX0.out.trans HX.out) ⟨HSo.out.sl, fun _ _ => Nat.zero_le _⟩, ⟨HSo.out.newP HX0.out.size, HSo.out.sl.2.1⟩, HX0.out.trans HX.out⟩
      | false =>
        have hFe : K ++ [⟨xp, xm, xL, xa, xc⟩] = F := by rw [← hEq]; simp [withE]
        have HFe := Lib.hid hFe
        clear hEq hFe
        have bu := HBx.out wr HX.out
        have b0 := bu.cell 0 _ rfl
        have b1 := bu.cell 1 _ rfl
        have b2 := bu.cell 2 _ rfl
        clear bu
        have HSLZ : Hid (Sl (wr.alloc (.cells #[.string xp, .int .u64 (xm : Int), .slice xa xl xc] 57)) (kp pv) 1 3 57 pv kl cv (entCells K)) := Lib.hid (by have := (HSo.out.ext ((Ext.refl wr).alloc (.cells #[.string xp, .int .u64 (xm : Int), .slice xa xl xc] 57))).sl; rwa [HKL.out] at this)
        have HSRZ : Hid (Src Tryz.prog 3 31 (.slice (some ⟨wr.heap.size, 0, none⟩) 1 1) 1 (entCells [⟨xp, xm, xL, xa, xc⟩]) (wr.alloc (.cells #[.string xp, .int .u64 (xm : Int), .slice xa xl xc] 57))) := Lib.hid (by have := RowsP.box (x := ⟨xp, xm, xL, xa, xc⟩) wr; unfold Ent.cells at this; dsimp only at this; rw [HXL.out] at this; exact this)
        have HSZZ : Hid (V0.heap.size ≤ (wr.alloc (.cells #[.string xp, .int .u64 (xm : Int), .slice xa xl xc] 57)).heap.size) := Lib.hid (HX.out.alloc _).size
        go_wp2_with (first | (refine wpList_append_sl rfl (.tmp 47) (.tmp 49) 31 31 rfl Tryz.underlying31 infoRow rfl (by decide) rfl HSLZ.out (entCells_one K) _ rfl 1 _ HSRZ.out (by omega) ?_; intro p6 c6 w6 κ4 s4 f4 e4 x4 o4; have HKp6 := Lib.hid (keepA_of_frZ HSLZ.out HSo.out.low HSZZ.out f4 x4); have HS6 : Hid (RowsS w6 V0.heap.size p6 c6 (K ++ [⟨xp, xm, xL, xa, xc⟩])) := Lib.hid (rowsS_grown s4 HKL.out e4 HSo.out.low HSZZ.out); have HX6 : Hid (Ext V0 w6) := Lib.hid ((HX.out.alloc _).trans3 HKp6.out.below); clear s4 f4 e4 x4 o4))
        go_ret
        obtain hFe := HFe.out
        subst hFe
        exact ⟨p6, c6, by rw [List.length_append, HKL.out]; rfl, HFin.out _ _ _ (HX0.out.trans HX6.out) ⟨HS6.out.sl, fun _ _ => Nat.zero_le _⟩, ⟨HS6.out.newP HX0.out.size, HS6.out.sl.2.1⟩, HX0.out.trans HX6.out⟩
end Go.Proofs.YtkjcpjalldbahaaGreatDoor
end
