/- Contract: slices.Delete of the first of some versions, in place. -/
import Derived.Test.YtkjcpjalldbahaaGreatDoorM11
import Derived.Deep.RegionLaw
section
namespace Go.Proofs.YtkjcpjalldbahaaGreatDoor
open Go.RowKit

/-- All but versions' blocks were kept, and all below a place. -/
structure KeepV (B : Nat) (w w' : World) : Prop where
  below : Below B w w'
  keep : ∀ (g : Nat) (o : Obj), w.heap[g]? = some o → (∀ cur fr, o ≠ .cells cur 41 fr) → w'.heap[g]? = some o
section
variable {w w' w'' : World} {B : Nat} {p : Option Addr} {c : Nat} {L : List Ver}
theorem KeepV.trans (h : KeepV B w w') (k : KeepV B w' w'') : KeepV B w w'' := ⟨h.below.trans k.below, fun g o q r => k.keep g o (h.keep g o q r) r⟩
theorem KeepV.ofExt (h : Ext w w') (hB : B ≤ w.heap.size) : KeepV B w w' := ⟨⟨h.os, h.tape, h.output, h.size, fun g hg => h.block g (by omega)⟩, fun g o q _ => (h.block g (heap_lt q)).trans q⟩
theorem Blk.keepV {b : Nat} {T : TypeId} {cs : List Value} (h : Blk w b T cs) (k : KeepV B w w') (hT : T ≠ 41) : Blk w' b T cs := k.keep _ _ h (fun _ _ e => hT (by cases e; rfl))
theorem Ext.keptV {v : World} (hv : Ext v w) (k : KeepV v.heap.size w w') : Ext v w' := hv.trans3 k.below
theorem KeepV.base {A : Nat} (h : KeepV B w w') (hA : A ≤ B) : KeepV A w w' := ⟨⟨h.below.os, h.below.tape, h.below.output, h.below.size, fun g hg => h.below.block g (by omega)⟩, h.keep⟩
theorem keepV_of_fr {κ' : Foot} {n : Nat} {vs : List Value} (hs : Sl w (kp p) 1 3 41 p n c vs) (hl : ∀ g, p = some ⟨g, 0, none⟩ → B ≤ g) (hB : B ≤ w.heap.size) (f : Fr (kp p) (fun j => j = 1) w w' κ') (hx : c = 0 → Ext w w') : KeepV B w w' := by
  refine ⟨f.below (by decide) (fun g hg => ?_) hB, fun g o ho hn => ?_⟩
  · unfold kp
    rw [if_neg fun e => by have := hl g e; omega]
  · by_cases hc : c = 0
    · exact ((hx hc).block g (heap_lt ho)).trans ho
    · obtain ⟨g', cur, e1, _, h3, _⟩ := hs.2.2.2 (by omega)
      by_cases e : g = g'
      · subst e
        rw [h3] at ho
        cases ho
        exact absurd rfl (hn _ _)
      · refine (f.other g (heap_lt ho) fun q => ?_).trans ho
        have := kp_one q
        rw [e1] at this
        cases this
        exact e rfl
/-- Cells written into the slice's own block. -/
theorem keepV_setCells {g : Nat} {cur : Array Value} (hg : w.heap[g]? = some (.cells cur 41 (0, 0))) (hB : B ≤ g) (vs : List Value) (o : Nat) : KeepV B w (w.setCells g o vs) :=
  ⟨below_setCells hB vs o (Below.refl _ _), fun x ob hx hn => by
    by_cases e : x = g
    · subst e
      rw [hg] at hx
      cases hx
      exact absurd rfl (hn _ _)
    · exact (setCells_other g e vs o w).trans hx⟩
end
/-- clear(s), as a step of a plain region, where its run is told. -/
theorem wpList_clear {w w' : World} {ops : Array Oper} {rest : List Oper} {o : Oper} {a : Act} {Q : Exit → Act → World → Prop} (hgd : o.guard = none) (x : Operand) (t : TypeId)
    (ho : o.op = .call { callee := .builtin .clear, args := #[x], argTypes := #[t] }) (xv : Value) (hx : a.eval x = xv) (hr : (Builtin.clear_ #[t] o.type #[xv]).run Tryz.prog w = .ok (.tuple #[]) w')
    (hQ : wpList Tryz.prog ops Q rest (a.put o.dst (.tuple #[])) w') : wpList Tryz.prog ops Q (o :: rest) a w := by
  refine wpList_plain hgd fun K hK => ?_
  unfold Oper.wp execOp
  simp only [ho, resolve, invoke, builtin, Sem.run_bind, Sem.run_pure, Result.andThen_ok, List.map_toArray, List.map_cons, List.map_nil, hx, hr]
  exact hK _ _ hQ
/-- clear of one version. -/
theorem run_clearV (w : World) (ty : TypeId) (g o c : Nat) (cur : Array Value) (hg : w.heap[g]? = some (.cells cur 41 (0, 0))) (ho : o + 3 ≤ cur.size) :
    (Builtin.clear_ #[53] ty #[.slice (some ⟨g, o, none⟩) 1 c]).run Tryz.prog w = .ok (.tuple #[]) (w.setCells g o [.int .u64 0, .int .u8 0, .string ⟨#[]⟩]) := by
  obtain ⟨i, hi, hz, _, _⟩ := info_parts infoV
  have hv : ∀ w, (zeroValue 41).run Tryz.prog w = .ok (.agg #[.int .u64 0, .int .u8 0, .string ⟨#[]⟩]) w := fun w => by simp [zeroValue, typeInfo, hi, hz]
  have hzc : (Builtin.zeroCells (Value.agg #[.int .u64 0, .int .u8 0, .string ⟨#[]⟩]).cells 1).toList = [.int .u64 0, .int .u8 0, .string ⟨#[]⟩] := by
    simp [Builtin.zeroCells, Value.cells]
    rfl
  have hin : ∀ j, j < 3 → (w.cell? ⟨g, o + j, none⟩).isSome = true := fun j hj => by
    rw [cell_of_row w g _ cur 41 (0, 0) hg, Array.getElem?_eq_getElem (by omega)]; rfl
  have hst := run_storeCells_cells (P := Tryz.prog) g o [.int .u64 0, .int .u8 0, .string ⟨#[]⟩] 0 w (by simpa using hin) (by intro j hj; simp [World.frozen?, hg]) (by intro v hv'; simp at hv'; rcases hv' with rfl | rfl | rfl <;> rfl)
  simp only [Nat.add_zero] at hst
  simp [Builtin.clear_, run_underlying Tryz.underlying53, hv, hzc, hst]
theorem elemV : Tryz.prog.elem 53 = 41 := by kernel_rfl
theorem underV : Tryz.prog.underlying 53 = some (.slice (Tryz.prog.elem 53)) := by rw [elemV]; exact Tryz.underlying53
theorem runDelSizes (u : World) : (sizeOf 41).run Tryz.prog u = .ok 3 u := Tryz.sizeOf41 u
set_option maxRecDepth 100000 in
set_option maxHeartbeats 2000000 in
/-- slices.Delete of the first version. -/
theorem delete_any (w : World) (B : Nat) (p : Option Addr) (c : Nat) (L : List Ver) (h : IsV w B p c L) (hB : B ≤ w.heap.size) (n k : Nat) (hn : L.length = n) (hk : n = k + 1) (h2 : 2 ≤ n) (hm : n ≤ 1000000) :
    Calls Tryz.prog 128 #[.slice p n c, .int .i64 0, .int .i64 1] w fun e w' => e = .returned (.slice p k c) ∧ IsV w' B p c (L.drop 1) ∧ KeepV B w w' := by
  have hnc : n ≤ c := by rw [← hn]; exact h.le
  obtain ⟨g, cur, rfl, _, hg, hcs, hcell⟩ := h.sl.2.2.2 (by omega)
  have hlow := h.low g rfl
  have hsz : ∀ j, j < n * 3 → j < cur.size := fun j hj => by have : n * 3 ≤ c * 3 := Nat.mul_le_mul_right _ hnc; omega
  have hlen : (vsCells L).length = n * 3 := by rw [vsCells_length, hn]
  have hdl : (vsCells (L.drop 1)).length = k * 3 := by rw [vsCells_length, List.length_drop]; omega
  have hdrop : ∀ j u, (vsCells (L.drop 1))[j]? = some u → (vsCells L)[3 + j]? = some u := fun j u hj => by
    have e : vsCells L = vsCells (L.take 1) ++ vsCells (L.drop 1) := by rw [← vsCells_app, List.take_append_drop]
    have e3 : (vsCells (L.take 1)).length = 3 := by rw [vsCells_length, List.length_take]; omega
    rw [e, List.getElem?_append_right (by omega), e3, Nat.add_sub_cancel_left]
    exact hj
  obtain ⟨cur1, q1, q2, q3, q4⟩ := setCells_block g (vsCells (L.drop 1)) 0 w.drew cur 41 hg
  obtain ⟨W1, hW1⟩ : ∃ W1, w.drew.setCells g 0 (vsCells (L.drop 1)) = W1 := ⟨_, rfl⟩
  obtain ⟨cur2, r1, r2, r3, r4⟩ := setCells_block g [.int .u64 0, .int .u8 0, .string ⟨#[]⟩] (k * 3) W1 cur1 41 (by rw [← hW1]; exact q1)
  have HC := Lib.hid (run_clearV W1 0 g (k * 3) (c - k) cur1 (by rw [← hW1]; exact q1) (by rw [q2]; have := hsz (k * 3 + 2) (by omega); omega))
  have HK1 := Lib.hid (KeepV.trans (KeepV.ofExt ((Ext.refl w).drew) hB) (keepV_setCells (w := w.drew) hg hlow (vsCells (L.drop 1)) 0))
  rw [hW1] at HK1
  have HK2 := Lib.hid (KeepV.trans HK1.out (keepV_setCells (w := W1) (by rw [← hW1]; exact q1) hlow [.int .u64 0, .int .u8 0, .string ⟨#[]⟩] (k * 3)))
  obtain ⟨W2, hW2⟩ : ∃ W2, W1.setCells g (k * 3) [.int .u64 0, .int .u8 0, .string ⟨#[]⟩] = W2 := ⟨_, rfl⟩
  rw [hW2] at HC HK2 r1
  have HV : Hid (IsV W2 B (some ⟨g, 0, none⟩) c (L.drop 1)) := Lib.hid ⟨⟨by rw [vsCells_length], by rw [List.length_drop]; omega, .inr ⟨g, rfl⟩, fun _ => ⟨g, cur2, rfl, by simp [kp], r1, by rw [r2, q2]; exact hcs, fun j u hj => by
      have hj2 : j < k * 3 := by rw [← hdl]; exact (List.getElem?_eq_some_iff.1 hj).1
      rw [r3 j hj2]
      have := q4 j u hj (by have := hsz j (by omega); omega)
      rwa [Nat.zero_add] at this⟩⟩, fun x hx => by cases hx; exact hlow⟩
  have hsrc : ∀ j u, (vsCells (L.drop 1))[j]? = some u → w.drew.cell? ((⟨g, 3, none⟩ : Addr).add j) = some u := fun j u hj => by
    rw [Addr.add_mid]
    show w.cell? _ = _
    rw [cell_of_row w g _ cur 41 (0, 0) hg]
    exact hcell _ _ (hdrop j u hj)
  have hspare : ∀ j, j < (vsCells (L.drop 1)).length → (w.drew.cell? ⟨g, 0 + 0 * 3 + j, none⟩).isSome = true ∧ w.drew.frozen? ⟨g, 0 + 0 * 3 + j, none⟩ = false := fun j hj => by
    rw [hdl] at hj
    refine ⟨?_, by show w.frozen? _ = false; simp [World.frozen?, hg]⟩
    show (w.cell? _).isSome = true
    rw [cell_of_row w g _ cur 41 (0, 0) hg, Nat.zero_mul, Nat.zero_add, Array.getElem?_eq_getElem (hsz j (by omega))]
    rfl
  obtain ⟨i0, hi0, hz0, hz1, hz2⟩ := info_parts infoV
  have hone := vsCells_one (L.drop 1)
  generalize vsCells (L.drop 1) = news at hone hsrc hspare hdl hW1
  have HONE := Lib.hid hone
  have HSRC := Lib.hid hsrc; have HSP := Lib.hid hspare; have HDL := Lib.hid hdl
  have HW1 := Lib.hid hW1
  have s1 : ∀ u, (Instr.slice 53 (.slice (some ⟨g, 0, none⟩) n c) (some (.int .i64 0)) (some (.int .i64 1)) (some (.int .i64 (n : Int)))).run Tryz.prog u = .ok (.slice (some ⟨g, 0, none⟩) 1 n) u := fun u => by
    rw [run_slice_lhm (P := Tryz.prog) u 53 (some ⟨g, 0, none⟩) n c underV .i64 .i64 .i64 0 1 (n : Int) (by omega) (by omega) (by omega) (by omega), elemV, runDelSizes]
    simp [Result.andThen, sliced, Addr.add]
  have s2 : ∀ u, (Instr.slice 53 (.slice (some ⟨g, 0, none⟩) n c) none (some (.int .i64 0)) none).run Tryz.prog u = .ok (.slice (some ⟨g, 0, none⟩) 0 c) u := fun u => by
    rw [run_slice_h (P := Tryz.prog) u 53 (some ⟨g, 0, none⟩) n c underV .i64 0 (by omega) (by omega), elemV, runDelSizes]
    simp [Result.andThen, sliced, Addr.add]
  have s3 : ∀ u, (Instr.slice 53 (.slice (some ⟨g, 0, none⟩) n c) (some (.int .i64 1)) none none).run Tryz.prog u = .ok (.slice (some ⟨g, 3, none⟩) k (c - 1)) u := fun u => by
    rw [run_slice_l (P := Tryz.prog) u 53 (some ⟨g, 0, none⟩) n c underV .i64 1 (by omega) (by omega), elemV, runDelSizes]
    simp only [Result.andThen, sliced, show (1 : Int).toNat = 1 from rfl]
    rw [if_neg (by omega)]
    simp [Addr.add_mid, hk]
  have s4 : ∀ u, (Instr.slice 53 (.slice (some ⟨g, 0, none⟩) k c) (some (.int .i64 (k : Int))) (some (.int .i64 (n : Int))) none).run Tryz.prog u = .ok (.slice (some ⟨g, k * 3, none⟩) 1 (c - k)) u := fun u => by
    rw [run_slice_lh (P := Tryz.prog) u 53 (some ⟨g, 0, none⟩) k c underV .i64 .i64 (k : Int) (n : Int) (by omega) (by omega) (by omega), elemV, runDelSizes]
    simp only [Result.andThen, sliced, Int.toNat_natCast]
    rw [if_neg (by omega)]
    simp [Addr.add_mid, hk]
  have hkc : 0 + k ≤ c := by omega
  clear h hsz hlen hdrop q1 q3 q4 r1 r2 r3 r4 hone hsrc hspare hcs hcell hW1 hW2 hn hk hdl hB hlow h2
  go_enter Tryz.func128, Tryz.ntmps128
  go_wp2
  go_region_law (refine step_append_room rfl (.tmp 22) (.tmp 25) 53 rfl 41 i0 3 Tryz.underlying53 hi0 hz1 g 0 0 c rfl ⟨g, 3, none⟩ k (c - 1) _ rfl HDL.out HSRC.out HONE.out hkc HSP.out ?_)
  all_goals
    rw [HW1.out]
    go_wp2_with (refine wpList_clear rfl (.tmp 31) 53 rfl _ rfl HC.out ?_)
    go_ret
    exact ⟨rfl, HV.out, HK2.out⟩
end Go.Proofs.YtkjcpjalldbahaaGreatDoor
end
