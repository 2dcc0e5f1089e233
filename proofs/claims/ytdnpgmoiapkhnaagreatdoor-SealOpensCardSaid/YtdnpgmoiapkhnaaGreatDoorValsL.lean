/- Plain: slices of values of one cell each, nil or not, under one word; a copy of one by append([]T{}, x...). -/
import Derived.Test.YtdnpgmoiapkhnaaGreatDoorM04
import Derived.Deep.AppendSrc
namespace Go.Proofs.YtdnpgmoiapkhnaaGreatDoor
open Go.RowKit

/-- The cells from the address on, if there are any, are these. -/
def ValsP (w : World) (p : Option Addr) (l : List Value) : Prop := ∀ i v, l[i]? = some v → ∃ a, p = some a ∧ a.block < w.heap.size ∧ w.cell? (a.add i) = some v
theorem ValsP.ext {w w' : World} {p : Option Addr} {l : List Value} (h : ValsP w p l) (hx : Ext w w') : ValsP w' p l := fun i s hs => by
  obtain ⟨a, h1, h2, h3⟩ := h i s hs
  exact ⟨a, h1, Nat.lt_of_lt_of_le h2 hx.below.size, by rw [hx.below.cell (p := a.add i) (by rw [add_block]; exact h2)]; exact h3⟩
theorem ValsP.below {B : Nat} {w w' : World} {p : Option Addr} {l : List Value} (h : ValsP w p l) (hx : Below B w w') (hb : ∀ a, p = some a → a.block < B) : ValsP w' p l := fun i s hs => by
  obtain ⟨a, h1, h2, h3⟩ := h i s hs
  exact ⟨a, h1, Nat.lt_of_lt_of_le h2 hx.size, by rw [hx.cell (p := a.add i) (by rw [add_block]; exact hb a h1)]; exact h3⟩
theorem ValsP.none (w : World) : ValsP w none [] := fun i s hs => by simp at hs
theorem add_zero_off (g j : Nat) : (⟨g, 0, .none⟩ : Addr).add j = ⟨g, j, .none⟩ := by unfold Addr.add; split <;> simp_all
theorem Blk.vals {w : World} {g : Nat} {T : TypeId} {l : List Value} (h : Blk w g T l) : ValsP w (some ⟨g, 0, .none⟩) l := fun i v hv =>
  ⟨_, rfl, h.lt, by rw [add_zero_off]; exact h.cell i v hv⟩
theorem TextsP.vals {w : World} {p : Option Addr} {l : List ByteArray} (h : TextsP w p l) : ValsP w p (l.map Value.string) := fun i v hv => by
  rw [List.getElem?_map] at hv
  rcases hs : l[i]? with _ | s
  · rw [hs] at hv; cases hv
  · rw [hs] at hv
    cases hv
    exact h i s hs
theorem ValsP.texts {w : World} {p : Option Addr} {l : List ByteArray} (h : ValsP w p (l.map Value.string)) : TextsP w p l := fun i s hs => h i (.string s) (by rw [List.getElem?_map, hs]; rfl)
theorem ValsP.nil {w : World} {p : Option Addr} {l : List Value} (h : ValsP w p l) (hp : p = .none) : l = [] := by
  cases l with
  | nil => rfl
  | cons v r => obtain ⟨a, e, _⟩ := h 0 v rfl; rw [hp] at e; cases e
/-- append([]T{}, x...): a copy. -/
theorem run_copy {w : World} {t e ty : TypeId} {i0 : TypeInfo} {z : Value} {bytes : Nat} (ht : Tryz.prog.underlying t = some (.slice e)) (hi : Tryz.prog.info? e = some i0) (hz : i0.zero = some z) (hsize : i0.size = 1) (hby : i0.bytes = bytes) (hzs : z.cells.size = 1) (hb : bytes ≤ 16)
    (g : Nat) (hg : w.heap[g]? = some (.cells #[] e (0, 0))) (p : Option Addr) (c : Nat) (l : List Value) (hv : ValsP w p l) (h1 : ∀ u ∈ l, u.oneCell' = true) (hlen : l.length ≤ 1000000) :
    ∃ q c' w', (Builtin.append_ #[t, t] ty #[.slice (some ⟨g, 0, .none⟩) 0 0, .slice p l.length c]).run Tryz.prog w = .ok (.slice (some q) l.length c') w' ∧ ValsP w' (some q) l ∧ Below g w w' := by
  have hgl := heap_lt hg
  cases l with
  | nil =>
    have hs : Src Tryz.prog i0.size t (.slice p 0 c) 0 [] w := by
      cases p with
      | none => exact Src.ofNil w ht c
      | some a => exact Src.ofSlice w ht a 0 c [] (by simp) (fun j u hj => by simp at hj) (fun u hu => by cases hu)
    refine ⟨⟨g, 0, .none⟩, 0, w, ?_, fun j v hj => by simp at hj, Below.refl _ _⟩
    exact run_append_room_src (P := Tryz.prog) w t t ty e i0 ht hi g 0 0 0 (.slice p 0 c) 0 [] hs (by omega) (fun j hj => by simp at hj) (fun j hj => by simp at hj)
  | cons v r =>
    obtain ⟨a, rfl, ha, hc⟩ := hv 0 v rfl
    have hown : w.ownsRow g e 1 (.slice (some ⟨g, 0, .none⟩) 0 0) 0 [] := ⟨rfl, .inr ⟨g, 0, #[], rfl, Nat.le_refl _, hg, Nat.le_refl _, Nat.zero_le _, rfl, rfl⟩⟩
    have hcells : ∀ j u, (v :: r)[j]? = some u → w.cell? (a.add j) = some u := fun j u hj => by
      obtain ⟨b, e, _, hcc⟩ := hv j u hj
      cases e
      exact hcc
    obtain ⟨v', w', hr, hown', hgr, hnil⟩ := run_append_own (P := Tryz.prog) w g t ty e i0 z 1 bytes ht hi hz hsize hby hzs (by decide) _ 0 [] hown a (v :: r).length c (v :: r) (by simp) hcells h1 (by unfold maxLen; omega) (by rw [Nat.zero_add]; exact Nat.le_trans (Nat.mul_le_mul hlen hb) (by decide)) (by omega)
    rw [Nat.zero_add, List.nil_append] at hown'
    rcases hown'.2 with ⟨_, h0⟩ | ⟨g', cap, cur, rfl, hB, hg', hle, _, hsz, htk⟩
    · simp at h0
    · have hbel : Below g w w' := Below.grown (Below.refl _ _) hgr (by omega) (fun k hk => by simp [Value.ownBlock] at hk; omega)
      refine ⟨⟨g', 0, .none⟩, cap, w', hr, fun j u hj => ⟨_, rfl, heap_lt hg', ?_⟩, hbel⟩
      have hj2 : j < (v :: r).length := (List.getElem?_eq_some_iff.1 hj).1
      rw [add_zero_off, cell_of_row w' g' j cur _ (0, 0) hg', ← Array.getElem?_toList]
      have e2 : cur.toList[j]? = (v :: r)[j]? := by rw [← htk, List.getElem?_take, if_pos (by omega)]
      rw [e2, hj]
/-- The same in a walk, behind '[]T{}', whatever guards it. -/
theorem wpList_copy {w : World} {ops : Array Oper} {rest : List Oper} {o : Oper} {a : Act} {Q : Exit → Act → World → Prop} (hw : Region.wanted o (yielded ops a.tmps) = true) (s x : Operand) (t e : TypeId)
    (ho : o.op = .call { callee := .builtin .append, args := #[s, x], argTypes := #[t, t] }) {z : Value} {bytes : Nat} (ht : Tryz.prog.underlying t = some (.slice e)) (hinfo : (Tryz.prog.info? e).map (fun i => (i.zero, i.size, i.bytes)) = some (some z, 1, bytes)) (hzs : z.cells.size = 1) (hb : bytes ≤ 16)
    (g : Nat) (hs : a.eval s = .slice (some ⟨g, 0, .none⟩) 0 0) (hg : w.heap[g]? = some (.cells #[] e (0, 0))) (p : Option Addr) (n c : Nat) (l : List Value) (hn : l.length = n) (hx : a.eval x = .slice p n c) (hv : ValsP w p l) (h1 : ∀ u ∈ l, u.oneCell' = true) (hlen : n ≤ 1000000)
    (h : ∀ q c' w', ValsP w' (some q) l → Below g w w' → wpList Tryz.prog ops Q rest (a.put o.dst (.slice (some q) n c')) w') : wpList Tryz.prog ops Q (o :: rest) a w := by
  subst hn
  obtain ⟨i0, hi, hz0, hz1, hz2⟩ := info_parts hinfo
  refine wpList_step fun K hK => ?_
  rw [if_pos hw]
  obtain ⟨q, c', w', hr, h2, h3⟩ := run_copy (ty := o.type) ht hi hz0 hz1 hz2 hzs hb g hg p c l hv h1 hlen
  unfold Oper.wp execOp
  simp only [ho, resolve, invoke, builtin, Sem.run_bind, Sem.run_pure, Result.andThen_ok, List.map_toArray, List.map_cons, List.map_nil, hs, hx, hr]
  exact hK _ _ (h q c' w' h2 h3)
/-- Values, and what they are. -/
def vU (l : List Nat) : List Value := l.map fun (n : Nat) => Value.int .u64 (n : Int)
def vI (l : List Int) : List Value := l.map fun (n : Int) => Value.int .i64 n
def vS (l : List ByteArray) : List Value := l.map Value.string
def vB (l : List Bool) : List Value := l.map Value.bool
theorem oneU (l : List Nat) : ∀ u ∈ vU l, u.oneCell' = true := by unfold vU; intro u hu; obtain ⟨n, _, rfl⟩ := List.mem_map.1 hu; rfl
theorem oneI (l : List Int) : ∀ u ∈ vI l, u.oneCell' = true := by unfold vI; intro u hu; obtain ⟨n, _, rfl⟩ := List.mem_map.1 hu; rfl
theorem oneS (l : List ByteArray) : ∀ u ∈ vS l, u.oneCell' = true := by unfold vS; intro u hu; obtain ⟨n, _, rfl⟩ := List.mem_map.1 hu; rfl
theorem oneB (l : List Bool) : ∀ u ∈ vB l, u.oneCell' = true := by unfold vB; intro u hu; obtain ⟨n, _, rfl⟩ := List.mem_map.1 hu; rfl
theorem vU_length (l : List Nat) : (vU l).length = l.length := by simp [vU]
theorem vI_length (l : List Int) : (vI l).length = l.length := by simp [vI]
theorem vS_length (l : List ByteArray) : (vS l).length = l.length := by simp [vS]
theorem vB_length (l : List Bool) : (vB l).length = l.length := by simp [vB]
theorem vU_get {l : List Nat} {j n : Nat} (h : l[j]? = some n) : (vU l)[j]? = some (.int .u64 (n : Int)) := by simp [vU, h]
theorem vI_get {l : List Int} {j : Nat} {n : Int} (h : l[j]? = some n) : (vI l)[j]? = some (.int .i64 n) := by simp [vI, h]
theorem vS_get {l : List ByteArray} {j : Nat} {n : ByteArray} (h : l[j]? = some n) : (vS l)[j]? = some (.string n) := by simp [vS, h]
theorem vB_get {l : List Bool} {j : Nat} {n : Bool} (h : l[j]? = some n) : (vB l)[j]? = some (.bool n) := by simp [vB, h]
end Go.Proofs.YtdnpgmoiapkhnaaGreatDoor
