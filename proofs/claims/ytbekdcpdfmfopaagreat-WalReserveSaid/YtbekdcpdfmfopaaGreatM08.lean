/- Plain: slices of values of one cell each, nil or not, under one word; a copy of one by append([]T{}, x...). Slices of segments by their cells: copied, cut, appended to. -/
import Derived.Test.YtbekdcpdfmfopaaGreatM01
import Derived.Deep.AppendSrc
import Derived.Test.YtbekdcpdfmfopaaGreatM06
import Derived.Test.YtbekdcpdfmfopaaGreatM07
section
namespace Go.Proofs.YtbekdcpdfmfopaaGreat
open Go.RowKit

/-- The cells from the address on, if there are any, are these. -/
def ValsP (w : World) (p : Option Addr) (l : List Value) : Prop := ∀ i v, l[i]? = some v → ∃ a, p = some a ∧ a.block < w.heap.size ∧ w.cell? (a.add i) = some v
theorem ValsP.ext {w w' : World} {p : Option Addr} {l : List Value} (h : ValsP w p l) (hx : Ext w w') : ValsP w' p l := fun i s hs => by
  obtain ⟨a, h1, h2, h3⟩ := h i s hs
  exact ⟨a, h1, Nat.lt_of_lt_of_le h2 hx.below.size, by rw [hx.below.cell (p := a.add i) (by rw [add_block]; exact h2)]; exact h3⟩
theorem ValsP.below {B : Nat} {w w' : World} {p : Option Addr} {l : List Value} (h : ValsP w p l) (hx : Below B w w') (hb : ∀ a, p = some a → a.block < B) : ValsP w' p l := fun i s hs => by
  obtain ⟨a, h1, h2, h3⟩ := h i s hs
  exact ⟨a, h1, Nat.lt_of_lt_of_le h2 hx.size, by rw [hx.cell (p := a.add i) (by rw [add_block]; exact hb a h1)]; exact h3⟩
theorem ValsP.none (w : World) : ValsP w none [] := fun i s hs => by simp at hs
theorem add_zero_off (g j : Nat) : (⟨g, 0, .none⟩ : Addr).add j = ⟨g, j, .none⟩ := by unfold Addr.add; split <;> simp_all
theorem Blk.vals {w : World} {g : Nat} {T : TypeId} {l : List Value} (h : Blk w g T l) : ValsP w (some ⟨g, 0, .none⟩) l := fun i v hv =>
  ⟨_, rfl, h.lt, by rw [add_zero_off]; exact h.cell i v hv⟩
theorem TextsP.vals {w : World} {p : Option Addr} {l : List ByteArray} (h : TextsP w p l) : ValsP w p (l.map Value.string) := fun i v hv => by
  rw [List.getElem?_map] at hv
  rcases hs : l[i]? with _ | s
  · rw [hs] at hv; cases hv
  · rw [hs] at hv
    cases hv
    exact h i s hs
theorem ValsP.texts {w : World} {p : Option Addr} {l : List ByteArray} (h : ValsP w p (l.map Value.string)) : TextsP w p l := fun i s hs => h i (.string s) (by rw [List.getElem?_map, hs]; rfl)
theorem ValsP.nil {w : World} {p : Option Addr} {l : List Value} (h : ValsP w p l) (hp : p = .none) : l = [] := by
  cases l with
  | nil => rfl
  | cons v r => obtain ⟨a, e, _⟩ := h 0 v rfl; rw [hp] at e; cases e
/-- append([]T{}, x...): a copy. -/
theorem run_copy {w : World} {t e ty : TypeId} {i0 : TypeInfo} {z : Value} {bytes : Nat} (ht : Tryz.prog.underlying t = some (.slice e)) (hi : Tryz.prog.info? e = some i0) (hz : i0.zero = some z) (hsize : i0.size = 1) (hby : i0.bytes = bytes) (hzs : z.cells.size = 1) (hb : bytes ≤ 16)
    (g : Nat) (hg : w.heap[g]? = some (.cells #[] e (0, 0))) (p : Option Addr) (c : Nat) (l : List Value) (hv : ValsP w p l) (h1 : ∀ u ∈ l, u.oneCell' = true) (hlen : l.length ≤ 1000000) :
    ∃ q c' w', (Builtin.append_ #[t, t] ty #[.slice (some ⟨g, 0, .none⟩) 0 0, .slice p l.length c]).run Tryz.prog w = .ok (.slice (some q) l.length c') w' ∧ ValsP w' (some q) l ∧ Below g w w' := by
  have hgl := heap_lt hg
  cases l with
  | nil =>
    have hs : Src Tryz.prog i0.size t (.slice p 0 c) 0 [] w := by
      cases p with
      | none => exact Src.ofNil w ht c
      | some a => exact Src.ofSlice w ht a 0 c [] (by simp) (fun j u hj => by simp at hj) (fun u hu => by cases hu)
    refine ⟨⟨g, 0, .none⟩, 0, w, ?_, fun j v hj => by simp at hj, Below.refl _ _⟩
    exact run_append_room_src (P := Tryz.prog) w t t ty e i0 ht hi g 0 0 0 (.slice p 0 c) 0 [] hs (by omega) (fun j hj => by simp at hj) (fun j hj => by simp at hj)
  | cons v r =>
    obtain ⟨a, rfl, ha, hc⟩ := hv 0 v rfl
    have hown : w.ownsRow g e 1 (.slice (some ⟨g, 0, .none⟩) 0 0) 0 [] := ⟨rfl, .inr ⟨g, 0, #[], rfl, Nat.le_refl _, hg, Nat.le_refl _, Nat.zero_le _, rfl, rfl⟩⟩
    have hcells : ∀ j u, (v :: r)[j]? = some u → w.cell? (a.add j) = some u := fun j u hj => by
      obtain ⟨b, e, _, hcc⟩ := hv j u hj
      cases e
      exact hcc
    obtain ⟨v', w', hr, hown', hgr, hnil⟩ := run_append_own (P := Tryz.prog) w g t ty e i0 z 1 bytes ht hi hz hsize hby hzs (by decide) _ 0 [] hown a (v :: r).length c (v :: r) (by simp) hcells h1 (by unfold maxLen; omega) (by rw [Nat.zero_add]; exact Nat.le_trans (Nat.mul_le_mul hlen hb) (by decide)) (by omega)
    rw [Nat.zero_add, List.nil_append] at hown'
    rcases hown'.2 with ⟨_, h0⟩ | ⟨g', cap, cur, rfl, hB, hg', hle, _, hsz, htk⟩
    · simp at h0
    · have hbel : Below g w w' := Below.grown (Below.refl _ _) hgr (by omega) (fun k hk => by simp [Value.ownBlock] at hk; omega)
      refine ⟨⟨g', 0, .none⟩, cap, w', hr, fun j u hj => ⟨_, rfl, heap_lt hg', ?_⟩, hbel⟩
      have hj2 : j < (v :: r).length := (List.getElem?_eq_some_iff.1 hj).1
      rw [add_zero_off, cell_of_row w' g' j cur _ (0, 0) hg', ← Array.getElem?_toList]
      have e2 : cur.toList[j]? = (v :: r)[j]? := by rw [← htk, List.getElem?_take, if_pos (by omega)]
      rw [e2, hj]
/-- The same in a walk, behind '[]T{}', whatever guards it. -/
theorem wpList_copy {w : World} {ops : Array Oper} {rest : List Oper} {o : Oper} {a : Act} {Q : Exit → Act → World → Prop} (hw : Region.wanted o (yielded ops a.tmps) = true) (s x : Operand) (t e : TypeId)
    (ho : o.op = .call { callee := .builtin .append, args := #[s, x], argTypes := #[t, t] }) {z : Value} {bytes : Nat} (ht : Tryz.prog.underlying t = some (.slice e)) (hinfo : (Tryz.prog.info? e).map (fun i => (i.zero, i.size, i.bytes)) = some (some z, 1, bytes)) (hzs : z.cells.size = 1) (hb : bytes ≤ 16)
    (g : Nat) (hs : a.eval s = .slice (some ⟨g, 0, .none⟩) 0 0) (hg : w.heap[g]? = some (.cells #[] e (0, 0))) (p : Option Addr) (n c : Nat) (l : List Value) (hn : l.length = n) (hx : a.eval x = .slice p n c) (hv : ValsP w p l) (h1 : ∀ u ∈ l, u.oneCell' = true) (hlen : n ≤ 1000000)
    (h : ∀ q c' w', ValsP w' (some q) l → Below g w w' → wpList Tryz.prog ops Q rest (a.put o.dst (.slice (some q) n c')) w') : wpList Tryz.prog ops Q (o :: rest) a w := by
  subst hn
  obtain ⟨i0, hi, hz0, hz1, hz2⟩ := info_parts hinfo
  refine wpList_step fun K hK => ?_
  rw [if_pos hw]
  obtain ⟨q, c', w', hr, h2, h3⟩ := run_copy (ty := o.type) ht hi hz0 hz1 hz2 hzs hb g hg p c l hv h1 hlen
  unfold Oper.wp execOp
  simp only [ho, resolve, invoke, builtin, Sem.run_bind, Sem.run_pure, Result.andThen_ok, List.map_toArray, List.map_cons, List.map_nil, hs, hx, hr]
  exact hK _ _ (h q c' w' h2 h3)
/-- Values, and what they are. -/
def vU (l : List Nat) : List Value := l.map fun (n : Nat) => Value.int .u64 (n : Int)
def vI (l : List Int) : List Value := l.map fun (n : Int) => Value.int .i64 n
def vS (l : List ByteArray) : List Value := l.map Value.string
def vB (l : List Bool) : List Value := l.map Value.bool
theorem oneU (l : List Nat) : ∀ u ∈ vU l, u.oneCell' = true := by unfold vU; intro u hu; obtain ⟨n, _, rfl⟩ := List.mem_map.1 hu; rfl
theorem oneI (l : List Int) : ∀ u ∈ vI l, u.oneCell' = true := by unfold vI; intro u hu; obtain ⟨n, _, rfl⟩ := List.mem_map.1 hu; rfl
theorem oneS (l : List ByteArray) : ∀ u ∈ vS l, u.oneCell' = true := by unfold vS; intro u hu; obtain ⟨n, _, rfl⟩ := List.mem_map.1 hu; rfl
theorem oneB (l : List Bool) : ∀ u ∈ vB l, u.oneCell' = true := by unfold vB; intro u hu; obtain ⟨n, _, rfl⟩ := List.mem_map.1 hu; rfl
theorem vU_length (l : List Nat) : (vU l).length = l.length := by simp [vU]
theorem vI_length (l : List Int) : (vI l).length = l.length := by simp [vI]
theorem vS_length (l : List ByteArray) : (vS l).length = l.length := by simp [vS]
theorem vB_length (l : List Bool) : (vB l).length = l.length := by simp [vB]
theorem vU_get {l : List Nat} {j n : Nat} (h : l[j]? = some n) : (vU l)[j]? = some (.int .u64 (n : Int)) := by simp [vU, h]
theorem vI_get {l : List Int} {j : Nat} {n : Int} (h : l[j]? = some n) : (vI l)[j]? = some (.int .i64 n) := by simp [vI, h]
theorem vS_get {l : List ByteArray} {j : Nat} {n : ByteArray} (h : l[j]? = some n) : (vS l)[j]? = some (.string n) := by simp [vS, h]
theorem vB_get {l : List Bool} {j : Nat} {n : Bool} (h : l[j]? = some n) : (vB l)[j]? = some (.bool n) := by simp [vB, h]
end Go.Proofs.YtbekdcpdfmfopaaGreat
end

section
namespace Go.Proofs.YtbekdcpdfmfopaaGreat
open Go.RowKit

theorem infoSeg : (Tryz.prog.info? 119).map (fun i => (i.zero, i.size, i.bytes)) = some (some (.agg #[.int .u8 0, .int .u64 0, .int .u64 0, .string ⟨#[]⟩, .slice none 0 0, .int .i64 0, .bool false]), 7, 80) := by kernel_rfl
/-- These cells are those of these segments; their records lie there. -/
structure SegC (w : World) (L : List Seg) (vs : List Value) : Prop where
  len : vs.length = L.length * 7
  each : ∀ (k : Nat) (x : Seg), L[k]? = some x → ∃ q c, TextsP w q x.r ∧ ∀ (j : Nat) (v : Value), (segC x (.slice q x.r.length c))[j]? = some v → vs[k * 7 + j]? = some v
section
variable {w w' : World} {L M : List Seg} {vs us : List Value}
theorem segC_length (x : Seg) (v : Value) : (segC x v).length = 7 := rfl
theorem segC_one {x : Seg} {q : Option Addr} {n c : Nat} : ∀ u ∈ segC x (.slice q n c), u.oneCell' = true := by
  intro u hu
  unfold segC at hu
  simp only [List.mem_cons, List.not_mem_nil, or_false] at hu
  rcases hu with rfl | rfl | rfl | rfl | rfl | rfl | rfl <;> rfl
theorem SegC.ext (h : SegC w L vs) (hx : Ext w w') : SegC w' L vs := ⟨h.len, fun k x hk => by
  obtain ⟨q, c, h1, h2⟩ := h.each k x hk
  exact ⟨q, c, h1.ext hx, h2⟩⟩
theorem SegC.nil (w : World) : SegC w [] [] := ⟨rfl, fun k x hk => by simp at hk⟩
theorem SegC.one {x : Seg} {q : Option Addr} (c : Nat) (h : TextsP w q x.r) : SegC w [x] (segC x (.slice q x.r.length c)) := ⟨rfl, fun k y hk => by
  have h0 : k < 1 := (List.getElem?_eq_some_iff.1 hk).1
  obtain rfl : k = 0 := by omega
  simp at hk
  subst hk
  exact ⟨q, c, h, fun j v hv => by rw [Nat.zero_mul, Nat.zero_add]; exact hv⟩⟩
theorem SegC.at7 (h : SegC w L vs) {i : Nat} {u : Value} (hu : vs[i]? = some u) : u.oneCell' = true := by
  have hi : i < vs.length := (List.getElem?_eq_some_iff.1 hu).1
  rw [h.len] at hi
  have hk : i / 7 < L.length := by omega
  obtain ⟨q, c, _, h2⟩ := h.each (i / 7) _ (List.getElem?_eq_getElem hk)
  have hj : i % 7 < (segC L[i / 7] (.slice q L[i / 7].r.length c)).length := by rw [segC_length]; omega
  have h3 := h2 (i % 7) _ (List.getElem?_eq_getElem hj)
  rw [show i / 7 * 7 + i % 7 = i by omega, hu] at h3
  rw [Option.some.inj h3]
  exact segC_one _ (List.getElem_mem hj)
theorem SegC.ones (h : SegC w L vs) : ∀ u ∈ vs, u.oneCell' = true := fun u hu => by
  obtain ⟨i, hi⟩ := List.getElem?_of_mem hu
  exact h.at7 hi
theorem SegC.append (h : SegC w L vs) (k : SegC w M us) : SegC w (L ++ M) (vs ++ us) := ⟨by rw [List.length_append, List.length_append, h.len, k.len]; omega, fun i x hx => by
  rcases Nat.lt_or_ge i L.length with hi | hi
  · rw [List.getElem?_append_left hi] at hx
    obtain ⟨q, c, h1, h2⟩ := h.each i x hx
    refine ⟨q, c, h1, fun j v hv => ?_⟩
    have hj : j < 7 := (List.getElem?_eq_some_iff.1 hv).1
    rw [List.getElem?_append_left (by rw [h.len]; omega)]
    exact h2 j v hv
  · rw [List.getElem?_append_right hi] at hx
    obtain ⟨q, c, h1, h2⟩ := k.each _ x hx
    refine ⟨q, c, h1, fun j v hv => ?_⟩
    rw [List.getElem?_append_right (by rw [h.len]; omega), h.len, show i * 7 + j - L.length * 7 = (i - L.length) * 7 + j by omega]
    exact h2 j v hv⟩
theorem SegC.take (h : SegC w L vs) (n : Nat) : SegC w (L.take n) (vs.take (n * 7)) := ⟨by rw [List.length_take, List.length_take, h.len]; omega, fun i x hx => by
  have hi : i < (L.take n).length := (List.getElem?_eq_some_iff.1 hx).1
  rw [List.length_take] at hi
  rw [List.getElem?_take, if_pos (by omega)] at hx
  obtain ⟨q, c, h1, h2⟩ := h.each i x hx
  refine ⟨q, c, h1, fun j v hv => ?_⟩
  have hj : j < 7 := (List.getElem?_eq_some_iff.1 hv).1
  rw [List.getElem?_take, if_pos (by omega)]
  exact h2 j v hv⟩
theorem SegC.drop (h : SegC w L vs) (n : Nat) : SegC w (L.drop n) (vs.drop (n * 7)) := ⟨by rw [List.length_drop, List.length_drop, h.len]; omega, fun i x hx => by
  rw [List.getElem?_drop] at hx
  obtain ⟨q, c, h1, h2⟩ := h.each _ x hx
  refine ⟨q, c, h1, fun j v hv => ?_⟩
  rw [List.getElem?_drop, show n * 7 + (i * 7 + j) = (n + i) * 7 + j by omega]
  exact h2 j v hv⟩
/-- The cells of segments that lie there, as a source. -/
theorem SegsP.src {p : Option Addr} (h : SegsP w p L) (c : Nat) : ∃ vs, SegC w L vs ∧ Src Tryz.prog 7 91 (.slice p L.length c) L.length vs w := by
  cases p with
  | none =>
    obtain rfl : L = [] := by
      cases L with
      | nil => rfl
      | cons x r => obtain ⟨a, _, _, e, _⟩ := h 0 x rfl; cases e
    exact ⟨[], SegC.nil w, Src.ofNil w Tryz.underlying91 c⟩
  | some a =>
    obtain ⟨vs, hvs⟩ : ∃ vs, vs = (List.range (L.length * 7)).map fun i => (w.cell? (a.add i)).getD (.bool false) := ⟨_, rfl⟩
    have hat : ∀ i, i < L.length * 7 → vs[i]? = some ((w.cell? (a.add i)).getD (.bool false)) := fun i hi => by rw [hvs]; simp [hi]
    have hC : SegC w L vs := ⟨by rw [hvs]; simp, fun k x hk => by
      obtain ⟨a', q, c', e, h2, h3, h4⟩ := h k x hk
      cases e
      refine ⟨q, c', h3, fun j v hv => ?_⟩
      have hk2 : k < L.length := (List.getElem?_eq_some_iff.1 hk).1
      have hj : j < 7 := (List.getElem?_eq_some_iff.1 hv).1
      rw [hat _ (by omega), h4 j v hv]
      rfl⟩
    refine ⟨vs, hC, Src.ofSlice w Tryz.underlying91 a L.length c vs hC.len (fun j u hj => ?_) hC.ones⟩
    have hj2 : j < vs.length := (List.getElem?_eq_some_iff.1 hj).1
    rw [hC.len] at hj2
    obtain ⟨a', q, c', e, h2, h3, h4⟩ := h (j / 7) _ (List.getElem?_eq_getElem (by omega))
    cases e
    have hl7 : j % 7 < (segC L[j / 7] (.slice q L[j / 7].r.length c')).length := by rw [segC_length]; omega
    have h5 := h4 (j % 7) _ (List.getElem?_eq_getElem hl7)
    rw [show j / 7 * 7 + j % 7 = j by omega] at h5
    rw [hat j hj2, h5] at hj
    rw [h5]
    exact hj
theorem Sl.segs {κ : Foot} {k n c : Nat} {T : TypeId} {p : Option Addr} (h : Sl w κ k 7 T p n c vs) (hC : SegC w L vs) : SegsP w p L := fun i x hi => by
  obtain ⟨q, c', h1, h2⟩ := hC.each i x hi
  have h0 := h2 0 _ rfl
  obtain ⟨g, e, hg, _, _, _⟩ := h.cell h0
  refine ⟨⟨g, 0, none⟩, q, c', e, hg, h1, fun j v hv => ?_⟩
  obtain ⟨g', e', _, _, hc, _⟩ := h.cell (h2 j v hv)
  rw [e] at e'
  cases e'
  rw [add_zero_off]
  exact hc
end
/-- append([]api.Segment{}, l...), in a walk. -/
theorem wpList_copySegs {w : World} {ops : Array Oper} {rest : List Oper} {o : Oper} {a : Act} {Q : Exit → Act → World → Prop} (hgd : o.guard = none) (s x : Operand)
    (ho : o.op = .call { callee := .builtin .append, args := #[s, x], argTypes := #[91, 91] }) (g : Nat) (hs : a.eval s = .slice (some ⟨g, 0, none⟩) 0 0)
    (p : Option Addr) (n c : Nat) (L : List Seg) (hn : L.length = n) (hx : a.eval x = .slice p n c) (h : SegsP w p L) (hl : n ≤ 1000000)
    (hQ : ∀ q c' w', SegsP w' q L → Ext w w' → wpList Tryz.prog ops Q rest (a.put o.dst (.slice q n c')) w') : wpList Tryz.prog ops Q (o :: rest) a w := by
  subst hn
  obtain ⟨vs, hC, hsrc⟩ := h.src c
  refine wpList_append_sl hgd s x _ _ ho Tryz.underlying91 infoSeg rfl (by decide) (κ := fun _ => 0) (k := 1) hs (Sl.empty _ _ _ _ _ _) (by simp) _ hx _ _ hsrc (by omega) ?_
  intro p' c' w' κ' h1 _ _ h4 _
  rw [Nat.zero_add, List.nil_append] at h1
  rw [Nat.zero_add]
  exact hQ p' c' w' (h1.segs (hC.ext (h4 rfl))) (h4 rfl)
end Go.Proofs.YtbekdcpdfmfopaaGreat
end
