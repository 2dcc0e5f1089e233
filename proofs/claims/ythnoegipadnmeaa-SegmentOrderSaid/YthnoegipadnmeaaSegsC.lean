/- Slices of segments by their cells: copied, cut, appended to. -/
import Derived.Test.YthnoegipadnmeaaSegBase
import Derived.Test.YthnoegipadnmeaaValsL
namespace Go.Proofs.Ythnoegipadnmeaa
open Go.RowKit

theorem infoSeg : (Try.prog.info? 25).map (fun i => (i.zero, i.size, i.bytes)) = some (some (.agg #[.int .u8 0, .int .u64 0, .int .u64 0, .string ⟨#[]⟩, .slice none 0 0, .int .i64 0, .bool false]), 7, 80) := by kernel_rfl
/-- These cells are those of these segments; their records lie there. -/
structure SegC (w : World) (L : List Seg) (vs : List Value) : Prop where
  len : vs.length = L.length * 7
  each : ∀ (k : Nat) (x : Seg), L[k]? = some x → ∃ q c, TextsP w q x.r ∧ ∀ (j : Nat) (v : Value), (segC x (.slice q x.r.length c))[j]? = some v → vs[k * 7 + j]? = some v
section
variable {w w' : World} {L M : List Seg} {vs us : List Value}
theorem segC_length (x : Seg) (v : Value) : (segC x v).length = 7 := rfl
theorem segC_one {x : Seg} {q : Option Addr} {n c : Nat} : ∀ u ∈ segC x (.slice q n c), u.oneCell' = true := by
  intro u hu
  unfold segC at hu
  simp only [List.mem_cons, List.not_mem_nil, or_false] at hu
  rcases hu with rfl | rfl | rfl | rfl | rfl | rfl | rfl <;> rfl
theorem SegC.ext (h : SegC w L vs) (hx : Ext w w') : SegC w' L vs := ⟨h.len, fun k x hk => by
  obtain ⟨q, c, h1, h2⟩ := h.each k x hk
  exact ⟨q, c, h1.ext hx, h2⟩⟩
theorem SegC.nil (w : World) : SegC w [] [] := ⟨rfl, fun k x hk => by simp at hk⟩
theorem SegC.one {x : Seg} {q : Option Addr} (c : Nat) (h : TextsP w q x.r) : SegC w [x] (segC x (.slice q x.r.length c)) := ⟨rfl, fun k y hk => by
  have h0 : k < 1 := (List.getElem?_eq_some_iff.1 hk).1
  obtain rfl : k = 0 := by omega
  simp at hk
  subst hk
  exact ⟨q, c, h, fun j v hv => by rw [Nat.zero_mul, Nat.zero_add]; exact hv⟩⟩
theorem SegC.at7 (h : SegC w L vs) {i : Nat} {u : Value} (hu : vs[i]? = some u) : u.oneCell' = true := by
  have hi : i < vs.length := (List.getElem?_eq_some_iff.1 hu).1
  rw [h.len] at hi
  have hk : i / 7 < L.length := by omega
  obtain ⟨q, c, _, h2⟩ := h.each (i / 7) _ (List.getElem?_eq_getElem hk)
  have hj : i % 7 < (segC L[i / 7] (.slice q L[i / 7].r.length c)).length := by rw [segC_length]; omega
  have h3 := h2 (i % 7) _ (List.getElem?_eq_getElem hj)
  rw [show i / 7 * 7 + i % 7 = i by omega, hu] at h3
  rw [Option.some.inj h3]
  exact segC_one _ (List.getElem_mem hj)
theorem SegC.ones (h : SegC w L vs) : ∀ u ∈ vs, u.oneCell' = true := fun u hu => by
  obtain ⟨i, hi⟩ := List.getElem?_of_mem hu
  exact h.at7 hi
theorem SegC.append (h : SegC w L vs) (k : SegC w M us) : SegC w (L ++ M) (vs ++ us) := ⟨by rw [List.length_append, List.length_append, h.len, k.len]; omega, fun i x hx => by
  rcases Nat.lt_or_ge i L.length with hi | hi
  · rw [List.getElem?_append_left hi] at hx
    obtain ⟨q, c, h1, h2⟩ := h.each i x hx
    refine ⟨q, c, h1, fun j v hv => ?_⟩
    have hj : j < 7 := (List.getElem?_eq_some_iff.1 hv).1
    rw [List.getElem?_append_left (by rw [h.len]; omega)]
    exact h2 j v hv
  · rw [List.getElem?_append_right hi] at hx
    obtain ⟨q, c, h1, h2⟩ := k.each _ x hx
    refine ⟨q, c, h1, fun j v hv => ?_⟩
    rw [List.getElem?_append_right (by rw [h.len]; omega), h.len, show i * 7 + j - L.length * 7 = (i - L.length) * 7 + j by omega]
    exact h2 j v hv⟩
theorem SegC.take (h : SegC w L vs) (n : Nat) : SegC w (L.take n) (vs.take (n * 7)) := ⟨by rw [List.length_take, List.length_take, h.len]; omega, fun i x hx => by
  have hi : i < (L.take n).length := (List.getElem?_eq_some_iff.1 hx).1
  rw [List.length_take] at hi
  rw [List.getElem?_take, if_pos (by omega)] at hx
  obtain ⟨q, c, h1, h2⟩ := h.each i x hx
  refine ⟨q, c, h1, fun j v hv => ?_⟩
  have hj : j < 7 := (List.getElem?_eq_some_iff.1 hv).1
  rw [List.getElem?_take, if_pos (by omega)]
  exact h2 j v hv⟩
theorem SegC.drop (h : SegC w L vs) (n : Nat) : SegC w (L.drop n) (vs.drop (n * 7)) := ⟨by rw [List.length_drop, List.length_drop, h.len]; omega, fun i x hx => by
  rw [List.getElem?_drop] at hx
  obtain ⟨q, c, h1, h2⟩ := h.each _ x hx
  refine ⟨q, c, h1, fun j v hv => ?_⟩
  rw [List.getElem?_drop, show n * 7 + (i * 7 + j) = (n + i) * 7 + j by omega]
  exact h2 j v hv⟩
/-- The cells of segments that lie there, as a source. -/
theorem SegsP.src {p : Option Addr} (h : SegsP w p L) (c : Nat) : ∃ vs, SegC w L vs ∧ Src Try.prog 7 42 (.slice p L.length c) L.length vs w := by
  cases p with
  | none =>
    obtain rfl : L = [] := by
      cases L with
      | nil => rfl
      | cons x r => obtain ⟨a, _, _, e, _⟩ := h 0 x rfl; cases e
    exact ⟨[], SegC.nil w, Src.ofNil w Try.underlying42 c⟩
  | some a =>
    obtain ⟨vs, hvs⟩ : ∃ vs, vs = (List.range (L.length * 7)).map fun i => (w.cell? (a.add i)).getD (.bool false) := ⟨_, rfl⟩
    have hat : ∀ i, i < L.length * 7 → vs[i]? = some ((w.cell? (a.add i)).getD (.bool false)) := fun i hi => by rw [hvs]; simp [hi]
    have hC : SegC w L vs := ⟨by rw [hvs]; simp, fun k x hk => by
      obtain ⟨a', q, c', e, h2, h3, h4⟩ := h k x hk
      cases e
      refine ⟨q, c', h3, fun j v hv => ?_⟩
      have hk2 : k < L.length := (List.getElem?_eq_some_iff.1 hk).1
      have hj : j < 7 := (List.getElem?_eq_some_iff.1 hv).1
      rw [hat _ (by omega), h4 j v hv]
      rfl⟩
    refine ⟨vs, hC, Src.ofSlice w Try.underlying42 a L.length c vs hC.len (fun j u hj => ?_) hC.ones⟩
    have hj2 : j < vs.length := (List.getElem?_eq_some_iff.1 hj).1
    rw [hC.len] at hj2
    obtain ⟨a', q, c', e, h2, h3, h4⟩ := h (j / 7) _ (List.getElem?_eq_getElem (by omega))
    cases e
    have hl7 : j % 7 < (segC L[j / 7] (.slice q L[j / 7].r.length c')).length := by rw [segC_length]; omega
    have h5 := h4 (j % 7) _ (List.getElem?_eq_getElem hl7)
    rw [show j / 7 * 7 + j % 7 = j by omega] at h5
    rw [hat j hj2, h5] at hj
    rw [h5]
    exact hj
theorem Sl.segs {κ : Foot} {k n c : Nat} {T : TypeId} {p : Option Addr} (h : Sl w κ k 7 T p n c vs) (hC : SegC w L vs) : SegsP w p L := fun i x hi => by
  obtain ⟨q, c', h1, h2⟩ := hC.each i x hi
  have h0 := h2 0 _ rfl
  obtain ⟨g, e, hg, _, _, _⟩ := h.cell h0
  refine ⟨⟨g, 0, none⟩, q, c', e, hg, h1, fun j v hv => ?_⟩
  obtain ⟨g', e', _, _, hc, _⟩ := h.cell (h2 j v hv)
  rw [e] at e'
  cases e'
  rw [add_zero_off]
  exact hc
end
/-- append([]api.Segment{}, l...), in a walk. -/
theorem wpList_copySegs {w : World} {ops : Array Oper} {rest : List Oper} {o : Oper} {a : Act} {Q : Exit → Act → World → Prop} (hgd : o.guard = none) (s x : Operand)
    (ho : o.op = .call { callee := .builtin .append, args := #[s, x], argTypes := #[42, 42] }) (g : Nat) (hs : a.eval s = .slice (some ⟨g, 0, none⟩) 0 0)
    (p : Option Addr) (n c : Nat) (L : List Seg) (hn : L.length = n) (hx : a.eval x = .slice p n c) (h : SegsP w p L) (hl : n ≤ 1000000)
    (hQ : ∀ q c' w', SegsP w' q L → Ext w w' → wpList Try.prog ops Q rest (a.put o.dst (.slice q n c')) w') : wpList Try.prog ops Q (o :: rest) a w := by
  subst hn
  obtain ⟨vs, hC, hsrc⟩ := h.src c
  refine wpList_append_sl hgd s x _ _ ho Try.underlying42 infoSeg rfl (by decide) (κ := fun _ => 0) (k := 1) hs (Sl.empty _ _ _ _ _ _) (by simp) _ hx _ _ hsrc (by omega) ?_
  intro p' c' w' κ' h1 _ _ h4 _
  rw [Nat.zero_add, List.nil_append] at h1
  rw [Nat.zero_add]
  exact hQ p' c' w' (h1.segs (hC.ext (h4 rfl))) (h4 rfl)
end Go.Proofs.Ythnoegipadnmeaa
