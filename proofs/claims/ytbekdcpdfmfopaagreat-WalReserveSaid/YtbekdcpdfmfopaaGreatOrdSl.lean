/- Slices of segments and of places, by footprints: appended to, cut, gone through. -/
import Derived.Test.YtbekdcpdfmfopaaGreatM08
import Derived.Test.YtbekdcpdfmfopaaGreatLater
namespace Go.Proofs.YtbekdcpdfmfopaaGreat
open Go.RowKit

/-- From W on, only blocks of the own kinds were written. -/
structure Own (W w : World) (κ : Foot) : Prop where
  old : ∀ g, g < W.heap.size → κ g = 0
  ins : ∀ g, κ g ≠ 0 → g < w.heap.size
  ext : Ext W w
section
variable {W w w' : World} {κ κ' : Foot} {k : Nat}
theorem Own.start (W : World) : Own W W (fun _ => 0) := ⟨fun _ _ => rfl, fun _ h => absurd rfl h, Ext.refl W⟩
theorem Own.step (h : Own W w κ) (hx : Ext w w') : Own W w' κ := ⟨h.old, fun g hg => Nat.lt_of_lt_of_le (h.ins g hg) hx.size, h.ext.trans hx⟩
theorem Own.fr (h : Own W w κ) (hk : k ≠ 0) (f : Fr κ (fun j => j = k) w w' κ') : Own W w' κ' :=
  ⟨fun g hg => (f.foot g (Nat.lt_of_lt_of_le hg h.ext.size)).trans (h.old g hg), f.ins h.ins, h.ext.trans3 (f.below (fun e => hk e.symm) h.old h.ext.size)⟩
/-- A slice of these segments, whose records lie there since W. -/
def SegSl (W w : World) (κ : Foot) (k : Nat) (v : Value) (L : List Seg) : Prop := ∃ p c vs, v = .slice p L.length c ∧ Sl w κ k 7 119 p L.length c vs ∧ SegC W L vs
def IntSl (w : World) (κ : Foot) (k : Nat) (v : Value) (l : List Int) : Prop := ∃ p c, v = .slice p l.length c ∧ Sl w κ k 1 3 p l.length c (vI l)
theorem SegSl.nil (W w : World) (κ : Foot) (k : Nat) : SegSl W w κ k (.slice none 0 0) [] := ⟨none, 0, [], rfl, Sl.nil _ _ _ _ _, SegC.nil W⟩
theorem IntSl.nil (w : World) (κ : Foot) (k : Nat) : IntSl w κ k (.slice none 0 0) [] := ⟨none, 0, rfl, Sl.nil _ _ _ _ _⟩
theorem SegSl.step {v : Value} {L : List Seg} (h : SegSl W w κ k v L) (hx : Ext w w') : SegSl W w' κ k v L := by
  obtain ⟨p, c, vs, h1, h2, h3⟩ := h
  exact ⟨p, c, vs, h1, h2.ext hx, h3⟩
theorem IntSl.step {v : Value} {l : List Int} (h : IntSl w κ k v l) (hx : Ext w w') : IntSl w' κ k v l := by
  obtain ⟨p, c, h1, h2⟩ := h
  exact ⟨p, c, h1, h2.ext hx⟩
theorem SegSl.fr {k2 : Nat} {v : Value} {L : List Seg} (h : SegSl W w κ k v L) (f : Fr κ (fun j => j = k2) w w' κ') (hk : k ≠ k2) : SegSl W w' κ' k v L := by
  obtain ⟨p, c, vs, h1, h2, h3⟩ := h
  exact ⟨p, c, vs, h1, h2.fr f hk, h3⟩
theorem IntSl.fr {k2 : Nat} {v : Value} {l : List Int} (h : IntSl w κ k v l) (f : Fr κ (fun j => j = k2) w w' κ') (hk : k ≠ k2) : IntSl w' κ' k v l := by
  obtain ⟨p, c, h1, h2⟩ := h
  exact ⟨p, c, h1, h2.fr f hk⟩
theorem SegSl.lit {v : Value} {L : List Seg} (h : SegSl W w κ k v L) : ∃ p n c, v = .slice p n c ∧ n = L.length ∧ (L ≠ [] → ∃ g, p = some ⟨g, 0, none⟩ ∧ n ≤ c) := by
  obtain ⟨p, c, vs, h1, h2, h3⟩ := h
  refine ⟨p, _, c, h1, rfl, fun hl => ?_⟩
  have h4 := List.length_pos_iff.2 hl
  obtain ⟨g, cur, h5, _⟩ := h2.2.2.2 (Nat.lt_of_lt_of_le h4 h2.2.1)
  exact ⟨g, h5, h2.2.1⟩
theorem IntSl.lit {v : Value} {l : List Int} (h : IntSl w κ k v l) : ∃ p n c, v = .slice p n c ∧ n = l.length ∧ (l ≠ [] → ∃ g, p = some ⟨g, 0, none⟩ ∧ n ≤ c) := by
  obtain ⟨p, c, h1, h2⟩ := h
  refine ⟨p, _, c, h1, rfl, fun hl => ?_⟩
  have h4 := List.length_pos_iff.2 hl
  obtain ⟨g, cur, h5, _⟩ := h2.2.2.2 (Nat.lt_of_lt_of_le h4 h2.2.1)
  exact ⟨g, h5, h2.2.1⟩
theorem SegSl.segs {p : Option Addr} {n c : Nat} {L : List Seg} (h : SegSl W w κ k (.slice p n c) L) (hx : Ext W w) : SegsP w p L := by
  obtain ⟨p', c', vs, h1, h2, h3⟩ := h
  injection h1 with e1 e2 e3
  subst e1
  exact h2.segs (h3.ext hx)
theorem IntSl.cell {p : Option Addr} {n c : Nat} {l : List Int} (h : IntSl w κ k (.slice p n c) l) {i : Nat} {z : Int} (hi : l[i]? = some z) : ∃ g, p = some ⟨g, 0, none⟩ ∧ w.cell? ⟨g, i, none⟩ = some (.int .i64 z) := by
  obtain ⟨p', c', h1, h2⟩ := h
  injection h1 with e1 e2 e3
  subst e1
  obtain ⟨g, h3, _, _, h4, _⟩ := h2.cell (j := i) (u := .int .i64 z) (by unfold vI; rw [List.getElem?_map, hi]; rfl)
  exact ⟨g, h3, h4⟩
end
section
variable {w : World} {ops : Array Oper} {rest : List Oper} {o : Oper} {a : Act} {Q : Exit → Act → World → Prop} {κ : Foot} {k : Nat}
/-- append(l, x) of a segment in a block of its own. -/
theorem push_seg (hgd : o.guard = none) (s x : Operand) (ho : o.op = .call { callee := .builtin .append, args := #[s, x], argTypes := #[91, 91] }) {W : World} {v : Value} {L : List Seg} (hs : a.eval s = v) (h : SegSl W w κ k v L)
    (g : Nat) (hx : a.eval x = .slice (some ⟨g, 0, none⟩) 1 1) {y : Seg} {q : Option Addr} {c : Nat} (hb : Blk w g 119 (segC y (.slice q y.r.length c))) (hq : TextsP W q y.r) (hl : L.length ≤ 1000000)
    (hQ : ∀ p' c' w' κ', SegSl W w' κ' k (.slice p' (L.length + 1) c') (L ++ [y]) → Fr κ (fun j => j = k) w w' κ' → wpList Tryz.prog ops Q rest (a.put o.dst (.slice p' (L.length + 1) c')) w') : wpList Tryz.prog ops Q (o :: rest) a w := by
  obtain ⟨p, c0, vs, rfl, h2, h3⟩ := h
  have hsrc : Src Tryz.prog 7 91 (.slice (some ⟨g, 0, none⟩) 1 1) 1 (segC y (.slice q y.r.length c)) w := Src.ofSlice w Tryz.underlying91 ⟨g, 0, none⟩ 1 1 _ rfl (fun j u hj => by rw [add_zero_off]; exact hb.cell j u hj) segC_one
  refine wpList_append_sl hgd s x _ _ ho Tryz.underlying91 infoSeg rfl (by decide) hs h2 h3.ones _ hx _ _ hsrc (by omega) ?_
  intro p' c' w' κ' h4 h5 _ _ _
  exact hQ p' c' w' κ' ⟨p', c', _, by simp, by rw [show (L ++ [y]).length = L.length + 1 by simp]; exact h4, h3.append (SegC.one c hq)⟩ h5
/-- append(l, i) of a place. -/
theorem push_int (hgd : o.guard = none) (s x : Operand) (ho : o.op = .call { callee := .builtin .append, args := #[s, x], argTypes := #[66, 66] }) {v : Value} {l : List Int} (hs : a.eval s = v) (h : IntSl w κ k v l)
    (g : Nat) (hx : a.eval x = .slice (some ⟨g, 0, none⟩) 1 1) {z : Int} (hb : Blk w g 3 [.int .i64 z]) (hl : l.length ≤ 1000000)
    (hQ : ∀ p' c' w' κ', IntSl w' κ' k (.slice p' (l.length + 1) c') (l ++ [z]) → Fr κ (fun j => j = k) w w' κ' → wpList Tryz.prog ops Q rest (a.put o.dst (.slice p' (l.length + 1) c')) w') : wpList Tryz.prog ops Q (o :: rest) a w := by
  obtain ⟨p, c0, rfl, h2⟩ := h
  have hsrc : Src Tryz.prog 1 66 (.slice (some ⟨g, 0, none⟩) 1 1) 1 [.int .i64 z] w := Src.ofSlice w Tryz.underlying66 ⟨g, 0, none⟩ 1 1 _ rfl (fun j u hj => by rw [add_zero_off]; exact hb.cell j u hj) (fun u hu => by simp at hu; subst hu; rfl)
  refine wpList_append_sl hgd s x _ _ ho Tryz.underlying66 infoInt rfl (by decide) hs h2 (oneI l) _ hx _ _ hsrc (by omega) ?_
  intro p' c' w' κ' h4 h5 _ _ _
  exact hQ p' c' w' κ' ⟨p', c', by simp, by rw [show (l ++ [z]).length = l.length + 1 by simp, show vI (l ++ [z]) = vI l ++ [.int .i64 z] by simp [vI]]; exact h4⟩ h5
end
/-! ### Cut -/
section
variable {P : Program} {w w' : World} {κ κ' : Foot} {k z : Nat} {T t : TypeId} {g n c : Nat} {vs : List Value}
theorem Sl.head_src (h : Sl w κ k z T (some ⟨g, 0, none⟩) n c vs) (ht : P.underlying t = some (.slice T)) (hone : ∀ u ∈ vs, u.oneCell' = true) (i : Nat) (hi : i ≤ n) : Src P z t (.slice (some ⟨g, 0, none⟩) i c) i (vs.take (i * z)) w := by
  have hl : i * z ≤ n * z := Nat.mul_le_mul_right _ hi
  refine Src.ofSlice w ht ⟨g, 0, none⟩ i c _ (by rw [List.length_take, h.1]; omega) (fun j u hj => ?_) (fun u hu => hone u (List.mem_of_mem_take hu))
  have hj2 : j < (vs.take (i * z)).length := (List.getElem?_eq_some_iff.1 hj).1
  rw [List.length_take] at hj2
  rw [List.getElem?_take, if_pos (by omega)] at hj
  obtain ⟨g', e, _, _, hc, _⟩ := h.cell hj
  cases e
  rw [add_zero_off]
  exact hc
theorem Sl.rest_src (h : Sl w κ k z T (some ⟨g, 0, none⟩) n c vs) (ht : P.underlying t = some (.slice T)) (hone : ∀ u ∈ vs, u.oneCell' = true) (i : Nat) (hi : i ≤ n) :
    Src P z t (.slice (if c - i = 0 then some ⟨g, 0, none⟩ else some ((⟨g, 0, none⟩ : Addr).add (i * z))) (n - i) (c - i)) (n - i) (vs.drop (i * z)) w := by
  have hnc := h.2.1
  have hlen : (vs.drop (i * z)).length = (n - i) * z := by rw [List.length_drop, h.1, Nat.sub_mul]
  by_cases hc : c - i = 0
  · have hn : n - i = 0 := by omega
    rw [if_pos hc]
    refine Src.ofSlice w ht ⟨g, 0, none⟩ _ _ _ hlen (fun j u hj => ?_) (fun u hu => hone u (List.mem_of_mem_drop hu))
    have hj2 : j < (vs.drop (i * z)).length := (List.getElem?_eq_some_iff.1 hj).1
    rw [hlen, hn, Nat.zero_mul] at hj2
    omega
  · rw [if_neg hc]
    refine Src.ofSlice w ht _ _ _ _ hlen (fun j u hj => ?_) (fun u hu => hone u (List.mem_of_mem_drop hu))
    rw [List.getElem?_drop] at hj
    obtain ⟨g', e, _, _, hc, _⟩ := h.cell hj
    cases e
    rw [Deep.add_add, add_zero_off]
    exact hc
end
theorem SegSl.at {W w : World} {κ : Foot} {k n c : Nat} {a : Addr} {L : List Seg} (h : SegSl W w κ k (.slice (some a) n c) L) {i : Nat} {x : Seg} (hi : L[i]? = some x) : ∃ q c', TextsP W q x.r ∧ ∀ (j : Nat) (v : Value), (segC x (.slice q x.r.length c'))[j]? = some v → w.cell? (a.add (i * 7 + j)) = some v := by
  obtain ⟨p', c0, vs, h1, h2, h3⟩ := h
  injection h1 with e1 e2 e3
  subst e1
  obtain ⟨q, c', h4, h5⟩ := h3.each i x hi
  refine ⟨q, c', h4, fun j v hv => ?_⟩
  obtain ⟨g, e, _, _, hc, _⟩ := h2.cell (h5 j v hv)
  cases e
  rw [add_zero_off]
  exact hc
theorem IntSl.at {w : World} {κ : Foot} {k n c : Nat} {a : Addr} {l : List Int} (h : IntSl w κ k (.slice (some a) n c) l) {i : Nat} {z : Int} (hi : l[i]? = some z) : w.cell? (a.add i) = some (.int .i64 z) := by
  obtain ⟨g, e, hc⟩ := h.cell hi
  cases e
  rw [add_zero_off]
  exact hc
theorem SegSl.zero {W w : World} {κ : Foot} {k n c : Nat} {p : Option Addr} {L : List Seg} (h : SegSl W w κ k (.slice p n c) L) : n = L.length := by
  obtain ⟨p', c0, vs, h1, _⟩ := h
  injection h1
theorem IntSl.zero {w : World} {κ : Foot} {k n c : Nat} {p : Option Addr} {l : List Int} (h : IntSl w κ k (.slice p n c) l) : n = l.length := by
  obtain ⟨p', c0, h1, _⟩ := h
  injection h1
section
variable {w : World} {ops : Array Oper} {o : Oper} {act : Act} {K : Act → World → Prop} {Q : Exit → Act → World → Prop} {F : Prop} {κ : Foot}
/-- append([]T{}, x[:i]...) in a region that draws its order. -/
theorem step_cut1 (hgd : o.guard = none) (s x : Operand) (ho : o.op = .call { callee := .builtin .append, args := #[s, x], argTypes := #[91, 91] }) {W : World} {kd : Nat} {a : Addr} {n c : Nat} {L : List Seg} {w0 : World} (h : SegSl W w0 κ kd (.slice (some a) n c) L) (hx0 : Ext w0 w) (i : Nat) (hi : i ≤ n) (g : Nat)
    (hs : act.eval s = .slice (some ⟨g, 0, none⟩) 0 0) (hx : act.eval x = .slice (some a) i c) (hl : n ≤ 1000000)
    (hQ : ∀ p' c' w' κ', SegSl W w' κ' kd (.slice p' i c') (L.take i) → SegSl W w' κ' kd (.slice (some a) n c) L → Fr κ (fun j => j = kd) w0 w' κ' → K (act.put o.dst (.slice p' i c')) w') : if Region.wanted o (yielded ops act.tmps) = true then Oper.wp Tryz.prog o act w K Q else F := by
  have h := h.step hx0
  have hn := h.zero
  obtain ⟨p0, c0, vs, h1, h2, h3⟩ := h
  injection h1 with e1 e2 e3
  subst e1 e3 e2
  obtain ⟨g0, hg0⟩ : ∃ g0, a = ⟨g0, 0, none⟩ := by
    rcases h2.2.2.1 with e | ⟨g0, e⟩
    · cases e
    · exact ⟨g0, Option.some.inj e⟩
  subst hg0
  refine step_append_sl hgd s x _ _ ho Tryz.underlying91 infoSeg rfl (by decide) (κ := κ) (k := kd) hs (Sl.empty _ _ _ _ _ g) (by simp) _ hx i _ (h2.head_src Tryz.underlying91 h3.ones i hi) (by omega) ?_
  intro p' c' w' κ' h4 h5 _ h6 _
  have hx6 := h6 rfl
  rw [Nat.zero_add, List.nil_append] at h4
  rw [Nat.zero_add]
  have hll : (L.take i).length = i := by rw [List.length_take]; omega
  refine hQ p' c' w' κ' ⟨p', c', _, by rw [hll], by rw [hll]; exact h4, h3.take i⟩ ⟨_, _, vs, rfl, ?_, h3⟩ ((hx0.fr κ _).trans h5)
  exact h2.same (fun g hg _ => hx6.block g hg) (fun g hg e => (h5.foot g hg).trans e)
/-- .. and behind it append(.., x[i:]...). -/
theorem step_cut2 (hgd : o.guard = none) (s x : Operand) (ho : o.op = .call { callee := .builtin .append, args := #[s, x], argTypes := #[91, 91] }) {W : World} {kd : Nat} {a : Addr} {n c m c1 : Nat} {p1 : Option Addr} {L M : List Seg} (h0 : SegSl W w κ kd (.slice p1 m c1) M) (h : SegSl W w κ kd (.slice (some a) n c) L) (i : Nat) (hi : i ≤ n)
    (hs : act.eval s = .slice p1 m c1) (hx : act.eval x = .slice (if c - i = 0 then some a else some (a.add (i * 7))) (n - i) (c - i)) (hl : m + n ≤ 1000000)
    (hQ : ∀ p' c' w' κ', SegSl W w' κ' kd (.slice p' (m + (n - i)) c') (M ++ L.drop i) → Fr κ (fun j => j = kd) w w' κ' → K (act.put o.dst (.slice p' (m + (n - i)) c')) w') : if Region.wanted o (yielded ops act.tmps) = true then Oper.wp Tryz.prog o act w K Q else F := by
  have hm := h0.zero
  obtain ⟨p0, c0, vs, h1, h2, h3⟩ := h
  injection h1 with e1 e2 e3
  subst e1 e3 e2
  obtain ⟨p2, c2, us, k1, k2, k3⟩ := h0
  injection k1 with e1 e2 e3
  subst e1 e3 e2
  obtain ⟨g0, hg0⟩ : ∃ g0, a = ⟨g0, 0, none⟩ := by
    rcases h2.2.2.1 with e | ⟨g0, e⟩
    · cases e
    · exact ⟨g0, Option.some.inj e⟩
  subst hg0
  refine step_append_sl hgd s x _ _ ho Tryz.underlying91 infoSeg rfl (by decide) hs k2 k3.ones _ hx _ _ (h2.rest_src Tryz.underlying91 h3.ones i hi) (by omega) ?_
  intro p' c' w' κ' h4 h5 _ _ _
  have hll : (M ++ L.drop i).length = M.length + (L.length - i) := by rw [List.length_append, List.length_drop]
  exact hQ p' c' w' κ' ⟨p', c', _, by rw [hll], by rw [hll]; exact h4, k3.append (h3.drop i)⟩ h5
theorem vI_take (l : List Int) (i : Nat) : vI (l.take i) = (vI l).take (i * 1) := by unfold vI; rw [List.map_take, Nat.mul_one]
theorem vI_drop (l : List Int) (i : Nat) : vI (l.drop i) = (vI l).drop (i * 1) := by unfold vI; rw [List.map_drop, Nat.mul_one]
theorem step_icut1 (hgd : o.guard = none) (s x : Operand) (ho : o.op = .call { callee := .builtin .append, args := #[s, x], argTypes := #[66, 66] }) {kd : Nat} {a : Addr} {n c : Nat} {L : List Int} {w0 : World} (h : IntSl w0 κ kd (.slice (some a) n c) L) (hx0 : Ext w0 w) (i : Nat) (hi : i ≤ n) (g : Nat)
    (hs : act.eval s = .slice (some ⟨g, 0, none⟩) 0 0) (hx : act.eval x = .slice (some a) i c) (hl : n ≤ 1000000)
    (hQ : ∀ p' c' w' κ', IntSl w' κ' kd (.slice p' i c') (L.take i) → IntSl w' κ' kd (.slice (some a) n c) L → Fr κ (fun j => j = kd) w0 w' κ' → K (act.put o.dst (.slice p' i c')) w') : if Region.wanted o (yielded ops act.tmps) = true then Oper.wp Tryz.prog o act w K Q else F := by
  have h := h.step hx0
  have hn := h.zero
  obtain ⟨p0, c0, h1, h2⟩ := h
  injection h1 with e1 e2 e3
  subst e1 e3 e2
  obtain ⟨g0, hg0⟩ : ∃ g0, a = ⟨g0, 0, none⟩ := by
    rcases h2.2.2.1 with e | ⟨g0, e⟩
    · cases e
    · exact ⟨g0, Option.some.inj e⟩
  subst hg0
  refine step_append_sl hgd s x _ _ ho Tryz.underlying66 infoInt rfl (by decide) (κ := κ) (k := kd) hs (Sl.empty _ _ _ _ _ g) (by simp) _ hx i _ (h2.head_src Tryz.underlying66 (oneI L) i hi) (by omega) ?_
  intro p' c' w' κ' h4 h5 _ h6 _
  have hx6 := h6 rfl
  rw [Nat.zero_add, List.nil_append, ← vI_take] at h4
  rw [Nat.zero_add]
  have hll : (L.take i).length = i := by rw [List.length_take]; omega
  refine hQ p' c' w' κ' ⟨p', c', by rw [hll], by rw [hll]; exact h4⟩ ⟨_, _, rfl, ?_⟩ ((hx0.fr κ _).trans h5)
  exact h2.same (fun g hg _ => hx6.block g hg) (fun g hg e => (h5.foot g hg).trans e)
theorem step_icut2 (hgd : o.guard = none) (s x : Operand) (ho : o.op = .call { callee := .builtin .append, args := #[s, x], argTypes := #[66, 66] }) {kd : Nat} {a : Addr} {n c m c1 : Nat} {p1 : Option Addr} {L M : List Int} (h0 : IntSl w κ kd (.slice p1 m c1) M) (h : IntSl w κ kd (.slice (some a) n c) L) (i : Nat) (hi : i ≤ n)
    (hs : act.eval s = .slice p1 m c1) (hx : act.eval x = .slice (if c - i = 0 then some a else some (a.add (i * 1))) (n - i) (c - i)) (hl : m + n ≤ 1000000)
    (hQ : ∀ p' c' w' κ', IntSl w' κ' kd (.slice p' (m + (n - i)) c') (M ++ L.drop i) → Fr κ (fun j => j = kd) w w' κ' → K (act.put o.dst (.slice p' (m + (n - i)) c')) w') : if Region.wanted o (yielded ops act.tmps) = true then Oper.wp Tryz.prog o act w K Q else F := by
  have hm := h0.zero
  obtain ⟨p0, c0, h1, h2⟩ := h
  injection h1 with e1 e2 e3
  subst e1 e3 e2
  obtain ⟨p2, c2, k1, k2⟩ := h0
  injection k1 with e1 e2 e3
  subst e1 e3 e2
  obtain ⟨g0, hg0⟩ : ∃ g0, a = ⟨g0, 0, none⟩ := by
    rcases h2.2.2.1 with e | ⟨g0, e⟩
    · cases e
    · exact ⟨g0, Option.some.inj e⟩
  subst hg0
  refine step_append_sl hgd s x _ _ ho Tryz.underlying66 infoInt rfl (by decide) hs k2 (oneI M) _ hx _ _ (h2.rest_src Tryz.underlying66 (oneI L) i hi) (by omega) ?_
  intro p' c' w' κ' h4 h5 _ _ _
  have hll : (M ++ L.drop i).length = M.length + (L.length - i) := by rw [List.length_append, List.length_drop]
  exact hQ p' c' w' κ' ⟨p', c', by rw [hll], by rw [hll, show vI (M ++ L.drop i) = vI M ++ vI (L.drop i) by simp [vI], vI_drop]; exact h4⟩ h5
end
theorem add_zeroA (a : Addr) : a.add 0 = a := by unfold Addr.add; split <;> simp_all
theorem segs_head (a : Addr) (n c i : Nat) (hi : i ≤ c) (u : World) : (Instr.slice 91 (.slice (some a) n c) none (some (.int .i64 (i : Int))) none).run Tryz.prog u = .ok (.slice (some a) i c) u := by
  have hj : (0 : Int) ≤ (i : Int) ∧ (i : Int) ≤ (c : Int) := by omega
  simp [Instr.slice, Instr.sliceBounds, Instr.sliceBound, asIntOf, run_underlying Tryz.underlying91, hj, hi, add_zeroA]
theorem ints_head (a : Addr) (n c i : Nat) (hi : i ≤ c) (u : World) : (Instr.slice 66 (.slice (some a) n c) none (some (.int .i64 (i : Int))) none).run Tryz.prog u = .ok (.slice (some a) i c) u := by
  have hj : (0 : Int) ≤ (i : Int) ∧ (i : Int) ≤ (c : Int) := by omega
  simp [Instr.slice, Instr.sliceBounds, Instr.sliceBound, asIntOf, run_underlying Tryz.underlying66, hj, hi, add_zeroA]
theorem segs_rest (a : Addr) (n c i : Nat) (hi : i ≤ n) (hc : n ≤ c) (u : World) : (Instr.slice 91 (.slice (some a) n c) (some (.int .i64 (i : Int))) none none).run Tryz.prog u = .ok (.slice (if c - i = 0 then some a else some (a.add (i * 7))) (n - i) (c - i)) u := by
  have hj : (0 : Int) ≤ (i : Int) ∧ (i : Int) ≤ (n : Int) := by omega
  obtain ⟨i0, h1, h2, h3, h4⟩ := info_parts infoSeg
  simp [Instr.slice, Instr.sliceBounds, Instr.sliceBound, asIntOf, run_underlying Tryz.underlying91, hj, hi, sizeOf, typeInfo, h1, h3]
  by_cases h : c = i
  · simp [h]
  · have h5 : ¬ c - i = 0 := by omega
    simp [h, h5]
theorem ints_rest (a : Addr) (n c i : Nat) (hi : i ≤ n) (hc : n ≤ c) (u : World) : (Instr.slice 66 (.slice (some a) n c) (some (.int .i64 (i : Int))) none none).run Tryz.prog u = .ok (.slice (if c - i = 0 then some a else some (a.add (i * 1))) (n - i) (c - i)) u := by
  have hj : (0 : Int) ≤ (i : Int) ∧ (i : Int) ≤ (n : Int) := by omega
  obtain ⟨i0, h1, h2, h3, h4⟩ := info_parts infoInt
  simp [Instr.slice, Instr.sliceBounds, Instr.sliceBound, asIntOf, run_underlying Tryz.underlying66, hj, hi, sizeOf, typeInfo, h1, h3]
  by_cases h : c = i
  · simp [h]
  · have h5 : ¬ c - i = 0 := by omega
    simp [h, h5]
/-- x % g of numbers of 64 bits. -/
theorem rem_u64 (x G : Nat) (hG : 0 < G) (u : World) : (binOp .rem 38 (.int .u64 (x : Int)) (.int .u64 (G : Int))).run Tryz.prog u = .ok (.int .u64 ((x % G : Nat) : Int)) u := by
  have h1 : ¬ G = 0 := by omega
  have htm : ((x : Nat) : Int).tmod (G : Int) = (x : Int) % (G : Int) := Int.tmod_eq_emod_of_nonneg (by omega)
  simp [binOp, Op.intDiv, h1, htm]
theorem rem_int (x G : Nat) (hG : 0 < G) (u : World) : (binOp .rem 3 (.int .i64 (x : Int)) (.int .i64 (G : Int))).run Tryz.prog u = .ok (.int .i64 ((x % G : Nat) : Int)) u := by
  have h1 : ¬ G = 0 := by omega
  have htm : ((x : Nat) : Int).tmod (G : Int) = (x : Int) % (G : Int) := Int.tmod_eq_emod_of_nonneg (by omega)
  simp [binOp, Op.intDiv, h1, htm]
end Go.Proofs.YtbekdcpdfmfopaaGreat
