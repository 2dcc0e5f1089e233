/- Plain: slices of records that grow by append; records' cells. -/
import Derived.Test.YthnoegipadnmeaaFrameL
import Derived.Test.YthnoegipadnmeaaBuf
import Derived.Test.YthnoegipadnmeaaBlk
import Derived.OwnWalkIn
namespace Go.Proofs.Ythnoegipadnmeaa
open Go.RowKit

def recCells (r : Rec) : List Value := [.int .u64 (r.n : Int), .string r.t]
/-- Records' cells, one behind the other. -/
def rsCells (L : List Rec) : List Value := L.flatMap recCells
theorem rsCells_length (L : List Rec) : (rsCells L).length = L.length * 2 := by
  induction L with
  | nil => rfl
  | cons a r ih => simp only [rsCells, recCells, List.flatMap_cons, List.length_append, List.length_cons, List.length_nil] at ih ⊢; omega
theorem rsCells_get : ∀ (L : List Rec) (i : Nat) (x : Rec), L[i]? = some x → (rsCells L)[i * 2]? = some (.int .u64 (x.n : Int)) ∧ (rsCells L)[i * 2 + 1]? = some (.string x.t)
  | [], i, x, h => by simp at h
  | a :: r, 0, x, h => by
    simp at h; subst h
    exact ⟨rfl, rfl⟩
  | a :: r, i + 1, x, h => by
    have ih := rsCells_get r i x (by simpa using h)
    have e : ∀ k, (rsCells (a :: r))[(i + 1) * 2 + k]? = (rsCells r)[i * 2 + k]? := fun k => by
      have e1 : (i + 1) * 2 + k = (i * 2 + k) + 2 := by omega
      rw [e1]; rfl
    exact ⟨(e 0).trans ih.1, (e 1).trans ih.2⟩
theorem rsCells_snoc (L : List Rec) (x : Rec) : rsCells (L ++ [x]) = rsCells L ++ recCells x := by simp [rsCells]
theorem infoRec : (Try.prog.info? 60).map (fun i => (i.zero, i.size, i.bytes)) = some (some (.agg #[.int .u64 0, .string ⟨#[]⟩]), 2, 24) := by kernel_rfl
/-- A slice of records that grew by append. -/
def BufR (w : World) (B : Nat) (v : Value) (L : List Rec) : Prop := w.ownsRow B 60 2 v L.length (rsCells L)
/-- The cells from the address on, if there are any, are these records. -/
def RecsP (w : World) (p : Option Addr) (L : List Rec) : Prop := ∀ (i : Nat) (x : Rec), L[i]? = some x → ∃ q, p = some ⟨q, 0, none⟩ ∧ q < w.heap.size ∧
    w.cell? ⟨q, i * 2, none⟩ = some (.int .u64 (x.n : Int)) ∧ w.cell? ⟨q, i * 2 + 1, none⟩ = some (.string x.t)
section
variable {w w' : World} {B : Nat} {v : Value} {L : List Rec} {p : Option Addr}
theorem BufR.ext (h : BufR w B v L) (hx : Ext w w') : BufR w' B v L := by
  refine ⟨h.1, ?_⟩
  rcases h.2 with h0 | ⟨g, cap, cur, e1, e2, e3, e4⟩
  · exact .inl h0
  · exact .inr ⟨g, cap, cur, e1, e2, (hx.below.block g (heap_lt e3)).trans e3, e4⟩
theorem BufR.nil (w : World) (B : Nat) : BufR w B (.slice none 0 0) [] := World.ownsRow_nil _ _ _ _
theorem BufR.drew (h : BufR w B v L) : BufR w.drew B v L := h
theorem BufR.base {B' : Nat} (h : BufR w B v L) (hB : B' ≤ B) : BufR w B' v L := by
  refine ⟨h.1, ?_⟩
  rcases h.2 with h0 | ⟨g, cap, cur, e1, e2, e3, e4⟩
  · exact .inl h0
  · exact .inr ⟨g, cap, cur, e1, Nat.le_trans hB e2, e3, e4⟩
/-- What keeps all blocks of records keeps the slice. -/
theorem BufR.kept (h : BufR w B v L) (hk : ∀ (g : Nat) (cs : Array Value) (fz : Nat × Nat), B ≤ g → w.heap[g]? = some (.cells cs 60 fz) → w'.heap[g]? = some (.cells cs 60 fz)) : BufR w' B v L := by
  refine ⟨h.1, ?_⟩
  rcases h.2 with h0 | ⟨g, cap, cur, e1, e2, e3, e4⟩
  · exact .inl h0
  · exact .inr ⟨g, cap, cur, e1, e2, hk g _ _ e2 e3, e4⟩
/-- The slice, its cells. -/
theorem BufR.recs (h : BufR w B v L) : ∃ p c, v = .slice p L.length c ∧ RecsP w p L ∧ (∀ q, p = some q → B ≤ q.block) := by
  unfold BufR at h
  rcases h.2 with ⟨hv, h0⟩ | ⟨g, cap, cur, hv, hB, hg, hle, _, hsz, ht⟩
  · have : L = [] := List.length_eq_zero_iff.1 h0
    subst this
    exact ⟨none, 0, hv, fun i x hx => by simp at hx, by simp⟩
  · refine ⟨some ⟨g, 0, none⟩, cap, hv, fun i x hx => ⟨g, rfl, heap_lt hg, ?_⟩, fun q hq => by cases hq; exact hB⟩
    have hi : i < L.length := (List.getElem?_eq_some_iff.1 hx).1
    obtain ⟨c0, c1⟩ := rsCells_get L i x hx
    have key : ∀ (k : Nat) (u : Value), k < L.length * 2 → (rsCells L)[k]? = some u → w.cell? ⟨g, k, none⟩ = some u := fun k u hk hu => by
      rw [cell_of_row w g k cur _ (0, 0) hg]
      have e : cur.toList[k]? = (rsCells L)[k]? := by
        rw [← ht, List.getElem?_take, if_pos hk]
      rw [← Array.getElem?_toList, e, hu]
    exact ⟨key _ _ (by omega) c0, key _ _ (by omega) c1⟩
theorem RecsP.ext (h : RecsP w p L) (hx : Ext w w') : RecsP w' p L := fun i x hi => by
  obtain ⟨q, h1, h2, h3, h4⟩ := h i x hi
  exact ⟨q, h1, Nat.lt_of_lt_of_le h2 hx.size, (hx.below.cell (p := ⟨q, i * 2, none⟩) h2).trans h3, (hx.below.cell (p := ⟨q, i * 2 + 1, none⟩) h2).trans h4⟩
theorem RecsP.take (h : RecsP w p L) (n : Nat) : RecsP w p (L.take n) := fun i x hi => h i x (by
  rw [List.getElem?_take] at hi
  split at hi
  · exact hi
  · cases hi)
end
theorem rec_two {w : World} {g : Nat} {r : Rec} (hrow : Blk w g 60 (recCells r)) : ∀ (j : Nat) (u : Value), (recCells r)[j]? = some u → w.cell? ((⟨g, 0, none⟩ : Addr).add j) = some u := fun j u hj => by
  have e : ((⟨g, 0, none⟩ : Addr).add j) = ⟨g, j, none⟩ := by unfold Addr.add; split <;> simp_all
  rw [e]
  exact hrow.cell j u hj
theorem rec_one (r : Rec) : ∀ u ∈ recCells r, u.oneCell' = true := fun u hu => by
  simp only [recCells, List.mem_cons, List.not_mem_nil, or_false] at hu
  rcases hu with rfl | rfl <;> rfl
/-- append(l, r) of one record in a new block. -/
theorem append_rec {w : World} {ops : Array Oper} {rest : List Oper} {o : Oper} {a : Act} {Q : Exit → Act → World → Prop} (hgd : o.guard = none) (s x : Operand)
    (ho : o.op = .call { callee := .builtin .append, args := #[s, x], argTypes := #[76, 76] })
    (B : Nat) (v : Value) (L : List Rec) (hs : a.eval s = v) (hbuf : BufR w B v L) (g : Nat) (r : Rec) (hx : a.eval x = .slice (some ⟨g, 0, none⟩) 1 1) (hrow : Blk w g 60 (recCells r))
    (hlen : L.length ≤ 1000000) (hB : B ≤ w.heap.size)
    (h : ∀ v' w', BufR w' B v' (L ++ [r]) → Below B w w' → w.grownBy w' v.ownBlock → wpList Try.prog ops Q rest (a.put o.dst v') w') : wpList Try.prog ops Q (o :: rest) a w := by
  obtain ⟨i0, hi, hz0, hz1, hz2⟩ := info_parts infoRec
  refine wpList_append_own w hgd s x 76 ho B 60 i0 (.agg #[.int .u64 0, .string ⟨#[]⟩]) 2 24 Try.underlying76 hi hz0 hz1 hz2 rfl (by decide) v L.length (rsCells L) hs hbuf ⟨g, 0, none⟩ 1 1 (recCells r) hx rfl (rec_two hrow) (rec_one r) (by unfold maxLen; omega) (by omega) hB ?_
  intro v' w' h1 h2 _
  refine h v' w' ?_ (Below.grown (Below.refl _ _) h2 hB fun k hk => (World.ownsRow.lt hbuf k hk).1) h2
  unfold BufR
  rw [rsCells_snoc]
  simpa using h1
/-- The same inside a fence. -/
theorem append_recIn {F : Fence} {n : Nat} {w : World} {ops : Array Oper} {rest : List Oper} {o : Oper} {a : Act} {Q : Exit → Act → World → Prop} (hgd : o.guard = none) (s x : Operand)
    (ho : o.op = .call { callee := .builtin .append, args := #[s, x], argTypes := #[76, 76] })
    (B : Nat) (v : Value) (L : List Rec) (hs : a.eval s = v) (hbuf : BufR w B v L) (g : Nat) (r : Rec) (hx : a.eval x = .slice (some ⟨g, 0, none⟩) 1 1) (hrow : Blk w g 60 (recCells r))
    (hlen : L.length ≤ 1000000) (hB : B ≤ w.heap.size)
    (h : ∀ v' w', BufR w' B v' (L ++ [r]) → Below B w w' → w.grownBy w' v.ownBlock → wpListIn F n Try.prog ops Q rest (a.put o.dst v') w') : wpListIn F n Try.prog ops Q (o :: rest) a w := by
  obtain ⟨i0, hi, hz0, hz1, hz2⟩ := info_parts infoRec
  refine wpListIn_append_own w hgd s x 76 ho B 60 i0 (.agg #[.int .u64 0, .string ⟨#[]⟩]) 2 24 Try.underlying76 hi hz0 hz1 hz2 rfl (by decide) v L.length (rsCells L) hs hbuf ⟨g, 0, none⟩ 1 1 (recCells r) hx rfl (rec_two hrow) (rec_one r) (by unfold maxLen; omega) (by omega) hB ?_
  intro v' w' h1 h2 _
  refine h v' w' ?_ (Below.grown (Below.refl _ _) h2 hB fun k hk => (World.ownsRow.lt hbuf k hk).1) h2
  unfold BufR
  rw [rsCells_snoc]
  simpa using h1
end Go.Proofs.Ythnoegipadnmeaa
