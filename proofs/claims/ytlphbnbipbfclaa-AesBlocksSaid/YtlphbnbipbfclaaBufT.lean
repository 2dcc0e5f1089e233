/- Plain: a text's bytes in a row of their own that grows by append. -/
import Derived.Test.YtlphbnbipbfclaaBuf
import Derived.Test.YtlphbnbipbfclaaBRow
import Derived.Lib.FrozenHead
namespace Go.Proofs.Ytlphbnbipbfclaa
open Go.RowKit

/-- A slice of bytes of the call's own, as a conversion lays it, or an append: the row is not frozen where bytes may come. -/
def BufT (w : World) (B : Nat) (v : Value) (l : List UInt8) : Prop :=
  ∃ g cap cur fz, v = .slice (some ⟨g, 0, none⟩) l.length cap ∧ B ≤ g ∧ w.heap[g]? = some (.cells cur 5 fz) ∧ (fz.2 = 0 ∨ cap ≤ fz.1) ∧ l.length ≤ cap ∧ cap ≤ maxLen ∧ cur.size = cap ∧ cur.toList.take l.length = l.map cellOf
section
variable {w w' : World} {B : Nat} {v : Value} {l : List UInt8}
theorem BufT.ext (h : BufT w B v l) (hx : Ext w w') : BufT w' B v l := by
  obtain ⟨g, cap, cur, fz, h1, h2, h3, h4⟩ := h
  exact ⟨g, cap, cur, fz, h1, h2, (hx.block g (heap_lt h3)).trans h3, h4⟩
theorem BufT.cells (h : BufT w B v l) : ∃ g c, v = .slice (some ⟨g, 0, none⟩) l.length c ∧ B ≤ g ∧ g < w.heap.size ∧ ∀ (i : Nat) (b : UInt8), l[i]? = some b → w.cell? ⟨g, i, none⟩ = some (.int .u8 (b.toNat : Int)) := by
  obtain ⟨g, cap, cur, fz, h1, h2, h3, h4, h5, h6, h7, h8⟩ := h
  refine ⟨g, cap, h1, h2, heap_lt h3, fun i b hb => ?_⟩
  have hi : i < l.length := (List.getElem?_eq_some_iff.1 hb).1
  rw [cell_of_row w g i cur _ fz h3]
  have e : cur.toList[i]? = (l.map cellOf)[i]? := by rw [← h8, List.getElem?_take, if_pos (by omega)]
  rw [← Array.getElem?_toList, e]
  simp [hb, cellOf]
theorem BufT.of_buf (h : Buf w B v l) (hl : l ≠ []) : BufT w B v l := by
  unfold Buf at h
  rcases h.2 with ⟨_, h0⟩ | ⟨g, cap, cur, hv, hB, hg, hle, hm, hsz, ht⟩
  · exact absurd (List.length_eq_zero_iff.1 h0) hl
  · exact ⟨g, cap, cur, (0, 0), hv, hB, hg, .inl rfl, hle, hm, by simpa using hsz, by simpa using ht⟩
end
/-- '[]byte(s)'. -/
theorem bufT_of_text (w : World) (s : ByteArray) (hs : s.size ≤ 1099511627776) : ∃ (c : Nat) (W : World), (convert 9 31 (.string s)).run Try.prog w = .ok (.slice (some ⟨w.heap.size, 0, none⟩) s.size c) W ∧ s.size ≤ c ∧ Ext w W ∧ BufT W w.heap.size (.slice (some ⟨w.heap.size, 0, none⟩) s.size c) s.data.toList := by
  have hge := grownCap_ge w s.size 0 5
  refine ⟨grownCap w s.size 0 5, Lib.bytesWorld w 5 s, Lib.run_convert_string_bytes (P := Try.prog) w 9 31 5 s Try.underlying9 Try.underlying31 Try.underlying5, hge, ?_, ?_⟩
  · refine ⟨?_, ?_, ?_, by rw [Lib.bytesWorld_size]; omega, fun k hk => Lib.bytesWorld_at_old w _ s k hk⟩
    all_goals
      unfold Lib.bytesWorld World.freeze
      split <;> rfl
  · have hcs : (Lib.bytesCells w 5 s).size = grownCap w s.size 0 5 := by
      unfold Lib.bytesCells
      simp
      show s.size + _ = _
      omega
    refine ⟨w.heap.size, _, Lib.bytesCells w 5 s, _, by rw [size_list], Nat.le_refl _, Lib.bytesWorld_at_new w _ s, .inr (by rw [hcs]; exact Nat.le_refl _), by rw [size_list]; exact hge, grownCap_le_maxLen w _ _ _ (by unfold maxLen; omega), hcs, ?_⟩
    unfold Lib.bytesCells
    rw [Array.toList_append, List.take_append_of_le_length (by simp), List.take_of_length_le (by simp)]
    simp
    intro a _
    rfl
theorem run_storeCells_atT (P : Program) (g o : Nat) (t : TypeId) (fz : Nat × Nat) : ∀ (vs : List Value) (i : Nat) (cur : Array Value) (w : World), w.heap[g]? = some (.cells cur t fz) → (fz.2 = 0 ∨ cur.size ≤ fz.1) → o + i + vs.length ≤ cur.size → (∀ v ∈ vs, v.oneCell' = true) →
    (storeCells ⟨g, o, none⟩ vs i).run P w = .ok () (w.setRow g (cur.toList.take (o + i) ++ vs ++ cur.toList.drop (o + i + vs.length)).toArray)
  | [], i, cur, w, hg, _, _, _ => by
    simp only [storeCells, List.append_nil, List.length_nil, Nat.add_zero, List.take_append_drop, Array.toArray_toList]
    rw [setRow_self w g cur t fz hg]
    rfl
  | v :: rest, i, cur, w, hg, hfz, hl, h1 => by
    have hi : o + i < cur.size := by simp at hl; omega
    have hadd : (⟨g, o, none⟩ : Addr).add i = ⟨g, o + i, none⟩ := by unfold Addr.add; split <;> simp_all
    have hcell : w.cell? ⟨g, o + i, none⟩ = some cur[o + i] := by simp [World.cell?, hg, hi]
    have hfro : w.frozen? ⟨g, o + i, none⟩ = false := by
      obtain ⟨lo, hi'⟩ := fz
      simp only [World.frozen?, hg, Bool.and_eq_false_iff, decide_eq_false_iff_not]
      simp only at hfz
      omega
    have hst : (store ((⟨g, o, none⟩ : Addr).add i) v).run P w = .ok () (w.setRow g (cur.setIfInBounds (o + i) v)) := by
      rw [hadd, run_store P w _ v _ (h1 v (by simp)), hcell]
      simp [hfro, setCell_eq_setRow w g (o + i) cur t fz v hg]
    have ih := run_storeCells_atT P g o t fz rest (i + 1) (cur.setIfInBounds (o + i) v) (w.setRow g (cur.setIfInBounds (o + i) v)) (setRow_heap w g cur _ t _ hg) (by simpa using hfz) (by simp at hl ⊢; omega) (fun x hx => h1 x (by simp [hx]))
    simp only [storeCells, Sem.run_bind, hst, Result.andThen_ok, ih, setRow_setRow]
    congr 3
    have e := list_seg_step cur.toList (o + i) v rest (by simp at hl ⊢; omega)
    simpa [Array.toList_setIfInBounds, Nat.add_assoc] using e
/-- 'append(b, ..)' of a block of new bytes, run. -/
theorem run_appendT (w : World) (ty : TypeId) (B : Nat) (v : Value) (l : List UInt8) (h : BufT w B v l) (g2 m : Nat) (news : List UInt8) (hl : news.length = m) (hrow : Row w g2 5 news) (hlen : l.length + m ≤ 140737488355328) (hB : B ≤ w.heap.size) (x : Nat) (hxs : x < w.heap.size) (hxv : ∀ n c, v ≠ .slice (some ⟨x, 0, none⟩) n c) :
    ∃ v' w', (Builtin.append_ #[31, 31] ty #[v, .slice (some ⟨g2, 0, none⟩) m m]).run Try.prog w = .ok v' w' ∧ BufT w' B v' (l ++ news) ∧ Below B w w' ∧ w'.heap[x]? = w.heap[x]? ∧ (∀ n c, v' ≠ .slice (some ⟨x, 0, none⟩) n c) := by
  obtain ⟨i0, hi, hz0, hz1, hz2⟩ := info_parts info5
  obtain ⟨g, cap, cur, fz, rfl, hbg, hg, hfz, hnc, hcm, hcs, htake⟩ := h
  have hnews : ∀ j u, (news.map cellOf)[j]? = some u → w.cell? ((⟨g2, 0, none⟩ : Addr).add j) = some u := by
    intro j u hj
    have e : ((⟨g2, 0, none⟩ : Addr).add j) = ⟨g2, j, none⟩ := by unfold Addr.add; split <;> simp_all
    rw [e, cell_of_row w g2 j _ _ (0, 0) hrow]
    simpa using hj
  have h1 : ∀ u ∈ news.map cellOf, u.oneCell' = true := by
    intro u hu
    simp only [List.mem_map] at hu
    obtain ⟨b, _, rfl⟩ := hu
    rfl
  have hln : (news.map cellOf).length = m * i0.size := by rw [hz1]; simp [hl]
  have hgx : g ≠ x := fun e => hxv l.length cap (by rw [e])
  by_cases hroom : l.length + m ≤ cap
  · have hf := run_firstCells_some (P := Try.prog) w i0.size m ⟨g2, 0, none⟩ m m (news.map cellOf) hln hnews
    have hst := run_storeCells_atT Try.prog g (l.length * i0.size) 5 fz (news.map cellOf) 0 cur w hg (by rw [hcs]; exact hfz) (by rw [hz1]; simp [hl]; omega) h1
    simp only [Nat.add_zero] at hst
    have hr : (Builtin.append_ #[31, 31] ty #[.slice (some ⟨g, 0, none⟩) l.length cap, .slice (some ⟨g2, 0, none⟩) m m]).run Try.prog w =
        .ok (.slice (some ⟨g, 0, none⟩) (l.length + m) cap) (w.setRow g (cur.toList.take (l.length * i0.size) ++ news.map cellOf ++ cur.toList.drop (l.length * i0.size + (news.map cellOf).length)).toArray) := by
      simp [Builtin.append_, run_underlying Try.underlying31, sizeOf, typeInfo, hi, Builtin.lenOf, hroom, hf, Addr.add_lit, hst]
    refine ⟨_, _, hr, ?_, ?_, setRow_other w g x _ (Ne.symm hgx), fun n c h => by injection h with h1; injection h1 with h2; injection h2 with h3; exact hgx h3⟩
    · refine ⟨g, cap, _, fz, by rw [List.length_append, hl], hbg, setRow_heap w g cur _ _ _ hg, hfz, by rw [List.length_append, hl]; exact hroom, hcm, ?_, ?_⟩
      · simp [hz1, hl, hcs]; omega
      · simp only [hz1, Nat.mul_one]
        rw [htake, List.map_append, List.length_append]
        exact List.take_left' (by simp)
    · exact ⟨rfl, rfl, rfl, by simp, fun k hk => setRow_other w g k _ (by omega)⟩
  · have holds : ∀ j u, (l.map cellOf)[j]? = some u → w.cell? ((⟨g, 0, none⟩ : Addr).add j) = some u := by
      intro j u hu
      have e : ((⟨g, 0, none⟩ : Addr).add j) = ⟨g, j, none⟩ := by unfold Addr.add; split <;> simp_all
      rw [e, cell_of_row w g j cur _ fz hg, ← Array.getElem?_toList]
      rw [← htake, List.getElem?_take] at hu
      split at hu
      · exact hu
      · cases hu
    have hr := run_append_grow (P := Try.prog) w 31 ty 5 i0 (.int .u8 0) Try.underlying31 hi hz0 ⟨g, 0, none⟩ l.length cap (l.map cellOf) (by rw [hz1]; simp) holds ⟨g2, 0, none⟩ m m (news.map cellOf) hln hnews (by omega) (by omega) (growslice_fits (by omega) (by rw [hz2]; omega))
    have hge := grownCap_ge w (l.length + m) cap 5
    have hcm2 := grownCap_le_maxLen w (l.length + m) cap 5 (by unfold maxLen; omega)
    refine ⟨_, _, hr, ⟨w.heap.size, _, _, (0, 0), by rw [List.length_append, hl], hB, heap_alloc_new w.drew _, .inl rfl, by rw [List.length_append, hl]; exact hge, hcm2, ?_, ?_⟩, ⟨rfl, rfl, rfl, by simp, fun k hk => Below.heap_alloc w.drew _ k (Nat.lt_of_lt_of_le hk hB)⟩, Below.heap_alloc w.drew _ x hxs, fun n c h => by injection h with h1; injection h1 with h2; injection h2 with h3; omega⟩
    · have hz : (Value.int IntKind.u8 0).cells.size = 1 := rfl
      simp [size_zeroCells, hl, hz]
      omega
    · rw [Array.toList_append, Array.toList_append, List.map_append, List.length_append]
      exact List.take_left' (by simp)
/-- The same, in a walk. -/
theorem wp_appendT {w : World} {o : Oper} {a : Act} {K : Act → World → Prop} {Q : Exit → Act → World → Prop} (s x : Operand)
    (ho : o.op = .call { callee := .builtin .append, args := #[s, x], argTypes := #[31, 31] })
    (B : Nat) (v : Value) (l : List UInt8) (hs : a.eval s = v) (hbuf : BufT w B v l) (g m : Nat) (news : List UInt8) (hx : a.eval x = .slice (some ⟨g, 0, none⟩) m m) (hl : news.length = m) (hrow : Row w g 5 news)
    (hlen : l.length + m ≤ 140737488355328) (hB : B ≤ w.heap.size) (y : Nat) (hxs : y < w.heap.size) (hxv : ∀ n c, v ≠ .slice (some ⟨y, 0, none⟩) n c)
    (h : ∀ v' w', BufT w' B v' (l ++ news) → Below B w w' → w'.heap[y]? = w.heap[y]? → (∀ n c, v' ≠ .slice (some ⟨y, 0, none⟩) n c) → K (a.put o.dst v') w') : Oper.wp Try.prog o a w K Q := by
  obtain ⟨v', w', hr, h2, h3, h4, h5⟩ := run_appendT w o.type B v l hbuf g m news hl hrow hlen hB y hxs hxv
  unfold Oper.wp execOp
  simp only [ho, resolve, invoke, builtin, Sem.run_bind, Sem.run_pure, Result.andThen_ok, List.map_toArray, List.map_cons, List.map_nil, hs, hx, hr]
  exact h v' w' h2 h3 h4 h5
theorem appendT {w : World} {ops : Array Oper} {rest : List Oper} {o : Oper} {a : Act} {Q : Exit → Act → World → Prop} (hgd : o.guard = none) (s x : Operand)
    (ho : o.op = .call { callee := .builtin .append, args := #[s, x], argTypes := #[31, 31] })
    (B : Nat) (v : Value) (l : List UInt8) (hs : a.eval s = v) (hbuf : BufT w B v l) (g m : Nat) (news : List UInt8) (hx : a.eval x = .slice (some ⟨g, 0, none⟩) m m) (hl : news.length = m) (hrow : Row w g 5 news)
    (hlen : l.length + m ≤ 140737488355328) (hB : B ≤ w.heap.size) (y : Nat) (hxs : y < w.heap.size) (hxv : ∀ n c, v ≠ .slice (some ⟨y, 0, none⟩) n c)
    (h : ∀ v' w', BufT w' B v' (l ++ news) → Below B w w' → w'.heap[y]? = w.heap[y]? → (∀ n c, v' ≠ .slice (some ⟨y, 0, none⟩) n c) → wpList Try.prog ops Q rest (a.put o.dst v') w') : wpList Try.prog ops Q (o :: rest) a w :=
  wpList_plain hgd fun _ hK => wp_appendT s x ho B v l hs hbuf g m news hx hl hrow hlen hB y hxs hxv fun v' w' h1 h2 h3 h4 => hK _ _ (h v' w' h1 h2 h3 h4)
theorem step_appendT {w : World} {ops : Array Oper} {o : Oper} {a : Act} {K : Act → World → Prop} {Q : Exit → Act → World → Prop} {E : Prop} (hg : o.guard = none) (s x : Operand)
    (ho : o.op = .call { callee := .builtin .append, args := #[s, x], argTypes := #[31, 31] })
    (B : Nat) (v : Value) (l : List UInt8) (hs : a.eval s = v) (hbuf : BufT w B v l) (g m : Nat) (news : List UInt8) (hx : a.eval x = .slice (some ⟨g, 0, none⟩) m m) (hl : news.length = m) (hrow : Row w g 5 news)
    (hlen : l.length + m ≤ 140737488355328) (hB : B ≤ w.heap.size) (y : Nat) (hxs : y < w.heap.size) (hxv : ∀ n c, v ≠ .slice (some ⟨y, 0, none⟩) n c)
    (h : ∀ v' w', BufT w' B v' (l ++ news) → Below B w w' → w'.heap[y]? = w.heap[y]? → (∀ n c, v' ≠ .slice (some ⟨y, 0, none⟩) n c) → K (a.put o.dst v') w') : if Region.wanted o (yielded ops a.tmps) = true then Oper.wp Try.prog o a w K Q else E := by
  have hw : Region.wanted o (yielded ops a.tmps) = true := by simp [Region.wanted, hg]
  rw [if_pos hw]
  exact wp_appendT s x ho B v l hs hbuf g m news hx hl hrow hlen hB y hxs hxv h
end Go.Proofs.Ytlphbnbipbfclaa
