/- A text's bytes in a row of their own, as a conversion lays them: what is read, and written, there. Plain: slices of texts that grow by append. Plain: a text's bytes in a row of their own that grows by append. Plain: the round keys as texts. Plain: a byte of a text. Sixteen bytes made, and filled. -/
import Derived.Test.YthglecfbcdikaaaProg
import Derived.Test.YthglecfbcdikaaaHeap
import Derived.Lib.ConvBytes
import Derived.Laws.AppendOwn
import Derived.Test.YthglecfbcdikaaaBuf
import Derived.Test.YthglecfbcdikaaaBlk
import Derived.Lib.FrozenHead
import Derived.Test.YthglecfbcdikaaaKw
import Derived.Test.YthglecfbcdikaaaBytes
import Derived.WalkSpells
import Derived.Test.YthglecfbcdikaaaMake
import Derived.Test.YthglecfbcdikaaaZero
import Derived.Test.YthglecfbcdikaaaCopyT
section
namespace Go.Proofs.Ythglecfbcdikaaa
open Go.RowKit

/-- Block g begins with these bytes, and is not frozen there. -/
def BRow (w : World) (g : Nat) (t : TypeId) (l : List UInt8) : Prop := ∃ (rest : List Value) (fz : Nat × Nat), w.heap[g]? = some (.cells (l.map cellOf ++ rest).toArray t fz) ∧ l.length ≤ fz.1
section
variable {w w' : World} {g : Nat} {t : TypeId} {l : List UInt8}
theorem BRow.lt (h : BRow w g t l) : g < w.heap.size := by obtain ⟨_, _, h, _⟩ := h; exact heap_lt h
theorem BRow.cell (h : BRow w g t l) (i : Nat) (b : UInt8) (hb : l[i]? = some b) : w.cell? ⟨g, i, none⟩ = some (.int .u8 (b.toNat : Int)) := by
  obtain ⟨rest, fz, h, _⟩ := h
  have hi : i < l.length := (List.getElem?_eq_some_iff.1 hb).1
  rw [cell_of_row w g i _ t fz h]
  rw [List.getElem?_eq_getElem hi] at hb
  obtain rfl := Option.some.inj hb
  simp [List.getElem?_append_left, hi, cellOf]
theorem BRow.frozen (h : BRow w g t l) (i : Nat) (hi : i < l.length) : w.frozen? ⟨g, i, none⟩ = false := by
  obtain ⟨rest, ⟨lo, hi2⟩, h, hl⟩ := h
  have : ¬ lo ≤ i := by simp only at hl; omega
  simp [World.frozen?, h, this]
theorem BRow.set_ (h : BRow w g t l) (i : Nat) (hi : i < l.length) (x : Int) (b : UInt8) (hx : x = (b.toNat : Int)) : BRow (w.setCell ⟨g, i, none⟩ (.int .u8 x)) g t (l.set i b) := by
  subst hx
  obtain ⟨rest, fz, h, hl⟩ := h
  refine ⟨rest, fz, ?_, by simpa using hl⟩
  have e : (l.map cellOf ++ rest).set i (.int .u8 (b.toNat : Int)) = (l.set i b).map cellOf ++ rest := by
    rw [List.set_append_left _ _ (by simpa using hi), List.map_set]; rfl
  simp [World.setCell, Array.getElem?_modify, h]
  rw [e, List.map_set]
theorem BRow.ext (h : BRow w g t l) (hb : Ext w w') : BRow w' g t l := by
  have hlt := h.lt
  obtain ⟨rest, fz, h, hl⟩ := h
  exact ⟨rest, fz, (hb.block g hlt).trans h, hl⟩
/-- The text of the first n bytes. -/
theorem BRow.text (h : BRow w g t l) (n c : Nat) (hn : n ≤ l.length) :
    (convert 30 9 (.slice (some ⟨g, 0, none⟩) n c)).run Try.prog w = .ok (.string ⟨(l.take n).toArray⟩) w := by
  have hc := run_convert_bytes_arg (P := Try.prog) w 30 5 Try.underlying30 Try.underlying5 g 0 n c ((l.take n).map fun c => (c.toNat : Int)) (by simp; omega) (by
    intro i hi
    have hi2 : i < l.length := by omega
    have := h.cell i l[i] (List.getElem?_eq_getElem hi2)
    simpa [List.getD, hi, List.getElem?_eq_getElem hi2] using this) 9 Try.underlying9
  rw [hc]
  have e : strOfNums ((l.take n).map fun c => (c.toNat : Int)) = ⟨(l.take n).toArray⟩ := by
    unfold strOfNums
    congr 2
    rw [List.map_map]
    conv => rhs; rw [← List.map_id (l.take n)]
    apply List.map_congr_left
    intro b _
    simp
  rw [e]
end
/-- What a conversion of a text lays. -/
theorem bytes_of_text (w : World) (s : ByteArray) : ∃ (c : Nat) (W : World), (convert 9 30 (.string s)).run Try.prog w = .ok (.slice (some ⟨w.heap.size, 0, none⟩) s.size c) W ∧ s.size ≤ c ∧ Ext w W ∧ BRow W w.heap.size 5 s.data.toList := by
  refine ⟨grownCap w s.size 0 5, Lib.bytesWorld w 5 s, Lib.run_convert_string_bytes (P := Try.prog) w 9 30 5 s Try.underlying9 Try.underlying30 Try.underlying5, grownCap_ge w s.size 0 5, ?_, ?_⟩
  · refine ⟨?_, ?_, ?_, by rw [Lib.bytesWorld_size]; omega, fun k hk => Lib.bytesWorld_at_old w _ s k hk⟩
    all_goals
      unfold Lib.bytesWorld World.freeze
      split <;> rfl
  · refine ⟨List.replicate (grownCap w s.size 0 5 - s.size) (.int .u8 0), ((Lib.bytesCells w 5 s).size, (Lib.bytesCells w 5 s).size + 1), ?_, ?_⟩
    · rw [Lib.bytesWorld_at_new]
      have e : Lib.bytesCells w 5 s = (s.data.toList.map cellOf ++ List.replicate (grownCap w s.size 0 5 - s.size) (Value.int .u8 0)).toArray := by
        unfold Lib.bytesCells
        apply Array.toList_inj.1
        simp
        intro a _
        rfl
      rw [← e]
    · have := grownCap_ge w s.size 0 5
      simp [Lib.bytesCells]
end Go.Proofs.Ythglecfbcdikaaa
end

section
namespace Go.Proofs.Ythglecfbcdikaaa
open Go.RowKit
theorem infoS : (Try.prog.info? 9).map (fun i => (i.zero, i.size, i.bytes)) = some (some (.string ⟨#[]⟩), 1, 16) := by kernel_rfl
/-- A slice of texts of the call's own (nil, or in a block from B on) that holds just these. -/
def BufS (w : World) (B : Nat) (v : Value) (l : List ByteArray) : Prop := w.ownsRow B 9 1 v l.length (l.map Value.string)
/-- A slice that reads as these texts. -/
def SSl (w : World) (v : Value) (l : List ByteArray) : Prop := ∃ g c, v = .slice (some ⟨g, 0, none⟩) l.length c ∧ g < w.heap.size ∧ ∀ (i : Nat) (s : ByteArray), l[i]? = some s → w.cell? ⟨g, i, none⟩ = some (.string s)
theorem SSl.ext {w w' : World} {v : Value} {l : List ByteArray} (h : SSl w v l) (hx : Ext w w') : SSl w' v l := by
  obtain ⟨g, c, h1, h2, h3⟩ := h
  exact ⟨g, c, h1, Nat.lt_of_lt_of_le h2 hx.size, fun i b hb => (hx.below.cell (p := ⟨g, i, none⟩) h2).trans (h3 i b hb)⟩
section
variable {w w' : World} {B : Nat} {v : Value} {l : List ByteArray}
theorem BufS.nil (w : World) (B : Nat) : BufS w B (.slice none 0 0) [] := World.ownsRow_nil _ _ _ _
theorem BufS.made (w : World) (n : Nat) (hn : n ≤ maxLen) (hB : B ≤ w.heap.size) : BufS (w.alloc (.cells (madeCells #[.string ⟨#[]⟩] n) 9)) B (.slice (some ⟨w.heap.size, 0, none⟩) 0 n) [] :=
  World.ownsRow_made w _ n hB hn (by simp [size_madeCells])
theorem BufS.ext (h : BufS w B v l) (hx : Ext w w') : BufS w' B v l := by
  refine ⟨h.1, ?_⟩
  rcases h.2 with h0 | ⟨g, cap, cur, e1, e2, e3, e4⟩
  · exact .inl h0
  · exact .inr ⟨g, cap, cur, e1, e2, (hx.below.block g (heap_lt e3)).trans e3, e4⟩
theorem BufS.sl (h : BufS w B v l) (hl : l ≠ []) : SSl w v l := by
  unfold BufS at h
  rcases h.2 with ⟨_, h0⟩ | ⟨g, cap, cur, hv, _, hg, hle, _, hsz, ht⟩
  · exact absurd (List.length_eq_zero_iff.1 h0) hl
  · refine ⟨g, cap, hv, (Array.getElem?_eq_some_iff.1 hg).1, fun i b hb => ?_⟩
    have hi : i < l.length := (List.getElem?_eq_some_iff.1 hb).1
    rw [cell_of_row w g i cur _ (0, 0) hg]
    have e : cur.toList[i]? = (l.map Value.string)[i]? := by
      rw [← ht, List.getElem?_take, if_pos (by omega)]
    rw [← Array.getElem?_toList, e]
    simp [hb]
end
/-- append(l, s) of one text in a new block. -/
theorem append_text {w : World} {ops : Array Oper} {rest : List Oper} {o : Oper} {a : Act} {Q : Exit → Act → World → Prop} (hgd : o.guard = none) (s x : Operand)
    (ho : o.op = .call { callee := .builtin .append, args := #[s, x], argTypes := #[72, 72] })
    (B : Nat) (v : Value) (l : List ByteArray) (hs : a.eval s = v) (hbuf : BufS w B v l) (g : Nat) (new : ByteArray) (hx : a.eval x = .slice (some ⟨g, 0, none⟩) 1 1) (hrow : w.cell? ⟨g, 0, none⟩ = some (.string new))
    (hlen : l.length ≤ 1000000) (hB : B ≤ w.heap.size)
    (h : ∀ v' w', BufS w' B v' (l ++ [new]) → Below B w w' → wpList Try.prog ops Q rest (a.put o.dst v') w') : wpList Try.prog ops Q (o :: rest) a w := by
  obtain ⟨i0, hi, hz0, hz1, hz2⟩ := info_parts infoS
  refine wpList_append_own w hgd s x 72 ho B 9 i0 (.string ⟨#[]⟩) 1 16 Try.underlying72 hi hz0 hz1 hz2 rfl (by decide) v l.length (l.map Value.string) hs hbuf ⟨g, 0, none⟩ 1 1 [.string new] hx rfl ?_ ?_ (by unfold maxLen; omega) (by omega) hB ?_
  · intro j u hj
    match j, hj with
    | 0, hj => simp at hj; subst hj; exact hrow
    | n + 1, hj => simp at hj
  · intro u hu
    simp only [List.mem_singleton] at hu
    subst hu
    rfl
  · intro v' w' h1 h2 _
    refine h v' w' ?_ (Below.grown (Below.refl _ _) h2 hB fun k hk => (World.ownsRow.lt hbuf k hk).1)
    unfold BufS
    simpa using h1
/-- The same, as a step of a region that draws its order. -/
theorem step_append_text {w : World} {ops : Array Oper} {o : Oper} {a : Act} {K : Act → World → Prop} {Q : Exit → Act → World → Prop} {E : Prop} (hg : o.guard = none) (s x : Operand)
    (ho : o.op = .call { callee := .builtin .append, args := #[s, x], argTypes := #[72, 72] })
    (B : Nat) (v : Value) (l : List ByteArray) (hs : a.eval s = v) (hbuf : BufS w B v l) (g : Nat) (new : ByteArray) (hx : a.eval x = .slice (some ⟨g, 0, none⟩) 1 1) (hrow : w.cell? ⟨g, 0, none⟩ = some (.string new))
    (hlen : l.length ≤ 1000000) (hB : B ≤ w.heap.size)
    (h : ∀ v' w', BufS w' B v' (l ++ [new]) → Below B w w' → K (a.put o.dst v') w') : if Region.wanted o (yielded ops a.tmps) = true then Oper.wp Try.prog o a w K Q else E := by
  have hw : Region.wanted o (yielded ops a.tmps) = true := by simp [Region.wanted, hg]
  rw [if_pos hw]
  obtain ⟨i0, hi, hz0, hz1, hz2⟩ := info_parts infoS
  refine wp_append_own w s x 72 ho B 9 i0 (.string ⟨#[]⟩) 1 16 Try.underlying72 hi hz0 hz1 hz2 rfl (by decide) v l.length (l.map Value.string) hs hbuf ⟨g, 0, none⟩ 1 1 [.string new] hx rfl ?_ ?_ (by unfold maxLen; omega) (by omega) hB ?_
  · intro j u hj
    match j, hj with
    | 0, hj => simp at hj; subst hj; exact hrow
    | n + 1, hj => simp at hj
  · intro u hu
    simp only [List.mem_singleton] at hu
    subst hu
    rfl
  · intro v' w' h1 h2 _
    refine h v' w' ?_ (Below.grown (Below.refl _ _) h2 hB fun k hk => (World.ownsRow.lt hbuf k hk).1)
    unfold BufS
    simpa using h1
/-- make([]string, 0, n). -/
theorem make_texts (n : Nat) (hn : n ≤ 1000000) : ∀ u : World, (Instr.makeSlice 72 (.int .i64 0) (.int .i64 (n : Int))).run Try.prog u =
      .ok (.slice (some ⟨u.heap.size, 0, none⟩) 0 n) (u.alloc (.cells (madeCells #[.string ⟨#[]⟩] n) 9)) := fun u => by
  obtain ⟨i0, hi, hz0, hz1, hz2⟩ := info_parts infoS
  have h := run_make (P := Try.prog) u 72 9 i0 (.string ⟨#[]⟩) Try.underlying72 hi hz0 .i64 .i64 0 (n : Int) (Int.le_refl _) (by omega) (by rw [hz2]; omega) (by omega)
  simpa [hz1, Value.cells] using h
end Go.Proofs.Ythglecfbcdikaaa
end

section
namespace Go.Proofs.Ythglecfbcdikaaa
open Go.RowKit

/-- A slice of bytes of the call's own, as a conversion lays it, or an append: the row is not frozen where bytes may come. -/
def BufT (w : World) (B : Nat) (v : Value) (l : List UInt8) : Prop :=
  ∃ g cap cur fz, v = .slice (some ⟨g, 0, none⟩) l.length cap ∧ B ≤ g ∧ w.heap[g]? = some (.cells cur 5 fz) ∧ (fz.2 = 0 ∨ cap ≤ fz.1) ∧ l.length ≤ cap ∧ cap ≤ maxLen ∧ cur.size = cap ∧ cur.toList.take l.length = l.map cellOf
section
variable {w w' : World} {B : Nat} {v : Value} {l : List UInt8}
theorem BufT.ext (h : BufT w B v l) (hx : Ext w w') : BufT w' B v l := by
  obtain ⟨g, cap, cur, fz, h1, h2, h3, h4⟩ := h
  exact ⟨g, cap, cur, fz, h1, h2, (hx.block g (heap_lt h3)).trans h3, h4⟩
theorem BufT.cells (h : BufT w B v l) : ∃ g c, v = .slice (some ⟨g, 0, none⟩) l.length c ∧ B ≤ g ∧ g < w.heap.size ∧ ∀ (i : Nat) (b : UInt8), l[i]? = some b → w.cell? ⟨g, i, none⟩ = some (.int .u8 (b.toNat : Int)) := by
  obtain ⟨g, cap, cur, fz, h1, h2, h3, h4, h5, h6, h7, h8⟩ := h
  refine ⟨g, cap, h1, h2, heap_lt h3, fun i b hb => ?_⟩
  have hi : i < l.length := (List.getElem?_eq_some_iff.1 hb).1
  rw [cell_of_row w g i cur _ fz h3]
  have e : cur.toList[i]? = (l.map cellOf)[i]? := by rw [← h8, List.getElem?_take, if_pos (by omega)]
  rw [← Array.getElem?_toList, e]
  simp [hb, cellOf]
theorem BufT.of_buf (h : Buf w B v l) (hl : l ≠ []) : BufT w B v l := by
  unfold Buf at h
  rcases h.2 with ⟨_, h0⟩ | ⟨g, cap, cur, hv, hB, hg, hle, hm, hsz, ht⟩
  · exact absurd (List.length_eq_zero_iff.1 h0) hl
  · exact ⟨g, cap, cur, (0, 0), hv, hB, hg, .inl rfl, hle, hm, by simpa using hsz, by simpa using ht⟩
end
/-- '[]byte(s)'. -/
theorem bufT_of_text (w : World) (s : ByteArray) (hs : s.size ≤ 1099511627776) : ∃ (c : Nat) (W : World), (convert 9 30 (.string s)).run Try.prog w = .ok (.slice (some ⟨w.heap.size, 0, none⟩) s.size c) W ∧ s.size ≤ c ∧ Ext w W ∧ BufT W w.heap.size (.slice (some ⟨w.heap.size, 0, none⟩) s.size c) s.data.toList := by
  have hge := grownCap_ge w s.size 0 5
  refine ⟨grownCap w s.size 0 5, Lib.bytesWorld w 5 s, Lib.run_convert_string_bytes (P := Try.prog) w 9 30 5 s Try.underlying9 Try.underlying30 Try.underlying5, hge, ?_, ?_⟩
  · refine ⟨?_, ?_, ?_, by rw [Lib.bytesWorld_size]; omega, fun k hk => Lib.bytesWorld_at_old w _ s k hk⟩
    all_goals
      unfold Lib.bytesWorld World.freeze
      split <;> rfl
  · have hcs : (Lib.bytesCells w 5 s).size = grownCap w s.size 0 5 := by
      unfold Lib.bytesCells
      simp
      show s.size + _ = _
      omega
    refine ⟨w.heap.size, _, Lib.bytesCells w 5 s, _, by rw [size_list], Nat.le_refl _, Lib.bytesWorld_at_new w _ s, .inr (by rw [hcs]; exact Nat.le_refl _), by rw [size_list]; exact hge, grownCap_le_maxLen w _ _ _ (by unfold maxLen; omega), hcs, ?_⟩
    unfold Lib.bytesCells
    rw [Array.toList_append, List.take_append_of_le_length (by simp), List.take_of_length_le (by simp)]
    simp
    intro a _
    rfl
theorem run_storeCells_atT (P : Program) (g o : Nat) (t : TypeId) (fz : Nat × Nat) : ∀ (vs : List Value) (i : Nat) (cur : Array Value) (w : World), w.heap[g]? = some (.cells cur t fz) → (fz.2 = 0 ∨ cur.size ≤ fz.1) → o + i + vs.length ≤ cur.size → (∀ v ∈ vs, v.oneCell' = true) →
    (storeCells ⟨g, o, none⟩ vs i).run P w = .ok () (w.setRow g (cur.toList.take (o + i) ++ vs ++ cur.toList.drop (o + i + vs.length)).toArray)
  | [], i, cur, w, hg, _, _, _ => by
    simp only [storeCells, List.append_nil, List.length_nil, Nat.add_zero, List.take_append_drop, Array.toArray_toList]
    rw [setRow_self w g cur t fz hg]
    rfl
  | v :: rest, i, cur, w, hg, hfz, hl, h1 => by
    have hi : o + i < cur.size := by simp at hl; omega
    have hadd : (⟨g, o, none⟩ : Addr).add i = ⟨g, o + i, none⟩ := by unfold Addr.add; split <;> simp_all
    have hcell : w.cell? ⟨g, o + i, none⟩ = some cur[o + i] := by simp [World.cell?, hg, hi]
    have hfro : w.frozen? ⟨g, o + i, none⟩ = false := by
      obtain ⟨lo, hi'⟩ := fz
      simp only [World.frozen?, hg, Bool.and_eq_false_iff, decide_eq_false_iff_not]
      simp only at hfz
      omega
    have hst : (store ((⟨g, o, none⟩ : Addr).add i) v).run P w = .ok () (w.setRow g (cur.setIfInBounds (o + i) v)) := by
      rw [hadd, run_store P w _ v _ (h1 v (by simp)), hcell]
      simp [hfro, setCell_eq_setRow w g (o + i) cur t fz v hg]
    have ih := run_storeCells_atT P g o t fz rest (i + 1) (cur.setIfInBounds (o + i) v) (w.setRow g (cur.setIfInBounds (o + i) v)) (setRow_heap w g cur _ t _ hg) (by simpa using hfz) (by simp at hl ⊢; omega) (fun x hx => h1 x (by simp [hx]))
    simp only [storeCells, Sem.run_bind, hst, Result.andThen_ok, ih, setRow_setRow]
    congr 3
    have e := list_seg_step cur.toList (o + i) v rest (by simp at hl ⊢; omega)
    simpa [Array.toList_setIfInBounds, Nat.add_assoc] using e
/-- 'append(b, ..)' of a block of new bytes, run. -/
theorem run_appendT (w : World) (ty : TypeId) (B : Nat) (v : Value) (l : List UInt8) (h : BufT w B v l) (g2 m : Nat) (news : List UInt8) (hl : news.length = m) (hrow : Row w g2 5 news) (hlen : l.length + m ≤ 140737488355328) (hB : B ≤ w.heap.size) (x : Nat) (hxs : x < w.heap.size) (hxv : ∀ n c, v ≠ .slice (some ⟨x, 0, none⟩) n c) :
    ∃ v' w', (Builtin.append_ #[30, 30] ty #[v, .slice (some ⟨g2, 0, none⟩) m m]).run Try.prog w = .ok v' w' ∧ BufT w' B v' (l ++ news) ∧ Below B w w' ∧ w'.heap[x]? = w.heap[x]? ∧ (∀ n c, v' ≠ .slice (some ⟨x, 0, none⟩) n c) := by
  obtain ⟨i0, hi, hz0, hz1, hz2⟩ := info_parts info5
  obtain ⟨g, cap, cur, fz, rfl, hbg, hg, hfz, hnc, hcm, hcs, htake⟩ := h
  have hnews : ∀ j u, (news.map cellOf)[j]? = some u → w.cell? ((⟨g2, 0, none⟩ : Addr).add j) = some u := by
    intro j u hj
    have e : ((⟨g2, 0, none⟩ : Addr).add j) = ⟨g2, j, none⟩ := by unfold Addr.add; split <;> simp_all
    rw [e, cell_of_row w g2 j _ _ (0, 0) hrow]
    simpa using hj
  have h1 : ∀ u ∈ news.map cellOf, u.oneCell' = true := by
    intro u hu
    simp only [List.mem_map] at hu
    obtain ⟨b, _, rfl⟩ := hu
    rfl
  have hln : (news.map cellOf).length = m * i0.size := by rw [hz1]; simp [hl]
  have hgx : g ≠ x := fun e => hxv l.length cap (by rw [e])
  by_cases hroom : l.length + m ≤ cap
  · have hf := run_firstCells_some (P := Try.prog) w i0.size m ⟨g2, 0, none⟩ m m (news.map cellOf) hln hnews
    have hst := run_storeCells_atT Try.prog g (l.length * i0.size) 5 fz (news.map cellOf) 0 cur w hg (by rw [hcs]; exact hfz) (by rw [hz1]; simp [hl]; omega) h1
    simp only [Nat.add_zero] at hst
    have hr : (Builtin.append_ #[30, 30] ty #[.slice (some ⟨g, 0, none⟩) l.length cap, .slice (some ⟨g2, 0, none⟩) m m]).run Try.prog w =
        .ok (.slice (some ⟨g, 0, none⟩) (l.length + m) cap) (w.setRow g (cur.toList.take (l.length * i0.size) ++ news.map cellOf ++ cur.toList.drop (l.length * i0.size + (news.map cellOf).length)).toArray) := by
      simp [Builtin.append_, run_underlying Try.underlying30, sizeOf, typeInfo, hi, Builtin.lenOf, hroom, hf, Addr.add_lit, hst]
    refine ⟨_, _, hr, ?_, ?_, setRow_other w g x _ (Ne.symm hgx), fun n c h => by injection h with h1; injection h1 with h2; injection h2 with h3; exact hgx h3⟩
    · refine ⟨g, cap, _, fz, by rw [List.length_append, hl], hbg, setRow_heap w g cur _ _ _ hg, hfz, by rw [List.length_append, hl]; exact hroom, hcm, ?_, ?_⟩
      · simp [hz1, hl, hcs]; omega
      · simp only [hz1, Nat.mul_one]
        rw [htake, List.map_append, List.length_append]
        exact List.take_left' (by simp)
    · exact ⟨rfl, rfl, rfl, by simp, fun k hk => setRow_other w g k _ (by omega)⟩
  · have holds : ∀ j u, (l.map cellOf)[j]? = some u → w.cell? ((⟨g, 0, none⟩ : Addr).add j) = some u := by
      intro j u hu
      have e : ((⟨g, 0, none⟩ : Addr).add j) = ⟨g, j, none⟩ := by unfold Addr.add; split <;> simp_all
      rw [e, cell_of_row w g j cur _ fz hg, ← Array.getElem?_toList]
      rw [← htake, List.getElem?_take] at hu
      split at hu
      · exact hu
      · cases hu
    have hr := run_append_grow (P := Try.prog) w 30 ty 5 i0 (.int .u8 0) Try.underlying30 hi hz0 ⟨g, 0, none⟩ l.length cap (l.map cellOf) (by rw [hz1]; simp) holds ⟨g2, 0, none⟩ m m (news.map cellOf) hln hnews (by omega) (by omega) (growslice_fits (by omega) (by rw [hz2]; omega))
    have hge := grownCap_ge w (l.length + m) cap 5
    have hcm2 := grownCap_le_maxLen w (l.length + m) cap 5 (by unfold maxLen; omega)
    refine ⟨_, _, hr, ⟨w.heap.size, _, _, (0, 0), by rw [List.length_append, hl], hB, heap_alloc_new w.drew _, .inl rfl, by rw [List.length_append, hl]; exact hge, hcm2, ?_, ?_⟩, ⟨rfl, rfl, rfl, by simp, fun k hk => Below.heap_alloc w.drew _ k (Nat.lt_of_lt_of_le hk hB)⟩, Below.heap_alloc w.drew _ x hxs, fun n c h => by injection h with h1; injection h1 with h2; injection h2 with h3; omega⟩
    · have hz : (Value.int IntKind.u8 0).cells.size = 1 := rfl
      simp [size_zeroCells, hl, hz]
      omega
    · rw [Array.toList_append, Array.toList_append, List.map_append, List.length_append]
      exact List.take_left' (by simp)
/-- The same, in a walk. -/
theorem wp_appendT {w : World} {o : Oper} {a : Act} {K : Act → World → Prop} {Q : Exit → Act → World → Prop} (s x : Operand)
    (ho : o.op = .call { callee := .builtin .append, args := #[s, x], argTypes := #[30, 30] })
    (B : Nat) (v : Value) (l : List UInt8) (hs : a.eval s = v) (hbuf : BufT w B v l) (g m : Nat) (news : List UInt8) (hx : a.eval x = .slice (some ⟨g, 0, none⟩) m m) (hl : news.length = m) (hrow : Row w g 5 news)
    (hlen : l.length + m ≤ 140737488355328) (hB : B ≤ w.heap.size) (y : Nat) (hxs : y < w.heap.size) (hxv : ∀ n c, v ≠ .slice (some ⟨y, 0, none⟩) n c)
    (h : ∀ v' w', BufT w' B v' (l ++ news) → Below B w w' → w'.heap[y]? = w.heap[y]? → (∀ n c, v' ≠ .slice (some ⟨y, 0, none⟩) n c) → K (a.put o.dst v') w') : Oper.wp Try.prog o a w K Q := by
  obtain ⟨v', w', hr, h2, h3, h4, h5⟩ := run_appendT w o.type B v l hbuf g m news hl hrow hlen hB y hxs hxv
  unfold Oper.wp execOp
  simp only [ho, resolve, invoke, builtin, Sem.run_bind, Sem.run_pure, Result.andThen_ok, List.map_toArray, List.map_cons, List.map_nil, hs, hx, hr]
  exact h v' w' h2 h3 h4 h5
theorem appendT {w : World} {ops : Array Oper} {rest : List Oper} {o : Oper} {a : Act} {Q : Exit → Act → World → Prop} (hgd : o.guard = none) (s x : Operand)
    (ho : o.op = .call { callee := .builtin .append, args := #[s, x], argTypes := #[30, 30] })
    (B : Nat) (v : Value) (l : List UInt8) (hs : a.eval s = v) (hbuf : BufT w B v l) (g m : Nat) (news : List UInt8) (hx : a.eval x = .slice (some ⟨g, 0, none⟩) m m) (hl : news.length = m) (hrow : Row w g 5 news)
    (hlen : l.length + m ≤ 140737488355328) (hB : B ≤ w.heap.size) (y : Nat) (hxs : y < w.heap.size) (hxv : ∀ n c, v ≠ .slice (some ⟨y, 0, none⟩) n c)
    (h : ∀ v' w', BufT w' B v' (l ++ news) → Below B w w' → w'.heap[y]? = w.heap[y]? → (∀ n c, v' ≠ .slice (some ⟨y, 0, none⟩) n c) → wpList Try.prog ops Q rest (a.put o.dst v') w') : wpList Try.prog ops Q (o :: rest) a w :=
  wpList_plain hgd fun _ hK => wp_appendT s x ho B v l hs hbuf g m news hx hl hrow hlen hB y hxs hxv fun v' w' h1 h2 h3 h4 => hK _ _ (h v' w' h1 h2 h3 h4)
theorem step_appendT {w : World} {ops : Array Oper} {o : Oper} {a : Act} {K : Act → World → Prop} {Q : Exit → Act → World → Prop} {E : Prop} (hg : o.guard = none) (s x : Operand)
    (ho : o.op = .call { callee := .builtin .append, args := #[s, x], argTypes := #[30, 30] })
    (B : Nat) (v : Value) (l : List UInt8) (hs : a.eval s = v) (hbuf : BufT w B v l) (g m : Nat) (news : List UInt8) (hx : a.eval x = .slice (some ⟨g, 0, none⟩) m m) (hl : news.length = m) (hrow : Row w g 5 news)
    (hlen : l.length + m ≤ 140737488355328) (hB : B ≤ w.heap.size) (y : Nat) (hxs : y < w.heap.size) (hxv : ∀ n c, v ≠ .slice (some ⟨y, 0, none⟩) n c)
    (h : ∀ v' w', BufT w' B v' (l ++ news) → Below B w w' → w'.heap[y]? = w.heap[y]? → (∀ n c, v' ≠ .slice (some ⟨y, 0, none⟩) n c) → K (a.put o.dst v') w') : if Region.wanted o (yielded ops a.tmps) = true then Oper.wp Try.prog o a w K Q else E := by
  have hw : Region.wanted o (yielded ops a.tmps) = true := by simp [Region.wanted, hg]
  rw [if_pos hw]
  exact wp_appendT s x ho B v l hs hbuf g m news hx hl hrow hlen hB y hxs hxv h
end Go.Proofs.Ythglecfbcdikaaa
end

section
namespace Go.Proofs.Ythglecfbcdikaaa
theorem rkey_text {key : List UInt8} (i : Nat) : ((expand key 40).drop (16 * i)).take 16 = rkey key i := by unfold rkey; rfl
def keyTexts (key : List UInt8) : List ByteArray := (List.range 11).map fun i => ⟨(rkey key i).toArray⟩
theorem keyTexts_length (key : List UInt8) : (keyTexts key).length = 11 := by simp [keyTexts]
theorem keyTexts_take (key : List UInt8) (i : Nat) (h : i < 11) : (keyTexts key).take (i + 1) = (keyTexts key).take i ++ [⟨(rkey key i).toArray⟩] := by
  have hl : i < (keyTexts key).length := by rw [keyTexts_length]; exact h
  rw [List.take_succ_eq_append_getElem hl]
  simp [keyTexts]
theorem keyTexts_at (key : List UInt8) (i : Nat) (h : i < 11) : (keyTexts key)[i]? = some ⟨(rkey key i).toArray⟩ := by unfold keyTexts; simp [h]
end Go.Proofs.Ythglecfbcdikaaa
end

section
namespace Go.Proofs.Ythglecfbcdikaaa
open Go.RowKit
theorem text_get (s : ByteArray) (i : Nat) (b : UInt8) (hb : s.data.toList[i]? = some b) : s[i]? = some b := by
  have hi : i < s.data.toList.length := (List.getElem?_eq_some_iff.1 hb).1
  have h2 : i < s.size := by rw [← size_list]; exact hi
  rw [getElem?_pos s i h2]
  rw [List.getElem?_eq_getElem hi] at hb
  exact hb
theorem text_at (s : ByteArray) (i : Nat) (b : UInt8) (hb : s.data.toList[i]? = some b) (h : i < s.size) : s[i] = b := by
  have e := text_get s i b hb
  rw [getElem?_pos s i h] at e
  exact Option.some.inj e
theorem index_text (s : ByteArray) (i : Nat) (b : UInt8) (hb : s.data.toList[i]? = some b) (w : World) :
    (Instr.index 9 (.string s) (.int .i64 (i : Int))).run Try.prog w = .ok (.int .u8 (b.toNat : Int)) w := by
  have h := text_get s i b hb
  have hu := Try.underlying9
  have h0 : (0 : Int) ≤ (i : Int) := by omega
  simp [Instr.index, run_underlying hu, asIntOf, go_sem, h0, h]
end Go.Proofs.Ythglecfbcdikaaa
end

section
namespace Go.Proofs.Ythglecfbcdikaaa
open Go.RowKit

/-- The first 16 bytes, with bytes 0 behind. -/
def fullL (s : ByteArray) : List UInt8 := (s.data.toList ++ List.replicate 16 0).take 16
theorem fullL_length (s : ByteArray) : (fullL s).length = 16 := by unfold fullL; rw [List.length_take, List.length_append, List.length_replicate]; omega
theorem make16 (u : World) : (Instr.makeSlice 30 (.int .i64 16) (.int .i64 16)).run Try.prog u = .ok (.slice (some ⟨u.heap.size, 0, none⟩) 16 16) (u.alloc (.cells (zc 16) 5)) := by
  have h := make_bytes 16 (by decide) u
  have e : madeCells #[Value.int .u8 0] 16 = zc 16 := by kernel_rfl
  rw [e] at h
  exact h
end Go.Proofs.Ythglecfbcdikaaa
end
