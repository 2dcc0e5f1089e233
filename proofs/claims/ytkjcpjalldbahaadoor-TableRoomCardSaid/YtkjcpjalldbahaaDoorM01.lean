/- Plain: slices of bytes that grow by append. Plain: blocks of cells that are known whole. -/
import Derived.Test.YtkjcpjalldbahaaDoorProg
import Derived.Test.YtkjcpjalldbahaaDoorM00
import Derived.WalkSpells
import Derived.OwnWalk
import Derived.Laws.BitsAllLaws
import Derived.RegionTactic
import Derived.ChangeAlike
import Derived.BigRegion
import Derived.Deep.QuietTactic
import Derived.BigQuiet
import Derived.Deep.RegionLaw
import Derived.Deep.MidRow
section
namespace Go.Proofs.YtkjcpjalldbahaaDoor
open Go.RowKit

/-- A slice of bytes of the call's own (nil, or in a block from B on) that holds just these. -/
def Buf (w : World) (B : Nat) (v : Value) (l : List UInt8) : Prop := w.ownsRow B 5 1 v l.length (l.map cellOf)
section
variable {w w' : World} {B : Nat} {v : Value} {l : List UInt8}
theorem Buf.nil (w : World) (B : Nat) : Buf w B (.slice none 0 0) [] := World.ownsRow_nil _ _ _ _
theorem Buf.made (w : World) (n : Nat) (hn : n ≤ maxLen) (hB : B ≤ w.heap.size) : Buf (w.alloc (.cells (madeCells #[.int .u8 0] n) 5)) B (.slice (some ⟨w.heap.size, 0, none⟩) 0 n) [] :=
  World.ownsRow_made w _ n hB hn (by simp [size_madeCells])
theorem Buf.alloc (h : Buf w B v l) (o : Obj) : Buf (w.alloc o) B v l := World.ownsRow.alloc h o
theorem Buf.drew (h : Buf w B v l) : Buf w.drew B v l := h
theorem Buf.text {P : Program} (h : Buf w B v l) (src dst : TypeId) (hs : P.underlying src = some (.slice 5)) (he : P.underlying 5 = some (.int .u8)) (hd : P.underlying dst = some .string) :
    (convert src dst v).run P w = .ok (.string ⟨l.toArray⟩) w := by
  unfold Buf at h
  rcases h.2 with ⟨rfl, h0⟩ | ⟨g, cap, cur, rfl, _, hg, hle, _, hsz, ht⟩
  · have : l = [] := List.length_eq_zero_iff.1 h0
    subst this
    exact run_convert_bytes_nil w src _ hs he _ _ dst hd
  · have hcell : ∀ i, i < l.length → w.cell? ⟨g, 0 + i, none⟩ = some (.int .u8 ((l.map fun b => (b.toNat : Int)).getD i 0)) := by
      intro i hi
      rw [cell_of_row w g (0 + i) cur _ (0, 0) hg]
      have e : cur.toList[i]? = (l.map cellOf)[i]? := by
        rw [← ht, List.getElem?_take, if_pos (by omega)]
      rw [Nat.zero_add, ← Array.getElem?_toList, e]
      simp [List.getD, List.getElem?_eq_getElem hi, cellOf]
    rw [run_convert_bytes_arg (P := P) w src _ hs he g 0 l.length cap (l.map fun b => (b.toNat : Int)) (by simp) hcell dst hd]
    have e : strOfNums (l.map fun b => (b.toNat : Int)) = ⟨l.toArray⟩ := by
      unfold strOfNums
      congr 2
      rw [List.map_map]
      conv => rhs; rw [← List.map_id l]
      apply List.map_congr_left
      intro b _
      simp
    rw [e]
end
theorem Row.one (w : World) (t : TypeId) (x : Int) (b : UInt8) (hx : x = (b.toNat : Int)) : Row (w.alloc (.cells #[.int .u8 x] t)) w.heap.size t [b] := by
  subst hx; exact heap_alloc_new w _
theorem Row.two (w : World) (t : TypeId) (x y : Int) (b c : UInt8) (hx : x = (b.toNat : Int)) (hy : y = (c.toNat : Int)) : Row (w.alloc (.cells #[.int .u8 x, .int .u8 y] t)) w.heap.size t [b, c] := by
  subst hx hy; exact heap_alloc_new w _

/-- append(b, ..) of a block of new bytes. -/
theorem append_bytes {w : World} {ops : Array Oper} {rest : List Oper} {o : Oper} {a : Act} {Q : Exit → Act → World → Prop} (hgd : o.guard = none) (s x : Operand)
    (ho : o.op = .call { callee := .builtin .append, args := #[s, x], argTypes := #[109, 109] })
    (B : Nat) (v : Value) (l : List UInt8) (hs : a.eval s = v) (hbuf : Buf w B v l) (g m : Nat) (news : List UInt8) (hx : a.eval x = .slice (some ⟨g, 0, none⟩) m m) (hl : news.length = m) (hrow : Row w g 5 news)
    (hlen : l.length + m ≤ 140737488355328) (hB : B ≤ w.heap.size)
    (h : ∀ v' w', Buf w' B v' (l ++ news) → Below B w w' → wpList Tryd.prog ops Q rest (a.put o.dst v') w') : wpList Tryd.prog ops Q (o :: rest) a w := by
  obtain ⟨i0, hi, hz0, hz1, hz2⟩ := info_parts info5
  refine wpList_append_own w hgd s x 109 ho B 5 i0 (.int .u8 0) 1 1 Tryd.underlying109 hi hz0 hz1 hz2 rfl (by decide) v l.length (l.map cellOf) hs hbuf ⟨g, 0, none⟩ m m (news.map cellOf) hx (by simp [hl]) ?_ ?_ (by unfold maxLen; omega) (by omega) hB ?_
  · intro j u hj
    have e : ((⟨g, 0, none⟩ : Addr).add j) = ⟨g, j, none⟩ := by unfold Addr.add; split <;> simp_all
    rw [e, cell_of_row w g j _ _ (0, 0) hrow]
    simpa using hj
  · intro u hu
    simp only [List.mem_map] at hu
    obtain ⟨b, _, rfl⟩ := hu
    rfl
  · intro v' w' h1 h2 _
    refine h v' w' ?_ (Below.grown (Below.refl _ _) h2 hB fun k hk => (World.ownsRow.lt hbuf k hk).1)
    unfold Buf
    simpa [hl] using h1

/-- The same, as a step of a region that draws its order. -/
theorem step_append_bytes {w : World} {ops : Array Oper} {o : Oper} {a : Act} {K : Act → World → Prop} {Q : Exit → Act → World → Prop} {E : Prop} (hg : o.guard = none) (s x : Operand)
    (ho : o.op = .call { callee := .builtin .append, args := #[s, x], argTypes := #[109, 109] })
    (B : Nat) (v : Value) (l : List UInt8) (hs : a.eval s = v) (hbuf : Buf w B v l) (g m : Nat) (news : List UInt8) (hx : a.eval x = .slice (some ⟨g, 0, none⟩) m m) (hl : news.length = m) (hrow : Row w g 5 news)
    (hlen : l.length + m ≤ 140737488355328) (hB : B ≤ w.heap.size)
    (h : ∀ v' w', Buf w' B v' (l ++ news) → Below B w w' → K (a.put o.dst v') w') : if Region.wanted o (yielded ops a.tmps) = true then Oper.wp Tryd.prog o a w K Q else E := by
  have hw : Region.wanted o (yielded ops a.tmps) = true := by simp [Region.wanted, hg]
  rw [if_pos hw]
  obtain ⟨i0, hi, hz0, hz1, hz2⟩ := info_parts info5
  refine wp_append_own w s x 109 ho B 5 i0 (.int .u8 0) 1 1 Tryd.underlying109 hi hz0 hz1 hz2 rfl (by decide) v l.length (l.map cellOf) hs hbuf ⟨g, 0, none⟩ m m (news.map cellOf) hx (by simp [hl]) ?_ ?_ (by unfold maxLen; omega) (by omega) hB ?_
  · intro j u hj
    have e : ((⟨g, 0, none⟩ : Addr).add j) = ⟨g, j, none⟩ := by unfold Addr.add; split <;> simp_all
    rw [e, cell_of_row w g j _ _ (0, 0) hrow]
    simpa using hj
  · intro u hu
    simp only [List.mem_map] at hu
    obtain ⟨b, _, rfl⟩ := hu
    rfl
  · intro v' w' h1 h2 _
    refine h v' w' ?_ (Below.grown (Below.refl _ _) h2 hB fun k hk => (World.ownsRow.lt hbuf k hk).1)
    unfold Buf
    simpa [hl] using h1

/-- make([]byte, 0, n). -/
theorem make_empty (n : Nat) (hn : n ≤ 281474976710656) : ∀ u : World, (Instr.makeSlice 109 (.int .i64 0) (.int .i64 (n : Int))).run Tryd.prog u =
      .ok (.slice (some ⟨u.heap.size, 0, none⟩) 0 n) (u.alloc (.cells (madeCells #[.int .u8 0] n) 5)) := fun u => by
  obtain ⟨i0, hi, hz0, hz1, hz2⟩ := info_parts info5
  have h := run_make (P := Tryd.prog) u 109 5 i0 (.int .u8 0) Tryd.underlying109 hi hz0 .i64 .i64 0 (n : Int) (Int.le_refl _) (by omega) (by rw [hz2]; omega) (by omega)
  simpa [hz1, Value.cells] using h
end Go.Proofs.YtkjcpjalldbahaaDoor
end

section
namespace Go.Proofs.YtkjcpjalldbahaaDoor
open Go.RowKit

/-- Block b holds these cells. -/
def Blk (w : World) (b : Nat) (T : TypeId) (cs : List Value) : Prop := w.heap[b]? = some (.cells cs.toArray T (0, 0))
section
variable {w w' : World} {b : Nat} {T : TypeId} {cs : List Value}
theorem Blk.lt (h : Blk w b T cs) : b < w.heap.size := heap_lt h
theorem Blk.cell (h : Blk w b T cs) (i : Nat) (v : Value) (hv : cs[i]? = some v) : w.cell? ⟨b, i, none⟩ = some v := by
  rw [cell_of_row w b i _ T (0, 0) h]; simpa using hv
theorem Blk.frozen (h : Blk w b T cs) (i : Nat) : w.frozen? ⟨b, i, none⟩ = false := by
  unfold Blk at h
  simp [World.frozen?, h]
theorem Blk.set_ (h : Blk w b T cs) (i : Nat) (v : Value) : Blk (w.setCell ⟨b, i, none⟩ v) b T (cs.set i v) := by
  unfold Blk at h ⊢
  simp [World.setCell, Array.getElem?_modify, h]
theorem Blk.other (h : Blk w b T cs) {g : Nat} (hb : b ≠ g) (o : Nat) (u : Value) : Blk (w.setCell ⟨g, o, none⟩ u) b T cs := by
  unfold Blk at h ⊢
  simp [World.setCell, Array.getElem?_modify, h, Ne.symm hb]
theorem Blk.below {B : Nat} (h : Blk w b T cs) (hb : Below B w w') (hg : b < B) : Blk w' b T cs := (hb.block b hg).trans h
theorem Blk.ext (h : Blk w b T cs) (hb : Ext w w') : Blk w' b T cs := h.below hb h.lt
theorem Blk.alloc (h : Blk w b T cs) (o : Obj) : Blk (w.alloc o) b T cs := (Below.heap_alloc w o b h.lt).trans h
theorem Blk.drew (h : Blk w b T cs) : Blk w.drew b T cs := h
theorem Blk.new (w : World) (cs : List Value) (T : TypeId) : Blk (w.alloc (.cells cs.toArray T)) w.heap.size T cs := heap_alloc_new w _
theorem Blk.range (h : Blk w b T cs) (o : Nat) (l : List Value) (hl : ∀ j v, l[j]? = some v → cs[o + j]? = some v) : w.rangeAt b o l := fun j v hv => h.cell _ _ (hl j v hv)
theorem Blk.there (h : Blk w b T cs) (o n : Nat) (hn : o + n ≤ cs.length) : w.there b o n := fun j hj =>
  ⟨by rw [h.cell (o + j) cs[o + j] (List.getElem?_eq_getElem (by omega))]; rfl, h.frozen _⟩
theorem Blk.setCells : ∀ (vs : List Value) (o : Nat) (cs : List Value) {w : World}, Blk w b T cs → o + vs.length ≤ cs.length → Blk (w.setCells b o vs) b T (cs.take o ++ (vs ++ cs.drop (o + vs.length)))
  | [], o, cs, w, h, _ => by simpa [World.setCells] using h
  | v :: r, o, cs, w, h, hl => by
    rw [World.setCells]
    have h2 := Blk.setCells r (o + 1) _ (h.set_ o v) (by simp at hl ⊢; omega)
    have hlt : o < cs.length := by simp at hl; omega
    have e : (cs.set o v).take (o + 1) = cs.take o ++ [v] := by
      rw [List.take_succ_eq_append_getElem (by simpa using hlt), List.take_set_of_le (Nat.le_refl _)]
      simp
    have e2 : (cs.set o v).drop (o + 1 + r.length) = cs.drop (o + (v :: r).length) := by
      rw [List.drop_set_of_lt (by omega)]
      congr 1
      simp; omega
    rw [e, e2] at h2
    simpa using h2
theorem Row.blk {l : List UInt8} (h : Row w b T l) : Blk w b T (l.map cellOf) := h
theorem Blk.row {l : List UInt8} (h : Blk w b T (l.map cellOf)) : Row w b T l := h
theorem Row.other {l : List UInt8} (h : Row w b T l) {g : Nat} (hb : b ≠ g) (o : Nat) (u : Value) : Row (w.setCell ⟨g, o, none⟩ u) b T l := Blk.other h hb o u
/-- Cells of bytes behind others. -/
theorem bytes_at {pre : List Value} {l : List UInt8} {post : List Value} (o i : Nat) (x : UInt8) (ho : pre.length = o) (hx : l[i]? = some x) : (pre ++ (l.map cellOf ++ post))[o + i]? = some (.int .u8 (x.toNat : Int)) := by
  have hi : i < l.length := (List.getElem?_eq_some_iff.1 hx).1
  rw [List.getElem?_append_right (by omega), ho, Nat.add_sub_cancel_left, List.getElem?_append_left (by simpa using hi)]
  simp [hx, cellOf]
end
theorem cells8_one (l : List UInt8) : ((l.map cellOf).toArray).all (·.oneCell') = true := by
  rw [Array.all_eq_true_iff_forall_mem]
  intro v hv
  simp only [List.mem_toArray, List.mem_map] at hv
  obtain ⟨n, _, rfl⟩ := hv
  rfl
theorem below_setCells {B : Nat} {a : World} {g : Nat} (hg : B ≤ g) : ∀ (vs : List Value) (o : Nat) {b : World}, Below B a b → Below B a (b.setCells g o vs)
  | [], _, _, h => h
  | v :: r, o, _, h => below_setCells hg r (o + 1) (h.setCell (p := ⟨g, o, none⟩) hg v)
/-- A whole block written. -/
theorem below_setRow {B : Nat} {a b : World} (h : Below B a b) {g : Nat} (hg : B ≤ g) (cs : Array Value) : Below B a (b.setRow g cs) :=
  h.trans ⟨rfl, rfl, rfl, by simp, fun k hk => setRow_other _ _ _ _ (by omega)⟩
theorem Ext.setRow {a b : World} (h : Ext a b) {g : Nat} (hg : a.heap.size ≤ g) (cs : Array Value) : Ext a (b.setRow g cs) := below_setRow h hg cs
theorem Ext.setCells {a b : World} (h : Ext a b) {g : Nat} (hg : a.heap.size ≤ g) (vs : List Value) (o : Nat) : Ext a (b.setCells g o vs) := below_setCells hg vs o h
theorem Ext.trans3 {a b c : World} (h : Ext a b) (k : Below a.heap.size b c) : Ext a c := Below.trans h k
end Go.Proofs.YtkjcpjalldbahaaDoor
end
