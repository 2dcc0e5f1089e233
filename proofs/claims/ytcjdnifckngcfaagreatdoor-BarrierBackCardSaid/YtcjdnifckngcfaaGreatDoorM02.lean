/- Contracts: a map's keys, numbers of 32 bits, as the library's iterator hands them out. Plain: maps as lists of keys and elements: an element that is stored whatever was there, a key that is deleted. Plain: blocks of cells that are known whole. -/
import Derived.RangeFuncNested
import Derived.RangeFuncBound
import Derived.RangeFuncCalls
import Derived.RangeFuncLeaves
import Derived.RangeFuncFrom
import Derived.Shelf.Abstract
import Derived.WalkKit
import Derived.TacticsInMore
import Derived.LoopNIn
import Derived.LoopIn
import Derived.Test.YtcjdnifckngcfaaGreatDoorM01
import Derived.Test.YtcjdnifckngcfaaGreatDoorProg
import Derived.Test.YtcjdnifckngcfaaGreatDoorM00
import Derived.Deep.MidRow
import Derived.WalkSpells
section
namespace Go.Proofs.YtcjdnifckngcfaaGreatDoor
open Go.RowKit Go.Shelf
open Go.Maps (Keyed)
attribute [local go_sem] Oper.semAt_some

/-- An entry of a ring's map. -/
def kvR (x : Nat × ByteArray) : Value × Value := (.int .u32 (x.1 : Int), .agg #[.string x.2])
def kOf (p : Value × Value) : Nat := match p.1 with
  | .int _ z => z.toNat
  | _ => 0
theorem kOf_kvR (x : Nat × ByteArray) : kOf (kvR x) = x.1 := by simp [kOf, kvR]
theorem kOf_map (L : List (Nat × ByteArray)) : (L.map kvR).map kOf = L.map (·.1) := by
  rw [List.map_map]
  exact List.map_congr_left fun x _ => kOf_kvR x
set_option maxRecDepth 100000 in
set_option maxHeartbeats 2000000 in
theorem keys_stops (n : Nat) (hn : 1 ≤ n) (bm b : Nat) (L : List (Nat × ByteArray)) (w : World) (hbm : bm < w.heap.size) (hC : w.cell? ⟨bm, 0, none⟩ = some (.map (some b))) (hM : MapL w Tryz.prog 40 b (L.map kvR)) :
    SeqStopsK Fence.wide n Tryz.prog 128 #[.pointer (some ⟨bm, 0, none⟩)] (fun x : Nat => #[.int .u32 (x : Int)]) KeepsWalks
      (fun xs => xs.Perm (L.map (·.1))) (fun _ => True) L.length w := fun l J Jx W hW hJ hJx hY h0 => by
  have HY := Lib.hid hY; have HJ := Lib.hid hJ
  have hc := (hW.cell (p := ⟨bm, 0, none⟩) hbm).trans hC
  have hm : MapL W Tryz.prog 40 b (L.map kvR) := hM.same (hW.block b hM.lt)
  clear hC hM hW hY hJ hJx hbm
  refine callsIn_of_wp Tryz.func128 rfl trivial ?_ rfl
  simp only [Tryz.ntmps128, List.size_toArray, List.length_cons, List.length_nil, Nat.reduceAdd, Nat.reduceSub, Array.replicate_succ, Array.replicate_zero, List.push_toArray, List.append_toArray, List.nil_append, List.cons_append]
  gi_wp2_with (first
    | (gi_at_range; refine wpListIn_range_L _ rfl _ 110 rfl 40 108 Tryz.underlying110 b (L.map kvR) rfl hm ?_; intro w0 hrg0 hx0 hs0)
    | gi_in)
  (try go_frame)
  gi_loopw [3] (fun _ wr => ∃ (left : List (Value × Value)) (ys : List Nat), Hid (RangeL wr Tryz.prog 40 b W.heap.size (L.map kvR) left) ∧ Hid (∀ p ∈ left, ∃ x, p = kvR x) ∧ Hid ((ys ++ left.map kOf).Perm (L.map (·.1))) ∧ Hid (J ys wr))
    (fun _ wr => wr.rangeLeft b W.heap.size)
  case atStart =>
    refine ⟨L.map kvR, [], Lib.hid hrg0, Lib.hid (fun p hp => ?_), Lib.hid (by rw [List.nil_append, kOf_map]), Lib.hid (HJ.out [] W w0 none h0 ⟨hx0.os, hx0.tape, hx0.output, hx0.size, fun k hk _ => hx0.block k hk⟩ (fun r e => by cases e))⟩
    obtain ⟨x, _, rfl⟩ := List.mem_map.1 hp
    exact ⟨x, rfl⟩
  case round =>
    obtain ⟨left, ys, hrg, hinv, hperm, hJs⟩ := hrel
    gi_wp2_with (first
      | (gi_at_next; refine wpListIn_next_L _ rfl _ rfl 40 kvR b W.heap.size (L.map kvR) left hinv.out rfl hrg.out ?_ ?_)
      | gi_in)
    · intro hl0
      have HF : Hid (ys.Perm (L.map (·.1))) := Lib.hid (by have := hperm.out; rw [hl0] at this; simpa using this)
      clear hl0
      gi_wp2
      go_end0
      exact ⟨⟨_, rfl⟩, .inl ⟨ys, HF.out, hJs.out⟩⟩
    · intro x1 x2 left' w2 hp hrg2 hg2 hs2 hen
      obtain ⟨x, rfl, rfl⟩ : ∃ x : Nat × ByteArray, x1 = x.1 ∧ x2 = x.2 := ⟨(x1, x2), rfl, rfl⟩
      replace hp : left.Perm (kvR x :: left') := hp
      have hlen : ys.length < L.length := by
        have h1 := hperm.out.length_eq
        have h2 := hp.length_eq
        simp only [List.length_append, List.length_map, List.length_cons] at h1 h2
        omega
      obtain ⟨fn, tmps, assign, body, hy, hR⟩ := HY.out ys x.1 w2 (HJ.out _ _ _ (some W.heap.size) hJs.out hg2 (fun r e => by cases e; exact ⟨Nat.le_refl _, hrg.out.walk⟩)) hlen
      have HP := Lib.hid hp
      have HR2 := Lib.hid hrg2
      clear hs2 hp hrg2 hlen hg2
      unfold kvR at hen
      unfold kvR
      gi_wp2
      refine hR.mono ?_
      rintro e W3 (⟨rfl, hJ3, hk3⟩ | ⟨rfl, hJx3⟩)
      · gi_wp2
        have hrg3 := HR2.out.walks hk3
        go_roundw
        case rel =>
          refine ⟨left', ys ++ [x.1], Lib.hid hrg3, Lib.hid (fun p hp => hinv.out p (HP.out.mem_iff.2 (List.mem_cons_of_mem _ hp))), Lib.hid ?_, Lib.hid hJ3⟩
          have h1 := HP.out.map kOf
          rw [List.map_cons, kOf_kvR] at h1
          rw [List.append_assoc, List.singleton_append]
          exact ((h1.symm).append_left ys).trans hperm.out
        case measure =>
          rw [hrg3.left_eq, hrg.out.left_eq]
          have h2 := HP.out.length_eq
          simp only [List.length_cons] at h2
          omega
      · gi_wp2
        refine bodyPost_ret (results_none rfl _ _ _) rfl ?_
        exact ⟨⟨_, rfl⟩, .inr ⟨_, trivial, hJx3⟩⟩
theorem keys_any (b : Option Nat) (w : World) :
    Calls Tryz.prog 94 #[.map b] w fun e w' => e = .returned (.func (.func 128) #[] #[.pointer (some ⟨w.heap.size, 0, none⟩)]) ∧ w' = w.alloc (.cells #[.map b] 110) := by
  go_enter Tryz.func94, Tryz.ntmps94
  go_wp2
  go_ret
  exact ⟨rfl, rfl⟩
end Go.Proofs.YtcjdnifckngcfaaGreatDoor
end

section
namespace Go.Proofs.YtcjdnifckngcfaaGreatDoor
open Go.RowKit Go.ChangeMaps Go.MapKept
open Go.Maps (Keyed)

theorem keys_apart {es : Array MapEntry} {clock : Nat} (h : Stamped es clock) {i j : Nat} {x y : MapEntry} (hx : es.toList[i]? = some x) (hy : es.toList[j]? = some y) (hij : i ≠ j) : x.key ≠ y.key := by
  have hp := ((stamped_iff es clock).1 h).2.2
  rw [List.pairwise_iff_getElem] at hp
  obtain ⟨h1, rfl⟩ := List.getElem?_eq_some_iff.1 hx
  obtain ⟨h2, rfl⟩ := List.getElem?_eq_some_iff.1 hy
  rcases Nat.lt_or_gt_of_ne hij with h | h
  · exact hp i j h1 h2 h
  · exact fun e => hp j i h2 h1 h e.symm
section
variable {w w' : World} {P : Program} {k : TypeId} {b : Nat} {l : List (Value × Value)}
/-- m[k] = v. -/
theorem MapL.store {t e : TypeId} (h : MapL w P k b l) (K : Keyed P k) (ht : P.underlying t = some (.map k e)) {key val : Value} {kl : Lit} (hkey : keyOf P k key = some kl) :
    ∃ w' l', (Instr.mapUpdate t (.map (some b)) key val).run P w = .ok () w' ∧ MapL w' P k b l' ∧ (∀ p, p ∈ l' ↔ (p ∈ l ∧ p.1 ≠ key) ∨ p = (key, val)) ∧ w.mapTurned w' b := by
  obtain ⟨es, clock, hb, hs, rfl, hk⟩ := h
  rcases K.find w hkey es.toList (keys_of hk) with ⟨h1, h2⟩ | ⟨j, e0, h1, h2, h3⟩
  · refine ⟨setBlock w b (.map (es.push ⟨key, val, clock⟩) (clock + 1)), es.toList.map kv ++ [(key, val)], ?_, ⟨_, _, heap_setBlock_same hb _, stamped_push hs h2, by simp [kv], ?_⟩, ?_, ⟨es, clock, _, _, hb, rfl⟩⟩
    · simp [Instr.mapUpdate, run_underlying ht, MapKept.run_getObj_map hb, K.check w false hkey, h1, MapKept.run_setObj_map _ hb, Result.andThen, setBlock]
    · intro p hp
      rcases List.mem_append.1 hp with hp | hp
      · exact hk p hp
      · rw [List.mem_singleton] at hp
        subst hp
        exact ⟨kl, hkey⟩
    · intro p
      rw [List.mem_append, List.mem_singleton]
      refine or_congr ⟨fun hp => ⟨hp, ?_⟩, fun hp => hp.1⟩ Iff.rfl
      obtain ⟨x, hx, rfl⟩ := List.mem_map.1 hp
      exact h2 x hx
  · have hj : es[j]? = some e0 := by simpa using h2
    have hjl : j < es.toList.length := (List.getElem?_eq_some_iff.1 h2).1
    have hkeyf : ∀ e', es[j]? = some e' → ({ e' with key := key, val := val } : MapEntry).key = e'.key := fun e' he' => by rw [hj] at he'; cases he'; exact h3.symm
    have hlist : (es.modify j (fun e' => { e' with key := key, val := val })).toList = es.toList.set j { e0 with key := key, val := val } := by
      apply List.ext_getElem?
      intro i
      rw [Array.getElem?_toList, Array.getElem?_modify, List.getElem?_set]
      by_cases hij : j = i
      · subst hij
        rw [if_pos rfl, if_pos rfl, hj, if_pos hjl]
        rfl
      · rw [if_neg hij, if_neg hij, Array.getElem?_toList]
    have hmem : ∀ p, p ∈ (es.toList.set j { e0 with key := key, val := val }).map kv ↔ (p ∈ es.toList.map kv ∧ p.1 ≠ key) ∨ p = (key, val) := by
      intro p
      constructor
      · intro hp
        obtain ⟨x, hx, rfl⟩ := List.mem_map.1 hp
        obtain ⟨i, hi⟩ := List.getElem?_of_mem hx
        rw [List.getElem?_set] at hi
        split at hi
        · cases hi; right; rfl
        · rename_i hne
          left
          exact ⟨List.mem_map.2 ⟨x, List.mem_of_getElem? hi, rfl⟩, fun e => keys_apart hs hi h2 (fun q => hne q.symm) (e.trans h3.symm)⟩
      · rintro (⟨hp, hn⟩ | rfl)
        · obtain ⟨x, hx, rfl⟩ := List.mem_map.1 hp
          obtain ⟨i, hi⟩ := List.getElem?_of_mem hx
          have hij : ¬ j = i := fun e => by
            subst e
            rw [h2] at hi
            cases hi
            exact hn h3
          exact List.mem_map.2 ⟨x, List.mem_of_getElem? (i := i) (by rw [List.getElem?_set, if_neg hij]; exact hi), rfl⟩
        · exact List.mem_map.2 ⟨{ e0 with key := key, val := val }, List.mem_of_getElem? (i := j) (by rw [List.getElem?_set, if_pos rfl, if_pos hjl]), rfl⟩
    refine ⟨setBlock w b (.map (es.modify j (fun e' => { e' with key := key, val := val })) clock), (es.toList.set j { e0 with key := key, val := val }).map kv, ?_, ⟨_, _, heap_setBlock_same hb _, stamped_modify hs _ _ (fun _ _ => rfl) (fun e' _ he' => hkeyf e' he'), by rw [hlist], ?_⟩, hmem, ⟨es, clock, _, _, hb, rfl⟩⟩
    · simp [Instr.mapUpdate, run_underlying ht, MapKept.run_getObj_map hb, K.check w false hkey, h1, hj, h3, K.stays w hkey, MapKept.run_setObj_map _ hb, Result.andThen, setBlock]
    · intro p hp
      rcases (hmem p).1 hp with hp | rfl
      · exact hk p hp.1
      · exact ⟨kl, hkey⟩
/-- delete(m, k). -/
theorem MapL.drop {t e : TypeId} (h : MapL w P k b l) (K : Keyed P k) (ht : P.underlying t = some (.map k e)) {key : Value} {kl : Lit} (hkey : keyOf P k key = some kl) :
    ∃ w' l', (∀ ty, (Builtin.delete_ #[t, k] ty #[.map (some b), key]).run P w = .ok (.tuple #[]) w') ∧ MapL w' P k b l' ∧ (∀ p, p ∈ l' ↔ p ∈ l ∧ p.1 ≠ key) ∧ w.mapTurned w' b := by
  obtain ⟨es, clock, hb, hs, rfl, hk⟩ := h
  rcases K.find w hkey es.toList (keys_of hk) with ⟨h1, h2⟩ | ⟨j, e0, h1, h2, h3⟩
  · refine ⟨setBlock w b (.map es clock), es.toList.map kv, fun ty => ?_, ⟨_, _, heap_setBlock_same hb _, hs, rfl, hk⟩, fun p => ⟨fun hp => ⟨hp, ?_⟩, fun hp => hp.1⟩, ⟨es, clock, _, _, hb, rfl⟩⟩
    · simp [Builtin.delete_, run_underlying ht, MapKept.run_getObj_map hb, K.check w _ hkey, h1, MapKept.run_setObj_map _ hb, Result.andThen, setBlock]
    · obtain ⟨x, hx, rfl⟩ := List.mem_map.1 hp
      exact h2 x hx
  · have hjl : j < es.toList.length := (List.getElem?_eq_some_iff.1 h2).1
    have hjs : j < es.size := by simpa using hjl
    have hsub : (es.eraseIdxIfInBounds j).toList = es.toList.eraseIdx j := by
      unfold Array.eraseIdxIfInBounds
      rw [dif_pos hjs, Array.toList_eraseIdx]
    have hmem : ∀ p, p ∈ (es.toList.eraseIdx j).map kv ↔ p ∈ es.toList.map kv ∧ p.1 ≠ key := by
      intro p
      constructor
      · intro hp
        obtain ⟨x, hx, rfl⟩ := List.mem_map.1 hp
        obtain ⟨i, hne, hi⟩ := List.mem_eraseIdx_iff_getElem?.1 hx
        exact ⟨List.mem_map.2 ⟨x, List.mem_of_getElem? hi, rfl⟩, fun e => keys_apart hs hi h2 hne (e.trans h3.symm)⟩
      · rintro ⟨hp, hn⟩
        obtain ⟨x, hx, rfl⟩ := List.mem_map.1 hp
        obtain ⟨i, hi⟩ := List.getElem?_of_mem hx
        have hij : i ≠ j := fun e => by
          subst e
          rw [h2] at hi
          cases hi
          exact hn h3
        exact List.mem_map.2 ⟨x, List.mem_eraseIdx_iff_getElem?.2 ⟨i, hij, hi⟩, rfl⟩
    refine ⟨setBlock w b (.map (es.eraseIdxIfInBounds j) clock), (es.toList.eraseIdx j).map kv, fun ty => ?_, ⟨_, _, heap_setBlock_same hb _, stamped_erase hs j, by rw [hsub], fun p hp => hk p ((hmem p).1 hp).1⟩, hmem, ⟨es, clock, _, _, hb, rfl⟩⟩
    simp [Builtin.delete_, run_underlying ht, MapKept.run_getObj_map hb, K.check w _ hkey, h1, MapKept.run_setObj_map _ hb, Result.andThen, setBlock]
end
end Go.Proofs.YtcjdnifckngcfaaGreatDoor
end

section
namespace Go.Proofs.YtcjdnifckngcfaaGreatDoor
open Go.RowKit

/-- Block b holds these cells. -/
def Blk (w : World) (b : Nat) (T : TypeId) (cs : List Value) : Prop := w.heap[b]? = some (.cells cs.toArray T (0, 0))
section
variable {w w' : World} {b : Nat} {T : TypeId} {cs : List Value}
theorem Blk.lt (h : Blk w b T cs) : b < w.heap.size := heap_lt h
theorem Blk.cell (h : Blk w b T cs) (i : Nat) (v : Value) (hv : cs[i]? = some v) : w.cell? ⟨b, i, none⟩ = some v := by
  rw [cell_of_row w b i _ T (0, 0) h]; simpa using hv
theorem Blk.frozen (h : Blk w b T cs) (i : Nat) : w.frozen? ⟨b, i, none⟩ = false := by
  unfold Blk at h
  simp [World.frozen?, h]
theorem Blk.set_ (h : Blk w b T cs) (i : Nat) (v : Value) : Blk (w.setCell ⟨b, i, none⟩ v) b T (cs.set i v) := by
  unfold Blk at h ⊢
  simp [World.setCell, Array.getElem?_modify, h]
theorem Blk.other (h : Blk w b T cs) {g : Nat} (hb : b ≠ g) (o : Nat) (u : Value) : Blk (w.setCell ⟨g, o, none⟩ u) b T cs := by
  unfold Blk at h ⊢
  simp [World.setCell, Array.getElem?_modify, h, Ne.symm hb]
theorem Blk.below {B : Nat} (h : Blk w b T cs) (hb : Below B w w') (hg : b < B) : Blk w' b T cs := (hb.block b hg).trans h
theorem Blk.ext (h : Blk w b T cs) (hb : Ext w w') : Blk w' b T cs := h.below hb h.lt
theorem Blk.alloc (h : Blk w b T cs) (o : Obj) : Blk (w.alloc o) b T cs := (Below.heap_alloc w o b h.lt).trans h
theorem Blk.drew (h : Blk w b T cs) : Blk w.drew b T cs := h
theorem Blk.new (w : World) (cs : List Value) (T : TypeId) : Blk (w.alloc (.cells cs.toArray T)) w.heap.size T cs := heap_alloc_new w _
theorem Blk.range (h : Blk w b T cs) (o : Nat) (l : List Value) (hl : ∀ j v, l[j]? = some v → cs[o + j]? = some v) : w.rangeAt b o l := fun j v hv => h.cell _ _ (hl j v hv)
theorem Blk.there (h : Blk w b T cs) (o n : Nat) (hn : o + n ≤ cs.length) : w.there b o n := fun j hj =>
  ⟨by rw [h.cell (o + j) cs[o + j] (List.getElem?_eq_getElem (by omega))]; rfl, h.frozen _⟩
theorem Blk.setCells : ∀ (vs : List Value) (o : Nat) (cs : List Value) {w : World}, Blk w b T cs → o + vs.length ≤ cs.length → Blk (w.setCells b o vs) b T (cs.take o ++ (vs ++ cs.drop (o + vs.length)))
  | [], o, cs, w, h, _ => by simpa [World.setCells] using h
  | v :: r, o, cs, w, h, hl => by
    rw [World.setCells]
    have h2 := Blk.setCells r (o + 1) _ (h.set_ o v) (by simp at hl ⊢; omega)
    have hlt : o < cs.length := by simp at hl; omega
    have e : (cs.set o v).take (o + 1) = cs.take o ++ [v] := by
      rw [List.take_succ_eq_append_getElem (by simpa using hlt), List.take_set_of_le (Nat.le_refl _)]
      simp
    have e2 : (cs.set o v).drop (o + 1 + r.length) = cs.drop (o + (v :: r).length) := by
      rw [List.drop_set_of_lt (by omega)]
      congr 1
      simp; omega
    rw [e, e2] at h2
    simpa using h2
theorem Row.blk {l : List UInt8} (h : Row w b T l) : Blk w b T (l.map cellOf) := h
theorem Blk.row {l : List UInt8} (h : Blk w b T (l.map cellOf)) : Row w b T l := h
theorem Row.other {l : List UInt8} (h : Row w b T l) {g : Nat} (hb : b ≠ g) (o : Nat) (u : Value) : Row (w.setCell ⟨g, o, none⟩ u) b T l := Blk.other h hb o u
/-- Cells of bytes behind others. -/
theorem bytes_at {pre : List Value} {l : List UInt8} {post : List Value} (o i : Nat) (x : UInt8) (ho : pre.length = o) (hx : l[i]? = some x) : (pre ++ (l.map cellOf ++ post))[o + i]? = some (.int .u8 (x.toNat : Int)) := by
  have hi : i < l.length := (List.getElem?_eq_some_iff.1 hx).1
  rw [List.getElem?_append_right (by omega), ho, Nat.add_sub_cancel_left, List.getElem?_append_left (by simpa using hi)]
  simp [hx, cellOf]
end
theorem cells8_one (l : List UInt8) : ((l.map cellOf).toArray).all (·.oneCell') = true := by
  rw [Array.all_eq_true_iff_forall_mem]
  intro v hv
  simp only [List.mem_toArray, List.mem_map] at hv
  obtain ⟨n, _, rfl⟩ := hv
  rfl
theorem below_setCells {B : Nat} {a : World} {g : Nat} (hg : B ≤ g) : ∀ (vs : List Value) (o : Nat) {b : World}, Below B a b → Below B a (b.setCells g o vs)
  | [], _, _, h => h
  | v :: r, o, _, h => below_setCells hg r (o + 1) (h.setCell (p := ⟨g, o, none⟩) hg v)
/-- A whole block written. -/
theorem below_setRow {B : Nat} {a b : World} (h : Below B a b) {g : Nat} (hg : B ≤ g) (cs : Array Value) : Below B a (b.setRow g cs) :=
  h.trans ⟨rfl, rfl, rfl, by simp, fun k hk => setRow_other _ _ _ _ (by omega)⟩
theorem Ext.setRow {a b : World} (h : Ext a b) {g : Nat} (hg : a.heap.size ≤ g) (cs : Array Value) : Ext a (b.setRow g cs) := below_setRow h hg cs
theorem Ext.setCells {a b : World} (h : Ext a b) {g : Nat} (hg : a.heap.size ≤ g) (vs : List Value) (o : Nat) : Ext a (b.setCells g o vs) := below_setCells hg vs o h
theorem Ext.trans3 {a b c : World} (h : Ext a b) (k : Below a.heap.size b c) : Ext a c := Below.trans h k
end Go.Proofs.YtcjdnifckngcfaaGreatDoor
end
