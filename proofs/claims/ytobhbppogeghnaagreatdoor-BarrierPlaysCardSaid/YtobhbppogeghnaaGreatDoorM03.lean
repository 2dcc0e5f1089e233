/- A slice of Act among a law's arguments, opened: what its walk asks of it. (Printed by mkopen.py.) Plain: maps as lists of keys and elements, in the order in which they came; ranges over them. No function of the program is named here. Plain: ranges over maps that are told as lists, inside a fence. No function of the program is named here. Contracts: a map's keys, numbers of 32 bits, as the library's iterator hands them out. -/
import Derived.Test.YtobhbppogeghnaaGreatDoorM02
import Derived.Deep.Slices
import Derived.Deep.Fields
import Derived.ChangeArms
import Derived.Lib.SmallJoins
import Derived.Maps.RangeWalk
import Derived.Test.YtobhbppogeghnaaGreatDoorM00
import Derived.Sort.MapsRangeIn
import Derived.RangeFuncSeq
import Derived.RangeFuncNested
import Derived.RangeFuncBound
import Derived.RangeFuncCalls
import Derived.RangeFuncLeaves
import Derived.RangeFuncFrom
import Derived.Shelf.Abstract
import Derived.WalkKit
import Derived.TacticsInMore
import Derived.LoopNIn
import Derived.LoopIn
import Derived.Test.YtobhbppogeghnaaGreatDoorProg
section
namespace Go.Proofs.YtobhbppogeghnaaGreatDoor
open Go.ChangeShapes Go.WideShapes Go.ChangeAt Go.RowKit
structure Act15 where
  Do : Nat
  Text : ByteArray
  Other : ByteArray
  N : Nat
  Share : Nat
  Fit : Bool
def Act15.cells (x : Act15) : List Value := [.int .u8 (x.Do : Int), .string x.Text, .string x.Other, .int .u32 (x.N : Int), .int .u8 (x.Share : Int), .bool x.Fit]
structure Act15.Ok (x : Act15) : Prop where
  Do : x.Do < 256
  Text : x.Text.size ≤ 140737488351232
  Other : x.Other.size ≤ 140737488351232
  N : x.N < 4294967296
  Share : x.Share < 256
/-- The cells from the address on, if there are any, are these. -/
def Act15sP (w : World) (p : Option Addr) (L : List Act15) : Prop := ∀ (k : Nat) (x : Act15), L[k]? = some x → ∃ a, p = some a ∧ a.block < w.heap.size ∧ ∀ (j : Nat) (v : Value), (x.cells)[j]? = some v → w.cell? (a.add (k * 6 + j)) = some v
theorem Act15sP.ext {w w' : World} {p : Option Addr} {L : List Act15} (h : Act15sP w p L) (hx : Ext w w') : Act15sP w' p L := fun k x hk => by
  obtain ⟨a, h1, h2, h4⟩ := h k x hk
  exact ⟨a, h1, Nat.lt_of_lt_of_le h2 hx.size, fun j v hv => by rw [hx.below.cell (p := a.add (k * 6 + j)) (by rw [add_block]; omega)]; exact h4 j v hv⟩
theorem act15_at {w : World} {a : Addr} {j k : Nat} {v : Option Value} (h : w.cell? (a.add (j * 6 + (k + 1))) = v) : w.cell? ⟨(a.add (j * 6)).block, (a.add (j * 6)).off + (k + 1), none⟩ = v := by
  rw [← Deep.add_add] at h
  exact h
theorem cells_act15 : Tryz.prog.cellsOf 42 = 6 := by kernel_rfl
theorem bytes_act15 : Tryz.prog.bytesOf 42 = 48 := by kernel_rfl
section
variable {H : Type} {enc : TypeId × Value → H} {W : World} {base : Nat} {v : Value} {d : DataW H} {p : List MemPlace}
def act15Ts : List TypeId := [5, 9, 9, 40, 5, 4]
theorem act15_list {cs : List Value} {v0 v1 v2 v3 v4 v5 : Value} (hl : cs.length = 6) (e0 : cs[0]? = some v0) (e1 : cs[1]? = some v1) (e2 : cs[2]? = some v2) (e3 : cs[3]? = some v3) (e4 : cs[4]? = some v4) (e5 : cs[5]? = some v5) : cs = [v0, v1, v2, v3, v4, v5] := by
  apply List.ext_getElem?
  intro i
  rcases (show i = 0 ∨ i = 1 ∨ i = 2 ∨ i = 3 ∨ i = 4 ∨ i = 5 ∨ 6 ≤ i by omega) with rfl | rfl | rfl | rfl | rfl | rfl | h
  · exact e0
  · exact e1
  · exact e2
  · exact e3
  · exact e4
  · exact e5
  · rw [List.getElem?_eq_none (by omega), List.getElem?_eq_none (by simpa using h)]
theorem open_act15_cells {fuel : Nat} {cs : List Value} (htr : DataW.trod enc Tryz.prog W 0 (fun _ => true) true fuel 42 cs = some (d, p)) (hlt : ∀ x ∈ p, x.block < W.heap.size) (hw : ∀ w ∈ d.weights Tryz.prog 42, w ≤ reachBytes) :
    ∃ (x : Act15), cs = x.cells ∧ x.Ok := by
  obtain ⟨xs, n', _, hD, hcl, hlen, hfl⟩ := DataW.trod_struct Tryz.underlying42 htr
  have hlenN : xs.length = 6 := hlen
  simp only [Prod.mk.injEq] at hD
  obtain ⟨rfl, rfl⟩ := hD
  rw [cells_act15] at hcl
  have g0 : DataW.trod enc Tryz.prog W 0 (fun _ => true) true n' 5 ((cs.drop 0).take (Tryz.prog.cellsOf 5)) = xs[0]? := hfl 0 _ rfl
  rw [show Tryz.prog.cellsOf 5 = 1 from by kernel_rfl] at g0
  have g1 : DataW.trod enc Tryz.prog W 0 (fun _ => true) true n' 9 ((cs.drop 1).take (Tryz.prog.cellsOf 9)) = xs[1]? := hfl 1 _ rfl
  rw [show Tryz.prog.cellsOf 9 = 1 from by kernel_rfl] at g1
  have g2 : DataW.trod enc Tryz.prog W 0 (fun _ => true) true n' 9 ((cs.drop 2).take (Tryz.prog.cellsOf 9)) = xs[2]? := hfl 2 _ rfl
  rw [show Tryz.prog.cellsOf 9 = 1 from by kernel_rfl] at g2
  have g3 : DataW.trod enc Tryz.prog W 0 (fun _ => true) true n' 40 ((cs.drop 3).take (Tryz.prog.cellsOf 40)) = xs[3]? := hfl 3 _ rfl
  rw [show Tryz.prog.cellsOf 40 = 1 from by kernel_rfl] at g3
  have g4 : DataW.trod enc Tryz.prog W 0 (fun _ => true) true n' 5 ((cs.drop 4).take (Tryz.prog.cellsOf 5)) = xs[4]? := hfl 4 _ rfl
  rw [show Tryz.prog.cellsOf 5 = 1 from by kernel_rfl] at g4
  have g5 : DataW.trod enc Tryz.prog W 0 (fun _ => true) true n' 4 ((cs.drop 5).take (Tryz.prog.cellsOf 4)) = xs[5]? := hfl 5 _ rfl
  rw [show Tryz.prog.cellsOf 4 = 1 from by kernel_rfl] at g5
  have hwe : ∀ w ∈ DataW.weightsEach Tryz.prog act15Ts (xs.map (·.1)), w ≤ reachBytes := fun w hw1 => hw w (by
    simp only [DataW.weights, Tryz.underlying42]
    exact hw1)
  have hwb : (DataW.weightsEach Tryz.prog act15Ts (xs.map (·.1))).all (· ≤ reachBytes) = true := List.all_eq_true.2 (fun w hw1 => by simpa using hwe w hw1)
  obtain ⟨d0, e0, w0⟩ := field_at (k := .u8) (by omega) Tryz.underlying5 g0
  obtain ⟨s1, e1, x1⟩ := field_str (by omega) Tryz.underlying9 g1
  have hs1 := hwe s1.data.toList.length (DataW.weights_mem_each (P := Tryz.prog) (j := 1) (t := 9) rfl x1 _ (by simp [DataW.weights]))
  simp only [reachBytes, size_list] at hs1
  obtain ⟨s2, e2, x2⟩ := field_str (by omega) Tryz.underlying9 g2
  have hs2 := hwe s2.data.toList.length (DataW.weights_mem_each (P := Tryz.prog) (j := 2) (t := 9) rfl x2 _ (by simp [DataW.weights]))
  simp only [reachBytes, size_list] at hs2
  obtain ⟨d3, e3, w3⟩ := field_at (k := .u32) (by omega) Tryz.underlying40 g3
  obtain ⟨d4, e4, w4⟩ := field_at (k := .u8) (by omega) Tryz.underlying5 g4
  obtain ⟨b5, e5⟩ := field_bool (by omega) Tryz.underlying4 g5
  simp [Lit.wf, IntKind.min, IntKind.max, IntKind.signed, IntKind.bits] at w0 w3 w4
  have n0 : ((d0.toNat : Nat) : Int) = d0 := Int.toNat_of_nonneg (by omega)
  have n3 : ((d3.toNat : Nat) : Int) = d3 := Int.toNat_of_nonneg (by omega)
  have n4 : ((d4.toNat : Nat) : Int) = d4 := Int.toNat_of_nonneg (by omega)
  refine ⟨⟨d0.toNat, s1, s2, d3.toNat, d4.toNat, b5⟩, ?_, ⟨by show d0.toNat < _; omega, by show s1.size ≤ _; omega, by show s2.size ≤ _; omega, by show d3.toNat < _; omega, by show d4.toNat < _; omega⟩⟩
  unfold Act15.cells
  dsimp only
  rw [n0, n3, n4]
  exact act15_list hcl e0 e1 e2 e3 e4 e5
set_option maxRecDepth 100000 in
theorem open_act15s_p (hval : Value.okWide Tryz.prog W .any base 22 v) (h : DataW.Trod enc Tryz.prog W 0 (fun _ => true) true 22 v d p) (hlt : ∀ x ∈ p, x.block < W.heap.size)
    {ts : List TypeId} {ds : List (DataW H)} {j : Nat} (hsz : (DataW.weightsEach Tryz.prog ts ds).all (· ≤ reachBytes) = true) (ht : ts[j]? = some 22) (hd : ds[j]? = some d) :
    ∃ (pa : Option Addr) (c : Nat) (L : List Act15), v = .slice pa L.length c ∧ Act15sP W pa L ∧ (∀ x, x ∈ L → x.Ok) ∧ L.length ≤ 140737488355328 := by
  obtain ⟨a0, len, cap, rfl⟩ := okWide_slice Tryz.underlying22 hval
  obtain ⟨fuel, hf⟩ := h
  rcases Deep.open_slice Tryz.underlying22 hf with ⟨hcs, hx⟩ | ⟨a, len', cap', m, n, D, Pl, hcs, _, hl, hm, hmm, hx, hi⟩
  · simp [Value.cells] at hcs
    obtain ⟨rfl, rfl, rfl⟩ := hcs
    exact ⟨none, 0, [], rfl, fun k x hk => by simp at hk, fun x hx => by simp at hx, by simp⟩
  · simp [Value.cells] at hcs
    obtain ⟨rfl, rfl, rfl⟩ := hcs
    simp only [Prod.mk.injEq] at hx
    obtain ⟨rfl, rfl⟩ := hx
    simp only [if_true] at hmm
    subst hmm
    have hr := sized_slice hsz ht hd Tryz.underlying22
    rw [bytes_act15] at hr
    simp only [List.length_map, List.length_range, reachBytes] at hr
    obtain ⟨L, hL, hP⟩ := list_of_all (α := Act15) (P := fun k x => x.Ok ∧ a.block < W.heap.size ∧ ∀ (i : Nat) (u : Value), (x.cells)[i]? = some u → W.cell? (a.add (k * 6 + i)) = some u) len (fun k hk => by
      obtain ⟨cs', hc, htr⟩ := hi k (by omega)
      rw [cells_act15] at hc
      obtain ⟨_, hcl, hat⟩ := World.cells?_some hc
      obtain ⟨x, rfl, h2⟩ := open_act15_cells htr (fun y hy => hlt y (List.mem_append_right _ (List.mem_flatMap.2 ⟨k, List.mem_range.2 (by omega), hy⟩))) (fun w hw => by
        have hw2 := DataW.weights_mem_each (P := Tryz.prog) ht hd w (by
          simp only [DataW.weights, Tryz.underlying22, List.mem_cons, List.mem_append]
          exact .inr (.inl (weightsAll_mem (x := D k) (List.mem_map.2 ⟨k, List.mem_range.2 hk, rfl⟩) hw)))
        have := List.all_eq_true.1 hsz _ hw2
        simpa using this)
      refine ⟨x, h2, hlt (.cell a.block (a.off + k * 6)) (List.mem_append_left _ (MemPlace.mem_row.2 ⟨k * 6, by rw [cells_act15]; omega, rfl⟩)), fun i u hu => ?_⟩
      have hiN : i < 6 := (List.getElem?_eq_some_iff.1 hu).1
      have := hat i hiN
      rw [Deep.add_add] at this
      rw [this]
      exact hu)
    refine ⟨some a, m, L, by rw [hL], fun k x hk => ?_, fun x hx => ?_, by rw [hL]; omega⟩
    · obtain ⟨_, h2, h4⟩ := hP k x hk
      exact ⟨a, rfl, h2, h4⟩
    · obtain ⟨k, hk⟩ := List.getElem?_of_mem hx
      exact (hP k x hk).1
end
end Go.Proofs.YtobhbppogeghnaaGreatDoor
end

section
namespace Go.Proofs.YtobhbppogeghnaaGreatDoor
open Go.RowKit Go.ChangeMaps Go.MapKept
open Go.Maps (Keyed)

/-- An entry's key and element. -/
def kv (e : MapEntry) : Value × Value := (e.key, e.val)
/-- Block b is a map of just these keys and elements. -/
def MapL (w : World) (P : Program) (k : TypeId) (b : Nat) (l : List (Value × Value)) : Prop :=
  ∃ es clock, w.heap[b]? = some (.map es clock) ∧ Stamped es clock ∧ es.toList.map kv = l ∧ ∀ p ∈ l, ∃ kl, keyOf P k p.1 = some kl
section
variable {w w' : World} {P : Program} {k : TypeId} {b : Nat} {l : List (Value × Value)}
theorem MapL.lt (h : MapL w P k b l) : b < w.heap.size := by
  obtain ⟨_, _, hb, _⟩ := h
  exact heap_lt hb
theorem MapL.same (h : MapL w P k b l) (e : w'.heap[b]? = w.heap[b]?) : MapL w' P k b l := by
  obtain ⟨es, c, hb, r⟩ := h
  exact ⟨es, c, e.trans hb, r⟩
theorem MapL.ext (h : MapL w P k b l) (hx : Ext w w') : MapL w' P k b l := h.same (hx.below.block b h.lt)
theorem MapL.alloc (h : MapL w P k b l) (o : Obj) : MapL (w.alloc o) P k b l := h.same (Below.heap_alloc w o b h.lt)
theorem MapL.drew (h : MapL w P k b l) : MapL w.drew P k b l := h
theorem MapL.grown {row : Option Nat} (h : MapL w P k b l) (hg : w.grownBy w' row) (hr : some b ≠ row) : MapL w' P k b l := h.same (hg.block b h.lt hr)
theorem MapL.made (w : World) (P : Program) (k : TypeId) : MapL (w.alloc (.map #[] 0)) P k w.heap.size [] :=
  ⟨#[], 0, heap_alloc_new w _, stamped_empty 0, rfl, by simp⟩
theorem MapL.is (h : MapL w P k b l) : ∃ es clock, w.heap[b]? = some (.map es clock) := by
  obtain ⟨es, c, hb, _⟩ := h
  exact ⟨es, c, hb⟩
theorem key_unique {es : Array MapEntry} {clock : Nat} (h : Stamped es clock) {x y : MapEntry} (hx : x ∈ es.toList) (hy : y ∈ es.toList) (hk : x.key = y.key) : x = y :=
  entry_eq_of_key ((stamped_iff es clock).1 h).2.2 hx hy hk
theorem keys_of {es : Array MapEntry} (hk : ∀ p ∈ es.toList.map kv, ∃ kl, keyOf P k p.1 = some kl) : ∀ e ∈ es.toList, ∃ l, keyOf P k e.key = some l :=
  fun e he => hk (kv e) (List.mem_map.2 ⟨e, he, rfl⟩)
/-- m[k], v, ok := m[k]: of what is there. -/
theorem MapL.look {t e : TypeId} (h : MapL w P k b l) (K : Keyed P k) (ht : P.underlying t = some (.map k e)) (c : Bool) {key v : Value} {kl : Lit} (hkey : keyOf P k key = some kl) (hm : (key, v) ∈ l) :
    (Instr.lookup t (.map (some b)) key c).run P w = .ok (if c then .tuple #[v, .bool true] else v) w := by
  obtain ⟨es, clock, hb, hs, rfl, hk⟩ := h
  obtain ⟨x, hx, hxk⟩ := List.mem_map.1 hm
  simp only [kv, Prod.mk.injEq] at hxk
  rcases K.find w hkey es.toList (keys_of hk) with ⟨h1, h2⟩ | ⟨j, e0, h1, h2, h3⟩
  · exact absurd hxk.1 (h2 x hx)
  · have e1 := key_unique hs (List.mem_of_getElem? h2) hx (h3.trans hxk.1.symm)
    rw [← hxk.2, ← e1]
    simp [Instr.lookup, run_underlying ht, MapKept.run_getObj_map hb, K.check w _ hkey, h1, Result.andThen]
/-- .. of what is not. -/
theorem MapL.look_none {t e : TypeId} (h : MapL w P k b l) (K : Keyed P k) (ht : P.underlying t = some (.map k e)) (c : Bool) {z : Value} (hz : (zeroValue e).run P w = .ok z w) {key : Value} {kl : Lit} (hkey : keyOf P k key = some kl)
    (hm : ∀ p ∈ l, p.1 ≠ key) : (Instr.lookup t (.map (some b)) key c).run P w = .ok (if c then .tuple #[z, .bool false] else z) w := by
  obtain ⟨es, clock, hb, hs, rfl, hk⟩ := h
  rcases K.find w hkey es.toList (keys_of hk) with ⟨h1, h2⟩ | ⟨j, e0, h1, h2, h3⟩
  · simp [Instr.lookup, run_underlying ht, MapKept.run_getObj_map hb, K.check w _ hkey, h1, hz, Result.andThen]
  · exact absurd h3 (hm (kv e0) (List.mem_map.2 ⟨e0, List.mem_of_getElem? h2, rfl⟩))
/-- m[k] = v, where k is not there. -/
theorem MapL.put {t e : TypeId} (h : MapL w P k b l) (K : Keyed P k) (ht : P.underlying t = some (.map k e)) {key val : Value} {kl : Lit} (hkey : keyOf P k key = some kl) (hm : ∀ p ∈ l, p.1 ≠ key) :
    ∃ w', (Instr.mapUpdate t (.map (some b)) key val).run P w = .ok () w' ∧ MapL w' P k b (l ++ [(key, val)]) ∧ w.mapTurned w' b := by
  obtain ⟨es, clock, hb, hs, rfl, hk⟩ := h
  rcases K.find w hkey es.toList (keys_of hk) with ⟨h1, h2⟩ | ⟨j, e0, h1, h2, h3⟩
  · refine ⟨setBlock w b (.map (es.push ⟨key, val, clock⟩) (clock + 1)), ?_, ⟨_, _, heap_setBlock_same hb _, stamped_push hs h2, by simp [kv], ?_⟩, ⟨es, clock, _, _, hb, rfl⟩⟩
    · simp [Instr.mapUpdate, run_underlying ht, MapKept.run_getObj_map hb, K.check w false hkey, h1, MapKept.run_setObj_map _ hb, Result.andThen, setBlock]
    · intro p hp
      rcases List.mem_append.1 hp with hp | hp
      · exact hk p hp
      · rw [List.mem_singleton] at hp
        subst hp
        exact ⟨kl, hkey⟩
  · exact absurd h3 (hm (kv e0) (List.mem_map.2 ⟨e0, List.mem_of_getElem? h2, rfl⟩))
theorem MapL.len {t e : TypeId} (h : MapL w P k b l) (ht : P.underlying t = some (.map k e)) (ty : TypeId) : (Builtin.len_ #[t] ty #[.map (some b)]).run P w = .ok (.int .i64 (l.length : Int)) w := by
  obtain ⟨es, clock, hb, hs, rfl, hk⟩ := h
  simp [Builtin.len_, run_underlying ht, MapKept.run_getObj_map hb, goInt, Result.andThen]
theorem MapL.clear {t e : TypeId} (h : MapL w P k b l) (ht : P.underlying t = some (.map k e)) :
    ∃ w', (∀ ty : TypeId, (Builtin.clear_ #[t] ty #[.map (some b)]).run P w = .ok (.tuple #[]) w') ∧ MapL w' P k b [] ∧ w.mapTurned w' b := by
  obtain ⟨es, clock, hb, hs, rfl, hk⟩ := h
  refine ⟨setBlock w b (.map #[] clock), fun ty => ?_, ⟨#[], clock, heap_setBlock_same hb _, stamped_empty _, rfl, by simp⟩, ⟨es, clock, _, _, hb, rfl⟩⟩
  simp [Builtin.clear_, run_underlying ht, MapKept.run_getObj_map hb, MapKept.run_setObj_map _ hb, Result.andThen, setBlock]
end

/-! ### Ranges -/
/-- Block r is a range over the map in block b; these are still to come. -/
def RangeL (w : World) (P : Program) (k : TypeId) (b r : Nat) (l left : List (Value × Value)) : Prop :=
  ∃ es clock since seen c0, w.heap[b]? = some (.map es clock) ∧ Stamped es clock ∧ es.toList.map kv = l ∧ (∀ p ∈ l, ∃ kl, keyOf P k p.1 = some kl) ∧ w.heap[r]? = some (.mapIter (some b) since seen c0) ∧
    (∀ x ∈ es.toList, x.born < since) ∧ since ≤ c0 ∧ since ≤ clock ∧ (leftOf es seen).toList.map kv = left
section
variable {w w' : World} {P : Program} {k : TypeId} {b r : Nat} {l left : List (Value × Value)}
theorem RangeL.map (h : RangeL w P k b r l left) : MapL w P k b l := by
  obtain ⟨es, clock, since, seen, c0, hb, hs, hl, hk, _⟩ := h
  exact ⟨es, clock, hb, hs, hl, hk⟩
theorem RangeL.lt (h : RangeL w P k b r l left) : r < w.heap.size := by
  obtain ⟨es, clock, since, seen, c0, hb, hs, hl, hk, hr, _⟩ := h
  exact heap_lt hr
theorem RangeL.ne (h : RangeL w P k b r l left) : r ≠ b := by
  obtain ⟨es, clock, since, seen, c0, hb, hs, hl, hk, hr, _⟩ := h
  intro e
  rw [e, hb] at hr
  cases hr
theorem RangeL.same (h : RangeL w P k b r l left) (e1 : w'.heap[b]? = w.heap[b]?) (e2 : w'.heap[r]? = w.heap[r]?) : RangeL w' P k b r l left := by
  obtain ⟨es, clock, since, seen, c0, hb, hs, hl, hk, hr, rest⟩ := h
  exact ⟨es, clock, since, seen, c0, e1.trans hb, hs, hl, hk, e2.trans hr, rest⟩
theorem RangeL.ext (h : RangeL w P k b r l left) (hx : Ext w w') : RangeL w' P k b r l left := h.same (hx.below.block b h.map.lt) (hx.below.block r h.lt)
theorem RangeL.alloc (h : RangeL w P k b r l left) (o : Obj) : RangeL (w.alloc o) P k b r l left := h.same (Below.heap_alloc w o b h.map.lt) (Below.heap_alloc w o r h.lt)
theorem RangeL.drew (h : RangeL w P k b r l left) : RangeL w.drew P k b r l left := h
theorem RangeL.setCell (h : RangeL w P k b r l left) {g : Nat} (hb : b ≠ g) (hr : r ≠ g) (o : Nat) (u : Value) : RangeL (w.setCell ⟨g, o, none⟩ u) P k b r l left := h.same (Below.heap_setCell _ _ _ _ hb) (Below.heap_setCell _ _ _ _ hr)
theorem RangeL.left_eq (h : RangeL w P k b r l left) : w.rangeLeft b r = left.length := by
  obtain ⟨es, clock, since, seen, c0, hb, hs, hl, hk, hr, _, _, _, rfl⟩ := h
  simp [World.rangeLeft, hb, hr]
theorem filter_filter_born (l : List MapEntry) (seen : Array Nat) (n : Nat) : l.filter (fun x => !(seen.push n).contains x.born) = (l.filter fun x => !seen.contains x.born).filter (fun x => x.born != n) := by
  rw [List.filter_filter]
  congr 1
  funext x
  rw [contains_push]
  cases seen.contains x.born <;> cases h : (x.born == n) <;> simp [bne, h]
theorem perm_born : ∀ {l : List MapEntry}, (l.map (·.born)).Nodup → ∀ {e : MapEntry}, e ∈ l → l.Perm (e :: l.filter (fun x => x.born != e.born))
  | [], _, _, he => by simp at he
  | a :: r, hn, e, he => by
    have hn' : a.born ∉ r.map (·.born) ∧ (r.map (·.born)).Nodup := List.nodup_cons.1 hn
    rcases List.mem_cons.1 he with rfl | he
    · have e1 : r.filter (fun x => x.born != e.born) = r := List.filter_eq_self.2 fun x hx => by
        have : x.born ≠ e.born := fun q => hn'.1 (q ▸ List.mem_map.2 ⟨x, hx, rfl⟩)
        simpa using this
      rw [List.filter_cons, if_neg (by simp), e1]
    · have e1 : (a.born != e.born) = true := by
        have : a.born ≠ e.born := fun q => hn'.1 (q ▸ List.mem_map.2 ⟨e, he, rfl⟩)
        simpa using this
      rw [List.filter_cons, if_pos e1]
      exact ((perm_born hn'.2 he).cons a).trans (List.Perm.swap _ _ _)
/-- The step. -/
theorem RangeL.next (h : RangeL w P k b r l left) (ty : TypeId) :
    (left = [] ∧ (Instr.next (.pointer (some ⟨r, 0, none⟩)) false ty).run P w = .ok (.tuple #[.bool false]) w) ∨
    ∃ p left' w', left.Perm (p :: left') ∧ (Instr.next (.pointer (some ⟨r, 0, none⟩)) false ty).run P w = .ok (.tuple #[.bool true, p.1, p.2]) w' ∧ RangeL w' P k b r l left' ∧ w.grownBy w' (some r) ∧ w'.heap.size = w.heap.size ∧
      (Instr.entry (.pointer (some ⟨r, 0, none⟩))).run P w' = .ok (.tuple #[p.1, p.2]) w' := by
  have hne := h.ne
  obtain ⟨es, clock, since, seen, c0, hb, hs, rfl, hk, hr, hold, hsc, hsk, rfl⟩ := h
  have hst := (stamped_iff es clock).1 hs
  rcases run_next_at (P := P) w ty r b since c0 seen es clock hr hb hold hsc with ⟨h0, hrun⟩ | ⟨e, he, w1, hal, hrun⟩
  · have : leftOf es seen = #[] := Array.eq_empty_of_size_eq_zero h0
    exact .inl ⟨by rw [this]; rfl, hrun⟩
  · obtain ⟨hem, hes⟩ := mem_left he
    have hr1 : w1.heap[r]? = some (.mapIter (some b) since seen c0) := by rcases hal with rfl | rfl <;> exact hr
    have hb1 : w1.heap[b]? = some (.map es clock) := by rcases hal with rfl | rfl <;> exact hb
    have hset := heap_set (o' := .mapIter (some b) since (seen.push e.born) clock) hr1
    have hb' : (setBlock w1 r (.mapIter (some b) since (seen.push e.born) clock)).heap[b]? = some (.map es clock) := (hset.2 b (fun e1 => hne e1.symm)).trans hb1
    have hl1 : (leftOf es seen).toList = es.toList.filter fun x => !seen.contains x.born := by unfold leftOf; rw [Array.toList_filter]
    have hl2 : (leftOf es (seen.push e.born)).toList = (leftOf es seen).toList.filter (fun x => x.born != e.born) := by
      rw [hl1, ← filter_filter_born]; unfold leftOf; rw [Array.toList_filter]
    have hnd : ((leftOf es seen).toList.map (·.born)).Nodup := by
      rw [hl1]
      exact hst.2.1.sublist (List.filter_sublist.map _)
    refine .inr ⟨kv e, (leftOf es (seen.push e.born)).toList.map kv, setBlock w1 r (.mapIter (some b) since (seen.push e.born) clock), ?_, hrun,
      ⟨es, clock, since, seen.push e.born, clock, hb', hs, rfl, hk, hset.1, hold, hsk, hsk, rfl⟩, ?_, ?_, run_entry_at _ r b since seen es clock e hset.1 hb' hem hst.2.1⟩
    · rw [hl2]
      exact (perm_born hnd he).map kv
    · rcases hal with rfl | rfl <;> exact ⟨rfl, rfl, rfl, by simp [setBlock], fun i _ hi => hset.2 i (fun e1 => hi (by rw [e1]))⟩
    · rcases hal with rfl | rfl <;> simp [setBlock]
end
/-- for k, v := range m: ahead of the loop. -/
theorem MapL.range {w : World} {P : Program} {k : TypeId} {b : Nat} {l : List (Value × Value)} (h : MapL w P k b l) {t e : TypeId} (ht : P.underlying t = some (.map k e)) :
    ∃ w', (Instr.range t (.map (some b))).run P w = .ok (.pointer (some ⟨w.heap.size, 0, none⟩)) w' ∧ RangeL w' P k b w.heap.size l l ∧ Ext w w' ∧ w'.heap.size = w.heap.size + 1 := by
  have hlt := h.lt
  obtain ⟨es, clock, hb, hs, rfl, hk⟩ := h
  refine ⟨_, run_range_map w t k e b es clock ht hb, ⟨es, clock, clock, #[], clock, (Below.heap_alloc w _ b hlt).trans hb, hs, rfl, hk, heap_alloc_new w _, ((stamped_iff es clock).1 hs).1, Nat.le_refl _, Nat.le_refl _, ?_⟩, (Ext.refl w).alloc _, by simp⟩
  unfold leftOf
  rw [Array.toList_filter]
  congr 1
  exact List.filter_eq_self.2 fun x _ => by simp
section
variable {P : Program} (w : World) {ops : Array Oper} {rest : List Oper} {o : Oper} {a : Act} {Q : Exit → Act → World → Prop}
theorem wpList_range_L (hg : o.guard = none) (m : Operand) (t : TypeId) (hop : o.op = Op.range t m) (k e : TypeId) (ht : P.underlying t = some (.map k e)) (b : Nat) (l : List (Value × Value))
    (hm : a.eval m = .map (some b)) (h : MapL w P k b l)
    (hK : ∀ w', RangeL w' P k b w.heap.size l l → Ext w w' → w'.heap.size = w.heap.size + 1 → wpList P ops Q rest (a.put o.dst (.pointer (some ⟨w.heap.size, 0, none⟩))) w') :
    wpList P ops Q (o :: rest) a w := by
  refine wpList_plain hg fun K' hK' => ?_
  obtain ⟨w', hrun, r1, r2, r3⟩ := h.range ht
  unfold Oper.wp
  simp [execOp, hop, hm, hrun, Result.andThen]
  exact hK' _ _ (hK w' r1 r2 r3)
/-- The step, at entries of a shape. -/
theorem wpList_next_L {α : Type} (hg : o.guard = none) (it : Operand) (hop : o.op = Op.next it false) (k : TypeId) (f : α → Value × Value) (b r : Nat) (l left : List (Value × Value)) (inv : ∀ p ∈ left, ∃ x, p = f x)
    (hit : a.eval it = .pointer (some ⟨r, 0, none⟩)) (h : RangeL w P k b r l left)
    (hDone : left = [] → wpList P ops Q rest (a.put o.dst (.tuple #[.bool false])) w)
    (hMore : ∀ (x : α) (left' : List (Value × Value)) (w' : World), left.Perm (f x :: left') → RangeL w' P k b r l left' → w.grownBy w' (some r) → w'.heap.size = w.heap.size →
      (Instr.entry (.pointer (some ⟨r, 0, none⟩))).run P w' = .ok (.tuple #[(f x).1, (f x).2]) w' → wpList P ops Q rest (a.put o.dst (.tuple #[.bool true, (f x).1, (f x).2])) w') :
    wpList P ops Q (o :: rest) a w := by
  refine wpList_plain hg fun K' hK' => ?_
  unfold Oper.wp
  rcases h.next o.type with ⟨h0, hrun⟩ | ⟨p, left', w', hp, hrun, hrg, hgr, hsz, hen⟩
  · simp [execOp, hop, hit, hrun, Result.andThen]
    exact hK' _ _ (hDone h0)
  · obtain ⟨x, rfl⟩ := inv p (hp.mem_iff.2 (by simp))
    simp [execOp, hop, hit, hrun, Result.andThen]
    exact hK' _ _ (hMore x left' w' hp hrg hgr hsz hen)
end
theorem Ext.grown {a b c : World} {row : Option Nat} (h : Ext a b) (hg : b.grownBy c row) (hr : ∀ k, row = some k → a.heap.size ≤ k) : Ext a c := Below.grown h hg h.size hr
end Go.Proofs.YtobhbppogeghnaaGreatDoor
end

section
namespace Go.Proofs.YtobhbppogeghnaaGreatDoor
open Go.RowKit
section
variable {F : Fence} {n : Nat} {P : Program} (w : World) {ops : Array Oper} {rest : List Oper} {o : Oper} {a : Act} {Q : Exit → Act → World → Prop}
theorem wpListIn_range_L (hg : o.guard = none) (m : Operand) (t : TypeId) (hop : o.op = Op.range t m) (k e : TypeId) (ht : P.underlying t = some (.map k e)) (b : Nat) (l : List (Value × Value))
    (hm : a.eval m = .map (some b)) (h : MapL w P k b l)
    (hK : ∀ w', RangeL w' P k b w.heap.size l l → Ext w w' → w'.heap.size = w.heap.size + 1 → wpListIn F n P ops Q rest (a.put o.dst (.pointer (some ⟨w.heap.size, 0, none⟩))) w') :
    wpListIn F n P ops Q (o :: rest) a w := by
  refine wpListIn_plain hg fun K' hK' => ?_
  obtain ⟨w', hrun, r1, r2, r3⟩ := h.range ht
  unfold Oper.wpIn
  refine ⟨by simp [Oper.about, hop], ?_⟩
  rw [Oper.semAt_plain F _ _ (by rw [hop]; intro c hc'; cases hc')]
  simp [execOp, hop, hm, hrun, Result.andThen]
  exact hK' _ _ (hK w' r1 r2 r3)
theorem wpListIn_next_L {α : Type} (hg : o.guard = none) (it : Operand) (hop : o.op = Op.next it false) (k : TypeId) (f : α → Value × Value) (b r : Nat) (l left : List (Value × Value)) (inv : ∀ p ∈ left, ∃ x, p = f x)
    (hit : a.eval it = .pointer (some ⟨r, 0, none⟩)) (h : RangeL w P k b r l left)
    (hDone : left = [] → wpListIn F n P ops Q rest (a.put o.dst (.tuple #[.bool false])) w)
    (hMore : ∀ (x : α) (left' : List (Value × Value)) (w' : World), left.Perm (f x :: left') → RangeL w' P k b r l left' → w.grownBy w' (some r) → w'.heap.size = w.heap.size →
      (Instr.entry (.pointer (some ⟨r, 0, none⟩))).run P w' = .ok (.tuple #[(f x).1, (f x).2]) w' → wpListIn F n P ops Q rest (a.put o.dst (.tuple #[.bool true, (f x).1, (f x).2])) w') :
    wpListIn F n P ops Q (o :: rest) a w := by
  refine wpListIn_plain hg fun K' hK' => ?_
  unfold Oper.wpIn
  refine ⟨by simp [Oper.about, hop], ?_⟩
  rw [Oper.semAt_plain F _ _ (by rw [hop]; intro c hc'; cases hc')]
  rcases h.next o.type with ⟨h0, hrun⟩ | ⟨p, left', w', hp, hrun, hrg, hgr, hsz, hen⟩
  · simp [execOp, hop, hit, hrun, Result.andThen]
    exact hK' _ _ (hDone h0)
  · obtain ⟨x, rfl⟩ := inv p (hp.mem_iff.2 (by simp))
    simp [execOp, hop, hit, hrun, Result.andThen]
    exact hK' _ _ (hMore x left' w' hp hrg hgr hsz hen)
end
theorem RangeL.walks {w w' : World} {P : Program} {k : TypeId} {b r : Nat} {l left : List (Value × Value)} (h : RangeL w P k b r l left) (hk : KeepsWalks w w') : RangeL w' P k b r l left := by
  obtain ⟨es, clock, since, seen, c0, hb, hs, hl, hkk, hr, rest⟩ := h
  exact ⟨es, clock, since, seen, c0, hk.same _ _ hb rfl, hs, hl, hkk, hk.same _ _ hr rfl, rest⟩
theorem RangeL.walk {w : World} {P : Program} {k : TypeId} {b r : Nat} {l left : List (Value × Value)} (h : RangeL w P k b r l left) : ∃ o : Obj, w.heap[r]? = some o ∧ o.isWalk = true := by
  obtain ⟨es, clock, since, seen, c0, hb, hs, hl, hkk, hr, rest⟩ := h
  exact ⟨_, hr, rfl⟩
end Go.Proofs.YtobhbppogeghnaaGreatDoor
end

section
namespace Go.Proofs.YtobhbppogeghnaaGreatDoor
open Go.RowKit Go.Shelf
open Go.Maps (Keyed)
attribute [local go_sem] Oper.semAt_some

/-- An entry of a ring's map. -/
def kvR (x : Nat × ByteArray) : Value × Value := (.int .u32 (x.1 : Int), .agg #[.string x.2])
def kOf (p : Value × Value) : Nat := match p.1 with
  | .int _ z => z.toNat
  | _ => 0
theorem kOf_kvR (x : Nat × ByteArray) : kOf (kvR x) = x.1 := by simp [kOf, kvR]
theorem kOf_map (L : List (Nat × ByteArray)) : (L.map kvR).map kOf = L.map (·.1) := by
  rw [List.map_map]
  exact List.map_congr_left fun x _ => kOf_kvR x
set_option maxRecDepth 100000 in
set_option maxHeartbeats 2000000 in
theorem keys_stops (n : Nat) (hn : 1 ≤ n) (bm b : Nat) (L : List (Nat × ByteArray)) (w : World) (hbm : bm < w.heap.size) (hC : w.cell? ⟨bm, 0, none⟩ = some (.map (some b))) (hM : MapL w Tryz.prog 40 b (L.map kvR)) :
    SeqStopsK Fence.wide n Tryz.prog 128 #[.pointer (some ⟨bm, 0, none⟩)] (fun x : Nat => #[.int .u32 (x : Int)]) KeepsWalks
      (fun xs => xs.Perm (L.map (·.1))) (fun _ => True) L.length w := fun l J Jx W hW hJ hJx hY h0 => by
  have HY := Lib.hid hY; have HJ := Lib.hid hJ
  have hc := (hW.cell (p := ⟨bm, 0, none⟩) hbm).trans hC
  have hm : MapL W Tryz.prog 40 b (L.map kvR) := hM.same (hW.block b hM.lt)
  clear hC hM hW hY hJ hJx hbm
  refine callsIn_of_wp Tryz.func128 rfl trivial ?_ rfl
  simp only [Tryz.ntmps128, List.size_toArray, List.length_cons, List.length_nil, Nat.reduceAdd, Nat.reduceSub, Array.replicate_succ, Array.replicate_zero, List.push_toArray, List.append_toArray, List.nil_append, List.cons_append]
  gi_wp2_with (first
    | (gi_at_range; refine wpListIn_range_L _ rfl _ 110 rfl 40 108 Tryz.underlying110 b (L.map kvR) rfl hm ?_; intro w0 hrg0 hx0 hs0)
    | gi_in)
  (try go_frame)
  gi_loopw [3] (fun _ wr => ∃ (left : List (Value × Value)) (ys : List Nat), Hid (RangeL wr Tryz.prog 40 b W.heap.size (L.map kvR) left) ∧ Hid (∀ p ∈ left, ∃ x, p = kvR x) ∧ Hid ((ys ++ left.map kOf).Perm (L.map (·.1))) ∧ Hid (J ys wr))
    (fun _ wr => wr.rangeLeft b W.heap.size)
  case atStart =>
    refine ⟨L.map kvR, [], Lib.hid hrg0, Lib.hid (fun p hp => ?_), Lib.hid (by rw [List.nil_append, kOf_map]), Lib.hid (HJ.out [] W w0 none h0 ⟨hx0.os, hx0.tape, hx0.output, hx0.size, fun k hk _ => hx0.block k hk⟩ (fun r e => by cases e))⟩
    obtain ⟨x, _, rfl⟩ := List.mem_map.1 hp
    exact ⟨x, rfl⟩
  case round =>
    obtain ⟨left, ys, hrg, hinv, hperm, hJs⟩ := hrel
    gi_wp2_with (first
      | (gi_at_next; refine wpListIn_next_L _ rfl _ rfl 40 kvR b W.heap.size (L.map kvR) left hinv.out rfl hrg.out ?_ ?_)
      | gi_in)
    · intro hl0
      have HF : Hid (ys.Perm (L.map (·.1))) := Lib.hid (by have := hperm.out; rw [hl0] at this; simpa using this)
      clear hl0
      gi_wp2
      go_end0
      exact ⟨⟨_, rfl⟩, .inl ⟨ys, HF.out, hJs.out⟩⟩
    · intro x1 x2 left' w2 hp hrg2 hg2 hs2 hen
      obtain ⟨x, rfl, rfl⟩ : ∃ x : Nat × ByteArray, x1 = x.1 ∧ x2 = x.2 := ⟨(x1, x2), rfl, rfl⟩
      replace hp : left.Perm (kvR x :: left') := hp
      have hlen : ys.length < L.length := by
        have h1 := hperm.out.length_eq
        have h2 := hp.length_eq
        simp only [List.length_append, List.length_map, List.length_cons] at h1 h2
        omega
      obtain ⟨fn, tmps, assign, body, hy, hR⟩ := HY.out ys x.1 w2 (HJ.out _ _ _ (some W.heap.size) hJs.out hg2 (fun r e => by cases e; exact ⟨Nat.le_refl _, hrg.out.walk⟩)) hlen
      have HP := Lib.hid hp
      have HR2 := Lib.hid hrg2
      clear hs2 hp hrg2 hlen hg2
      unfold kvR at hen
      unfold kvR
      gi_wp2
      refine hR.mono ?_
      rintro e W3 (⟨rfl, hJ3, hk3⟩ | ⟨rfl, hJx3⟩)
      · gi_wp2
        have hrg3 := HR2.out.walks hk3
        go_roundw
        case rel =>
          refine ⟨left', ys ++ [x.1], Lib.hid hrg3, Lib.hid (fun p hp => hinv.out p (HP.out.mem_iff.2 (List.mem_cons_of_mem _ hp))), Lib.hid ?_, Lib.hid hJ3⟩
          have h1 := HP.out.map kOf
          rw [List.map_cons, kOf_kvR] at h1
          rw [List.append_assoc, List.singleton_append]
          exact ((h1.symm).append_left ys).trans hperm.out
        case measure =>
          rw [hrg3.left_eq, hrg.out.left_eq]
          have h2 := HP.out.length_eq
          simp only [List.length_cons] at h2
          omega
      · gi_wp2
        refine bodyPost_ret (results_none rfl _ _ _) rfl ?_
        exact ⟨⟨_, rfl⟩, .inr ⟨_, trivial, hJx3⟩⟩
theorem keys_any (b : Option Nat) (w : World) :
    Calls Tryz.prog 94 #[.map b] w fun e w' => e = .returned (.func (.func 128) #[] #[.pointer (some ⟨w.heap.size, 0, none⟩)]) ∧ w' = w.alloc (.cells #[.map b] 110) := by
  go_enter Tryz.func94, Tryz.ntmps94
  go_wp2
  go_ret
  exact ⟨rfl, rfl⟩
end Go.Proofs.YtobhbppogeghnaaGreatDoor
end
