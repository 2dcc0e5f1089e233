/- Plain: maps as lists of keys and elements, in the order in which they came; ranges over them. No function of the program is named here. Plain: maps as lists of keys and elements: an element that is stored whatever was there, a key that is deleted. -/
import Derived.Maps.RangeWalk
import Derived.Test.YtkjcpjalldbahaaGreatDoorM00
section
namespace Go.Proofs.YtkjcpjalldbahaaGreatDoor
open Go.RowKit Go.ChangeMaps Go.MapKept
open Go.Maps (Keyed)

/-- An entry's key and element. -/
def kv (e : MapEntry) : Value × Value := (e.key, e.val)
/-- Block b is a map of just these keys and elements. -/
def MapL (w : World) (P : Program) (k : TypeId) (b : Nat) (l : List (Value × Value)) : Prop :=
  ∃ es clock, w.heap[b]? = some (.map es clock) ∧ Stamped es clock ∧ es.toList.map kv = l ∧ ∀ p ∈ l, ∃ kl, keyOf P k p.1 = some kl
section
variable {w w' : World} {P : Program} {k : TypeId} {b : Nat} {l : List (Value × Value)}
theorem MapL.lt (h : MapL w P k b l) : b < w.heap.size := by
  obtain ⟨_, _, hb, _⟩ := h
  exact heap_lt hb
theorem MapL.same (h : MapL w P k b l) (e : w'.heap[b]? = w.heap[b]?) : MapL w' P k b l := by
  obtain ⟨es, c, hb, r⟩ := h
  exact ⟨es, c, e.trans hb, r⟩
theorem MapL.ext (h : MapL w P k b l) (hx : Ext w w') : MapL w' P k b l := h.same (hx.below.block b h.lt)
theorem MapL.alloc (h : MapL w P k b l) (o : Obj) : MapL (w.alloc o) P k b l := h.same (Below.heap_alloc w o b h.lt)
theorem MapL.drew (h : MapL w P k b l) : MapL w.drew P k b l := h
theorem MapL.grown {row : Option Nat} (h : MapL w P k b l) (hg : w.grownBy w' row) (hr : some b ≠ row) : MapL w' P k b l := h.same (hg.block b h.lt hr)
theorem MapL.made (w : World) (P : Program) (k : TypeId) : MapL (w.alloc (.map #[] 0)) P k w.heap.size [] :=
  ⟨#[], 0, heap_alloc_new w _, stamped_empty 0, rfl, by simp⟩
theorem MapL.is (h : MapL w P k b l) : ∃ es clock, w.heap[b]? = some (.map es clock) := by
  obtain ⟨es, c, hb, _⟩ := h
  exact ⟨es, c, hb⟩
theorem key_unique {es : Array MapEntry} {clock : Nat} (h : Stamped es clock) {x y : MapEntry} (hx : x ∈ es.toList) (hy : y ∈ es.toList) (hk : x.key = y.key) : x = y :=
  entry_eq_of_key ((stamped_iff es clock).1 h).2.2 hx hy hk
theorem keys_of {es : Array MapEntry} (hk : ∀ p ∈ es.toList.map kv, ∃ kl, keyOf P k p.1 = some kl) : ∀ e ∈ es.toList, ∃ l, keyOf P k e.key = some l :=
  fun e he => hk (kv e) (List.mem_map.2 ⟨e, he, rfl⟩)
/-- m[k], v, ok := m[k]: of what is there. -/
theorem MapL.look {t e : TypeId} (h : MapL w P k b l) (K : Keyed P k) (ht : P.underlying t = some (.map k e)) (c : Bool) {key v : Value} {kl : Lit} (hkey : keyOf P k key = some kl) (hm : (key, v) ∈ l) :
    (Instr.lookup t (.map (some b)) key c).run P w = .ok (if c then .tuple #[v, .bool true] else v) w := by
  obtain ⟨es, clock, hb, hs, rfl, hk⟩ := h
  obtain ⟨x, hx, hxk⟩ := List.mem_map.1 hm
  simp only [kv, Prod.mk.injEq] at hxk
  rcases K.find w hkey es.toList (keys_of hk) with ⟨h1, h2⟩ | ⟨j, e0, h1, h2, h3⟩
  · exact absurd hxk.1 (h2 x hx)
  · have e1 := key_unique hs (List.mem_of_getElem? h2) hx (h3.trans hxk.1.symm)
    rw [← hxk.2, ← e1]
    simp [Instr.lookup, run_underlying ht, MapKept.run_getObj_map hb, K.check w _ hkey, h1, Result.andThen]
/-- .. of what is not. -/
theorem MapL.look_none {t e : TypeId} (h : MapL w P k b l) (K : Keyed P k) (ht : P.underlying t = some (.map k e)) (c : Bool) {z : Value} (hz : (zeroValue e).run P w = .ok z w) {key : Value} {kl : Lit} (hkey : keyOf P k key = some kl)
    (hm : ∀ p ∈ l, p.1 ≠ key) : (Instr.lookup t (.map (some b)) key c).run P w = .ok (if c then .tuple #[z, .bool false] else z) w := by
  obtain ⟨es, clock, hb, hs, rfl, hk⟩ := h
  rcases K.find w hkey es.toList (keys_of hk) with ⟨h1, h2⟩ | ⟨j, e0, h1, h2, h3⟩
  · simp [Instr.lookup, run_underlying ht, MapKept.run_getObj_map hb, K.check w _ hkey, h1, hz, Result.andThen]
  · exact absurd h3 (hm (kv e0) (List.mem_map.2 ⟨e0, List.mem_of_getElem? h2, rfl⟩))
/-- m[k] = v, where k is not there. -/
theorem MapL.put {t e : TypeId} (h : MapL w P k b l) (K : Keyed P k) (ht : P.underlying t = some (.map k e)) {key val : Value} {kl : Lit} (hkey : keyOf P k key = some kl) (hm : ∀ p ∈ l, p.1 ≠ key) :
    ∃ w', (Instr.mapUpdate t (.map (some b)) key val).run P w = .ok () w' ∧ MapL w' P k b (l ++ [(key, val)]) ∧ w.mapTurned w' b := by
  obtain ⟨es, clock, hb, hs, rfl, hk⟩ := h
  rcases K.find w hkey es.toList (keys_of hk) with ⟨h1, h2⟩ | ⟨j, e0, h1, h2, h3⟩
  · refine ⟨setBlock w b (.map (es.push ⟨key, val, clock⟩) (clock + 1)), ?_, ⟨_, _, heap_setBlock_same hb _, stamped_push hs h2, by simp [kv], ?_⟩, ⟨es, clock, _, _, hb, rfl⟩⟩
    · simp [Instr.mapUpdate, run_underlying ht, MapKept.run_getObj_map hb, K.check w false hkey, h1, MapKept.run_setObj_map _ hb, Result.andThen, setBlock]
    · intro p hp
      rcases List.mem_append.1 hp with hp | hp
      · exact hk p hp
      · rw [List.mem_singleton] at hp
        subst hp
        exact ⟨kl, hkey⟩
  · exact absurd h3 (hm (kv e0) (List.mem_map.2 ⟨e0, List.mem_of_getElem? h2, rfl⟩))
theorem MapL.len {t e : TypeId} (h : MapL w P k b l) (ht : P.underlying t = some (.map k e)) (ty : TypeId) : (Builtin.len_ #[t] ty #[.map (some b)]).run P w = .ok (.int .i64 (l.length : Int)) w := by
  obtain ⟨es, clock, hb, hs, rfl, hk⟩ := h
  simp [Builtin.len_, run_underlying ht, MapKept.run_getObj_map hb, goInt, Result.andThen]
theorem MapL.clear {t e : TypeId} (h : MapL w P k b l) (ht : P.underlying t = some (.map k e)) :
    ∃ w', (∀ ty : TypeId, (Builtin.clear_ #[t] ty #[.map (some b)]).run P w = .ok (.tuple #[]) w') ∧ MapL w' P k b [] ∧ w.mapTurned w' b := by
  obtain ⟨es, clock, hb, hs, rfl, hk⟩ := h
  refine ⟨setBlock w b (.map #[] clock), fun ty => ?_, ⟨#[], clock, heap_setBlock_same hb _, stamped_empty _, rfl, by simp⟩, ⟨es, clock, _, _, hb, rfl⟩⟩
  simp [Builtin.clear_, run_underlying ht, MapKept.run_getObj_map hb, MapKept.run_setObj_map _ hb, Result.andThen, setBlock]
end

/-! ### Ranges -/
/-- Block r is a range over the map in block b; these are still to come. -/
def RangeL (w : World) (P : Program) (k : TypeId) (b r : Nat) (l left : List (Value × Value)) : Prop :=
  ∃ es clock since seen c0, w.heap[b]? = some (.map es clock) ∧ Stamped es clock ∧ es.toList.map kv = l ∧ (∀ p ∈ l, ∃ kl, keyOf P k p.1 = some kl) ∧ w.heap[r]? = some (.mapIter (some b) since seen c0) ∧
    (∀ x ∈ es.toList, x.born < since) ∧ since ≤ c0 ∧ since ≤ clock ∧ (leftOf es seen).toList.map kv = left
section
variable {w w' : World} {P : Program} {k : TypeId} {b r : Nat} {l left : List (Value × Value)}
theorem RangeL.map (h : RangeL w P k b r l left) : MapL w P k b l := by
  obtain ⟨es, clock, since, seen, c0, hb, hs, hl, hk, _⟩ := h
  exact ⟨es, clock, hb, hs, hl, hk⟩
theorem RangeL.lt (h : RangeL w P k b r l left) : r < w.heap.size := by
  obtain ⟨es, clock, since, seen, c0, hb, hs, hl, hk, hr, _⟩ := h
  exact heap_lt hr
theorem RangeL.ne (h : RangeL w P k b r l left) : r ≠ b := by
  obtain ⟨es, clock, since, seen, c0, hb, hs, hl, hk, hr, _⟩ := h
  intro e
  rw [e, hb] at hr
  cases hr
theorem RangeL.same (h : RangeL w P k b r l left) (e1 : w'.heap[b]? = w.heap[b]?) (e2 : w'.heap[r]? = w.heap[r]?) : RangeL w' P k b r l left := by
  obtain ⟨es, clock, since, seen, c0, hb, hs, hl, hk, hr, rest⟩ := h
  exact ⟨es, clock, since, seen, c0, e1.trans hb, hs, hl, hk, e2.trans hr, rest⟩
theorem RangeL.ext (h : RangeL w P k b r l left) (hx : Ext w w') : RangeL w' P k b r l left := h.same (hx.below.block b h.map.lt) (hx.below.block r h.lt)
theorem RangeL.alloc (h : RangeL w P k b r l left) (o : Obj) : RangeL (w.alloc o) P k b r l left := h.same (Below.heap_alloc w o b h.map.lt) (Below.heap_alloc w o r h.lt)
theorem RangeL.drew (h : RangeL w P k b r l left) : RangeL w.drew P k b r l left := h
theorem RangeL.setCell (h : RangeL w P k b r l left) {g : Nat} (hb : b ≠ g) (hr : r ≠ g) (o : Nat) (u : Value) : RangeL (w.setCell ⟨g, o, none⟩ u) P k b r l left := h.same (Below.heap_setCell _ _ _ _ hb) (Below.heap_setCell _ _ _ _ hr)
theorem RangeL.left_eq (h : RangeL w P k b r l left) : w.rangeLeft b r = left.length := by
  obtain ⟨es, clock, since, seen, c0, hb, hs, hl, hk, hr, _, _, _, rfl⟩ := h
  simp [World.rangeLeft, hb, hr]
theorem filter_filter_born (l : List MapEntry) (seen : Array Nat) (n : Nat) : l.filter (fun x => !(seen.push n).contains x.born) = (l.filter fun x => !seen.contains x.born).filter (fun x => x.born != n) := by
  rw [List.filter_filter]
  congr 1
  funext x
  rw [contains_push]
  cases seen.contains x.born <;> cases h : (x.born == n) <;> simp [bne, h]
theorem perm_born : ∀ {l : List MapEntry}, (l.map (·.born)).Nodup → ∀ {e : MapEntry}, e ∈ l → l.Perm (e :: l.filter (fun x => x.born != e.born))
  | [], _, _, he => by simp at he
  | a :: r, hn, e, he => by
    have hn' : a.born ∉ r.map (·.born) ∧ (r.map (·.born)).Nodup := List.nodup_cons.1 hn
    rcases List.mem_cons.1 he with rfl | he
    · have e1 : r.filter (fun x => x.born != e.born) = r := List.filter_eq_self.2 fun x hx => by
        have : x.born ≠ e.born := fun q => hn'.1 (q ▸ List.mem_map.2 ⟨x, hx, rfl⟩)
        simpa using this
      rw [List.filter_cons, if_neg (by simp), e1]
    · have e1 : (a.born != e.born) = true := by
        have : a.born ≠ e.born := fun q => hn'.1 (q ▸ List.mem_map.2 ⟨e, he, rfl⟩)
        simpa using this
      rw [List.filter_cons, if_pos e1]
      exact ((perm_born hn'.2 he).cons a).trans (List.Perm.swap _ _ _)
/-- The step. -/
theorem RangeL.next (h : RangeL w P k b r l left) (ty : TypeId) :
    (left = [] ∧ (Instr.next (.pointer (some ⟨r, 0, none⟩)) false ty).run P w = .ok (.tuple #[.bool false]) w) ∨
    ∃ p left' w', left.Perm (p :: left') ∧ (Instr.next (.pointer (some ⟨r, 0, none⟩)) false ty).run P w = .ok (.tuple #[.bool true, p.1, p.2]) w' ∧ RangeL w' P k b r l left' ∧ w.grownBy w' (some r) ∧ w'.heap.size = w.heap.size ∧
      (Instr.entry (.pointer (some ⟨r, 0, none⟩))).run P w' = .ok (.tuple #[p.1, p.2]) w' := by
  have hne := h.ne
  obtain ⟨es, clock, since, seen, c0, hb, hs, rfl, hk, hr, hold, hsc, hsk, rfl⟩ := h
  have hst := (stamped_iff es clock).1 hs
  rcases run_next_at (P := P) w ty r b since c0 seen es clock hr hb hold hsc with ⟨h0, hrun⟩ | ⟨e, he, w1, hal, hrun⟩
  · have : leftOf es seen = #[] := Array.eq_empty_of_size_eq_zero h0
    exact .inl ⟨by rw [this]; rfl, hrun⟩
  · obtain ⟨hem, hes⟩ := mem_left he
    have hr1 : w1.heap[r]? = some (.mapIter (some b) since seen c0) := by rcases hal with rfl | rfl <;> exact hr
    have hb1 : w1.heap[b]? = some (.map es clock) := by rcases hal with rfl | rfl <;> exact hb
    have hset := heap_set (o' := .mapIter (some b) since (seen.push e.born) clock) hr1
    have hb' : (setBlock w1 r (.mapIter (some b) since (seen.push e.born) clock)).heap[b]? = some (.map es clock) := (hset.2 b (fun e1 => hne e1.symm)).trans hb1
    have hl1 : (leftOf es seen).toList = es.toList.filter fun x => !seen.contains x.born := by unfold leftOf; rw [Array.toList_filter]
    have hl2 : (leftOf es (seen.push e.born)).toList = (leftOf es seen).toList.filter (fun x => x.born != e.born) := by
      rw [hl1, ← filter_filter_born]; unfold leftOf; rw [Array.toList_filter]
    have hnd : ((leftOf es seen).toList.map (·.born)).Nodup := by
      rw [hl1]
      exact hst.2.1.sublist (List.filter_sublist.map _)
    refine .inr ⟨kv e, (leftOf es (seen.push e.born)).toList.map kv, setBlock w1 r (.mapIter (some b) since (seen.push e.born) clock), ?_, hrun,
      ⟨es, clock, since, seen.push e.born, clock, hb', hs, rfl, hk, hset.1, hold, hsk, hsk, rfl⟩, ?_, ?_, run_entry_at _ r b since seen es clock e hset.1 hb' hem hst.2.1⟩
    · rw [hl2]
      exact (perm_born hnd he).map kv
    · rcases hal with rfl | rfl <;> exact ⟨rfl, rfl, rfl, by simp [setBlock], fun i _ hi => hset.2 i (fun e1 => hi (by rw [e1]))⟩
    · rcases hal with rfl | rfl <;> simp [setBlock]
end
/-- for k, v := range m: ahead of the loop. -/
theorem MapL.range {w : World} {P : Program} {k : TypeId} {b : Nat} {l : List (Value × Value)} (h : MapL w P k b l) {t e : TypeId} (ht : P.underlying t = some (.map k e)) :
    ∃ w', (Instr.range t (.map (some b))).run P w = .ok (.pointer (some ⟨w.heap.size, 0, none⟩)) w' ∧ RangeL w' P k b w.heap.size l l ∧ Ext w w' ∧ w'.heap.size = w.heap.size + 1 := by
  have hlt := h.lt
  obtain ⟨es, clock, hb, hs, rfl, hk⟩ := h
  refine ⟨_, run_range_map w t k e b es clock ht hb, ⟨es, clock, clock, #[], clock, (Below.heap_alloc w _ b hlt).trans hb, hs, rfl, hk, heap_alloc_new w _, ((stamped_iff es clock).1 hs).1, Nat.le_refl _, Nat.le_refl _, ?_⟩, (Ext.refl w).alloc _, by simp⟩
  unfold leftOf
  rw [Array.toList_filter]
  congr 1
  exact List.filter_eq_self.2 fun x _ => by simp
section
variable {P : Program} (w : World) {ops : Array Oper} {rest : List Oper} {o : Oper} {a : Act} {Q : Exit → Act → World → Prop}
theorem wpList_range_L (hg : o.guard = none) (m : Operand) (t : TypeId) (hop : o.op = Op.range t m) (k e : TypeId) (ht : P.underlying t = some (.map k e)) (b : Nat) (l : List (Value × Value))
    (hm : a.eval m = .map (some b)) (h : MapL w P k b l)
    (hK : ∀ w', RangeL w' P k b w.heap.size l l → Ext w w' → w'.heap.size = w.heap.size + 1 → wpList P ops Q rest (a.put o.dst (.pointer (some ⟨w.heap.size, 0, none⟩))) w') :
    wpList P ops Q (o :: rest) a w := by
  refine wpList_plain hg fun K' hK' => ?_
  obtain ⟨w', hrun, r1, r2, r3⟩ := h.range ht
  unfold Oper.wp
  simp [execOp, hop, hm, hrun, Result.andThen]
  exact hK' _ _ (hK w' r1 r2 r3)
/-- The step, at entries of a shape. -/
theorem wpList_next_L {α : Type} (hg : o.guard = none) (it : Operand) (hop : o.op = Op.next it false) (k : TypeId) (f : α → Value × Value) (b r : Nat) (l left : List (Value × Value)) (inv : ∀ p ∈ left, ∃ x, p = f x)
    (hit : a.eval it = .pointer (some ⟨r, 0, none⟩)) (h : RangeL w P k b r l left)
    (hDone : left = [] → wpList P ops Q rest (a.put o.dst (.tuple #[.bool false])) w)
    (hMore : ∀ (x : α) (left' : List (Value × Value)) (w' : World), left.Perm (f x :: left') → RangeL w' P k b r l left' → w.grownBy w' (some r) → w'.heap.size = w.heap.size →
      (Instr.entry (.pointer (some ⟨r, 0, none⟩))).run P w' = .ok (.tuple #[(f x).1, (f x).2]) w' → wpList P ops Q rest (a.put o.dst (.tuple #[.bool true, (f x).1, (f x).2])) w') :
    wpList P ops Q (o :: rest) a w := by
  refine wpList_plain hg fun K' hK' => ?_
  unfold Oper.wp
  rcases h.next o.type with ⟨h0, hrun⟩ | ⟨p, left', w', hp, hrun, hrg, hgr, hsz, hen⟩
  · simp [execOp, hop, hit, hrun, Result.andThen]
    exact hK' _ _ (hDone h0)
  · obtain ⟨x, rfl⟩ := inv p (hp.mem_iff.2 (by simp))
    simp [execOp, hop, hit, hrun, Result.andThen]
    exact hK' _ _ (hMore x left' w' hp hrg hgr hsz hen)
end
/-- m[k] = v, where k is not there, as a step of a region that draws its order. -/
theorem step_put_L {P : Program} {w : World} {ops : Array Oper} {o : Oper} {a : Act} {K : Act → World → Prop} {Q : Exit → Act → World → Prop} {E : Prop} (hg : o.guard = none) (m x v : Operand) (t : TypeId) (ho : o.op = Op.mapUpdate t m x v)
    (k e : TypeId) (KK : Keyed P k) (ht : P.underlying t = some (.map k e)) (b : Nat) (l : List (Value × Value)) (hm : a.eval m = .map (some b)) (h : MapL w P k b l) (key val : Value) (kl : Lit) (hx : a.eval x = key) (hv : a.eval v = val)
    (hkey : keyOf P k key = some kl) (hn : ∀ p ∈ l, p.1 ≠ key) (hK : ∀ w', MapL w' P k b (l ++ [(key, val)]) → w.mapTurned w' b → K (a.put o.dst undef) w') : if Region.wanted o (yielded ops a.tmps) = true then Oper.wp P o a w K Q else E := by
  have hw : Region.wanted o (yielded ops a.tmps) = true := by simp [Region.wanted, hg]
  rw [if_pos hw]
  obtain ⟨w', hrun, r1, r2⟩ := h.put (val := val) KK ht hkey hn
  unfold Oper.wp
  simp [execOp, ho, hm, hx, hv, hrun, Result.andThen]
  exact hK w' r1 r2
theorem Ext.grown {a b c : World} {row : Option Nat} (h : Ext a b) (hg : b.grownBy c row) (hr : ∀ k, row = some k → a.heap.size ≤ k) : Ext a c := Below.grown h hg h.size hr
end Go.Proofs.YtkjcpjalldbahaaGreatDoor
end

section
namespace Go.Proofs.YtkjcpjalldbahaaGreatDoor
open Go.RowKit Go.ChangeMaps Go.MapKept
open Go.Maps (Keyed)

theorem keys_apart {es : Array MapEntry} {clock : Nat} (h : Stamped es clock) {i j : Nat} {x y : MapEntry} (hx : es.toList[i]? = some x) (hy : es.toList[j]? = some y) (hij : i ≠ j) : x.key ≠ y.key := by
  have hp := ((stamped_iff es clock).1 h).2.2
  rw [List.pairwise_iff_getElem] at hp
  obtain ⟨h1, rfl⟩ := List.getElem?_eq_some_iff.1 hx
  obtain ⟨h2, rfl⟩ := List.getElem?_eq_some_iff.1 hy
  rcases Nat.lt_or_gt_of_ne hij with h | h
  · exact hp i j h1 h2 h
  · exact fun e => hp j i h2 h1 h e.symm
section
variable {w w' : World} {P : Program} {k : TypeId} {b : Nat} {l : List (Value × Value)}
/-- m[k] = v. -/
theorem MapL.store {t e : TypeId} (h : MapL w P k b l) (K : Keyed P k) (ht : P.underlying t = some (.map k e)) {key val : Value} {kl : Lit} (hkey : keyOf P k key = some kl) :
    ∃ w' l', (Instr.mapUpdate t (.map (some b)) key val).run P w = .ok () w' ∧ MapL w' P k b l' ∧ (∀ p, p ∈ l' ↔ (p ∈ l ∧ p.1 ≠ key) ∨ p = (key, val)) ∧ w.mapTurned w' b := by
  obtain ⟨es, clock, hb, hs, rfl, hk⟩ := h
  rcases K.find w hkey es.toList (keys_of hk) with ⟨h1, h2⟩ | ⟨j, e0, h1, h2, h3⟩
  · refine ⟨setBlock w b (.map (es.push ⟨key, val, clock⟩) (clock + 1)), es.toList.map kv ++ [(key, val)], ?_, ⟨_, _, heap_setBlock_same hb _, stamped_push hs h2, by simp [kv], ?_⟩, ?_, ⟨es, clock, _, _, hb, rfl⟩⟩
    · simp [Instr.mapUpdate, run_underlying ht, MapKept.run_getObj_map hb, K.check w false hkey, h1, MapKept.run_setObj_map _ hb, Result.andThen, setBlock]
    · intro p hp
      rcases List.mem_append.1 hp with hp | hp
      · exact hk p hp
      · rw [List.mem_singleton] at hp
        subst hp
        exact ⟨kl, hkey⟩
    · intro p
      rw [List.mem_append, List.mem_singleton]
      refine or_congr ⟨fun hp => ⟨hp, ?_⟩, fun hp => hp.1⟩ Iff.rfl
      obtain ⟨x, hx, rfl⟩ := List.mem_map.1 hp
      exact h2 x hx
  · have hj : es[j]? = some e0 := by simpa using h2
    have hjl : j < es.toList.length := (List.getElem?_eq_some_iff.1 h2).1
    have hkeyf : ∀ e', es[j]? = some e' → ({ e' with key := key, val := val } : MapEntry).key = e'.key := fun e' he' => by rw [hj] at he'; cases he'; exact h3.symm
    have hlist : (es.modify j (fun e' => { e' with key := key, val := val })).toList = es.toList.set j { e0 with key := key, val := val } := by
      apply List.ext_getElem?
      intro i
      rw [Array.getElem?_toList, Array.getElem?_modify, List.getElem?_set]
      by_cases hij : j = i
      · subst hij
        rw [if_pos rfl, if_pos rfl, hj, if_pos hjl]
        rfl
      · rw [if_neg hij, if_neg hij, Array.getElem?_toList]
    have hmem : ∀ p, p ∈ (es.toList.set j { e0 with key := key, val := val }).map kv ↔ (p ∈ es.toList.map kv ∧ p.1 ≠ key) ∨ p = (key, val) := by
      intro p
      constructor
      · intro hp
        obtain ⟨x, hx, rfl⟩ := List.mem_map.1 hp
        obtain ⟨i, hi⟩ := List.getElem?_of_mem hx
        rw [List.getElem?_set] at hi
        split at hi
        · cases hi; right; rfl
        · rename_i hne
          left
          exact ⟨List.mem_map.2 ⟨x, List.mem_of_getElem? hi, rfl⟩, fun e => keys_apart hs hi h2 (fun q => hne q.symm) (e.trans h3.symm)⟩
      · rintro (⟨hp, hn⟩ | rfl)
        · obtain ⟨x, hx, rfl⟩ := List.mem_map.1 hp
          obtain ⟨i, hi⟩ := List.getElem?_of_mem hx
          have hij : ¬ j = i := fun e => by
            subst e
            rw [h2] at hi
            cases hi
            exact hn h3
          exact List.mem_map.2 ⟨x, List.mem_of_getElem? (i := i) (by rw [List.getElem?_set, if_neg hij]; exact hi), rfl⟩
        · exact List.mem_map.2 ⟨{ e0 with key := key, val := val }, List.mem_of_getElem? (i := j) (by rw [List.getElem?_set, if_pos rfl, if_pos hjl]), rfl⟩
    refine ⟨setBlock w b (.map (es.modify j (fun e' => { e' with key := key, val := val })) clock), (es.toList.set j { e0 with key := key, val := val }).map kv, ?_, ⟨_, _, heap_setBlock_same hb _, stamped_modify hs _ _ (fun _ _ => rfl) (fun e' _ he' => hkeyf e' he'), by rw [hlist], ?_⟩, hmem, ⟨es, clock, _, _, hb, rfl⟩⟩
    · simp [Instr.mapUpdate, run_underlying ht, MapKept.run_getObj_map hb, K.check w false hkey, h1, hj, h3, K.stays w hkey, MapKept.run_setObj_map _ hb, Result.andThen, setBlock]
    · intro p hp
      rcases (hmem p).1 hp with hp | rfl
      · exact hk p hp.1
      · exact ⟨kl, hkey⟩
/-- delete(m, k). -/
theorem MapL.drop {t e : TypeId} (h : MapL w P k b l) (K : Keyed P k) (ht : P.underlying t = some (.map k e)) {key : Value} {kl : Lit} (hkey : keyOf P k key = some kl) :
    ∃ w' l', (∀ ty, (Builtin.delete_ #[t, k] ty #[.map (some b), key]).run P w = .ok (.tuple #[]) w') ∧ MapL w' P k b l' ∧ (∀ p, p ∈ l' ↔ p ∈ l ∧ p.1 ≠ key) ∧ w.mapTurned w' b := by
  obtain ⟨es, clock, hb, hs, rfl, hk⟩ := h
  rcases K.find w hkey es.toList (keys_of hk) with ⟨h1, h2⟩ | ⟨j, e0, h1, h2, h3⟩
  · refine ⟨setBlock w b (.map es clock), es.toList.map kv, fun ty => ?_, ⟨_, _, heap_setBlock_same hb _, hs, rfl, hk⟩, fun p => ⟨fun hp => ⟨hp, ?_⟩, fun hp => hp.1⟩, ⟨es, clock, _, _, hb, rfl⟩⟩
    · simp [Builtin.delete_, run_underlying ht, MapKept.run_getObj_map hb, K.check w _ hkey, h1, MapKept.run_setObj_map _ hb, Result.andThen, setBlock]
    · obtain ⟨x, hx, rfl⟩ := List.mem_map.1 hp
      exact h2 x hx
  · have hjl : j < es.toList.length := (List.getElem?_eq_some_iff.1 h2).1
    have hjs : j < es.size := by simpa using hjl
    have hsub : (es.eraseIdxIfInBounds j).toList = es.toList.eraseIdx j := by
      unfold Array.eraseIdxIfInBounds
      rw [dif_pos hjs, Array.toList_eraseIdx]
    have hmem : ∀ p, p ∈ (es.toList.eraseIdx j).map kv ↔ p ∈ es.toList.map kv ∧ p.1 ≠ key := by
      intro p
      constructor
      · intro hp
        obtain ⟨x, hx, rfl⟩ := List.mem_map.1 hp
        obtain ⟨i, hne, hi⟩ := List.mem_eraseIdx_iff_getElem?.1 hx
        exact ⟨List.mem_map.2 ⟨x, List.mem_of_getElem? hi, rfl⟩, fun e => keys_apart hs hi h2 hne (e.trans h3.symm)⟩
      · rintro ⟨hp, hn⟩
        obtain ⟨x, hx, rfl⟩ := List.mem_map.1 hp
        obtain ⟨i, hi⟩ := List.getElem?_of_mem hx
        have hij : i ≠ j := fun e => by
          subst e
          rw [h2] at hi
          cases hi
          exact hn h3
        exact List.mem_map.2 ⟨x, List.mem_eraseIdx_iff_getElem?.2 ⟨i, hij, hi⟩, rfl⟩
    refine ⟨setBlock w b (.map (es.eraseIdxIfInBounds j) clock), (es.toList.eraseIdx j).map kv, fun ty => ?_, ⟨_, _, heap_setBlock_same hb _, stamped_erase hs j, by rw [hsub], fun p hp => hk p ((hmem p).1 hp).1⟩, hmem, ⟨es, clock, _, _, hb, rfl⟩⟩
    simp [Builtin.delete_, run_underlying ht, MapKept.run_getObj_map hb, K.check w _ hkey, h1, MapKept.run_setObj_map _ hb, Result.andThen, setBlock]
end
end Go.Proofs.YtkjcpjalldbahaaGreatDoor
end
