/- Plain: what each block is to an object (a footprint); slices of elements of so many cells, nil or not; append to one, in place or not. Plain: make([]byte, n). append in a walk, to slices by footprints. A slice in one block of its own. -/
import Derived.Test.YtkjcpjalldbahaaGreatDoorM00
import Derived.Deep.AppendSrc
import Derived.Deep.Upon
import Derived.Test.YtkjcpjalldbahaaGreatDoorProg
import Derived.WalkSpells
import Derived.Outline
section
namespace Go.Proofs.YtkjcpjalldbahaaGreatDoor
open Go.RowKit

/-- What each block is to an object: 0: nothing; 1: nobody writes it any more; another number: which part of it. -/
abbrev Foot := Nat → Nat
/-- From w to w' only blocks of the kinds P were written; new ones may be of any kind. -/
structure Fr (κ : Foot) (P : Nat → Prop) (w w' : World) (κ' : Foot) : Prop where
  os : w'.os = w.os
  tape : w'.tape = w.tape
  output : w'.output = w.output
  size : w.heap.size ≤ w'.heap.size
  other : ∀ g, g < w.heap.size → ¬ P (κ g) → w'.heap[g]? = w.heap[g]?
  foot : ∀ g, g < w.heap.size → κ' g = κ g
  ins : (∀ g, κ g ≠ 0 → g < w.heap.size) → ∀ g, κ' g ≠ 0 → g < w'.heap.size
section
variable {κ κ' κ'' : Foot} {P P' : Nat → Prop} {w w' w'' : World}
theorem Fr.refl (κ : Foot) (P : Nat → Prop) (w : World) : Fr κ P w w κ := ⟨rfl, rfl, rfl, Nat.le_refl _, fun _ _ _ => rfl, fun _ _ => rfl, fun h => h⟩
theorem Fr.trans (h : Fr κ P w w' κ') (k : Fr κ' P w' w'' κ'') : Fr κ P w w'' κ'' :=
  ⟨k.os.trans h.os, k.tape.trans h.tape, k.output.trans h.output, Nat.le_trans h.size k.size,
    fun g hg hp => (k.other g (Nat.lt_of_lt_of_le hg h.size) (by rw [h.foot g hg]; exact hp)).trans (h.other g hg hp),
    fun g hg => (k.foot g (Nat.lt_of_lt_of_le hg h.size)).trans (h.foot g hg), fun i => k.ins (h.ins i)⟩
theorem Fr.mono (h : Fr κ P w w' κ') (hp : ∀ k, P k → P' k) : Fr κ P' w w' κ' := ⟨h.os, h.tape, h.output, h.size, fun g hg hn => h.other g hg fun x => hn (hp _ x), h.foot, h.ins⟩
theorem Ext.fr (h : Ext w w') (κ : Foot) (P : Nat → Prop) : Fr κ P w w' κ := ⟨h.os, h.tape, h.output, h.size, fun g hg _ => h.block g hg, fun _ _ => rfl, fun i g hg => Nat.lt_of_lt_of_le (i g hg) h.size⟩
theorem Fr.ext (h : Fr κ P w w' κ') (k : Ext w' w'') : Fr κ P w w'' κ' := h.trans (k.fr κ' P)
theorem Fr.alloc (h : Fr κ P w w' κ') (o : Obj) : Fr κ P w (w'.alloc o) κ' := h.ext ((Ext.refl _).alloc o)
theorem Fr.drew (h : Fr κ P w w' κ') : Fr κ P w w'.drew κ' := ⟨h.os, h.tape, h.output, h.size, h.other, h.foot, h.ins⟩
theorem Fr.drewN (h : Fr κ P w w' κ') (n : Nat) : Fr κ P w (w'.drewN n) κ' := ⟨h.os, h.tape, h.output, h.size, h.other, h.foot, h.ins⟩
theorem setCell_fr (w : World) (κ : Foot) (P : Nat → Prop) (p : Addr) (hp : P (κ p.block)) (u : Value) : Fr κ P w (w.setCell p u) κ :=
  ⟨rfl, rfl, rfl, by simp [World.setCell], fun g _ hn => Below.heap_setCell _ _ _ _ (fun e => hn (by rw [e]; exact hp)), fun _ _ => rfl, fun i g hg => by have := i g hg; simpa [World.setCell] using this⟩
theorem Fr.setCell (h : Fr κ P w w' κ') {p : Addr} (hp : P (κ' p.block)) (u : Value) : Fr κ P w (w'.setCell p u) κ' := h.trans (setCell_fr _ _ _ p hp u)
theorem setCells_fr {κ : Foot} {P : Nat → Prop} {b : Nat} (hp : P (κ b)) : ∀ (vs : List Value) (o : Nat) (w : World), Fr κ P w (w.setCells b o vs) κ
  | [], _, w => Fr.refl _ _ w
  | v :: r, o, w => (setCell_fr w κ P ⟨b, o, none⟩ hp v).trans (setCells_fr hp r (o + 1) _)
/-- What lies below all blocks of the object is as it was. -/
theorem Fr.below (h : Fr κ P w w' κ') {B : Nat} (hP : ¬ P 0) (hB : ∀ g, g < B → κ g = 0) (hw : B ≤ w.heap.size) : Below B w w' :=
  ⟨h.os, h.tape, h.output, h.size, fun g hg => h.other g (by omega) (by rw [hB g hg]; exact hP)⟩
/-- What is none of the object's is as it was. -/
theorem Fr.blk (h : Fr κ P w w' κ') {b : Nat} {T : TypeId} {cs : List Value} (hb : Blk w b T cs) (hp : ¬ P (κ b)) : Blk w' b T cs := (h.other b hb.lt hp).trans hb
/-- A new block of kind k. -/
def setK (κ : Foot) (g k : Nat) : Foot := fun x => if x = g then k else κ x
theorem setK_same (κ : Foot) (g k : Nat) : setK κ g k g = k := by simp [setK]
theorem setK_other (κ : Foot) {g x : Nat} (k : Nat) (h : x ≠ g) : setK κ g k x = κ x := by simp [setK, h]
theorem new_fr (κ : Foot) (P : Nat → Prop) (w : World) (o : Obj) (k : Nat) : Fr κ P w (w.alloc o) (setK κ w.heap.size k) :=
  ⟨rfl, rfl, rfl, by simp, fun g hg _ => Below.heap_alloc _ _ _ hg, fun g hg => setK_other _ _ (by omega), fun i g hg => by
    simp only [World.alloc, Array.size_push]
    by_cases e : g = w.heap.size
    · omega
    · rw [setK_other _ _ e] at hg; have := i g hg; omega⟩
theorem Fr.new (h : Fr κ P w w' κ') (o : Obj) (k : Nat) : Fr κ P w (w'.alloc o) (setK κ' w'.heap.size k) := h.trans (new_fr _ _ _ _ _)
end

/-- A slice, nil or from the head of a block on, of n elements of z cells, with room for c: these cells. What has room lies in a block of kind k. -/
def Sl (w : World) (κ : Foot) (k z : Nat) (T : TypeId) (p : Option Addr) (n c : Nat) (vs : List Value) : Prop :=
  vs.length = n * z ∧ n ≤ c ∧ (p = none ∨ ∃ g, p = some ⟨g, 0, none⟩) ∧
  (0 < c → ∃ g cur, p = some ⟨g, 0, none⟩ ∧ κ g = k ∧ w.heap[g]? = some (.cells cur T (0, 0)) ∧ c * z ≤ cur.size ∧ ∀ (j : Nat) (u : Value), vs[j]? = some u → cur[j]? = some u)
/-- What is written behind n elements of p hurts none of the n0 of q: they lie apart, or there is no room behind, or no more of them. -/
def Al (p : Option Addr) (n c : Nat) (q : Option Addr) (n0 : Nat) : Prop := ∀ g, p = some ⟨g, 0, none⟩ → q = some ⟨g, 0, none⟩ → c = n ∨ n0 ≤ n
theorem Al.same (p : Option Addr) (n c : Nat) (q : Option Addr) : Al p n c q n := fun _ _ _ => .inr (Nat.le_refl _)
section
variable {w w' : World} {κ κ' : Foot} {P : Nat → Prop} {k z : Nat} {T : TypeId} {p : Option Addr} {n c : Nat} {vs : List Value}
theorem Sl.nil (w : World) (κ : Foot) (k z : Nat) (T : TypeId) : Sl w κ k z T none 0 0 [] := ⟨by simp, Nat.le_refl _, .inl rfl, fun h => by omega⟩
theorem Sl.empty (w : World) (κ : Foot) (k z : Nat) (T : TypeId) (g : Nat) : Sl w κ k z T (some ⟨g, 0, none⟩) 0 0 [] := ⟨by simp, Nat.le_refl _, .inr ⟨g, rfl⟩, fun h => by omega⟩
theorem Sl.same (h : Sl w κ k z T p n c vs) (hb : ∀ g, g < w.heap.size → κ g = k → w'.heap[g]? = w.heap[g]?) (hκ : ∀ g, g < w.heap.size → κ g = k → κ' g = k) : Sl w' κ' k z T p n c vs := by
  refine ⟨h.1, h.2.1, h.2.2.1, fun hc => ?_⟩
  obtain ⟨g, cur, h1, h2, h3, h4⟩ := h.2.2.2 hc
  exact ⟨g, cur, h1, hκ g (heap_lt h3) h2, (hb g (heap_lt h3) h2).trans h3, h4⟩
theorem Sl.fr (h : Sl w κ k z T p n c vs) (f : Fr κ P w w' κ') (hk : ¬ P k) : Sl w' κ' k z T p n c vs :=
  h.same (fun g hg e => f.other g hg (by rw [e]; exact hk)) (fun g hg e => (f.foot g hg).trans e)
theorem Sl.ext (h : Sl w κ k z T p n c vs) (f : Ext w w') : Sl w' κ k z T p n c vs := h.same (fun g hg _ => f.block g hg) (fun _ _ e => e)
/-- The cells of a slice. -/
theorem Sl.cell (h : Sl w κ k z T p n c vs) {j : Nat} {u : Value} (hj : vs[j]? = some u) : ∃ g, p = some ⟨g, 0, none⟩ ∧ g < w.heap.size ∧ κ g = k ∧ w.cell? ⟨g, j, none⟩ = some u ∧ w.frozen? ⟨g, j, none⟩ = false := by
  have hl : j < vs.length := (List.getElem?_eq_some_iff.1 hj).1
  have hn : 0 < n := by
    rcases Nat.eq_zero_or_pos n with e | e
    · rw [h.1, e] at hl; omega
    · exact e
  obtain ⟨g, cur, h1, h2, h3, _, h5⟩ := h.2.2.2 (Nat.lt_of_lt_of_le hn h.2.1)
  exact ⟨g, h1, heap_lt h3, h2, by rw [cell_of_row w g j cur T (0, 0) h3]; exact h5 j u hj, by simp [World.frozen?, h3]⟩
theorem Sl.src {P : Program} (h : Sl w κ k z T p n c vs) {tx e' : TypeId} (hk : P.underlying tx = some (.slice e')) (h1 : ∀ u ∈ vs, u.oneCell' = true) : Src P z tx (.slice p n c) n vs w := by
  rcases h.2.2.1 with hp | ⟨g, hp⟩
  · subst hp
    have hc : c = 0 := by
      rcases Nat.eq_zero_or_pos c with e | e
      · exact e
      · obtain ⟨g, _, e', _⟩ := h.2.2.2 e; cases e'
    have hn : n = 0 := by have := h.2.1; omega
    subst hn
    obtain rfl : vs = [] := List.length_eq_zero_iff.1 (by simpa using h.1)
    exact Src.ofNil w hk c
  · subst hp
    refine Src.ofSlice w hk ⟨g, 0, none⟩ n c vs h.1 (fun j u hj => ?_) h1
    obtain ⟨g', e, _, _, hc, _⟩ := h.cell hj
    cases e
    rw [Addr.add_mid, Nat.zero_add]
    exact hc
end
/-- A slice's cells are not those of a block of another type. -/
theorem Sl.parted {w w' : World} {κ : Foot} {k z : Nat} {T T' : TypeId} {p : Option Addr} {n c : Nat} {vs cs : List Value} {b : Nat} (h : Sl w κ k z T p n c vs) (hb : Blk w b T' cs) (hT : T' ≠ T) (ho : ∀ g, g ≠ b → w'.heap[g]? = w.heap[g]?) : Sl w' κ k z T p n c vs := by
  refine ⟨h.1, h.2.1, h.2.2.1, fun hc => ?_⟩
  obtain ⟨g, cur, h1, h2, h3, h4⟩ := h.2.2.2 hc
  have hg : g ≠ b := fun e => by
    subst e
    unfold Blk at hb
    rw [hb] at h3
    cases h3
    exact hT rfl
  exact ⟨g, cur, h1, h2, (ho g hg).trans h3, h4⟩
theorem Fr.own {κ κ' : Foot} {P : Nat → Prop} {w w' : World} (h : Fr κ P w w' κ') {p : Addr} (hp : w.heap.size ≤ p.block) (u : Value) : Fr κ P w (w'.setCell p u) κ' :=
  ⟨h.os, h.tape, h.output, by simpa [World.setCell] using h.size, fun g hg hn => (Below.heap_setCell _ _ _ _ (by omega)).trans (h.other g hg hn), h.foot, fun i g hg => by have := h.ins i g hg; simpa [World.setCell] using this⟩
theorem Fr.ownRow {κ κ' : Foot} {P : Nat → Prop} {w w' : World} (h : Fr κ P w w' κ') {b : Nat} (hp : w.heap.size ≤ b) (cs : Array Value) : Fr κ P w (w'.setRow b cs) κ' :=
  ⟨h.os, h.tape, h.output, by simpa using h.size, fun g hg hn => (setRow_other _ _ _ _ (by omega)).trans (h.other g hg hn), h.foot, fun i g hg => by have := h.ins i g hg; simpa using this⟩
theorem setCells_block (b : Nat) : ∀ (vs : List Value) (o : Nat) (w : World) (cur : Array Value) (T : TypeId), w.heap[b]? = some (.cells cur T (0, 0)) →
    ∃ cur', (w.setCells b o vs).heap[b]? = some (.cells cur' T (0, 0)) ∧ cur'.size = cur.size ∧ (∀ j, j < o → cur'[j]? = cur[j]?) ∧ (∀ j u, vs[j]? = some u → o + j < cur.size → cur'[o + j]? = some u)
  | [], o, w, cur, T, h => ⟨cur, h, rfl, fun _ _ => rfl, fun j u hj => by simp at hj⟩
  | v :: r, o, w, cur, T, h => by
    have h1 : (w.setCell ⟨b, o, none⟩ v).heap[b]? = some (.cells (cur.setIfInBounds o v) T (0, 0)) := by
      simp [World.setCell, Array.getElem?_modify, h]
    obtain ⟨cur', h2, h3, h4, h5⟩ := setCells_block b r (o + 1) _ _ T h1
    refine ⟨cur', h2, by rw [h3]; simp, fun j hj => ?_, fun j u hj hlt => ?_⟩
    · rw [h4 j (by omega), Array.getElem?_setIfInBounds]
      simp [show ¬ o = j by omega]
    · cases j with
      | zero =>
        simp at hj
        subst hj
        rw [Nat.add_zero, h4 o (by omega), Array.getElem?_setIfInBounds]
        simp; omega
      | succ j =>
        rw [show o + (j + 1) = o + 1 + j by omega]
        exact h5 j u (by simpa using hj) (by simp; omega)
theorem setCells_other (b : Nat) {g : Nat} (hg : g ≠ b) : ∀ (vs : List Value) (o : Nat) (w : World), (w.setCells b o vs).heap[g]? = w.heap[g]?
  | [], _, _ => rfl
  | v :: r, o, w => (setCells_other b hg r (o + 1) _).trans (Below.heap_setCell w ⟨b, o, none⟩ v g hg)
theorem setCells_drew (b : Nat) : ∀ (vs : List Value) (o : Nat) (w : World), (w.setCells b o vs).heap.size = w.heap.size
  | [], _, _ => rfl
  | v :: r, o, w => by rw [World.setCells, setCells_drew b r (o + 1)]; simp [World.setCell]
/-- append to a slice, of whatever source. -/
theorem run_append_slB {P : Program} {w : World} {κ : Foot} {k z : Nat} {T : TypeId} {p : Option Addr} {n c : Nat} {vs : List Value} (h : Sl w κ k z T p n c vs) (t tx ty : TypeId) (zv : Value) (bytes : Nat) (ht : P.underlying t = some (.slice T))
    (hinfo : (P.info? T).map (fun i => (i.zero, i.size, i.bytes)) = some (some zv, z, bytes)) (hzs : zv.cells.size = z) (x : Value) (m : Nat) (news : List Value) (hs : Src P z tx x m news w) (hone : ∀ u ∈ vs, u.oneCell' = true)
    (h63 : n + m ≤ 140737488355328) (hfit : (n + m) * bytes ≤ 140737488355328) :
    ∃ p' c' w' κ', (Builtin.append_ #[t, tx] ty #[.slice p n c, x]).run P w = .ok (.slice p' (n + m) c') w' ∧ Sl w' κ' k z T p' (n + m) c' (vs ++ news) ∧ Fr κ (fun j => j = k) w w' κ' ∧ (p' = p ∨ p' = some ⟨w.heap.size, 0, none⟩) ∧
      (c = 0 → Ext w w') ∧ (∀ q n0 c0 vs0, Sl w κ k z T q n0 c0 vs0 → Al p n c q n0 → Sl w' κ' k z T q n0 c0 vs0 ∧ Al p' (n + m) c' q n0) := by
  obtain ⟨i, hi, hz0, hz1, hz2⟩ := info_parts hinfo
  subst hz1
  by_cases hroom : n + m ≤ c
  · by_cases hc0 : 0 < c
    · obtain ⟨g, cur, rfl, hk, hg, hsz, hcells⟩ := h.2.2.2 hc0
      have hnl := hs.newsLen
      have hin : ∀ j, j < news.length → n * i.size + j < cur.size := fun j hj => by
        have : (n + m) * i.size ≤ c * i.size := Nat.mul_le_mul_right _ hroom
        rw [Nat.add_mul] at this
        omega
      have hr := run_append_room_src (P := P) w t tx ty T i ht hi g 0 n c x m news hs hroom (fun j hj => by
        rw [Nat.zero_add, cell_of_row w g _ cur T (0, 0) hg, Array.getElem?_eq_getElem (hin j hj)]; rfl) (fun j hj => by simp [World.frozen?, hg])
      rw [Nat.zero_add] at hr
      obtain ⟨cur', e1, e2, e3, e4⟩ := setCells_block g news (n * i.size) w cur T hg
      have hfr : Fr κ (fun j => j = k) w (w.setCells g (n * i.size) news) κ := setCells_fr (κ := κ) (P := fun j => j = k) hk news _ w
      refine ⟨_, c, _, κ, hr, ⟨by rw [List.length_append, h.1, hnl, Nat.add_mul], hroom, .inr ⟨g, rfl⟩, fun _ => ⟨g, cur', rfl, hk, e1, by rw [e2]; exact hsz, fun j u hj => ?_⟩⟩, hfr, .inl rfl, fun e => by omega, fun q n0 c0 vs0 hq hal => ⟨⟨hq.1, hq.2.1, hq.2.2.1, fun hc => ?_⟩, fun g' e hq' => ?_⟩⟩
      · rcases Nat.lt_or_ge j vs.length with hj2 | hj2
        · rw [List.getElem?_append_left hj2] at hj
          rw [e3 j (by rw [← h.1]; exact hj2)]
          exact hcells j u hj
        · rw [List.getElem?_append_right hj2] at hj
          have hl : j - vs.length < news.length := (List.getElem?_eq_some_iff.1 hj).1
          have := e4 (j - vs.length) u hj (hin _ hl)
          rw [h.1] at this hj2
          rwa [show n * i.size + (j - n * i.size) = j by omega] at this
      · obtain ⟨g2, cur2, q1, q2, q3, q4, q5⟩ := hq.2.2.2 hc
        by_cases hgg : g2 = g
        · subst hgg
          rw [hg] at q3
          cases q3
          refine ⟨g2, cur', q1, q2, e1, by rw [e2]; exact q4, fun j u hj => ?_⟩
          rcases hal g2 rfl q1 with hcn | hle
          · have hm : m = 0 := by omega
            subst hm
            have : news = [] := List.length_eq_zero_iff.1 (by simpa using hnl)
            subst this
            rw [World.setCells] at e1
            rw [hg] at e1
            cases e1
            exact q5 j u hj
          · have hl : j < vs0.length := (List.getElem?_eq_some_iff.1 hj).1
            rw [e3 j (by rw [hq.1] at hl; exact Nat.lt_of_lt_of_le hl (Nat.mul_le_mul_right _ hle))]
            exact q5 j u hj
        · exact ⟨g2, cur2, q1, q2, (setCells_other g hgg news _ w).trans q3, q4, q5⟩
      · rcases hal g' e hq' with hcn | hle
        · left; omega
        · right; omega
    · have hm : m = 0 := by omega
      have hn : n = 0 := by omega
      have hc : c = 0 := by omega
      subst hm hn hc
      have hnews : news = [] := List.length_eq_zero_iff.1 (by simpa using hs.newsLen)
      subst hnews
      refine ⟨p, 0, w, κ, run_append_nothing w t tx ty T i ht hi p 0 0 (Nat.le_refl _) x hs, by simpa using h, Fr.refl _ _ _, .inl rfl, fun _ => Ext.refl _, fun q n0 c0 vs0 hq hal => ⟨hq, hal⟩⟩
  · have hold : (Builtin.firstCells i.size n (.slice p n c)).run P w.drew = .ok vs.toArray w.drew := by
      rcases h.2.2.1 with hp | ⟨g, hp⟩
      · subst hp
        have hc : c = 0 := by
          rcases Nat.eq_zero_or_pos c with e | e
          · exact e
          · obtain ⟨g, _, e', _⟩ := h.2.2.2 e; cases e'
        have hn : n = 0 := by have := h.2.1; omega
        subst hn
        obtain rfl : vs = [] := List.length_eq_zero_iff.1 (by simpa using h.1)
        exact run_firstCells_none w.drew i.size 0 0 c
      · subst hp
        exact run_firstCells_some w.drew i.size n ⟨g, 0, none⟩ n c vs h.1 (fun j u hj => by
          obtain ⟨g', e, _, _, hc, _⟩ := h.cell hj
          cases e
          rw [Addr.add_mid, Nat.zero_add]
          exact hc)
    have hr := run_append_grow_src (P := P) w t tx ty T i zv ht hi hz0 p n c vs hold x m news hs (by omega) (by omega) (growslice_fits (by omega) (by rw [hz2]; exact hfit))
    have hge := grownCap_ge w (n + m) c T
    have hnl := hs.newsLen
    refine ⟨_, _, _, setK κ w.heap.size k, hr, ⟨by rw [List.length_append, h.1, hnl, Nat.add_mul], hge, .inr ⟨_, rfl⟩, fun _ => ⟨w.heap.size, _, rfl, setK_same _ _ _, heap_alloc_new w.drew _, ?_, fun j u hj => ?_⟩⟩, ?_, .inr rfl, fun _ => ((Ext.refl w).drew).alloc _, fun q n0 c0 vs0 hq hal => ⟨hq.same (fun g hg _ => Below.heap_alloc w.drew _ g hg) (fun g hg e => by rw [setK_other _ _ (by omega)]; exact e), fun g e hq' => ?_⟩⟩
    · simp only [Array.size_append, List.size_toArray, List.length_append, size_zeroCells, hzs, h.1, hnl, ← Nat.add_mul]
      exact Nat.le_of_eq (by congr 1; omega)
    · have hl : j < (vs ++ news).length := (List.getElem?_eq_some_iff.1 hj).1
      rw [Array.getElem?_append_left (by simpa using hl)]
      simpa using hj
    · exact ((Fr.refl κ _ w).drew).new _ k
    · right
      cases e
      rcases Nat.eq_zero_or_pos c0 with e0 | e0
      · have := hq.2.1; omega
      · obtain ⟨g2, cur2, q1, q2, q3, _⟩ := hq.2.2.2 e0
        rw [hq'] at q1
        cases q1
        have := heap_lt q3
        omega
/-- The same, of few elements. -/
theorem run_append_sl {P : Program} {w : World} {κ : Foot} {k z : Nat} {T : TypeId} {p : Option Addr} {n c : Nat} {vs : List Value} (h : Sl w κ k z T p n c vs) (t tx ty : TypeId) (zv : Value) (bytes : Nat) (ht : P.underlying t = some (.slice T))
    (hinfo : (P.info? T).map (fun i => (i.zero, i.size, i.bytes)) = some (some zv, z, bytes)) (hzs : zv.cells.size = z) (x : Value) (m : Nat) (news : List Value) (hs : Src P z tx x m news w) (hone : ∀ u ∈ vs, u.oneCell' = true)
    (h63 : n + m ≤ 1000000000) (hb : bytes ≤ 128) :
    ∃ p' c' w' κ', (Builtin.append_ #[t, tx] ty #[.slice p n c, x]).run P w = .ok (.slice p' (n + m) c') w' ∧ Sl w' κ' k z T p' (n + m) c' (vs ++ news) ∧ Fr κ (fun j => j = k) w w' κ' ∧ (p' = p ∨ p' = some ⟨w.heap.size, 0, none⟩) ∧
      (c = 0 → Ext w w') ∧ (∀ q n0 c0 vs0, Sl w κ k z T q n0 c0 vs0 → Al p n c q n0 → Sl w' κ' k z T q n0 c0 vs0 ∧ Al p' (n + m) c' q n0) := by
  exact run_append_slB h t tx ty zv bytes ht hinfo hzs x m news hs hone (by omega) (Nat.le_trans (Nat.mul_le_mul h63 hb) (by decide))
end Go.Proofs.YtkjcpjalldbahaaGreatDoor
end

section
namespace Go.Proofs.YtkjcpjalldbahaaGreatDoor
open Go.RowKit

theorem info5 : (Tryz.prog.info? 5).map (fun i => (i.zero, i.size, i.bytes)) = some (some (.int .u8 0), 1, 1) := by kernel_rfl

/-- make([]byte, n): a new block of n zeros. -/
theorem make_bytes (n : Nat) (hn : n ≤ 281474976710656) : ∀ u : World, (Instr.makeSlice 149 (.int .i64 (n : Int)) (.int .i64 (n : Int))).run Tryz.prog u =
      .ok (.slice (some ⟨u.heap.size, 0, none⟩) n n) (u.alloc (.cells (madeCells #[.int .u8 0] n) 5)) := fun u => by
  obtain ⟨i0, hi, hz0, hz1, hz2⟩ := info_parts info5
  have h := run_make (P := Tryz.prog) u 149 5 i0 (.int .u8 0) Tryz.underlying149 hi hz0 .i64 .i64 (n : Int) (n : Int) (by omega) (Int.le_refl _) (by rw [hz2]; omega) (by omega)
  simpa [hz1, Value.cells] using h
end Go.Proofs.YtkjcpjalldbahaaGreatDoor
end

section
namespace Go.Proofs.YtkjcpjalldbahaaGreatDoor
open Go.RowKit

theorem Fr.toExt {κ κ' : Foot} {w w' : World} (h : Fr κ (fun _ => False) w w' κ') : Ext w w' := ⟨h.os, h.tape, h.output, h.size, fun g hg => h.other g hg (fun x => x)⟩
/-- append(s, x...), in a plain region. -/
theorem wpList_append_sl {w : World} {ops : Array Oper} {rest : List Oper} {o : Oper} {a : Act} {Q : Exit → Act → World → Prop} (hgd : o.guard = none) (s x : Operand) (t tx : TypeId)
    (ho : o.op = .call { callee := .builtin .append, args := #[s, x], argTypes := #[t, tx] }) {T : TypeId} {zv : Value} {z bytes : Nat} (ht : Tryz.prog.underlying t = some (.slice T))
    (hinfo : (Tryz.prog.info? T).map (fun i => (i.zero, i.size, i.bytes)) = some (some zv, z, bytes)) (hzs : zv.cells.size = z) (hb : bytes ≤ 128)
    {κ : Foot} {k : Nat} {p : Option Addr} {n c : Nat} {vs : List Value} (hs : a.eval s = .slice p n c) (h : Sl w κ k z T p n c vs) (hone : ∀ u ∈ vs, u.oneCell' = true)
    (xv : Value) (hx : a.eval x = xv) (m : Nat) (news : List Value) (hsrc : Src Tryz.prog z tx xv m news w) (h63 : n + m ≤ 1000000000)
    (hQ : ∀ p' c' w' κ', Sl w' κ' k z T p' (n + m) c' (vs ++ news) → Fr κ (fun j => j = k) w w' κ' → (p' = p ∨ p' = some ⟨w.heap.size, 0, .none⟩) → (c = 0 → Ext w w') → (∀ q n0 c0 vs0, Sl w κ k z T q n0 c0 vs0 → Al p n c q n0 → Sl w' κ' k z T q n0 c0 vs0 ∧ Al p' (n + m) c' q n0) →
      wpList Tryz.prog ops Q rest (a.put o.dst (.slice p' (n + m) c')) w') : wpList Tryz.prog ops Q (o :: rest) a w := by
  obtain ⟨p', c', w', κ', hr, h1, h2, h3, h4, h5⟩ := run_append_sl h t tx o.type zv bytes ht hinfo hzs xv m news hsrc hone h63 hb
  refine wpList_plain hgd fun K hK => ?_
  unfold Oper.wp execOp
  simp only [ho, resolve, invoke, builtin, Sem.run_bind, Sem.run_pure, Result.andThen_ok, List.map_toArray, List.map_cons, List.map_nil, hs, hx, hr]
  exact hK _ _ (hQ p' c' w' κ' h1 h2 h3 h4 h5)
/-- append(s, x...), in a plain region, of many elements. -/
theorem wpList_append_slB {w : World} {ops : Array Oper} {rest : List Oper} {o : Oper} {a : Act} {Q : Exit → Act → World → Prop} (hgd : o.guard = none) (s x : Operand) (t tx : TypeId)
    (ho : o.op = .call { callee := .builtin .append, args := #[s, x], argTypes := #[t, tx] }) {T : TypeId} {zv : Value} {z bytes : Nat} (ht : Tryz.prog.underlying t = some (.slice T))
    (hinfo : (Tryz.prog.info? T).map (fun i => (i.zero, i.size, i.bytes)) = some (some zv, z, bytes)) (hzs : zv.cells.size = z)
    {κ : Foot} {k : Nat} {p : Option Addr} {n c : Nat} {vs : List Value} (hs : a.eval s = .slice p n c) (h : Sl w κ k z T p n c vs) (hone : ∀ u ∈ vs, u.oneCell' = true)
    (xv : Value) (hx : a.eval x = xv) (m : Nat) (news : List Value) (hsrc : Src Tryz.prog z tx xv m news w) (h63 : n + m ≤ 140737488355328) (hfit : (n + m) * bytes ≤ 140737488355328)
    (hQ : ∀ p' c' w' κ', Sl w' κ' k z T p' (n + m) c' (vs ++ news) → Fr κ (fun j => j = k) w w' κ' → (p' = p ∨ p' = some ⟨w.heap.size, 0, .none⟩) → (c = 0 → Ext w w') → (∀ q n0 c0 vs0, Sl w κ k z T q n0 c0 vs0 → Al p n c q n0 → Sl w' κ' k z T q n0 c0 vs0 ∧ Al p' (n + m) c' q n0) →
      wpList Tryz.prog ops Q rest (a.put o.dst (.slice p' (n + m) c')) w') : wpList Tryz.prog ops Q (o :: rest) a w := by
  obtain ⟨p', c', w', κ', hr, h1, h2, h3, h4, h5⟩ := run_append_slB h t tx o.type zv bytes ht hinfo hzs xv m news hsrc hone h63 hfit
  refine wpList_plain hgd fun K hK => ?_
  unfold Oper.wp execOp
  simp only [ho, resolve, invoke, builtin, Sem.run_bind, Sem.run_pure, Result.andThen_ok, List.map_toArray, List.map_cons, List.map_nil, hs, hx, hr]
  exact hK _ _ (hQ p' c' w' κ' h1 h2 h3 h4 h5)
/-- The same, as a step of a region that draws its order. -/
theorem step_append_sl {w : World} {ops : Array Oper} {o : Oper} {a : Act} {K : Act → World → Prop} {Q : Exit → Act → World → Prop} {E : Prop} (hgd : o.guard = none) (s x : Operand) (t tx : TypeId)
    (ho : o.op = .call { callee := .builtin .append, args := #[s, x], argTypes := #[t, tx] }) {T : TypeId} {zv : Value} {z bytes : Nat} (ht : Tryz.prog.underlying t = some (.slice T))
    (hinfo : (Tryz.prog.info? T).map (fun i => (i.zero, i.size, i.bytes)) = some (some zv, z, bytes)) (hzs : zv.cells.size = z) (hb : bytes ≤ 128)
    {κ : Foot} {k : Nat} {p : Option Addr} {n c : Nat} {vs : List Value} (hs : a.eval s = .slice p n c) (h : Sl w κ k z T p n c vs) (hone : ∀ u ∈ vs, u.oneCell' = true)
    (xv : Value) (hx : a.eval x = xv) (m : Nat) (news : List Value) (hsrc : Src Tryz.prog z tx xv m news w) (h63 : n + m ≤ 1000000000)
    (hQ : ∀ p' c' w' κ', Sl w' κ' k z T p' (n + m) c' (vs ++ news) → Fr κ (fun j => j = k) w w' κ' → (p' = p ∨ p' = some ⟨w.heap.size, 0, .none⟩) → (c = 0 → Ext w w') → (∀ q n0 c0 vs0, Sl w κ k z T q n0 c0 vs0 → Al p n c q n0 → Sl w' κ' k z T q n0 c0 vs0 ∧ Al p' (n + m) c' q n0) →
      K (a.put o.dst (.slice p' (n + m) c')) w') : if Region.wanted o (yielded ops a.tmps) = true then Oper.wp Tryz.prog o a w K Q else E := by
  have hw : Region.wanted o (yielded ops a.tmps) = true := by simp [Region.wanted, hgd]
  rw [if_pos hw]
  obtain ⟨p', c', w', κ', hr, h1, h2, h3, h4, h5⟩ := run_append_sl h t tx o.type zv bytes ht hinfo hzs xv m news hsrc hone h63 hb
  unfold Oper.wp execOp
  simp only [ho, resolve, invoke, builtin, Sem.run_bind, Sem.run_pure, Result.andThen_ok, List.map_toArray, List.map_cons, List.map_nil, hs, hx, hr]
  exact hQ p' c' w' κ' h1 h2 h3 h4 h5
end Go.Proofs.YtkjcpjalldbahaaGreatDoor
end

section
namespace Go.Proofs.YtkjcpjalldbahaaGreatDoor
open Go.RowKit

/-- The block of a slice. -/
def kp (p : Option Addr) : Foot := fun g => if p = some ⟨g, 0, none⟩ then 1 else 0
theorem kp_one {p : Option Addr} {g : Nat} (h : kp p g = 1) : p = some ⟨g, 0, none⟩ := by
  unfold kp at h
  by_cases q : p = some ⟨g, 0, none⟩
  · exact q
  · rw [if_neg q] at h; cases h
theorem Sl.kp {w : World} {κ : Foot} {k z : Nat} {T : TypeId} {p : Option Addr} {n c : Nat} {vs : List Value} (h : Sl w κ k z T p n c vs) : Sl w (kp p) 1 z T p n c vs :=
  ⟨h.1, h.2.1, h.2.2.1, fun hc => by
    obtain ⟨g, cur, e, _, r⟩ := h.2.2.2 hc
    exact ⟨g, cur, e, by simp [YtkjcpjalldbahaaGreatDoor.kp, e], r⟩⟩
theorem Sl.ofBlkR {w : World} {κ : Foot} {k z : Nat} {T : TypeId} {g n : Nat} {vs : List Value} (h : Blk w g T vs) (hn : vs.length = n * z) (hk : κ g = k) : Sl w κ k z T (some ⟨g, 0, none⟩) n n vs :=
  ⟨hn, Nat.le_refl _, .inr ⟨g, rfl⟩, fun _ => ⟨g, vs.toArray, rfl, hk, h, by simp [hn], fun j u hj => by simpa using hj⟩⟩
end Go.Proofs.YtkjcpjalldbahaaGreatDoor
end
