/- Plain: maps as lists of keys and elements: an element that is stored whatever was there, a key that is deleted. Contracts: keys by epochs: what a ring is; whether it is there, whether an epoch has a key, which is the newest: by the program. Contracts: keys by epochs: a new ring, the next epoch's key, an epoch's key forgotten: by the program. Contracts: keys by epochs: a new ring, an epoch's key forgotten: by the program. -/
import Derived.Test.YtobhbppogeghnaaGreatDoorM03
import Derived.Test.YtobhbppogeghnaaGreatDoorM01
import Derived.Test.YtobhbppogeghnaaGreatDoorShelf
import Derived.WalkSpells
import Derived.Carry
import Derived.Deep.DeepCutAuto
import Derived.RegionTactic
import Derived.Deep.RegionWith
section
namespace Go.Proofs.YtobhbppogeghnaaGreatDoor
open Go.RowKit Go.ChangeMaps Go.MapKept
open Go.Maps (Keyed)

theorem keys_apart {es : Array MapEntry} {clock : Nat} (h : Stamped es clock) {i j : Nat} {x y : MapEntry} (hx : es.toList[i]? = some x) (hy : es.toList[j]? = some y) (hij : i ≠ j) : x.key ≠ y.key := by
  have hp := ((stamped_iff es clock).1 h).2.2
  rw [List.pairwise_iff_getElem] at hp
  obtain ⟨h1, rfl⟩ := List.getElem?_eq_some_iff.1 hx
  obtain ⟨h2, rfl⟩ := List.getElem?_eq_some_iff.1 hy
  rcases Nat.lt_or_gt_of_ne hij with h | h
  · exact hp i j h1 h2 h
  · exact fun e => hp j i h2 h1 h e.symm
section
variable {w w' : World} {P : Program} {k : TypeId} {b : Nat} {l : List (Value × Value)}
/-- m[k] = v. -/
theorem MapL.store {t e : TypeId} (h : MapL w P k b l) (K : Keyed P k) (ht : P.underlying t = some (.map k e)) {key val : Value} {kl : Lit} (hkey : keyOf P k key = some kl) :
    ∃ w' l', (Instr.mapUpdate t (.map (some b)) key val).run P w = .ok () w' ∧ MapL w' P k b l' ∧ (∀ p, p ∈ l' ↔ (p ∈ l ∧ p.1 ≠ key) ∨ p = (key, val)) ∧ w.mapTurned w' b := by
  obtain ⟨es, clock, hb, hs, rfl, hk⟩ := h
  rcases K.find w hkey es.toList (keys_of hk) with ⟨h1, h2⟩ | ⟨j, e0, h1, h2, h3⟩
  · refine ⟨setBlock w b (.map (es.push ⟨key, val, clock⟩) (clock + 1)), es.toList.map kv ++ [(key, val)], ?_, ⟨_, _, heap_setBlock_same hb _, stamped_push hs h2, by simp [kv], ?_⟩, ?_, ⟨es, clock, _, _, hb, rfl⟩⟩
    · simp [Instr.mapUpdate, run_underlying ht, MapKept.run_getObj_map hb, K.check w false hkey, h1, MapKept.run_setObj_map _ hb, Result.andThen, setBlock]
    · intro p hp
      rcases List.mem_append.1 hp with hp | hp
      · exact hk p hp
      · rw [List.mem_singleton] at hp
        subst hp
        exact ⟨kl, hkey⟩
    · intro p
      rw [List.mem_append, List.mem_singleton]
      refine or_congr ⟨fun hp => ⟨hp, ?_⟩, fun hp => hp.1⟩ Iff.rfl
      obtain ⟨x, hx, rfl⟩ := List.mem_map.1 hp
      exact h2 x hx
  · have hj : es[j]? = some e0 := by simpa using h2
    have hjl : j < es.toList.length := (List.getElem?_eq_some_iff.1 h2).1
    have hkeyf : ∀ e', es[j]? = some e' → ({ e' with key := key, val := val } : MapEntry).key = e'.key := fun e' he' => by rw [hj] at he'; cases he'; exact h3.symm
    have hlist : (es.modify j (fun e' => { e' with key := key, val := val })).toList = es.toList.set j { e0 with key := key, val := val } := by
      apply List.ext_getElem?
      intro i
      rw [Array.getElem?_toList, Array.getElem?_modify, List.getElem?_set]
      by_cases hij : j = i
      · subst hij
        rw [if_pos rfl, if_pos rfl, hj, if_pos hjl]
        rfl
      · rw [if_neg hij, if_neg hij, Array.getElem?_toList]
    have hmem : ∀ p, p ∈ (es.toList.set j { e0 with key := key, val := val }).map kv ↔ (p ∈ es.toList.map kv ∧ p.1 ≠ key) ∨ p = (key, val) := by
      intro p
      constructor
      · intro hp
        obtain ⟨x, hx, rfl⟩ := List.mem_map.1 hp
        obtain ⟨i, hi⟩ := List.getElem?_of_mem hx
        rw [List.getElem?_set] at hi
        split at hi
        · cases hi; right; rfl
        · rename_i hne
          left
          exact ⟨List.mem_map.2 ⟨x, List.mem_of_getElem? hi, rfl⟩, fun e => keys_apart hs hi h2 (fun q => hne q.symm) (e.trans h3.symm)⟩
      · rintro (⟨hp, hn⟩ | rfl)
        · obtain ⟨x, hx, rfl⟩ := List.mem_map.1 hp
          obtain ⟨i, hi⟩ := List.getElem?_of_mem hx
          have hij : ¬ j = i := fun e => by
            subst e
            rw [h2] at hi
            cases hi
            exact hn h3
          exact List.mem_map.2 ⟨x, List.mem_of_getElem? (i := i) (by rw [List.getElem?_set, if_neg hij]; exact hi), rfl⟩
        · exact List.mem_map.2 ⟨{ e0 with key := key, val := val }, List.mem_of_getElem? (i := j) (by rw [List.getElem?_set, if_pos rfl, if_pos hjl]), rfl⟩
    refine ⟨setBlock w b (.map (es.modify j (fun e' => { e' with key := key, val := val })) clock), (es.toList.set j { e0 with key := key, val := val }).map kv, ?_, ⟨_, _, heap_setBlock_same hb _, stamped_modify hs _ _ (fun _ _ => rfl) (fun e' _ he' => hkeyf e' he'), by rw [hlist], ?_⟩, hmem, ⟨es, clock, _, _, hb, rfl⟩⟩
    · simp [Instr.mapUpdate, run_underlying ht, MapKept.run_getObj_map hb, K.check w false hkey, h1, hj, h3, K.stays w hkey, MapKept.run_setObj_map _ hb, Result.andThen, setBlock]
    · intro p hp
      rcases (hmem p).1 hp with hp | rfl
      · exact hk p hp.1
      · exact ⟨kl, hkey⟩
/-- delete(m, k). -/
theorem MapL.drop {t e : TypeId} (h : MapL w P k b l) (K : Keyed P k) (ht : P.underlying t = some (.map k e)) {key : Value} {kl : Lit} (hkey : keyOf P k key = some kl) :
    ∃ w' l', (∀ ty, (Builtin.delete_ #[t, k] ty #[.map (some b), key]).run P w = .ok (.tuple #[]) w') ∧ MapL w' P k b l' ∧ (∀ p, p ∈ l' ↔ p ∈ l ∧ p.1 ≠ key) ∧ w.mapTurned w' b := by
  obtain ⟨es, clock, hb, hs, rfl, hk⟩ := h
  rcases K.find w hkey es.toList (keys_of hk) with ⟨h1, h2⟩ | ⟨j, e0, h1, h2, h3⟩
  · refine ⟨setBlock w b (.map es clock), es.toList.map kv, fun ty => ?_, ⟨_, _, heap_setBlock_same hb _, hs, rfl, hk⟩, fun p => ⟨fun hp => ⟨hp, ?_⟩, fun hp => hp.1⟩, ⟨es, clock, _, _, hb, rfl⟩⟩
    · simp [Builtin.delete_, run_underlying ht, MapKept.run_getObj_map hb, K.check w _ hkey, h1, MapKept.run_setObj_map _ hb, Result.andThen, setBlock]
    · obtain ⟨x, hx, rfl⟩ := List.mem_map.1 hp
      exact h2 x hx
  · have hjl : j < es.toList.length := (List.getElem?_eq_some_iff.1 h2).1
    have hjs : j < es.size := by simpa using hjl
    have hsub : (es.eraseIdxIfInBounds j).toList = es.toList.eraseIdx j := by
      unfold Array.eraseIdxIfInBounds
      rw [dif_pos hjs, Array.toList_eraseIdx]
    have hmem : ∀ p, p ∈ (es.toList.eraseIdx j).map kv ↔ p ∈ es.toList.map kv ∧ p.1 ≠ key := by
      intro p
      constructor
      · intro hp
        obtain ⟨x, hx, rfl⟩ := List.mem_map.1 hp
        obtain ⟨i, hne, hi⟩ := List.mem_eraseIdx_iff_getElem?.1 hx
        exact ⟨List.mem_map.2 ⟨x, List.mem_of_getElem? hi, rfl⟩, fun e => keys_apart hs hi h2 hne (e.trans h3.symm)⟩
      · rintro ⟨hp, hn⟩
        obtain ⟨x, hx, rfl⟩ := List.mem_map.1 hp
        obtain ⟨i, hi⟩ := List.getElem?_of_mem hx
        have hij : i ≠ j := fun e => by
          subst e
          rw [h2] at hi
          cases hi
          exact hn h3
        exact List.mem_map.2 ⟨x, List.mem_eraseIdx_iff_getElem?.2 ⟨i, hij, hi⟩, rfl⟩
    refine ⟨setBlock w b (.map (es.eraseIdxIfInBounds j) clock), (es.toList.eraseIdx j).map kv, fun ty => ?_, ⟨_, _, heap_setBlock_same hb _, stamped_erase hs j, by rw [hsub], fun p hp => hk p ((hmem p).1 hp).1⟩, hmem, ⟨es, clock, _, _, hb, rfl⟩⟩
    simp [Builtin.delete_, run_underlying ht, MapKept.run_getObj_map hb, K.check w _ hkey, h1, MapKept.run_setObj_map _ hb, Result.andThen, setBlock]
end
end Go.Proofs.YtobhbppogeghnaaGreatDoor
end

section
namespace Go.Proofs.YtobhbppogeghnaaGreatDoor
open Go.RowKit Go.ChangeMaps Go.MapKept
open Go.Maps (Keyed keyOf_int_mk int_keyed)

/-! ### Plain -/
/-- The greatest of numbers; 0 of none. -/
def top (l : List Nat) : Nat := l.foldr max 0
theorem top_cons (a : Nat) (l : List Nat) : top (a :: l) = max a (top l) := rfl
theorem top_perm {l m : List Nat} (h : l.Perm m) : top l = top m := by
  induction h with
  | nil => rfl
  | cons a _ ih => rw [top_cons, top_cons, ih]
  | swap a b l => simp only [top_cons]; omega
  | trans _ _ h1 h2 => exact h1.trans h2
theorem le_top {l : List Nat} {x : Nat} (h : x ∈ l) : x ≤ top l := by
  induction l with
  | nil => cases h
  | cons a r ih =>
    rw [top_cons]
    rcases List.mem_cons.1 h with rfl | h
    · omega
    · have := ih h; omega
theorem top_mem {l : List Nat} (h : l ≠ []) : top l ∈ l := by
  induction l with
  | nil => exact absurd rfl h
  | cons a r ih =>
    rw [top_cons]
    by_cases hr : r = []
    · subst hr; simp [top]
    · have := ih hr
      rcases Nat.le_total a (top r) with q | q
      · rw [Nat.max_eq_right q]; exact List.mem_cons_of_mem _ this
      · rw [Nat.max_eq_left q]; simp
/-- A ring's epochs. -/
def eps (L : List (Nat × ByteArray)) : List Nat := L.map (·.1)
/-- These may be a ring's keys, by rising epochs. -/
structure GoodK (L : List (Nat × ByteArray)) : Prop where
  ne : L ≠ []
  few : L.length ≤ 64
  up : (eps L).Pairwise (· < ·)
  each : ∀ x ∈ L, 1 ≤ x.1 ∧ x.1 < 4294967296 ∧ x.2.size = 32
section
variable {L : List (Nat × ByteArray)}
theorem GoodK.eps_ne (h : GoodK L) : eps L ≠ [] := fun e => h.ne (List.map_eq_nil_iff.1 e)
theorem GoodK.top_in (h : GoodK L) : top (eps L) ∈ eps L := top_mem h.eps_ne
theorem GoodK.eps_each (h : GoodK L) : ∀ x ∈ eps L, 1 ≤ x ∧ x < 4294967296 := fun x hx => by
  obtain ⟨y, hy, rfl⟩ := List.mem_map.1 hx
  have := h.each y hy
  exact ⟨this.1, this.2.1⟩
theorem GoodK.top_one (h : GoodK L) : 1 ≤ top (eps L) := (h.eps_each _ h.top_in).1
theorem GoodK.top_lt (h : GoodK L) : top (eps L) < 4294967296 := (h.eps_each _ h.top_in).2
theorem eps_nodup (h : (eps L).Pairwise (· < ·)) : L.Nodup := by
  have h2 := List.pairwise_map.1 h
  exact h2.imp fun q e => by rw [e] at q; exact Nat.lt_irrefl _ q
theorem GoodK.snoc (h : GoodK L) {s : ByteArray} (h1 : L.length < 64) (h2 : top (eps L) < 4294967295) (h3 : s.size = 32) : GoodK (L ++ [(top (eps L) + 1, s)]) := by
  refine ⟨by simp, by simp; omega, ?_, fun x hx => ?_⟩
  · unfold eps
    rw [List.map_append, List.pairwise_append]
    refine ⟨h.up, List.pairwise_singleton _ _, fun x hx y hy => ?_⟩
    rw [List.map_cons, List.map_nil, List.mem_singleton] at hy
    subst hy
    have := le_top (l := eps L) hx
    exact Nat.lt_succ_of_le this
  · rcases List.mem_append.1 hx with hx | hx
    · exact h.each x hx
    · rw [List.mem_singleton] at hx; subst hx; exact ⟨by simp, by simp; omega, h3⟩
/-- Without an epoch. -/
def outK (L : List (Nat × ByteArray)) (e : Nat) : List (Nat × ByteArray) := L.filter fun x => x.1 != e
theorem mem_outK {e : Nat} {x : Nat × ByteArray} : x ∈ outK L e ↔ x ∈ L ∧ x.1 ≠ e := by simp [outK]
theorem GoodK.out (h : GoodK L) {e : Nat} (he : e ≠ top (eps L)) : GoodK (outK L e) := by
  refine ⟨fun q => ?_, Nat.le_trans (List.length_filter_le _ _) h.few, ?_, fun x hx => h.each x (mem_outK.1 hx).1⟩
  · obtain ⟨y, hy, hy2⟩ := List.mem_map.1 h.top_in
    have : y ∈ outK L e := mem_outK.2 ⟨hy, fun q => he (q ▸ hy2)⟩
    rw [q] at this
    cases this
  · exact h.up.sublist ((List.filter_sublist).map _)
end

/-! ### A ring's map -/
theorem keyE : Keyed Tryz.prog 40 := int_keyed Tryz.underlying40
theorem keyE_at (n : Nat) (h : n < 4294967296) : keyOf Tryz.prog 40 (.int .u32 (n : Int)) = some (.int .u32 (n : Int)) := keyOf_int_mk Tryz.underlying40 (WalkArith.wf_u32 (by omega))
theorem zero_rootKey (w : World) : (zeroValue 108).run Tryz.prog w = .ok (.agg #[.string ⟨#[]⟩]) w := by kernel_rfl
/-- Block b is a map of these keys. -/
def IsM (w : World) (b : Nat) (L : List (Nat × ByteArray)) : Prop := ∃ M : List (Nat × ByteArray), M.Perm L ∧ MapL w Tryz.prog 40 b (M.map kvR)
section
variable {w w' : World} {b : Nat} {L : List (Nat × ByteArray)}
theorem IsM.lt (h : IsM w b L) : b < w.heap.size := by obtain ⟨_, _, h⟩ := h; exact h.lt
theorem IsM.same (h : IsM w b L) (e : w'.heap[b]? = w.heap[b]?) : IsM w' b L := by obtain ⟨M, h1, h2⟩ := h; exact ⟨M, h1, h2.same e⟩
theorem IsM.ext (h : IsM w b L) (hx : Ext w w') : IsM w' b L := by obtain ⟨M, h1, h2⟩ := h; exact ⟨M, h1, h2.ext hx⟩
theorem IsM.alloc (h : IsM w b L) (o : Obj) : IsM (w.alloc o) b L := by obtain ⟨M, h1, h2⟩ := h; exact ⟨M, h1, h2.alloc o⟩
theorem IsM.drew (h : IsM w b L) : IsM w.drew b L := h
theorem IsM.made (w : World) : IsM (w.alloc (.map #[] 0)) w.heap.size [] := ⟨[], .refl _, MapL.made w _ _⟩
theorem IsM.is (h : IsM w b L) : ∃ es clock, w.heap[b]? = some (.map es clock) := by obtain ⟨_, _, h⟩ := h; exact h.is
theorem IsM.look (h : IsM w b L) (c : Bool) {e : Nat} {s : ByteArray} (he : e < 4294967296) (hm : (e, s) ∈ L) :
    (Instr.lookup 110 (.map (some b)) (.int .u32 (e : Int)) c).run Tryz.prog w = .ok (if c then .tuple #[.agg #[.string s], .bool true] else .agg #[.string s]) w := by
  obtain ⟨M, h1, h2⟩ := h
  exact h2.look keyE Tryz.underlying110 c (keyE_at e he) (List.mem_map.2 ⟨_, h1.mem_iff.2 hm, rfl⟩)
theorem kvR_key {x : Nat × ByteArray} {e : Nat} (h : (kvR x).1 = .int .u32 (e : Int)) : x.1 = e := by
  simp only [kvR, Value.int.injEq, true_and] at h
  omega
theorem IsM.look_none (h : IsM w b L) (c : Bool) {e : Nat} (he : e < 4294967296) (hm : e ∉ eps L) :
    (Instr.lookup 110 (.map (some b)) (.int .u32 (e : Int)) c).run Tryz.prog w = .ok (if c then .tuple #[.agg #[.string ⟨#[]⟩], .bool false] else .agg #[.string ⟨#[]⟩]) w := by
  obtain ⟨M, h1, h2⟩ := h
  refine h2.look_none keyE Tryz.underlying110 c (zero_rootKey w) (keyE_at e he) fun p hp q => ?_
  obtain ⟨x, hx, rfl⟩ := List.mem_map.1 hp
  exact hm (List.mem_map.2 ⟨x, h1.mem_iff.1 hx, kvR_key q⟩)
theorem IsM.put (h : IsM w b L) {e : Nat} {s : ByteArray} (he : e < 4294967296) (hm : e ∉ eps L) :
    ∃ w', (Instr.mapUpdate 110 (.map (some b)) (.int .u32 (e : Int)) (.agg #[.string s])).run Tryz.prog w = .ok () w' ∧ IsM w' b (L ++ [(e, s)]) ∧ w.mapTurned w' b := by
  obtain ⟨M, h1, h2⟩ := h
  obtain ⟨w', r1, r2, r3⟩ := h2.put (val := .agg #[.string s]) keyE Tryz.underlying110 (keyE_at e he) fun p hp q => by
    obtain ⟨x, hx, rfl⟩ := List.mem_map.1 hp
    exact hm (List.mem_map.2 ⟨x, h1.mem_iff.1 hx, kvR_key q⟩)
  exact ⟨w', r1, ⟨M ++ [(e, s)], h1.append_right _, by rw [List.map_append]; exact r2⟩, r3⟩
theorem MapL.nodup {P : Program} {k : TypeId} {l : List (Value × Value)} (h : MapL w P k b l) : l.Nodup := by
  obtain ⟨es, clock, hb, hs, rfl, _⟩ := h
  have hp := ((stamped_iff es clock).1 hs).2.2
  refine List.pairwise_map.2 (hp.imp fun q e => q ?_)
  exact congrArg Prod.fst e
theorem kvR_inj {x y : Nat × ByteArray} (h : kvR x = kvR y) : x = y := by
  simp only [kvR, Prod.mk.injEq, Value.int.injEq, true_and, Value.agg.injEq, Array.mk.injEq, List.cons.injEq, Value.string.injEq, and_true] at h
  exact Prod.ext (by omega) h.2
theorem IsM.drop (h : IsM w b L) {e : Nat} (he : e < 4294967296) (hup : (eps L).Pairwise (· < ·)) :
    ∃ w', (∀ ty, (Builtin.delete_ #[110, 40] ty #[.map (some b), .int .u32 (e : Int)]).run Tryz.prog w = .ok (.tuple #[]) w') ∧ IsM w' b (outK L e) ∧ w.mapTurned w' b := by
  obtain ⟨M, h1, h2⟩ := h
  obtain ⟨w', l', r1, r2, r3, r4⟩ := h2.drop keyE Tryz.underlying110 (keyE_at e he)
  have hl : l'.Perm ((outK L e).map kvR) := by
    refine (List.perm_ext_iff_of_nodup r2.nodup ?_).2 fun p => ?_
    · exact List.pairwise_map.2 ((eps_nodup (L := outK L e) (hup.sublist ((List.filter_sublist).map _))).imp fun q e => q (kvR_inj e))
    · rw [r3]
      constructor
      · rintro ⟨q1, q2⟩
        obtain ⟨x, hx, rfl⟩ := List.mem_map.1 q1
        exact List.mem_map.2 ⟨x, mem_outK.2 ⟨h1.mem_iff.1 hx, fun q => q2 (by rw [← q]; rfl)⟩, rfl⟩
      · intro q
        obtain ⟨x, hx, rfl⟩ := List.mem_map.1 q
        have := mem_outK.1 hx
        exact ⟨List.mem_map.2 ⟨x, h1.mem_iff.2 this.1, rfl⟩, fun q => this.2 (kvR_key q)⟩
  have hinv : ∀ (l : List (Value × Value)) (K : List (Nat × ByteArray)), l.Perm (K.map kvR) → ∃ K' : List (Nat × ByteArray), K'.Perm K ∧ l = K'.map kvR := by
    intro l K hp
    have hall : ∀ p ∈ l, ∃ x, p = kvR x := fun p hq => by
      obtain ⟨x, _, rfl⟩ := List.mem_map.1 (hp.mem_iff.1 hq)
      exact ⟨x, rfl⟩
    obtain ⟨K', rfl⟩ : ∃ K' : List (Nat × ByteArray), l = K'.map kvR := by
      clear hp
      induction l with
      | nil => exact ⟨[], rfl⟩
      | cons p r ih =>
        obtain ⟨K', rfl⟩ := ih fun q hq => hall q (by simp [hq])
        obtain ⟨x, rfl⟩ := hall p (by simp)
        exact ⟨x :: K', rfl⟩
    have hleft : ∀ x : Nat × ByteArray, (kOf (kvR x), match (kvR x).2 with | .agg #[.string s] => s | _ => ⟨#[]⟩) = x := fun x => by
      rw [kOf_kvR]; rfl
    refine ⟨K', ?_, rfl⟩
    have hq := hp.map fun p : Value × Value => (kOf p, match p.2 with | .agg #[.string s] => s | _ => (⟨#[]⟩ : ByteArray))
    rw [List.map_map, List.map_map] at hq
    have e : ∀ K : List (Nat × ByteArray), K.map ((fun p : Value × Value => (kOf p, match p.2 with | .agg #[.string s] => s | _ => (⟨#[]⟩ : ByteArray))) ∘ kvR) = K := fun K => by
      conv => rhs; rw [← List.map_id K]
      exact List.map_congr_left fun x _ => hleft x
    rwa [e, e] at hq
  obtain ⟨K', q1, rfl⟩ := hinv _ _ hl
  exact ⟨w', r1, ⟨K', q1, r2⟩, r4⟩
theorem IsM.len (h : IsM w b L) (ty : TypeId) : (Builtin.len_ #[110] ty #[.map (some b)]).run Tryz.prog w = .ok (.int .i64 (L.length : Int)) w := by
  obtain ⟨M, h1, h2⟩ := h
  have := h2.len Tryz.underlying110 ty
  rwa [List.length_map, h1.length_eq] at this
end
/-- Block r is a ring of these keys, which lie in block b. -/
structure IsK (w : World) (r b : Nat) (L : List (Nat × ByteArray)) : Prop where
  ring : Blk w r 112 [.map (some b)]
  map : IsM w b L
  good : GoodK L
section
variable {w w' : World} {r b : Nat} {L : List (Nat × ByteArray)}
theorem IsK.ne (h : IsK w r b L) : r ≠ b := fun e => by
  obtain ⟨es, c, hb⟩ := h.map.is
  have h2 : w.heap[r]? = _ := h.ring
  rw [e, hb] at h2
  cases h2
theorem IsK.ext (h : IsK w r b L) (hx : Ext w w') : IsK w' r b L := ⟨h.ring.ext hx, h.map.ext hx, h.good⟩
theorem IsK.alloc (h : IsK w r b L) (o : Obj) : IsK (w.alloc o) r b L := ⟨h.ring.alloc o, h.map.alloc o, h.good⟩
theorem IsK.drew (h : IsK w r b L) : IsK w.drew r b L := ⟨h.ring, h.map, h.good⟩
theorem IsK.cell (h : IsK w r b L) : w.cell? ⟨r, 0, none⟩ = some (.map (some b)) := h.ring.cell 0 _ rfl
end

/-! ### Contracts -/
theorem thereK_yes (w : World) (r b : Nat) (h : w.cell? ⟨r, 0, none⟩ = some (.map (some b))) :
    Calls Tryz.prog 84 #[.pointer (some ⟨r, 0, none⟩)] w fun e w' => e = .returned (.bool true) ∧ w = w' := by
  have hnn := run_neq_map_nil (P := Tryz.prog) w 110 40 108 (some b) Tryz.underlying110
  simp only [Option.isNone_some, Bool.not_false] at hnn
  go_enter Tryz.func84, Tryz.ntmps84
  go_wp2
  go_ret
  exact ⟨rfl, rfl⟩
theorem has_yes (w : World) (r b : Nat) (L : List (Nat × ByteArray)) (e : Nat) (h : IsK w r b L) (he : e ∈ eps L) :
    Calls Tryz.prog 95 #[.pointer (some ⟨r, 0, none⟩), .int .u32 (e : Int)] w fun x w' => x = .returned (.bool true) ∧ Ext w w' := by
  have hc := h.cell
  obtain ⟨⟨e', s⟩, hx, rfl⟩ := List.mem_map.1 he
  have hl := h.map.look true (h.good.eps_each _ he).2 hx
  simp only [if_true] at hl
  clear h he hx
  go_enter Tryz.func95, Tryz.ntmps95
  go_wp2
  go_ret
  exact ⟨rfl, (Ext.refl w).alloc _⟩
theorem has_no (w : World) (r b : Nat) (L : List (Nat × ByteArray)) (e : Nat) (h : IsK w r b L) (h32 : e < 4294967296) (he : e ∉ eps L) :
    Calls Tryz.prog 95 #[.pointer (some ⟨r, 0, none⟩), .int .u32 (e : Int)] w fun x w' => x = .returned (.bool false) ∧ Ext w w' := by
  have hc := h.cell
  have hl := h.map.look_none true h32 he
  simp only [if_true] at hl
  clear h he
  go_enter Tryz.func95, Tryz.ntmps95
  go_wp2
  go_ret
  exact ⟨rfl, (Ext.refl w).alloc _⟩
theorem run_max32 (ts : Array TypeId) (t : TypeId) (a b n : Nat) (hn : n = max a b) (u : World) : (Builtin.max_ ts t #[.int .u32 (a : Int), .int .u32 (b : Int)]).run Tryz.prog u = .ok (.int .u32 (n : Int)) u := by
  simp [Builtin.max_, Builtin.max2]
  omega
set_option maxRecDepth 100000 in
set_option maxHeartbeats 2000000 in
theorem newest_any (w : World) (r b : Nat) (L : List (Nat × ByteArray)) (h : IsK w r b L) :
    Calls Tryz.prog 76 #[.pointer (some ⟨r, 0, none⟩)] w fun e w' => e = .returned (.int .u32 (top (eps L) : Int)) ∧ Ext w w' := by
  have hc := h.cell
  obtain ⟨M, hp, hm⟩ := h.map
  have HM := Lib.hid hm; have HP := Lib.hid hp
  clear h hm hp
  go_enter Tryz.func76, Tryz.ntmps76
  go_wp2_with (first
    | (go_at_call 84; refine (thereK_yes _ r b hc).mono ?_; rintro e w1 ⟨rfl, rfl⟩)
    | (at_range; refine wpList_range_L _ rfl _ 110 rfl 40 108 Tryz.underlying110 b (M.map kvR) rfl HM.out ?_; intro w0 hrg hx0 hs0))
  go_frame
  go_loopw [3] (fun nv wr => ∃ (left : List (Value × Value)) (m : Nat), nv = .int .u32 (m : Int) ∧ Hid (RangeL wr Tryz.prog 40 b w.heap.size (M.map kvR) left) ∧ Hid (∀ p ∈ left, ∃ x, p = kvR x) ∧ Hid (max m (top (left.map kOf)) = top (eps L)) ∧ Hid (Ext w wr)) (fun _ wr => wr.rangeLeft b w.heap.size)
  case atStart =>
    refine ⟨M.map kvR, 0, rfl, Lib.hid hrg, Lib.hid (fun p hp => ?_), Lib.hid ?_, Lib.hid hx0⟩
    · obtain ⟨x, _, rfl⟩ := List.mem_map.1 hp
      exact ⟨x, rfl⟩
    · rw [kOf_map, top_perm (HP.out.map (·.1))]
      exact Nat.max_eq_right (Nat.zero_le _)
  case round =>
    obtain ⟨left, m, rfl, HR, HI, HT, HE⟩ := hrel
    go_wp2_with (at_next; refine wpList_next_L _ rfl _ rfl 40 kvR b w.heap.size (M.map kvR) left HI.out rfl HR.out ?_ ?_)
    · intro h0
      have hm : m = top (eps L) := by have := HT.out; rw [h0] at this; simpa [top] using this
      subst hm
      clear h0
      go_wp2
      go_ret
      exact ⟨rfl, HE.out⟩
    · intro x1 x2 left' w1 hq hrg1 hg1 hs1 hen
      have HQ := Lib.hid hq; have HR1 := Lib.hid hrg1; have HG1 := Lib.hid hg1
      clear hq hrg1 hg1 hs1
      unfold kvR at hen
      unfold kvR
      have hmax := run_max32 #[40, 40] 40 m x1 (max m x1) rfl
      generalize hy : max m x1 = y at *
      have HY := Lib.hid hy
      clear hy
      go_wp2
      go_roundw
      case rel =>
        refine ⟨left', y, rfl, HR1, Lib.hid (fun p hp => HI.out p (HQ.out.mem_iff.2 (List.mem_cons_of_mem _ hp))), Lib.hid ?_, Lib.hid (HE.out.grown HG1.out (fun k hk => by cases hk; exact Nat.le_refl _))⟩
        have h1 := top_perm (HQ.out.map kOf)
        rw [List.map_cons, kOf_kvR, top_cons] at h1
        rw [← HT.out, h1, ← HY.out]
        simp only
        omega
      case measure =>
        rw [HR1.out.left_eq, HR.out.left_eq, HQ.out.length_eq, List.length_cons]
        omega
end Go.Proofs.YtobhbppogeghnaaGreatDoor
end

section
namespace Go.Proofs.YtobhbppogeghnaaGreatDoor
open Go.RowKit

theorem strclone_any (s : ByteArray) (hs : s.size ≤ 281474976710656) (w : World) :
    Calls Tryz.prog 48 #[.string s] w fun e w' => e = .returned (.string s) ∧ Ext w w' := by
  go_enter Tryz.func48, Tryz.ntmps48
  go_wp2_with (go_at_call 86; refine (Tryz.stringslite_Clone s w hs).mono ?_; rintro e w1 ⟨rfl, x1⟩)
  go_ret
  exact ⟨rfl, x1⟩
theorem rootKey_info : (Tryz.prog.info? 108).map (·.size) = some (#[Value.string ⟨#[]⟩] : Array Value).size := by kernel_rfl
theorem rootKeyOf_any (s : ByteArray) (hs : s.size = 32) (w : World) :
    Calls Tryz.prog 73 #[.string s] w fun e w' => e = .returned (.agg #[.string s]) ∧ Ext w w' := by
  have HC := Lib.hid (fun u => strclone_any s (by omega) u)
  obtain ⟨W0, hW0⟩ : ∃ W0, w.alloc (.cells #[.string ⟨#[]⟩] 108) = W0 := ⟨_, rfl⟩
  have hx0 : Ext w W0 := by rw [← hW0]; exact (Ext.refl w).alloc _
  have hB0 : Blk W0 w.heap.size 108 [.string ⟨#[]⟩] := by rw [← hW0]; exact Blk.new w _ _
  have HX := Lib.hid hx0; have HB := Lib.hid hB0
  clear hx0 hB0
  go_enter Tryz.func73, Tryz.ntmps73
  go_wp2_with (go_at_call 48; refine (HC.out _).mono ?_; rintro e w1 ⟨rfl, x1⟩; have hb1 := HB.out.ext x1; have c1 := hb1.cell 0 _ rfl; have f1 := hb1.frozen 0)
  exact bodyPost_ret (results_cell_row rfl _ _ w.heap.size 108 #[.string s] (0, 0) _ rfl (hb1.set_ 0 _) Tryz.underlying108 rfl rootKey_info) rfl ⟨rfl, (HX.out.trans x1).setCell (p := ⟨w.heap.size, 0, none⟩) (Nat.le_refl _) _⟩
/-! ### Rotate -/
theorem rotate_arg (w : World) (r b : Nat) (L : List (Nat × ByteArray)) (h : IsK w r b L) (s : ByteArray) (hs : s.size ≠ 32) :
    Calls Tryz.prog 45 #[.pointer (some ⟨r, 0, none⟩), .string s] w fun e w' => e = .returned (.tuple #[.int .u32 0, .int .i64 2]) ∧ Ext w w' := by
  have HK := Lib.hid h
  have hs2 : (s.size : Int) ≠ 32 := by omega
  have hs3 : ((s.size : Int) == 32) = false := by simpa using hs2
  clear h
  go_enter Tryz.func45, Tryz.ntmps45
  go_wp2_with (first
    | (go_at_call 76; refine (newest_any _ r b L HK.out).mono ?_; rintro e w1 ⟨rfl, x1⟩)
    | (go_at_call 84; refine (thereK_yes _ r b (HK.out.ext x1).cell).mono ?_; rintro e w2 ⟨rfl, rfl⟩))
  go_ret2
  exact ⟨rfl, x1⟩
theorem rotate_full (w : World) (r b : Nat) (L : List (Nat × ByteArray)) (h : IsK w r b L) (s : ByteArray) (hs : s.size = 32) (hf : 64 ≤ L.length ∨ top (eps L) = 4294967295) :
    Calls Tryz.prog 45 #[.pointer (some ⟨r, 0, none⟩), .string s] w fun e w' => e = .returned (.tuple #[.int .u32 0, .int .i64 4]) ∧ Ext w w' := by
  have HK := Lib.hid h
  have hs2 : (s.size : Int) = 32 := by omega
  have HF := Lib.hid hf
  clear h hf
  go_enter Tryz.func45, Tryz.ntmps45
  by_cases hl : 64 ≤ L.length
  · have hl2 : (64 : Int) ≤ (L.length : Int) := by omega
    go_wp2_with (first
      | (go_at_call 76; refine (newest_any _ r b L HK.out).mono ?_; rintro e w1 ⟨rfl, x1⟩; have c1 := (HK.out.ext x1).cell; have hlen := fun ty => (HK.out.ext x1).map.len ty)
      | (go_at_call 84; refine (thereK_yes _ r b c1).mono ?_; rintro e w2 ⟨rfl, rfl⟩))
    go_ret2
    exact ⟨rfl, x1⟩
  · have ht : top (eps L) = 4294967295 := HF.out.resolve_left hl
    have hl2 : ¬ (64 : Int) ≤ (L.length : Int) := by omega
    have HN : Hid (∀ u, IsK u r b L → Calls Tryz.prog 76 #[.pointer (some ⟨r, 0, none⟩)] u fun e w' => e = .returned (.int .u32 4294967295) ∧ Ext u w') := Lib.hid (fun u hu => by
      have := newest_any u r b L hu
      rw [ht] at this
      exact this)
    go_wp2_with (first
      | (go_at_call 76; refine (HN.out _ HK.out).mono ?_; rintro e w1 ⟨rfl, x1⟩; have c1 := (HK.out.ext x1).cell; have hlen := fun ty => (HK.out.ext x1).map.len ty)
      | (go_at_call 84; refine (thereK_yes _ r b c1).mono ?_; rintro e w2 ⟨rfl, rfl⟩))
    go_ret2
    exact ⟨rfl, x1⟩
theorem extK_grown {a b' c : World} {row : Option Nat} (h : Ext a b') (k : b'.grownBy c row) : a.grownBy c row :=
  ⟨k.os.trans h.os, k.tape.trans h.tape, k.output.trans h.output, Nat.le_trans h.size k.size, fun i hi hne => (k.block i (Nat.lt_of_lt_of_le hi h.size) hne).trans (h.block i hi)⟩
theorem grownK_ext {a b' c : World} {row : Option Nat} (k : a.grownBy b' row) (h : Ext b' c) : a.grownBy c row :=
  ⟨h.os.trans k.os, h.tape.trans k.tape, h.output.trans k.output, Nat.le_trans k.size h.size, fun i hi hne => (h.block i (Nat.lt_of_lt_of_le hi k.size)).trans (k.block i hi hne)⟩
theorem IsK.turned {w w1 w2 : World} {r b : Nat} {L L' : List (Nat × ByteArray)} (h : IsK w r b L) (x : Ext w w1) (ht : w1.mapTurned w2 b) (hm : IsM w2 b L') (hg : GoodK L') : IsK w2 r b L' ∧ w.grownBy w2 (some b) := by
  have g := ht.grown
  exact ⟨⟨(g.block r (Nat.lt_of_lt_of_le h.ring.lt x.size) (by simpa using h.ne)).trans (h.ring.ext x), hm, hg⟩, extK_grown x g⟩
set_option maxRecDepth 100000 in
set_option maxHeartbeats 2000000 in
theorem rotate_yes (w : World) (r b : Nat) (L : List (Nat × ByteArray)) (h : IsK w r b L) (s : ByteArray) (hs : s.size = 32) (hl : L.length < 64) (ht : top (eps L) < 4294967295) :
    Calls Tryz.prog 45 #[.pointer (some ⟨r, 0, none⟩), .string s] w fun e w' => e = .returned (.tuple #[.int .u32 (top (eps L) + 1 : Nat), .int .i64 0]) ∧ IsK w' r b (L ++ [(top (eps L) + 1, s)]) ∧ w.grownBy w' (some b) := by
  have HK := Lib.hid h
  have hs2 : (s.size : Int) = 32 := by omega
  have hl2 : ¬ (64 : Int) ≤ (L.length : Int) := by omega
  have HG := Lib.hid (h.good.snoc (s := s) hl ht hs)
  have HP := Lib.hid (fun u (hu : IsM u b L) => hu.put (e := top (eps L) + 1) (s := s) (by omega) (fun q => by have := le_top q; omega))
  have HN := Lib.hid (fun u hu => newest_any u r b L hu)
  have HC := Lib.hid (fun u => rootKeyOf_any s hs u)
  clear h hl
  generalize top (eps L) = t at *
  have HE : Hid (((t + 1 : Nat) : Int) = (t : Int) + 1) := Lib.hid (by omega)
  have ht2 : (t : Int) ≠ 4294967295 := by omega
  have hw : IntKind.u32.wrap ((t : Int) + 1) = ((t + 1 : Nat) : Int) := by simp [IntKind.wrap, IntKind.signed, IntKind.bits]; omega
  go_enter Tryz.func45, Tryz.ntmps45
  go_wp2_with (first
    | (go_at_call 76; refine (HN.out _ HK.out).mono ?_; rintro e w1 ⟨rfl, x1⟩; have c1 := (HK.out.ext x1).cell; have hlen := fun ty => (HK.out.ext x1).map.len ty)
    | (go_at_call 84; refine (thereK_yes _ r b c1).mono ?_; rintro e w2 ⟨rfl, rfl⟩))
  · rename_i hbad
    exfalso
    simp at hbad
    omega
  go_region_with (go_at_call 73; refine (HC.out _).mono ?_; rintro e w3 ⟨rfl, x3⟩; have c3 := ((HK.out.ext x1).drew.ext x3).cell; obtain ⟨w4, hrun, hm4, ht4⟩ := HP.out _ ((HK.out.ext x1).drew.ext x3).map; rw [HE.out] at hrun)
  all_goals
    go_wp2
    go_ret2
    have hh := HK.out.turned (x1.drew.trans x3) ht4 hm4 HG.out
    exact ⟨by first | rfl | (rw [HE.out]; rfl) | (rw [HE.out]; done) | simp [HE.out], hh.1, hh.2⟩
end Go.Proofs.YtobhbppogeghnaaGreatDoor
end

section
namespace Go.Proofs.YtobhbppogeghnaaGreatDoor
open Go.RowKit

theorem GoodK.one (s : ByteArray) (hs : s.size = 32) : GoodK [(1, s)] := by
  refine ⟨by simp, by simp, by simp [eps], fun x hx => ?_⟩
  rw [List.mem_singleton] at hx
  subst hx
  exact ⟨Nat.le_refl _, by simp, hs⟩
set_option maxRecDepth 100000 in
set_option maxHeartbeats 2000000 in
theorem newK_yes (w : World) (s : ByteArray) (hs : s.size = 32) :
    Calls Tryz.prog 39 #[.string s] w fun e w' => ∃ r b, e = .returned (.tuple #[.pointer (some ⟨r, 0, none⟩), .int .i64 0]) ∧ IsK w' r b [(1, s)] ∧ w.heap.size ≤ r ∧ w.heap.size ≤ b ∧ Ext w w' := by
  have hs2 : (s.size : Int) = 32 := by omega
  have HC := Lib.hid (fun u => rootKeyOf_any s hs u)
  have HG := Lib.hid (GoodK.one s hs)
  obtain ⟨W0, hW0⟩ : ∃ W0, w.alloc (.map #[] 0) = W0 := ⟨_, rfl⟩
  have hx0 : Ext w W0 := by rw [← hW0]; exact (Ext.refl w).alloc _
  have hM0 : IsM W0 w.heap.size [] := by rw [← hW0]; exact IsM.made w
  have hmk : ∀ t, (Instr.makeMap t none).run Tryz.prog w = .ok (.map (some w.heap.size)) W0 := fun t => by rw [← hW0]; exact run_makeMap t w
  have HX := Lib.hid hx0; have HM := Lib.hid hM0
  have HP := Lib.hid (fun u (hu : IsM u w.heap.size []) => hu.put (e := 1) (s := s) (by omega) (by simp [eps]))
  clear hx0 hM0 hW0
  go_enter Tryz.func39, Tryz.ntmps39
  go_wp2_with (go_at_call 73; refine (HC.out _).mono ?_; rintro e w1 ⟨rfl, x1⟩; obtain ⟨w4, hrun, hm4, ht4⟩ := HP.out _ (HM.out.ext x1); rw [show ((1 : Nat) : Int) = 1 from rfl] at hrun)
  have g := ht4.grown
  have x4 : Ext w w4 := Ext.grown (HX.out.trans x1) g (fun k hk => by cases hk; exact Nat.le_refl _)
  go_ret2
  refine ⟨w4.heap.size, w.heap.size, rfl, ⟨Blk.new _ _ _, ?_, HG.out⟩, x4.size, Nat.le_refl _, x4.alloc _⟩
  simpa using hm4.alloc _
/-! ### Retire -/
theorem retire_top (w : World) (r b : Nat) (L : List (Nat × ByteArray)) (h : IsK w r b L) :
    Calls Tryz.prog 58 #[.pointer (some ⟨r, 0, none⟩), .int .u32 (top (eps L) : Int)] w fun x w' => x = .returned (.int .i64 2) ∧ Ext w w' := by
  have HK := Lib.hid h
  have HN := Lib.hid (fun u hu => newest_any u r b L hu)
  have hc := h.cell
  clear h
  generalize top (eps L) = t at *
  go_enter Tryz.func58, Tryz.ntmps58
  go_wp2_with (first
    | (go_at_call 76; refine (HN.out _ HK.out).mono ?_; rintro e w1 ⟨rfl, x1⟩)
    | (go_at_call 84; refine (thereK_yes _ r b hc).mono ?_; rintro e w2 ⟨rfl, rfl⟩))
  go_ret
  exact ⟨rfl, x1⟩
theorem retire_none (w : World) (r b : Nat) (L : List (Nat × ByteArray)) (h : IsK w r b L) (e : Nat) (h32 : e < 4294967296) (he : e ∉ eps L) :
    Calls Tryz.prog 58 #[.pointer (some ⟨r, 0, none⟩), .int .u32 (e : Int)] w fun x w' => x = .returned (.int .i64 3) ∧ Ext w w' := by
  have HK := Lib.hid h
  have HN := Lib.hid (fun u hu => newest_any u r b L hu)
  have hne : e ≠ top (eps L) := fun q => he (q ▸ h.good.top_in)
  have HH := Lib.hid (fun u (hu : IsK u r b L) => has_no u r b L e hu h32 he)
  have hc := h.cell
  clear h he
  generalize top (eps L) = t at *
  have hne2 : (e : Int) ≠ (t : Int) := by omega
  have hne3 : ((e : Int) == (t : Int)) = false := by simpa using hne2
  go_enter Tryz.func58, Tryz.ntmps58
  go_wp2_with (first
    | (go_at_call 76; refine (HN.out _ HK.out).mono ?_; rintro e w1 ⟨rfl, x1⟩)
    | (go_at_call 95; refine (HH.out _ (HK.out.ext x1)).mono ?_; rintro e w3 ⟨rfl, x3⟩)
    | (go_at_call 84; refine (thereK_yes _ r b hc).mono ?_; rintro e w2 ⟨rfl, rfl⟩))
  go_ret
  exact ⟨rfl, x1.trans x3⟩
set_option maxRecDepth 100000 in
set_option maxHeartbeats 2000000 in
theorem retire_yes (w : World) (r b : Nat) (L : List (Nat × ByteArray)) (h : IsK w r b L) (e : Nat) (hne : e ≠ top (eps L)) (he : e ∈ eps L) :
    Calls Tryz.prog 58 #[.pointer (some ⟨r, 0, none⟩), .int .u32 (e : Int)] w fun x w' => x = .returned (.int .i64 0) ∧ IsK w' r b (outK L e) ∧ w.grownBy w' (some b) := by
  have HK := Lib.hid h
  have h32 := (h.good.eps_each e he).2
  have HN := Lib.hid (fun u hu => newest_any u r b L hu)
  have HH := Lib.hid (fun u (hu : IsK u r b L) => has_yes u r b L e hu he)
  have HD := Lib.hid (fun u (hu : IsM u b L) => hu.drop h32 h.good.up)
  have HG := Lib.hid (h.good.out hne)
  have hc := h.cell
  clear h he
  generalize top (eps L) = t at *
  have hne2 : (e : Int) ≠ (t : Int) := by omega
  have hne3 : ((e : Int) == (t : Int)) = false := by simpa using hne2
  go_enter Tryz.func58, Tryz.ntmps58
  go_wp2_with (first
    | (go_at_call 76; refine (HN.out _ HK.out).mono ?_; rintro e w1 ⟨rfl, x1⟩)
    | (go_at_call 95; refine (HH.out _ (HK.out.ext x1)).mono ?_; rintro e w3 ⟨rfl, x3⟩; have x13 := x1.trans x3; have c3 := (HK.out.ext x13).cell; obtain ⟨w4, hrun, hm4, ht4⟩ := HD.out _ (HK.out.ext x13).map)
    | (go_at_call 84; refine (thereK_yes _ r b hc).mono ?_; rintro e w2 ⟨rfl, rfl⟩))
  go_ret
  have hh := HK.out.turned x13 ht4 hm4 HG.out
  exact ⟨rfl, hh.1, hh.2⟩
end Go.Proofs.YtobhbppogeghnaaGreatDoor
end
