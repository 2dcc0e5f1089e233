/- Plain: maps as lists of keys and elements: an element that is stored whatever was there, a key that is deleted. -/
import Derived.Test.YteddogalmdgjlaaDoorMapL
namespace Go.Proofs.YteddogalmdgjlaaDoor
open Go.RowKit Go.ChangeMaps Go.MapKept
open Go.Maps (Keyed)

theorem keys_apart {es : Array MapEntry} {clock : Nat} (h : Stamped es clock) {i j : Nat} {x y : MapEntry} (hx : es.toList[i]? = some x) (hy : es.toList[j]? = some y) (hij : i ≠ j) : x.key ≠ y.key := by
  have hp := ((stamped_iff es clock).1 h).2.2
  rw [List.pairwise_iff_getElem] at hp
  obtain ⟨h1, rfl⟩ := List.getElem?_eq_some_iff.1 hx
  obtain ⟨h2, rfl⟩ := List.getElem?_eq_some_iff.1 hy
  rcases Nat.lt_or_gt_of_ne hij with h | h
  · exact hp i j h1 h2 h
  · exact fun e => hp j i h2 h1 h e.symm
section
variable {w w' : World} {P : Program} {k : TypeId} {b : Nat} {l : List (Value × Value)}
/-- m[k] = v. -/
theorem MapL.store {t e : TypeId} (h : MapL w P k b l) (K : Keyed P k) (ht : P.underlying t = some (.map k e)) {key val : Value} {kl : Lit} (hkey : keyOf P k key = some kl) :
    ∃ w' l', (Instr.mapUpdate t (.map (some b)) key val).run P w = .ok () w' ∧ MapL w' P k b l' ∧ (∀ p, p ∈ l' ↔ (p ∈ l ∧ p.1 ≠ key) ∨ p = (key, val)) ∧ w.mapTurned w' b := by
  obtain ⟨es, clock, hb, hs, rfl, hk⟩ := h
  rcases K.find w hkey es.toList (keys_of hk) with ⟨h1, h2⟩ | ⟨j, e0, h1, h2, h3⟩
  · refine ⟨setBlock w b (.map (es.push ⟨key, val, clock⟩) (clock + 1)), es.toList.map kv ++ [(key, val)], ?_, ⟨_, _, heap_setBlock_same hb _, stamped_push hs h2, by simp [kv], ?_⟩, ?_, ⟨es, clock, _, _, hb, rfl⟩⟩
    · simp [Instr.mapUpdate, run_underlying ht, MapKept.run_getObj_map hb, K.check w false hkey, h1, MapKept.run_setObj_map _ hb, Result.andThen, setBlock]
    · intro p hp
      rcases List.mem_append.1 hp with hp | hp
      · exact hk p hp
      · rw [List.mem_singleton] at hp
        subst hp
        exact ⟨kl, hkey⟩
    · intro p
      rw [List.mem_append, List.mem_singleton]
      refine or_congr ⟨fun hp => ⟨hp, ?_⟩, fun hp => hp.1⟩ Iff.rfl
      obtain ⟨x, hx, rfl⟩ := List.mem_map.1 hp
      exact h2 x hx
  · have hj : es[j]? = some e0 := by simpa using h2
    have hjl : j < es.toList.length := (List.getElem?_eq_some_iff.1 h2).1
    have hkeyf : ∀ e', es[j]? = some e' → ({ e' with key := key, val := val } : MapEntry).key = e'.key := fun e' he' => by rw [hj] at he'; cases he'; exact h3.symm
    have hlist : (es.modify j (fun e' => { e' with key := key, val := val })).toList = es.toList.set j { e0 with key := key, val := val } := by
      apply List.ext_getElem?
      intro i
      rw [Array.getElem?_toList, Array.getElem?_modify, List.getElem?_set]
      by_cases hij : j = i
      · subst hij
        rw [if_pos rfl, if_pos rfl, hj, if_pos hjl]
        rfl
      · rw [if_neg hij, if_neg hij, Array.getElem?_toList]
    have hmem : ∀ p, p ∈ (es.toList.set j { e0 with key := key, val := val }).map kv ↔ (p ∈ es.toList.map kv ∧ p.1 ≠ key) ∨ p = (key, val) := by
      intro p
      constructor
      · intro hp
        obtain ⟨x, hx, rfl⟩ := List.mem_map.1 hp
        obtain ⟨i, hi⟩ := List.getElem?_of_mem hx
        rw [List.getElem?_set] at hi
        split at hi
        · cases hi; right; rfl
        · rename_i hne
          left
          exact ⟨List.mem_map.2 ⟨x, List.mem_of_getElem? hi, rfl⟩, fun e => keys_apart hs hi h2 (fun q => hne q.symm) (e.trans h3.symm)⟩
      · rintro (⟨hp, hn⟩ | rfl)
        · obtain ⟨x, hx, rfl⟩ := List.mem_map.1 hp
          obtain ⟨i, hi⟩ := List.getElem?_of_mem hx
          have hij : ¬ j = i := fun e => by
            subst e
            rw [h2] at hi
            cases hi
            exact hn h3
          exact List.mem_map.2 ⟨x, List.mem_of_getElem? (i := i) (by rw [List.getElem?_set, if_neg hij]; exact hi), rfl⟩
        · exact List.mem_map.2 ⟨{ e0 with key := key, val := val }, List.mem_of_getElem? (i := j) (by rw [List.getElem?_set, if_pos rfl, if_pos hjl]), rfl⟩
    refine ⟨setBlock w b (.map (es.modify j (fun e' => { e' with key := key, val := val })) clock), (es.toList.set j { e0 with key := key, val := val }).map kv, ?_, ⟨_, _, heap_setBlock_same hb _, stamped_modify hs _ _ (fun _ _ => rfl) (fun e' _ he' => hkeyf e' he'), by rw [hlist], ?_⟩, hmem, ⟨es, clock, _, _, hb, rfl⟩⟩
    · simp [Instr.mapUpdate, run_underlying ht, MapKept.run_getObj_map hb, K.check w false hkey, h1, hj, h3, K.stays w hkey, MapKept.run_setObj_map _ hb, Result.andThen, setBlock]
    · intro p hp
      rcases (hmem p).1 hp with hp | rfl
      · exact hk p hp.1
      · exact ⟨kl, hkey⟩
/-- delete(m, k). -/
theorem MapL.drop {t e : TypeId} (h : MapL w P k b l) (K : Keyed P k) (ht : P.underlying t = some (.map k e)) {key : Value} {kl : Lit} (hkey : keyOf P k key = some kl) :
    ∃ w' l', (∀ ty, (Builtin.delete_ #[t, k] ty #[.map (some b), key]).run P w = .ok (.tuple #[]) w') ∧ MapL w' P k b l' ∧ (∀ p, p ∈ l' ↔ p ∈ l ∧ p.1 ≠ key) ∧ w.mapTurned w' b := by
  obtain ⟨es, clock, hb, hs, rfl, hk⟩ := h
  rcases K.find w hkey es.toList (keys_of hk) with ⟨h1, h2⟩ | ⟨j, e0, h1, h2, h3⟩
  · refine ⟨setBlock w b (.map es clock), es.toList.map kv, fun ty => ?_, ⟨_, _, heap_setBlock_same hb _, hs, rfl, hk⟩, fun p => ⟨fun hp => ⟨hp, ?_⟩, fun hp => hp.1⟩, ⟨es, clock, _, _, hb, rfl⟩⟩
    · simp [Builtin.delete_, run_underlying ht, MapKept.run_getObj_map hb, K.check w _ hkey, h1, MapKept.run_setObj_map _ hb, Result.andThen, setBlock]
    · obtain ⟨x, hx, rfl⟩ := List.mem_map.1 hp
      exact h2 x hx
  · have hjl : j < es.toList.length := (List.getElem?_eq_some_iff.1 h2).1
    have hjs : j < es.size := by simpa using hjl
    have hsub : (es.eraseIdxIfInBounds j).toList = es.toList.eraseIdx j := by
      unfold Array.eraseIdxIfInBounds
      rw [dif_pos hjs, Array.toList_eraseIdx]
    have hmem : ∀ p, p ∈ (es.toList.eraseIdx j).map kv ↔ p ∈ es.toList.map kv ∧ p.1 ≠ key := by
      intro p
      constructor
      · intro hp
        obtain ⟨x, hx, rfl⟩ := List.mem_map.1 hp
        obtain ⟨i, hne, hi⟩ := List.mem_eraseIdx_iff_getElem?.1 hx
        exact ⟨List.mem_map.2 ⟨x, List.mem_of_getElem? hi, rfl⟩, fun e => keys_apart hs hi h2 hne (e.trans h3.symm)⟩
      · rintro ⟨hp, hn⟩
        obtain ⟨x, hx, rfl⟩ := List.mem_map.1 hp
        obtain ⟨i, hi⟩ := List.getElem?_of_mem hx
        have hij : i ≠ j := fun e => by
          subst e
          rw [h2] at hi
          cases hi
          exact hn h3
        exact List.mem_map.2 ⟨x, List.mem_eraseIdx_iff_getElem?.2 ⟨i, hij, hi⟩, rfl⟩
    refine ⟨setBlock w b (.map (es.eraseIdxIfInBounds j) clock), (es.toList.eraseIdx j).map kv, fun ty => ?_, ⟨_, _, heap_setBlock_same hb _, stamped_erase hs j, by rw [hsub], fun p hp => hk p ((hmem p).1 hp).1⟩, hmem, ⟨es, clock, _, _, hb, rfl⟩⟩
    simp [Builtin.delete_, run_underlying ht, MapKept.run_getObj_map hb, K.check w _ hkey, h1, MapKept.run_setObj_map _ hb, Result.andThen, setBlock]
end
end Go.Proofs.YteddogalmdgjlaaDoor
