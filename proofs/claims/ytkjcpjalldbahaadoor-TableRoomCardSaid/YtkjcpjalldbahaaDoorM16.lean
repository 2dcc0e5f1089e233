/- Plain: maps as lists of keys and elements: an element that is stored whatever was there, a key that is deleted. Contracts: copies of a cell: the law's copied, slices.Clone, the program's clone. -/
import Derived.Test.YtkjcpjalldbahaaDoorM15
import Derived.Test.YtkjcpjalldbahaaDoorM12
section
namespace Go.Proofs.YtkjcpjalldbahaaDoor
open Go.RowKit Go.ChangeMaps Go.MapKept
open Go.Maps (Keyed)

theorem keys_apart {es : Array MapEntry} {clock : Nat} (h : Stamped es clock) {i j : Nat} {x y : MapEntry} (hx : es.toList[i]? = some x) (hy : es.toList[j]? = some y) (hij : i ≠ j) : x.key ≠ y.key := by
  have hp := ((stamped_iff es clock).1 h).2.2
  rw [List.pairwise_iff_getElem] at hp
  obtain ⟨h1, rfl⟩ := List.getElem?_eq_some_iff.1 hx
  obtain ⟨h2, rfl⟩ := List.getElem?_eq_some_iff.1 hy
  rcases Nat.lt_or_gt_of_ne hij with h | h
  · exact hp i j h1 h2 h
  · exact fun e => hp j i h2 h1 h e.symm
section
variable {w w' : World} {P : Program} {k : TypeId} {b : Nat} {l : List (Value × Value)}
/-- m[k] = v. -/
theorem MapL.store {t e : TypeId} (h : MapL w P k b l) (K : Keyed P k) (ht : P.underlying t = some (.map k e)) {key val : Value} {kl : Lit} (hkey : keyOf P k key = some kl) :
    ∃ w' l', (Instr.mapUpdate t (.map (some b)) key val).run P w = .ok () w' ∧ MapL w' P k b l' ∧ (∀ p, p ∈ l' ↔ (p ∈ l ∧ p.1 ≠ key) ∨ p = (key, val)) ∧ w.mapTurned w' b := by
  obtain ⟨es, clock, hb, hs, rfl, hk⟩ := h
  rcases K.find w hkey es.toList (keys_of hk) with ⟨h1, h2⟩ | ⟨j, e0, h1, h2, h3⟩
  · refine ⟨setBlock w b (.map (es.push ⟨key, val, clock⟩) (clock + 1)), es.toList.map kv ++ [(key, val)], ?_, ⟨_, _, heap_setBlock_same hb _, stamped_push hs h2, by simp [kv], ?_⟩, ?_, ⟨es, clock, _, _, hb, rfl⟩⟩
    · simp [Instr.mapUpdate, run_underlying ht, MapKept.run_getObj_map hb, K.check w false hkey, h1, MapKept.run_setObj_map _ hb, Result.andThen, setBlock]
    · intro p hp
      rcases List.mem_append.1 hp with hp | hp
      · exact hk p hp
      · rw [List.mem_singleton] at hp
        subst hp
        exact ⟨kl, hkey⟩
    · intro p
      rw [List.mem_append, List.mem_singleton]
      refine or_congr ⟨fun hp => ⟨hp, ?_⟩, fun hp => hp.1⟩ Iff.rfl
      obtain ⟨x, hx, rfl⟩ := List.mem_map.1 hp
      exact h2 x hx
  · have hj : es[j]? = some e0 := by simpa using h2
    have hjl : j < es.toList.length := (List.getElem?_eq_some_iff.1 h2).1
    have hkeyf : ∀ e', es[j]? = some e' → ({ e' with key := key, val := val } : MapEntry).key = e'.key := fun e' he' => by rw [hj] at he'; cases he'; exact h3.symm
    have hlist : (es.modify j (fun e' => { e' with key := key, val := val })).toList = es.toList.set j { e0 with key := key, val := val } := by
      apply List.ext_getElem?
      intro i
      rw [Array.getElem?_toList, Array.getElem?_modify, List.getElem?_set]
      by_cases hij : j = i
      · subst hij
        rw [if_pos rfl, if_pos rfl, hj, if_pos hjl]
        rfl
      · rw [if_neg hij, if_neg hij, Array.getElem?_toList]
    have hmem : ∀ p, p ∈ (es.toList.set j { e0 with key := key, val := val }).map kv ↔ (p ∈ es.toList.map kv ∧ p.1 ≠ key) ∨ p = (key, val) := by
      intro p
      constructor
      · intro hp
        obtain ⟨x, hx, rfl⟩ := List.mem_map.1 hp
        obtain ⟨i, hi⟩ := List.getElem?_of_mem hx
        rw [List.getElem?_set] at hi
        split at hi
        · cases hi; right; rfl
        · rename_i hne
          left
          exact ⟨List.mem_map.2 ⟨x, List.mem_of_getElem? hi, rfl⟩, fun e => keys_apart hs hi h2 (fun q => hne q.symm) (e.trans h3.symm)⟩
      · rintro (⟨hp, hn⟩ | rfl)
        · obtain ⟨x, hx, rfl⟩ := List.mem_map.1 hp
          obtain ⟨i, hi⟩ := List.getElem?_of_mem hx
          have hij : ¬ j = i := fun e => by
            subst e
            rw [h2] at hi
            cases hi
            exact hn h3
          exact List.mem_map.2 ⟨x, List.mem_of_getElem? (i := i) (by rw [List.getElem?_set, if_neg hij]; exact hi), rfl⟩
        · exact List.mem_map.2 ⟨{ e0 with key := key, val := val }, List.mem_of_getElem? (i := j) (by rw [List.getElem?_set, if_pos rfl, if_pos hjl]), rfl⟩
    refine ⟨setBlock w b (.map (es.modify j (fun e' => { e' with key := key, val := val })) clock), (es.toList.set j { e0 with key := key, val := val }).map kv, ?_, ⟨_, _, heap_setBlock_same hb _, stamped_modify hs _ _ (fun _ _ => rfl) (fun e' _ he' => hkeyf e' he'), by rw [hlist], ?_⟩, hmem, ⟨es, clock, _, _, hb, rfl⟩⟩
    · simp [Instr.mapUpdate, run_underlying ht, MapKept.run_getObj_map hb, K.check w false hkey, h1, hj, h3, K.stays w hkey, MapKept.run_setObj_map _ hb, Result.andThen, setBlock]
    · intro p hp
      rcases (hmem p).1 hp with hp | rfl
      · exact hk p hp.1
      · exact ⟨kl, hkey⟩
/-- delete(m, k). -/
theorem MapL.drop {t e : TypeId} (h : MapL w P k b l) (K : Keyed P k) (ht : P.underlying t = some (.map k e)) {key : Value} {kl : Lit} (hkey : keyOf P k key = some kl) :
    ∃ w' l', (∀ ty, (Builtin.delete_ #[t, k] ty #[.map (some b), key]).run P w = .ok (.tuple #[]) w') ∧ MapL w' P k b l' ∧ (∀ p, p ∈ l' ↔ p ∈ l ∧ p.1 ≠ key) ∧ w.mapTurned w' b := by
  obtain ⟨es, clock, hb, hs, rfl, hk⟩ := h
  rcases K.find w hkey es.toList (keys_of hk) with ⟨h1, h2⟩ | ⟨j, e0, h1, h2, h3⟩
  · refine ⟨setBlock w b (.map es clock), es.toList.map kv, fun ty => ?_, ⟨_, _, heap_setBlock_same hb _, hs, rfl, hk⟩, fun p => ⟨fun hp => ⟨hp, ?_⟩, fun hp => hp.1⟩, ⟨es, clock, _, _, hb, rfl⟩⟩
    · simp [Builtin.delete_, run_underlying ht, MapKept.run_getObj_map hb, K.check w _ hkey, h1, MapKept.run_setObj_map _ hb, Result.andThen, setBlock]
    · obtain ⟨x, hx, rfl⟩ := List.mem_map.1 hp
      exact h2 x hx
  · have hjl : j < es.toList.length := (List.getElem?_eq_some_iff.1 h2).1
    have hjs : j < es.size := by simpa using hjl
    have hsub : (es.eraseIdxIfInBounds j).toList = es.toList.eraseIdx j := by
      unfold Array.eraseIdxIfInBounds
      rw [dif_pos hjs, Array.toList_eraseIdx]
    have hmem : ∀ p, p ∈ (es.toList.eraseIdx j).map kv ↔ p ∈ es.toList.map kv ∧ p.1 ≠ key := by
      intro p
      constructor
      · intro hp
        obtain ⟨x, hx, rfl⟩ := List.mem_map.1 hp
        obtain ⟨i, hne, hi⟩ := List.mem_eraseIdx_iff_getElem?.1 hx
        exact ⟨List.mem_map.2 ⟨x, List.mem_of_getElem? hi, rfl⟩, fun e => keys_apart hs hi h2 hne (e.trans h3.symm)⟩
      · rintro ⟨hp, hn⟩
        obtain ⟨x, hx, rfl⟩ := List.mem_map.1 hp
        obtain ⟨i, hi⟩ := List.getElem?_of_mem hx
        have hij : i ≠ j := fun e => by
          subst e
          rw [h2] at hi
          cases hi
          exact hn h3
        exact List.mem_map.2 ⟨x, List.mem_eraseIdx_iff_getElem?.2 ⟨i, hij, hi⟩, rfl⟩
    refine ⟨setBlock w b (.map (es.eraseIdxIfInBounds j) clock), (es.toList.eraseIdx j).map kv, fun ty => ?_, ⟨_, _, heap_setBlock_same hb _, stamped_erase hs j, by rw [hsub], fun p hp => hk p ((hmem p).1 hp).1⟩, hmem, ⟨es, clock, _, _, hb, rfl⟩⟩
    simp [Builtin.delete_, run_underlying ht, MapKept.run_getObj_map hb, K.check w _ hkey, h1, MapKept.run_setObj_map _ hb, Result.andThen, setBlock]
end
end Go.Proofs.YtkjcpjalldbahaaDoor
end

section
namespace Go.Proofs.YtkjcpjalldbahaaDoor
open Go.RowKit

section
variable {w w' : World} {B : Nat} {p : Option Addr} {c : Nat} {L : List Ver}
theorem IsV.setCell (h : IsV w B p c L) {a : Addr} (ha : a.block < B) (u : Value) : IsV (w.setCell a u) B p c L :=
  ⟨h.sl.same (fun g _ hg => Below.heap_setCell _ _ _ _ (by have := h.low g (kp_one hg); omega)) (fun _ _ q => q), h.low⟩
/-- A new slice of versions. -/
theorem isV_new {p' : Option Addr} {c' n : Nat} {κ' : Foot} (hn : L.length = n) (s : Sl w' κ' 1 3 58 p' n c' (vsCells L)) (e : p' = none ∨ p' = some ⟨B, 0, none⟩) : IsV w' B p' c' L := by
  subst hn
  refine ⟨s.kp, fun g hg => ?_⟩
  rcases e with e | e
  · rw [e] at hg; cases hg
  · rw [e] at hg; cases hg; exact Nat.le_refl _
end
theorem size2 (w : World) (o o' : Obj) : ((w.alloc o).alloc o').heap.size = w.heap.size + 2 := by simp
theorem nilV (p : Option Addr) (n c : Nat) (w : World) : (binOp .eql 52 (.slice p n c) (.slice none 0 0)).run Tryd.prog w = .ok (.bool p.isNone) w := by
  have h2 : ∀ d, (Op.equalIn (d + 1) 52 (.slice p n c) (.slice none 0 0)).run Tryd.prog w = .ok p.isNone w := fun d => by
    cases p <;> simp [Op.equalIn, run_underlying Tryd.underlying52]
  have h : (Op.equal 52 (.slice p n c) (.slice none 0 0)).run Tryd.prog w = .ok p.isNone w := h2 9999
  simp [binOp, h]
theorem VersP.none_nil {w : World} {L : List Ver} (h : VersP w none L) : L = [] := by
  cases L with
  | nil => rfl
  | cons v r => obtain ⟨a, e, _⟩ := h 0 v rfl; cases e
set_option maxRecDepth 100000 in
set_option maxHeartbeats 2000000 in
/-- slices.Clone of versions. -/
theorem cloneV_any (w : World) (p : Option Addr) (c : Nat) (L : List Ver) (h : VersP w p L) (hl : L.length ≤ 1000000) :
    Calls Tryd.prog 23 #[.slice p L.length c] w fun e w' => ∃ q c', e = .returned (.slice q L.length c') ∧ IsV w' w.heap.size q c' L ∧ Ext w w' := by
  have hnil := fun p n c u => nilV p n c u
  cases p with
  | none =>
    obtain rfl := h.none_nil
    clear h
    go_enter Tryd.func23, Tryd.ntmps23
    go_wp2
    go_ret
    exact ⟨none, 0, rfl, IsV.nil _ _, Ext.refl _⟩
  | some a =>
    have HX0 := Lib.hid ((Ext.refl w).alloc (.cells #[] 58))
    have HS := Lib.hid ((h.ext HX0.out).src c)
    obtain ⟨k, hk⟩ : ∃ k, L.length = k := ⟨_, rfl⟩
    have HK := Lib.hid hk
    rw [hk] at hl HS ⊢
    have hl2 : 0 + k ≤ 1000000000 := by omega
    generalize hcs : vsCells L = cs at *
    have HC := Lib.hid hcs
    clear h hk hcs
    go_enter Tryd.func23, Tryd.ntmps23
    go_wp2_with (refine wpList_append_sl rfl (.tmp 5) (.tmp 6) 52 52 rfl Tryd.underlying52 infoV rfl (by decide) rfl (Sl.empty _ (kp none) 1 3 _ w.heap.size) (fun u hu => by cases hu) _ rfl k cs HS.out hl2 ?_; intro p1 c1 w1 κ1 s1 f1 e1 x1 o1; rw [Nat.zero_add, List.nil_append] at s1; have HSl := Lib.hid s1; have HE := Lib.hid e1; have HX1 := Lib.hid (x1 rfl); clear s1 f1 e1 x1 o1; rw [Nat.zero_add])
    go_ret
    refine ⟨p1, c1, rfl, ?_, HX0.out.trans HX1.out⟩
    refine ⟨?_, fun g hg => ?_⟩
    · have s := HSl.out.kp
      rw [← HC.out, ← HK.out] at s
      exact s
    · rcases HE.out with e | e
      · rw [e] at hg; cases hg; exact Nat.le_refl _
      · rw [e] at hg; cases hg; simp
set_option maxRecDepth 100000 in
set_option maxHeartbeats 2000000 in
/-- The program's clone. -/
theorem clone_any (w : World) (m : Nat) (p : Option Addr) (c : Nat) (L : List Ver) (h : VersP w p L) (hl : L.length ≤ 1000000) :
    Calls Tryd.prog 58 #[.agg #[.int .u64 (m : Int), .slice p L.length c]] w fun e w' => ∃ q c', e = .returned (.agg #[.int .u64 (m : Int), .slice q L.length c']) ∧ IsV w' w.heap.size q c' L ∧ Ext w w' := by
  have HX0 := Lib.hid (((Ext.refl w).alloc (.cells #[.int .u64 (m : Int), .slice p L.length c] 54)).alloc (.cells #[.int .u64 0, .slice none 0 0] 54))
  have HB1 := Lib.hid ((Blk.new w [.int .u64 (m : Int), .slice p L.length c] 54).alloc (.cells #[.int .u64 0, .slice none 0 0] 54))
  have HB2 := Lib.hid (Blk.new1V w (.cells #[.int .u64 (m : Int), .slice p L.length c] 54) [.int .u64 0, .slice none 0 0] 54)
  have HZ := Lib.hid (size2 w (.cells #[.int .u64 (m : Int), .slice p L.length c] 54) (.cells #[.int .u64 0, .slice none 0 0] 54))
  have HC := Lib.hid (cloneV_any _ p c L (h.ext HX0.out) hl)
  obtain ⟨k, hk⟩ : ∃ k, L.length = k := ⟨_, rfl⟩
  rw [hk] at HX0 HB1 HB2 HZ HC ⊢
  clear h hk hl
  go_enter Tryd.func58, Tryd.ntmps58
  go_wp2_with (go_at_call 23; refine HC.out.mono ?_; rintro e w1 ⟨p1, c1, rfl, v1, x1⟩; have HV := Lib.hid v1; have HX1 := Lib.hid x1; have HB3 := Lib.hid (HB1.out.ext HX1.out); have HB4 := Lib.hid (HB2.out.ext HX1.out); have b0 := HB3.out.cell 0 _ rfl; have b1 := HB3.out.cell 1 _ rfl; have z1 := HB3.out.frozen 1; have d0 := HB4.out.cell 0 _ rfl; have d1 := HB4.out.cell 1 _ rfl; have y0 := HB4.out.frozen 0; have y1 := HB4.out.frozen 1; clear v1 x1)
  have HV2 := HV.out
  rw [HZ.out] at HV2
  have HW := ((HV2.setCell (a := ⟨w.heap.size, 1, none⟩) (by show w.heap.size < _; omega) (.slice p1 k c1)).setCell (a := ⟨w.heap.size + 1, 0, none⟩) (by show w.heap.size + 1 < _; omega) (.int .u64 (m : Int))).setCell (a := ⟨w.heap.size + 1, 1, none⟩) (by show w.heap.size + 1 < _; omega) (.slice p1 k c1)
  exact bodyPost_ret (results_cell_row rfl _ _ (w.heap.size + 1) 54 #[.int .u64 (m : Int), .slice p1 k c1] (0, 0) _ rfl (((HB4.out.other (by omega) _ _).set_ 0 _).set_ 1 _) Tryd.underlying54 rfl cell_info) rfl ⟨p1, c1, rfl, HW.base (by omega), (((HX0.out.trans HX1.out).setCell (p := ⟨w.heap.size, 1, none⟩) (Nat.le_refl _) _).setCell (p := ⟨w.heap.size + 1, 0, none⟩) (Nat.le_succ _) _).setCell (p := ⟨w.heap.size + 1, 1, none⟩) (Nat.le_succ _) _⟩
end Go.Proofs.YtkjcpjalldbahaaDoor
end
