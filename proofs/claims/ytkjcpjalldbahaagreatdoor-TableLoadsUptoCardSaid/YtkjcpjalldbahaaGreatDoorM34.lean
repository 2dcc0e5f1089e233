/- Contract: the document's Drop. -/
import Derived.Test.YtkjcpjalldbahaaGreatDoorM33
section
namespace Go.Proofs.YtkjcpjalldbahaaGreatDoor
open Go.RowKit Go.ChangeMaps Go.MapKept

theorem src_rows {w : World} {a : Addr} {K : List Ent} (h : RowsP w (some a) K) (c : Nat) : Src Tryz.prog 3 31 (.slice (some a) K.length c) K.length (entCells K) w := by
  refine Src.ofSlice w Tryz.underlying31 a K.length c _ (entCells_len K) (fun j u hj => ?_) (entCells_one K)
  have hl : j < K.length * 3 := by rw [← entCells_len]; exact (List.getElem?_eq_some_iff.1 hj).1
  obtain ⟨x, hx⟩ : ∃ x, K[j / 3]? = some x := ⟨_, List.getElem?_eq_getElem (by omega)⟩
  obtain ⟨u', hu⟩ : ∃ u', x.cells[j % 3]? = some u' := ⟨_, List.getElem?_eq_getElem (by simp [Ent.cells]; omega)⟩
  have e := entCells_get K _ x hx _ _ hu
  rw [show j / 3 * 3 + j % 3 = j by omega, hj] at e
  cases e
  obtain ⟨b, e1, _, h3⟩ := h.1 _ x hx
  cases e1
  have := h3 _ _ hu
  rwa [show j / 3 * 3 + j % 3 = j by omega] at this
theorem RowsP.drop {w : World} {a : Addr} {M : List Ent} (h : RowsP w (some a) M) (j : Nat) : RowsP w (some (a.add (j * 3))) (M.drop j) := by
  refine ⟨fun k x hk => ?_, fun e he => h.2 e (List.mem_of_mem_drop he)⟩
  rw [List.getElem?_drop] at hk
  obtain ⟨b, e1, h2, h3⟩ := h.1 _ x hk
  cases e1
  refine ⟨_, rfl, by rw [add_blockV]; exact h2, fun i v hv => ?_⟩
  rw [Go.Deep.add_add, show j * 3 + (k * 3 + i) = (j + k) * 3 + i by omega]
  exact h3 i v hv
theorem RowsP.empty (w : World) (p : Option Addr) : RowsP w p [] := ⟨fun k x hk => by simp at hk, fun e he => by cases he⟩
theorem drop_at {M : List Ent} {k : Nat} {x : Ent} (hR : RisesR (M.map Ent.row)) (hk : M[k]? = some x) : (M.take k ++ M.drop (k + 1)).map Ent.row = dropR x.p (M.map Ent.row) := by
  obtain ⟨q1, q2⟩ := List.getElem?_eq_some_iff.1 hk
  have hM : M = M.take k ++ x :: M.drop (k + 1) := by
    conv => lhs; rw [← List.take_append_drop k M, List.drop_eq_getElem_cons q1, q2]
  have hn := hR.nodup
  rw [hM, List.map_append, List.map_append, List.nodup_append] at hn
  obtain ⟨_, h2, h3⟩ := hn
  rw [List.map_cons, List.map_cons, List.nodup_cons] at h2
  have hA : ∀ y ∈ (M.take k).map Ent.row, y.p ≠ x.p := fun y hy e => h3 y.p (List.mem_map.2 ⟨y, hy, rfl⟩) x.p (by simp [Ent.row]) e
  have hB : ∀ y ∈ (M.drop (k + 1)).map Ent.row, y.p ≠ x.p := fun y hy e => h2.1 (List.mem_map.2 ⟨y, hy, e⟩)
  conv => rhs; rw [hM]
  unfold dropR
  rw [List.map_append, List.map_append, List.map_cons, List.filter_append, List.filter_cons, if_neg (by simp [Ent.row]), List.filter_eq_self.2 (fun y hy => by simpa using hA y hy), List.filter_eq_self.2 (fun y hy => by simpa using hB y hy)]
theorem low_new {p : Option Addr} {B : Nat} (e : p = none ∨ p = some ⟨B, 0, none⟩) : ∀ g, p = some ⟨g, 0, none⟩ → B ≤ g := fun g hg => by
  rcases e with e | e
  · rw [e] at hg; cases hg
  · rw [e] at hg; cases hg; exact Nat.le_refl _
section
variable {w w' wr : World} {r : Nat} {qp qb : Int} {R : List RowP} {pv : Option Addr} {κ' : Foot}
theorem IsRT.appended (h : IsRT wr r qp qb R) (x : Ext wr w) (hp : ∀ g, pv = some ⟨g, 0, none⟩ → wr.heap.size ≤ g) (f : Fr (kp pv) (fun j => j = 1) w w' κ') : IsRT w' r qp qb R := by
  obtain ⟨p, c, M, h1, h2, h3, h4⟩ := h
  exact ⟨p, c, M, f.blk (h1.ext x) (fun q => by have := hp _ (kp_one q); have := h1.lt; omega), (h2.ext x).fr (fun g hg => h2.farNew (hp g hg)) f, h3, h4⟩
theorem fr_turn {B : Nat} (f : Fr (kp pv) (fun j => j = 1) w w' κ') (hp : ∀ g, pv = some ⟨g, 0, none⟩ → B ≤ g) : Turn (fun g => B ≤ g) w w' := ⟨f.os, f.tape, f.output, f.size, fun g hg hn => f.other g hg (fun q => hn (hp _ (kp_one q)))⟩
end
set_option maxRecDepth 100000 in
set_option maxHeartbeats 8000000 in
theorem rdrop_any (w : World) (r : Nat) (qp qb : Int) (R : List RowP) (h : IsRT w r qp qb R) (hl : R.length ≤ 60000) (p : Option Addr) (c : Nat) (P : List ByteArray) (hP : TextsP w p P) (hn : P.length ≤ 5000) :
    Calls Tryz.prog 31 #[.pointer (some ⟨r, 0, none⟩), .slice p P.length c] w fun e w' => ∃ d : Nat, e = .returned (.int .i64 (d : Int)) ∧ d + (dropsR R P).length = R.length ∧ IsRT w' r qp qb (dropsR R P) ∧ Turn (fun g => g = r) w w' := by
  have HT := Lib.hid h
  have HP := Lib.hid hP
  obtain ⟨n, hnn⟩ : ∃ n, P.length = n := ⟨_, rfl⟩
  have HN := Lib.hid hnn
  rw [hnn] at hn ⊢
  clear h hP hnn
  go_enter Tryz.func31, Tryz.ntmps31
  go_wp2
  go_loopw [5, 6] (fun nv iv wr => ∃ (i d : Nat), i ≤ n ∧ d ≤ i ∧ iv = .int .i64 (i : Int) ∧ nv = .int .i64 (d : Int) ∧ Hid (d + (dropsR R (P.take i)).length = R.length) ∧ Hid (IsRT wr r qp qb (dropsR R (P.take i))) ∧ Hid (Turn (fun g => g = r) w wr)) (fun _ iv _ => n - (intOf iv).toNat)
  case atStart => exact ⟨0, 0, Nat.zero_le _, Nat.zero_le _, rfl, rfl, Lib.hid (by simp [dropsR]), HT, Lib.hid (Turn.refl _ _)⟩
  case round =>
    obtain ⟨i, d, hi, hdi, rfl, rfl, HD, HTi, HTu⟩ := hrel
    by_cases hlt : i < n
    · obtain ⟨s, hs⟩ : ∃ s, P[i]? = some s := ⟨_, List.getElem?_eq_getElem (by have := HN.out; omega)⟩
      have hPi : TextsP wr.drew p P := fun k x hk => by
        obtain ⟨a, h1, h2, h3⟩ := HP.out k x hk
        refine ⟨a, h1, Nat.lt_of_lt_of_le h2 HTu.out.size, ?_⟩
        have hne : a.block ≠ r := fun e => by
          have hnb : ∀ v ∈ ([.int .i64 qp, .int .i64 qb] : List Value), True := fun _ _ => trivial
          obtain ⟨p9, c9, M9, hb9, _⟩ := HT.out
          have hb := hb9
          unfold Blk at hb
          unfold World.cell? at h3
          rw [add_blockV, e, hb] at h3
          dsimp only at h3
          split at h3
          · cases h3
          · have h4 : ([.int .i64 qp, .int .i64 qb, .slice p9 M9.length c9] : List Value)[(a.add k).off]? = some (.string x) := by simpa using h3
            have := List.mem_of_getElem? h4
            simp at this
        have hbl := HTu.out.other a.block h2 hne
        show wr.cell? (a.add k) = _
        unfold World.cell? at h3 ⊢
        rw [add_blockV] at h3 ⊢
        rw [hbl]
        exact h3
      obtain ⟨pa, rfl, _, t0⟩ := hPi i s hs
      obtain ⟨R1, hR1⟩ : ∃ R1, dropsR R (P.take i) = R1 := ⟨_, rfl⟩
      have htk : dropsR R (P.take (i + 1)) = dropR s R1 := by rw [List.take_add_one, hs, ← hR1]; exact dropsR_snoc _ _ _
      have HTk := Lib.hid htk
      have hlR := dropsR_len (P.take i) R
      rw [hR1] at HD HTi hlR
      obtain ⟨p1, c1, M1, hB1, hP1, hM1, hG1, hc1⟩ := HTi.out
      obtain ⟨m1, hm1⟩ : ∃ m, M1.length = m := ⟨_, rfl⟩
      have hml : R1.length = m1 := by rw [← hM1, List.length_map, hm1]
      have hD := hB1.drew
      have b2 := hB1.cell 2 _ rfl
      have b3 := hD.cell 2 _ rfl
      rw [hm1] at b2 b3
      have t1 : wr.cell? (pa.add i) = _ := t0
      cases hh : hasR R1 s with
      | false =>
        have HY := Lib.hid (rtat_no wr.drew p1 c1 M1 (hP1.ext (Ext.refl wr).drew) (by omega) s (by rw [hM1]; exact hh))
        rw [hm1] at HY
        have hsame : dropR s R1 = R1 := dropR_none (by
          unfold hasR at hh
          cases e : lookR R1 s with
          | none => rfl
          | some y => rw [e] at hh; cases hh)
        have HTk2 := Lib.hid (htk.trans hsame)
        clear hPi htk hs hh hsame hB1 hP1 hM1 hG1 hc1 hD hml hm1
        go_upto_region 5 with (fail)
        refine wp_region_held_drew (S := fun u => u = wr.drew) (by kernel_rfl) rfl (fun hHeld => ?_)
        refine wpAnyH_take (i := 0) (oi := { dst := some 15, op := Go.Op.move (Go.Operand.tmp 0), type := 30, pos := "ref.go:163", after := #[], guard := none }) (v := ?_) rfl (by kernel_rfl) (by kernel_rfl) (by kernel_rfl) (fun _ _ _ h => h) (Or.inl ⟨by rfl, ?_⟩) (by assumption) ?_
        rotate_left
        · (intro u hSw; (subst hSw); go_simp; try (with_reducible rfl))
        try simp only [Act.put, List.setIfInBounds_toArray, List.set_cons_zero, List.set_cons_succ]
        refine wpAnyH_take (i := 1) (oi := { dst := some 16, op := Go.Op.nilCheck (Go.Operand.tmp 15), type := 0, pos := "ref.go:163", after := #[{ on := 0, ground := Go.Ground.data }], guard := none }) (v := ?_) rfl (by kernel_rfl) (by kernel_rfl) (by kernel_rfl) (fun _ _ _ h => h) (Or.inl ⟨by rfl, ?_⟩) (by assumption) ?_
        rotate_left
        · (intro u hSw; (subst hSw); go_simp; try (with_reducible rfl))
        try simp only [Act.put, List.setIfInBounds_toArray, List.set_cons_zero, List.set_cons_succ]
        refine wpAnyH_take (i := 2) (oi := { dst := some 17, op := Go.Op.fieldAddr 33 (Go.Operand.tmp 16) 1, type := 0, pos := "ref.go:163", after := #[{ on := 1, ground := Go.Ground.data }], guard := none }) (v := ?_) rfl (by kernel_rfl) (by kernel_rfl) (by kernel_rfl) (fun _ _ _ h => h) (Or.inl ⟨by rfl, ?_⟩) (by assumption) ?_
        rotate_left
        · (intro u hSw; (subst hSw); go_simp; try (with_reducible rfl))
        try simp only [Act.put, List.setIfInBounds_toArray, List.set_cons_zero, List.set_cons_succ]
        refine wpAnyH_take (i := 3) (oi := { dst := some 18, op := Go.Op.load 31 (Go.Operand.tmp 17), type := 31, pos := "ref.go:163", after := #[{ on := 2, ground := Go.Ground.data }], guard := none }) (v := ?_) rfl (by kernel_rfl) (by kernel_rfl) (by kernel_rfl) (fun _ _ _ h => h) (Or.inl ⟨by rfl, ?_⟩) (by assumption) ?_
        rotate_left
        · (intro u hSw; (subst hSw); go_simp; try (with_reducible rfl))
        try simp only [Act.put, List.setIfInBounds_toArray, List.set_cons_zero, List.set_cons_succ]
        refine wpAnyH_take (i := 4) (oi := { dst := some 19, op := Go.Op.move (Go.Operand.tmp 1), type := 36, pos := "ref.go:163", after := #[], guard := none }) (v := ?_) rfl (by kernel_rfl) (by kernel_rfl) (by kernel_rfl) (fun _ _ _ h => h) (Or.inl ⟨by rfl, ?_⟩) (by assumption) ?_
        rotate_left
        · (intro u hSw; (subst hSw); go_simp; try (with_reducible rfl))
        try simp only [Act.put, List.setIfInBounds_toArray, List.set_cons_zero, List.set_cons_succ]
        refine wpAnyH_take (i := 5) (oi := { dst := some 20, op := Go.Op.move (Go.Operand.tmp 6), type := 3, pos := "ref.go:163", after := #[], guard := none }) (v := ?_) rfl (by kernel_rfl) (by kernel_rfl) (by kernel_rfl) (fun _ _ _ h => h) (Or.inl ⟨by rfl, ?_⟩) (by assumption) ?_
        rotate_left
        · (intro u hSw; (subst hSw); go_simp; try (with_reducible rfl))
        try simp only [Act.put, List.setIfInBounds_toArray, List.set_cons_zero, List.set_cons_succ]
        refine wpAnyH_take (i := 6) (oi := { dst := some 21, op := Go.Op.indexAddr 36 (Go.Operand.tmp 19) (Go.Operand.tmp 20), type := 0, pos := "ref.go:163", after := #[{ on := 4, ground := Go.Ground.data }, { on := 5, ground := Go.Ground.data }], guard := none }) (v := ?_) rfl (by kernel_rfl) (by kernel_rfl) (by kernel_rfl) (fun _ _ _ h => h) (Or.inl ⟨by rfl, ?_⟩) (by assumption) ?_
        rotate_left
        · (intro u hSw; (subst hSw); go_simp; try (with_reducible rfl))
        try simp only [Act.put, List.setIfInBounds_toArray, List.set_cons_zero, List.set_cons_succ]
        refine wpAnyH_take (i := 7) (oi := { dst := some 22, op := Go.Op.load 9 (Go.Operand.tmp 21), type := 9, pos := "ref.go:163", after := #[{ on := 6, ground := Go.Ground.data }], guard := none }) (v := ?_) rfl (by kernel_rfl) (by kernel_rfl) (by kernel_rfl) (fun _ _ _ h => h) (Or.inl ⟨by rfl, ?_⟩) (by assumption) ?_
        rotate_left
        · (intro u hSw; (subst hSw); go_simp; try (with_reducible rfl))
        try simp only [Act.put, List.setIfInBounds_toArray, List.set_cons_zero, List.set_cons_succ]
        refine wpAnyH_ready (rs := [8]) (by kernel_rfl) (by simp) ?_
        refine AllReadyH.cons (o := { dst := some 23, op := Go.Op.call { callee := Go.Callee.value (Go.Operand.func 37), args := #[Go.Operand.tmp 18, Go.Operand.tmp 22], argTypes := #[31, 9] }, type := 3, pos := "ref.go:163", after := #[{ on := 3, ground := Go.Ground.data }, { on := 7, ground := Go.Ground.data }], guard := none }) rfl (fun K hK => ?_) AllReadyH.nil
        go_simp
        go_at_call 37
        refine HY.out.mono ?_
        rintro e w6 ⟨rfl, rfl⟩
        go_wp2_with fail
        refine hK.out _ _ rfl (fun hHeld => ?_)
        clear hK K
        try simp only [Act.put, List.setIfInBounds_toArray, List.set_cons_zero, List.set_cons_succ]
        refine wpAnyH_take (i := 9) (oi := { dst := some 7, op := Go.Op.assign (Go.Operand.tmp 23), type := 3, pos := "ref.go:163", after := #[{ on := 8, ground := Go.Ground.data }, { on := 8, ground := Go.Ground.chain }, { on := 0, ground := Go.Ground.phase }, { on := 1, ground := Go.Ground.phase }, { on := 2, ground := Go.Ground.phase }, { on := 3, ground := Go.Ground.phase }, { on := 4, ground := Go.Ground.phase }, { on := 5, ground := Go.Ground.phase }, { on := 6, ground := Go.Ground.phase }, { on := 7, ground := Go.Ground.phase }, { on := 8, ground := Go.Ground.phase }], guard := none }) (v := ?_) rfl (by kernel_rfl) (by kernel_rfl) (by kernel_rfl) (fun _ _ _ h => h) (Or.inl ⟨by rfl, ?_⟩) (by assumption) ?_
        rotate_left
        · (intro u hSw; (subst hSw); go_simp; try (with_reducible rfl))
        try simp only [Act.put, List.setIfInBounds_toArray, List.set_cons_zero, List.set_cons_succ]
        refine wpAnyH_done (by kernel_rfl) ?_ _
        go_wp2
        go_roundw
        case rel => exact ⟨i + 1, d, hlt, by omega, by go_num, rfl, Lib.hid (by rw [HTk2.out]; exact HD.out), Lib.hid (by rw [HTk2.out]; exact HTi.out.ext (Ext.refl wr).drew), Lib.hid (HTu.out.ext (Ext.refl wr).drew)⟩
        case measure => simp [intOf]; omega
      | true =>
        have HY := Lib.hid (rtat_yes wr.drew p1 c1 M1 (hP1.ext (Ext.refl wr).drew) (by omega) s (by rw [hM1]; exact hh))
        rw [hm1] at HY
        have HB1 := Lib.hid hB1; have HP1 := Lib.hid hP1; have HM1 := Lib.hid hM1; have HG1 := Lib.hid hG1; have HC1 := Lib.hid hc1; have HML := Lib.hid hm1; have HR1l := Lib.hid hml; have HH := Lib.hid hh
        clear hPi htk hs hh hB1 hP1 hM1 hG1 hc1 hD hml hm1
        go_upto_region 5 with (fail)
        refine wp_region_held_drew (S := fun u => u = wr.drew) (by kernel_rfl) rfl (fun hHeld => ?_)
        refine wpAnyH_take (i := 0) (oi := { dst := some 15, op := Go.Op.move (Go.Operand.tmp 0), type := 30, pos := "ref.go:163", after := #[], guard := none }) (v := ?_) rfl (by kernel_rfl) (by kernel_rfl) (by kernel_rfl) (fun _ _ _ h => h) (Or.inl ⟨by rfl, ?_⟩) (by assumption) ?_
        rotate_left
        · (intro u hSw; (subst hSw); go_simp; try (with_reducible rfl))
        try simp only [Act.put, List.setIfInBounds_toArray, List.set_cons_zero, List.set_cons_succ]
        refine wpAnyH_take (i := 1) (oi := { dst := some 16, op := Go.Op.nilCheck (Go.Operand.tmp 15), type := 0, pos := "ref.go:163", after := #[{ on := 0, ground := Go.Ground.data }], guard := none }) (v := ?_) rfl (by kernel_rfl) (by kernel_rfl) (by kernel_rfl) (fun _ _ _ h => h) (Or.inl ⟨by rfl, ?_⟩) (by assumption) ?_
        rotate_left
        · (intro u hSw; (subst hSw); go_simp; try (with_reducible rfl))
        try simp only [Act.put, List.setIfInBounds_toArray, List.set_cons_zero, List.set_cons_succ]
        refine wpAnyH_take (i := 2) (oi := { dst := some 17, op := Go.Op.fieldAddr 33 (Go.Operand.tmp 16) 1, type := 0, pos := "ref.go:163", after := #[{ on := 1, ground := Go.Ground.data }], guard := none }) (v := ?_) rfl (by kernel_rfl) (by kernel_rfl) (by kernel_rfl) (fun _ _ _ h => h) (Or.inl ⟨by rfl, ?_⟩) (by assumption) ?_
        rotate_left
        · (intro u hSw; (subst hSw); go_simp; try (with_reducible rfl))
        try simp only [Act.put, List.setIfInBounds_toArray, List.set_cons_zero, List.set_cons_succ]
        refine wpAnyH_take (i := 3) (oi := { dst := some 18, op := Go.Op.load 31 (Go.Operand.tmp 17), type := 31, pos := "ref.go:163", after := #[{ on := 2, ground := Go.Ground.data }], guard := none }) (v := ?_) rfl (by kernel_rfl) (by kernel_rfl) (by kernel_rfl) (fun _ _ _ h => h) (Or.inl ⟨by rfl, ?_⟩) (by assumption) ?_
        rotate_left
        · (intro u hSw; (subst hSw); go_simp; try (with_reducible rfl))
        try simp only [Act.put, List.setIfInBounds_toArray, List.set_cons_zero, List.set_cons_succ]
        refine wpAnyH_take (i := 4) (oi := { dst := some 19, op := Go.Op.move (Go.Operand.tmp 1), type := 36, pos := "ref.go:163", after := #[], guard := none }) (v := ?_) rfl (by kernel_rfl) (by kernel_rfl) (by kernel_rfl) (fun _ _ _ h => h) (Or.inl ⟨by rfl, ?_⟩) (by assumption) ?_
        rotate_left
        · (intro u hSw; (subst hSw); go_simp; try (with_reducible rfl))
        try simp only [Act.put, List.setIfInBounds_toArray, List.set_cons_zero, List.set_cons_succ]
        refine wpAnyH_take (i := 5) (oi := { dst := some 20, op := Go.Op.move (Go.Operand.tmp 6), type := 3, pos := "ref.go:163", after := #[], guard := none }) (v := ?_) rfl (by kernel_rfl) (by kernel_rfl) (by kernel_rfl) (fun _ _ _ h => h) (Or.inl ⟨by rfl, ?_⟩) (by assumption) ?_
        rotate_left
        · (intro u hSw; (subst hSw); go_simp; try (with_reducible rfl))
        try simp only [Act.put, List.setIfInBounds_toArray, List.set_cons_zero, List.set_cons_succ]
        refine wpAnyH_take (i := 6) (oi := { dst := some 21, op := Go.Op.indexAddr 36 (Go.Operand.tmp 19) (Go.Operand.tmp 20), type := 0, pos := "ref.go:163", after := #[{ on := 4, ground := Go.Ground.data }, { on := 5, ground := Go.Ground.data }], guard := none }) (v := ?_) rfl (by kernel_rfl) (by kernel_rfl) (by kernel_rfl) (fun _ _ _ h => h) (Or.inl ⟨by rfl, ?_⟩) (by assumption) ?_
        rotate_left
        · (intro u hSw; (subst hSw); go_simp; try (with_reducible rfl))
        try simp only [Act.put, List.setIfInBounds_toArray, List.set_cons_zero, List.set_cons_succ]
        refine wpAnyH_take (i := 7) (oi := { dst := some 22, op := Go.Op.load 9 (Go.Operand.tmp 21), type := 9, pos := "ref.go:163", after := #[{ on := 6, ground := Go.Ground.data }], guard := none }) (v := ?_) rfl (by kernel_rfl) (by kernel_rfl) (by kernel_rfl) (fun _ _ _ h => h) (Or.inl ⟨by rfl, ?_⟩) (by assumption) ?_
        rotate_left
        · (intro u hSw; (subst hSw); go_simp; try (with_reducible rfl))
        try simp only [Act.put, List.setIfInBounds_toArray, List.set_cons_zero, List.set_cons_succ]
        refine wpAnyH_ready (rs := [8]) (by kernel_rfl) (by simp) ?_
        refine AllReadyH.cons (o := { dst := some 23, op := Go.Op.call { callee := Go.Callee.value (Go.Operand.func 37), args := #[Go.Operand.tmp 18, Go.Operand.tmp 22], argTypes := #[31, 9] }, type := 3, pos := "ref.go:163", after := #[{ on := 3, ground := Go.Ground.data }, { on := 7, ground := Go.Ground.data }], guard := none }) rfl (fun K hK => ?_) AllReadyH.nil
        go_simp
        go_at_call 37
        refine HY.out.mono ?_
        rintro e w6 ⟨rfl, k6, rfl, x6, hk6, hp6⟩
        go_wp2_with fail
        refine hK.out _ _ rfl (fun hHeld => ?_)
        clear hK K
        try simp only [Act.put, List.setIfInBounds_toArray, List.set_cons_zero, List.set_cons_succ]
        refine wpAnyH_take (i := 9) (oi := { dst := some 7, op := Go.Op.assign (Go.Operand.tmp 23), type := 3, pos := "ref.go:163", after := #[{ on := 8, ground := Go.Ground.data }, { on := 8, ground := Go.Ground.chain }, { on := 0, ground := Go.Ground.phase }, { on := 1, ground := Go.Ground.phase }, { on := 2, ground := Go.Ground.phase }, { on := 3, ground := Go.Ground.phase }, { on := 4, ground := Go.Ground.phase }, { on := 5, ground := Go.Ground.phase }, { on := 6, ground := Go.Ground.phase }, { on := 7, ground := Go.Ground.phase }, { on := 8, ground := Go.Ground.phase }], guard := none }) (v := ?_) rfl (by kernel_rfl) (by kernel_rfl) (by kernel_rfl) (fun _ _ _ h => h) (Or.inl ⟨by rfl, ?_⟩) (by assumption) ?_
        rotate_left
        · (intro u hSw; (subst hSw); go_simp; try (with_reducible rfl))
        try simp only [Act.put, List.setIfInBounds_toArray, List.set_cons_zero, List.set_cons_succ]
        refine wpAnyH_done (by kernel_rfl) ?_ _
        have hml := HR1l.out
        have hm6 : m1 ≤ 60000 := by omega
        obtain ⟨pa1, e1, -, -⟩ := HP1.out.1 _ _ hk6
        cases e1
        have hk6l : k6 < m1 := by rw [← HML.out]; exact (List.getElem?_eq_some_iff.1 hk6).1
        have HK6 := Lib.hid hk6
        have HP6 := Lib.hid hp6
        have HKm := Lib.hid ((drop_at (by rw [HM1.out]; exact HG1.out.up) hk6).trans (by rw [hp6, HM1.out]))
        have HBd := Lib.hid (HB1.out.drew)
        have HPd := Lib.hid (HP1.out.ext (Ext.refl wr).drew)
        have HTd := Lib.hid (HTi.out.ext (Ext.refl wr).drew)
        have HTuW := Lib.hid (HTu.out.ext (Ext.refl wr).drew)
        have HLen := Lib.hid (len_drop HTi.out.good.up s)
        clear hk6 hp6 b2 b3 t0 t1 HY
        generalize wr.drew = W at *
        rw [HML.out] at HBd
        have hc1' : m1 ≤ c1 := by have := HC1.out; rw [HML.out] at this; exact this
        have b2 := HBd.out.cell 2 _ rfl
        have hk0 : ¬ (k6 : Int) < 0 := by omega
        have hk0d : decide ((k6 : Int) < 0) = false := decide_eq_false hk0
        have hs1 := fun u => cut_head u (some pa1) m1 c1 k6 (by omega)
        have hSr1 := src_rows (HPd.out.take k6) c1
        rw [List.length_take, HML.out, Nat.min_eq_left (Nat.le_of_lt hk6l)] at hSr1
        have HS1 := Lib.hid hSr1
        obtain ⟨k1, hk1⟩ : ∃ k1, k6 + 1 = k1 := ⟨_, rfl⟩
        have hw1 : IntKind.i64.wrap ((k6 : Int) + 1) = (k1 : Int) := by rw [IntWalk.i64_in _ ⟨by omega, by omega⟩]; omega
        obtain ⟨q2, hq2, hq2s, hs2⟩ := cut_tail (some pa1) m1 c1 k1 (by omega) hc1'
        obtain ⟨m2, hm2⟩ : ∃ m2, m1 - k1 = m2 := ⟨_, rfl⟩
        obtain ⟨c2, hc2⟩ : ∃ c2, c1 - k1 = c2 := ⟨_, rfl⟩
        rw [hm2, hc2] at hs2
        have HS2 : Hid (∀ u, Ext W u → Src Tryz.prog 3 31 (.slice q2 m2 c2) m2 (entCells (M1.drop k1)) u) := Lib.hid (fun u x => by
          have hdl : (M1.drop k1).length = m2 := by rw [List.length_drop, HML.out]; exact hm2
          by_cases hkl : k1 < m1
          · have e := hq2 hkl pa1 rfl
            have := src_rows ((HPd.out.ext x).drop k1) c2
            rw [hdl] at this
            rw [e]
            exact this
          · obtain ⟨b, e⟩ := hq2s pa1 rfl
            have h0 : m2 = 0 := by omega
            subst h0
            have hnil : M1.drop k1 = [] := List.length_eq_zero_iff.1 hdl
            rw [e, hnil]
            exact Src.ofSlice u Tryz.underlying31 b 0 c2 [] rfl (fun j v hj => by simp at hj) (fun v hv => by cases hv))
        have HKm2 : Hid ((M1.take k6 ++ M1.drop k1).map Ent.row = dropR s R1) := Lib.hid (by rw [← hk1]; exact HKm.out)
        have HKl : Hid ((M1.take k6 ++ M1.drop k1).length = k6 + m2) := Lib.hid (by rw [List.length_append, List.length_take, List.length_drop, HML.out]; omega)
        have hb1 : 0 + k6 ≤ 1000000000 := by omega
        have hb2 : k6 + m2 ≤ 1000000000 := by omega
        clear hq2 hq2s hk1 hm2 hc2 hSr1 hlR hml
        go_wp2_with (first
          | (refine wpList_append_sl rfl (.tmp 26) (.tmp 32) 31 31 rfl Tryz.underlying31 infoRow rfl (by decide) rfl (Sl.nil _ (kp none) 1 3 _) (fun u hu => by cases hu) _ rfl k6 (entCells (M1.take k6)) HS1.out hb1 ?_; intro p5 c5 w5 κ5 s5 f5 e5 x5 o5; rw [Nat.zero_add, List.nil_append] at s5; have HX5 := Lib.hid (x5 rfl); have b5 := (HBd.out.ext HX5.out).cell 2 _ rfl; have HS5 := Lib.hid s5.kp; have HLo5 : Hid (∀ g, p5 = some ⟨g, 0, none⟩ → W.heap.size ≤ g) := Lib.hid (low_new e5); clear s5 f5 e5 x5 o5; rw [Nat.zero_add])
          | (refine wpList_append_sl rfl (.tmp 35) (.tmp 42) 31 31 rfl Tryz.underlying31 infoRow rfl (by decide) rfl HS5.out (entCells_one _) _ rfl m2 (entCells (M1.drop k1)) (HS2.out _ HX5.out) hb2 ?_; intro p6 c6 w6 κ6 s6 f6 e6 x6' o6; have HTp := Lib.hid (HTd.out.appended HX5.out HLo5.out f6); have HB6 := Lib.hid (f6.blk (HBd.out.ext HX5.out) (fun q => by have := HLo5.out _ (kp_one q); have := HBd.out.lt; omega)); have HR6 := Lib.hid (((HPd.out.ext HX5.out).fr (fun g hg => HPd.out.farNew (HLo5.out g hg)) f6).2); have HS6 := Lib.hid s6.kp; have HTu6 := Lib.hid ((HTuW.out.ext HX5.out).then_ (fr_turn f6 HLo5.out) (fun g q => .inr (Nat.le_trans HTuW.out.size q))); have e2 := HB6.out.cell 2 _ rfl; have ef2 := HB6.out.frozen 2; clear s6 f6 e6 x6' o6))
        have HRw : RowsP w6 p6 (M1.take k6 ++ M1.drop k1) := RowsS.rowsP (B := 0) (c := c6) ⟨by rw [HKl.out, entCells_app]; exact HS6.out, fun _ _ => Nat.zero_le _⟩ (fun e he => HR6.out e (by
          rcases List.mem_append.1 he with h1 | h1
          · exact List.mem_of_mem_take h1
          · exact List.mem_of_mem_drop h1))
        have HPut := Lib.hid (HTp.out.put (c2 := c6) HRw (by rw [HKm2.out]; exact HTi.out.good.drop s) (by rw [HKl.out]; exact HS6.out.2.1))
        rw [HKl.out] at HPut
        have HPut2 := Lib.hid (HKm2.out ▸ HPut.out.1)
        have hld := HLen.out
        go_roundw
        case rel => exact ⟨i + 1, d + 1, hlt, by omega, by go_num, by go_num, Lib.hid (by rw [HTk.out]; have h1 := HD.out; rw [if_pos HH.out] at hld; omega), Lib.hid (by rw [HTk.out]; exact HPut2.out), Lib.hid (HTu6.out.trans HPut.out.2)⟩
        case measure => simp [intOf]; omega
    · obtain rfl : i = n := by omega
      have hD := HD.out
      have hT := HTi.out
      rw [List.take_of_length_le (by rw [HN.out]; exact Nat.le_refl _)] at hD hT
      go_wp2
      go_ret
      exact ⟨d, rfl, hD, hT, HTu.out⟩
end Go.Proofs.YtkjcpjalldbahaaGreatDoor
end
