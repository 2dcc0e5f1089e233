/- Contracts: the law's does: an act, of the program's table and of a table of the document with other rows: it returns, and the program's table is as the act leaves it. -/
import Derived.Test.YtkjcpjalldbahaaGreatDoorM36
namespace Go.Proofs.YtkjcpjalldbahaaGreatDoor
open Go.RowKit Go.ChangeMaps Go.MapKept

/-- A table of the program, one of the document. -/
structure Pair (w : World) (t b r : Nat) (qp qb : Int) (R : List RowP) (up ub : Int) (U : List RowP) : Prop where
  one : IsT w 0 t b qp qb R
  two : IsRT w r up ub U
  nt : ¬ TB t b r
section
variable {w w' : World} {t b r : Nat} {qp qb up ub : Int} {R U : List RowP}
theorem Pair.ext (h : Pair w t b r qp qb R up ub U) (x : Ext w w') : Pair w' t b r qp qb R up ub U := ⟨h.one.ext x, h.two.ext x, h.nt⟩
theorem Pair.ne1 (h : Pair w t b r qp qb R up ub U) : ¬ t = r := fun e => h.nt (.inl e.symm)
theorem Pair.ne2 (h : Pair w t b r qp qb R up ub U) : ¬ b = r := fun e => h.nt (.inr e.symm)
end
/-- What the law's does leaves. -/
structure DoesQ (t b r : Nat) (qp qb : Int) (R : List RowP) (n : Nat) (w : World) (e : Ending) (w' : World) : Prop where
  yes : ∃ v, e = .returned (.bool v)
  tab : ∃ R', IsT w' 0 t b qp qb R' ∧ R'.length ≤ R.length + n
  turn : Turn (TR t b r) w w'
set_option maxRecDepth 100000 in
set_option maxHeartbeats 8000000 in
theorem does0n_any (w : World) (t b r : Nat) (qp qb : Int) (R : List RowP) (up ub : Int) (U : List RowP) (h : Pair w t b r qp qb R up ub U) (hl : R.length ≤ 40000) (hu : U.length ≤ 40000) (dv : Nat) (hdv : dv % 4 = 0) (ea : Option Addr) (el ec : Nat) (ra : Option Addr) (rl rc : Nat) (pa : Option Addr) (pl pc : Nat) (L : List EditP) (hL : EditsP w ea L) (hel : L.length = el) (hn : el ≤ 1100) (hs : ∀ e ∈ L, e.p.size ≤ 140737488351232 ∧ e.t.size ≤ 140737488351232) :
    Calls Tryz.prog 9 #[.pointer (some ⟨t, 0, none⟩), .pointer (some ⟨r, 0, none⟩), .agg #[.int .u8 (dv : Int), .slice ea el ec, .slice ra rl rc, .slice pa pl pc]] w (DoesQ t b r qp qb R el w) := by
  have HB := Lib.hid h
  have hq : (dv : Int) % 4 = 0 := by omega
  have HX0 := Lib.hid ((Ext.refl w).alloc (.cells #[.int .u8 (dv : Int), .slice ea el ec, .slice ra rl rc, .slice pa pl pc] 38))
  have HB0 := Lib.hid (Blk.new w [.int .u8 (dv : Int), .slice ea el ec, .slice ra rl rc, .slice pa pl pc] 38)
  have hbt : ¬ TB t b w.heap.size := fun q => by
    have h1 := h.one.blk.lt
    have h2 := h.one.map.lt
    rcases q with q | q <;> omega
  have HBt := Lib.hid hbt
  have HB1 := Lib.hid (h.ext HX0.out)
  have HL := Lib.hid (hL.ext HX0.out)
  have HS := Lib.hid hs
  have HAp := Lib.hid (apply_any _ 0 t b qp qb R HB1.out.one (Nat.zero_le _) (by omega) ea ec L HL.out (by omega) hs)
  have HRA := Lib.hid (fun u (x : IsRT u r up ub U) (y : EditsP u ea L) => rapply_any u r up ub U x (by omega) ea ec L y (by omega) hs true)
  have HUg := Lib.hid (apply_good up ub h.two.good L)
  have HAg := Lib.hid (apply_good qp qb h.one.good L)
  rw [hel] at HAp HRA HAg HUg
  obtain ⟨⟨te, tat, tD, tv⟩, hT⟩ : ∃ T, applyR qp qb R L = T := ⟨_, rfl⟩
  obtain ⟨⟨ue, uat, uD, uv⟩, hU⟩ : ∃ T, applyR up ub U L = T := ⟨_, rfl⟩
  rw [hT] at HAp HAg
  rw [hU] at HRA HUg
  dsimp only at HAp HRA HAg HUg
  obtain ⟨vl, hvl⟩ : ∃ n, tv.length = n := ⟨_, rfl⟩
  obtain ⟨ul, hul⟩ : ∃ n, uv.length = n := ⟨_, rfl⟩
  have HVL := Lib.hid hvl
  have HUL := Lib.hid hul
  rw [hvl] at HAp HAg
  have hv6 : vl ≤ 1000000 := by have := HAg.out.2.2; omega
  have hu6 : ul ≤ 1000000 := by have := HUg.out.2.2; rw [hul] at this; omega
  have HNu := Lib.hid (fun u pa ca pb cb (h1 : NumsP u pa tv) (h2 : NumsP u pb uv) => numbers18_dec u pa pb ca cb vl ul tv uv hvl hul h1 h2 hv6 hu6)
  generalize decide (tv = uv) = d1 at *
  have hcs : d1 = false ∨ (d1 = true ∧ ((tat : Int) == (uat : Int)) = false) ∨ (d1 = true ∧ ((tat : Int) == (uat : Int)) = true) := by
    cases d1 <;> cases ((tat : Int) == (uat : Int)) <;> simp
  clear h hl hu hdv hL hel hs hbt hT hU hvl hul hv6 hu6
  rcases hcs with rfl | ⟨rfl, hat⟩ | ⟨rfl, hat⟩
  all_goals
    go_enter Tryz.func9, Tryz.ntmps9
    go_wp2_with (first
      | (go_at_call 24; refine HAp.out.mono ?_; rintro e w2 ⟨va, cva, rfl, t2, k2, a2⟩; have HT2 := Lib.hid t2; have HK2 := Lib.hid k2; have HA2 := Lib.hid a2; have HR2 := Lib.hid (HB1.out.two.turn k2 HB1.out.nt HB1.out.one.noV); have HE2 := Lib.hid (HL.out.turn k2 HB1.out.one.noV); have c1 := (k2.blk HB0.out HBt.out).cell 1 _ rfl; clear t2 k2 a2)
      | (go_at_call 29; refine (HRA.out _ HR2.out HE2.out).mono ?_; intro e w3 hq3; obtain ⟨⟨vb, cvb, rfl, a3⟩, tab3, turn3⟩ := hq3; have HR3 : Hid (IsRT w3 r up ub uD) := Lib.hid tab3; have HK3 := Lib.hid turn3; have HA3 := Lib.hid a3; have HT3 : Hid (IsT w3 0 t b qp qb tD) := Lib.hid (HT2.out.turn turn3 HB.out.ne1 HB.out.ne2 HR2.out.noT); have HV3 := Lib.hid (HA2.out.turnN turn3 (HR2.out.typed (by decide))); rw [HUL.out]; clear tab3 turn3 a3)
      | (go_at_call 25; refine (HNu.out _ va cva vb cvb HV3.out.numsP HA3.out.numsP).mono ?_; rintro e w4 ⟨rfl, x4⟩; have HX4 := Lib.hid x4; clear x4))
    go_ret
    exact ⟨⟨_, rfl⟩, ⟨tD, HT3.out.ext HX4.out, HAg.out.2.1⟩, ((((Turn.ofExt _ HX0.out).trans (HK2.out.mono fun g q => .inl q)).trans (HK3.out.mono fun g q => .inr q)).ext HX4.out)⟩
set_option maxRecDepth 100000 in
set_option maxHeartbeats 8000000 in
theorem does1n_any (w : World) (t b r : Nat) (qp qb : Int) (R : List RowP) (up ub : Int) (U : List RowP) (h : Pair w t b r qp qb R up ub U) (hl : R.length ≤ 40000) (hu : U.length ≤ 40000) (dv : Nat) (hdv : dv % 4 = 1) (ea : Option Addr) (el ec : Nat) (ra : Option Addr) (rl rc : Nat) (pa : Option Addr) (pl pc : Nat) (L : List EditP) (hL : EditsP w ea L) (hel : L.length = el) (hn : el ≤ 1100) (hs : ∀ e ∈ L, e.p.size ≤ 140737488351232 ∧ e.t.size ≤ 140737488351232) :
    Calls Tryz.prog 9 #[.pointer (some ⟨t, 0, none⟩), .pointer (some ⟨r, 0, none⟩), .agg #[.int .u8 (dv : Int), .slice ea el ec, .slice ra rl rc, .slice pa pl pc]] w (DoesQ t b r qp qb R 0 w) := by
  have HB := Lib.hid h
  have hq : (dv : Int) % 4 = 1 := by omega
  have HX0 := Lib.hid ((Ext.refl w).alloc (.cells #[.int .u8 (dv : Int), .slice ea el ec, .slice ra rl rc, .slice pa pl pc] 38))
  have HB0 := Lib.hid (Blk.new w [.int .u8 (dv : Int), .slice ea el ec, .slice ra rl rc, .slice pa pl pc] 38)
  have hbt : ¬ TB t b w.heap.size := fun q => by
    have h1 := h.one.blk.lt
    have h2 := h.one.map.lt
    rcases q with q | q <;> omega
  have HBt := Lib.hid hbt
  have HB1 := Lib.hid (h.ext HX0.out)
  have HL := Lib.hid (hL.ext HX0.out)
  have HAp := Lib.hid (try_any _ 0 t b qp qb R HB1.out.one (by omega) ea ec L HL.out (by omega) hs)
  have HRA := Lib.hid (fun u (x : IsRT u r up ub U) (y : EditsP u ea L) => rapply_any u r up ub U x (by omega) ea ec L y (by omega) hs false)
  rw [hel] at HAp HRA
  obtain ⟨⟨te, tat, tD, tv⟩, hT⟩ : ∃ T, applyR qp qb R L = T := ⟨_, rfl⟩
  obtain ⟨⟨ue, uat, uD, uv⟩, hU⟩ : ∃ T, applyR up ub U L = T := ⟨_, rfl⟩
  rw [hT] at HAp
  rw [hU] at HRA
  dsimp only at HAp HRA
  have hcs : ((tat : Int) == (uat : Int)) = false ∨ ((tat : Int) == (uat : Int)) = true := by
    cases ((tat : Int) == (uat : Int)) <;> simp
  clear h hl hu hdv hL hel hs hbt hT hU
  rcases hcs with hat | hat
  all_goals
    go_enter Tryz.func9, Tryz.ntmps9
    go_wp2_with (first
      | (go_at_call 27; refine HAp.out.mono ?_; rintro e w2 ⟨rfl, x2⟩; have HX2 := Lib.hid x2; have HB2 := Lib.hid (HB1.out.ext x2); have HE2 := Lib.hid (HL.out.ext x2); have c1 := (HB0.out.ext x2).cell 1 _ rfl; clear x2)
      | (go_at_call 29; refine (HRA.out _ HB2.out.two HE2.out).mono ?_; intro e w3 hq3; obtain ⟨⟨vb, cvb, rfl, a3⟩, tab3, turn3⟩ := hq3; have HR3 : Hid (IsRT w3 r up ub U) := Lib.hid tab3; have HK3 := Lib.hid turn3; have HT3 : Hid (IsT w3 0 t b qp qb R) := Lib.hid (HB2.out.one.turn turn3 HB.out.ne1 HB.out.ne2 HB2.out.two.noT); clear tab3 turn3 a3))
    go_ret
    exact ⟨⟨_, rfl⟩, ⟨R, HT3.out, Nat.le_refl _⟩, (Turn.ofExt _ (HX0.out.trans HX2.out)).trans (HK3.out.mono fun g q => .inr q)⟩
set_option maxRecDepth 100000 in
set_option maxHeartbeats 8000000 in
theorem does2n_any (w : World) (t b r : Nat) (qp qb : Int) (R : List RowP) (up ub : Int) (U : List RowP) (h : Pair w t b r qp qb R up ub U) (hl : R.length ≤ 40000) (hu : U.length ≤ 40000) (dv : Nat) (hdv : dv % 4 = 2) (ea : Option Addr) (el ec : Nat) (ra : Option Addr) (rl rc : Nat) (pa : Option Addr) (pl pc : Nat) (M : List Ent) (hM : RowsP w ra M) (hml : M.length = rl) (hn : rl ≤ 1100) (hf : ∀ e ∈ M, e.Fit) (hc : rl ≤ rc) :
    Calls Tryz.prog 9 #[.pointer (some ⟨t, 0, none⟩), .pointer (some ⟨r, 0, none⟩), .agg #[.int .u8 (dv : Int), .slice ea el ec, .slice ra rl rc, .slice pa pl pc]] w (DoesQ t b r qp qb R rl w) := by
  have HB := Lib.hid h
  have hq : (dv : Int) % 4 = 2 := by omega
  have HX0 := Lib.hid ((Ext.refl w).alloc (.cells #[.int .u8 (dv : Int), .slice ea el ec, .slice ra rl rc, .slice pa pl pc] 38))
  have HB0 := Lib.hid (Blk.new w [.int .u8 (dv : Int), .slice ea el ec, .slice ra rl rc, .slice pa pl pc] 38)
  have hbt : ¬ TB t b w.heap.size := fun q => by
    have h1 := h.one.blk.lt
    have h2 := h.one.map.lt
    rcases q with q | q <;> omega
  have HBt := Lib.hid hbt
  have HB1 := Lib.hid (h.ext HX0.out)
  have HBr : Hid (¬ w.heap.size = r) := Lib.hid (fun q => by have := h.two.lt; omega)
  have HP := Lib.hid hM
  have HF := Lib.hid hf
  have HX0d := Lib.hid (HX0.out.drew)
  have HX1d := Lib.hid ((Ext.refl (w.alloc (.cells #[.int .u8 (dv : Int), .slice ea el ec, .slice ra rl rc, .slice pa pl pc] 38))).drew)
  have hS0 : (w.alloc (.cells #[.int .u8 (dv : Int), .slice ea el ec, .slice ra rl rc, .slice pa pl pc] 38)).drew.cell? ⟨w.heap.size, 2, none⟩ = some (.slice ra rl rc) := HB0.out.drew.cell 2 _ rfl
  have HCo := Lib.hid (copied18_any (w.alloc (.cells #[.int .u8 (dv : Int), .slice ea el ec, .slice ra rl rc, .slice pa pl pc] 38)).drew ra rc M (hM.ext HX0d.out) (fun e he => (hf e he).n) (by omega))
  have hlen := loadR_len (R := R) (l := M.map Ent.row) h.one.good.up
  rw [List.length_map, hml] at hlen
  have HLen := Lib.hid hlen
  have HLd : Hid (∀ u p c K (x : IsT u 0 t b qp qb R) (hK : K.map Ent.row = M.map Ent.row) (hM : RowsP u p K), Calls Tryz.prog 21 #[.pointer (some ⟨t, 0, none⟩), .slice p rl c] u fun e w' => e = .returned (.int .i64 ((loadR R (M.map Ent.row)).1 : Int)) ∧ IsT w' 0 t b qp qb (loadR R (M.map Ent.row)).2 ∧ Turn (TB t b) u w') := Lib.hid (fun u p c K x hK hM => by
    have hKl : K.length = rl := by rw [← List.length_map (f := Ent.row), hK, List.length_map, hml]
    have := tload_any u 0 t b qp qb R x (Nat.zero_le _) (by omega) p c K hM (fit_rows hK HF.out) (by omega)
    rw [hK, hKl] at this
    exact this)
  have HRL := Lib.hid (fun u (x : IsRT u r up ub U) (y : RowsP u ra M) => rload_any u r up ub U x (by omega) ra rc M y hf (by omega) (by omega))
  rw [hml] at HCo HRL
  generalize loadR R (M.map Ent.row) = TL at *
  generalize loadR U (M.map Ent.row) = UL at *
  clear h hl hu hdv hM hml hf hbt hlen
  go_enter Tryz.func9, Tryz.ntmps9
  go_upto_region 11 with (fail)
  refine wp_region_held_drew (S := fun u => u.cell? ⟨w.heap.size, 2, none⟩ = some (.slice ra rl rc)) (by kernel_rfl) hS0 (fun hHeld => ?_)
  refine wpAnyH_take (i := 0) (oi := { dst := some 79, op := Go.Op.move (Go.Operand.tmp 0), type := 28, pos := "law.go:103", after := #[], guard := none }) (v := ?_) rfl (by kernel_rfl) (by kernel_rfl) (by kernel_rfl) (fun _ _ _ h => h) (Or.inl ⟨by rfl, ?_⟩) (by assumption) ?_
  rotate_left
  · (intro u hSw; (try dsimp only at hSw); go_simp; try (with_reducible rfl))
  try simp only [Act.put, List.setIfInBounds_toArray, List.set_cons_zero, List.set_cons_succ]
  refine wpAnyH_take (i := 1) (oi := { dst := some 80, op := Go.Op.fieldAddr 38 (Go.Operand.tmp 5) 2, type := 0, pos := "law.go:103", after := #[], guard := none }) (v := ?_) rfl (by kernel_rfl) (by kernel_rfl) (by kernel_rfl) (fun _ _ _ h => h) (Or.inl ⟨by rfl, ?_⟩) (by assumption) ?_
  rotate_left
  · (intro u hSw; (try dsimp only at hSw); go_simp; try (with_reducible rfl))
  try simp only [Act.put, List.setIfInBounds_toArray, List.set_cons_zero, List.set_cons_succ]
  refine wpAnyH_take (i := 2) (oi := { dst := some 81, op := Go.Op.load 31 (Go.Operand.tmp 80), type := 31, pos := "law.go:103", after := #[{ on := 1, ground := Go.Ground.data }], guard := none }) (v := ?_) rfl (by kernel_rfl) (by kernel_rfl) (by kernel_rfl) (fun _ _ _ h => h) (Or.inl ⟨by rfl, ?_⟩) (by assumption) ?_
  rotate_left
  · (intro u hSw; (try dsimp only at hSw); go_simp; try (with_reducible rfl))
  try simp only [Act.put, List.setIfInBounds_toArray, List.set_cons_zero, List.set_cons_succ]
  refine wpAnyH_take (i := 5) (oi := { dst := some 84, op := Go.Op.move (Go.Operand.tmp 1), type := 30, pos := "law.go:103", after := #[], guard := none }) (v := ?_) rfl (by kernel_rfl) (by kernel_rfl) (by kernel_rfl) (fun _ _ _ h => h) (Or.inl ⟨by rfl, ?_⟩) (by assumption) ?_
  rotate_left
  · (intro u hSw; (try dsimp only at hSw); go_simp; try (with_reducible rfl))
  try simp only [Act.put, List.setIfInBounds_toArray, List.set_cons_zero, List.set_cons_succ]
  refine wpAnyH_take (i := 6) (oi := { dst := some 85, op := Go.Op.fieldAddr 38 (Go.Operand.tmp 5) 2, type := 0, pos := "law.go:103", after := #[], guard := none }) (v := ?_) rfl (by kernel_rfl) (by kernel_rfl) (by kernel_rfl) (fun _ _ _ h => h) (Or.inl ⟨by rfl, ?_⟩) (by assumption) ?_
  rotate_left
  · (intro u hSw; (try dsimp only at hSw); go_simp; try (with_reducible rfl))
  try simp only [Act.put, List.setIfInBounds_toArray, List.set_cons_zero, List.set_cons_succ]
  refine wpAnyH_take (i := 7) (oi := { dst := some 86, op := Go.Op.load 31 (Go.Operand.tmp 85), type := 31, pos := "law.go:103", after := #[{ on := 6, ground := Go.Ground.data }], guard := none }) (v := ?_) rfl (by kernel_rfl) (by kernel_rfl) (by kernel_rfl) (fun _ _ _ h => h) (Or.inl ⟨by rfl, ?_⟩) (by assumption) ?_
  rotate_left
  · (intro u hSw; (try dsimp only at hSw); go_simp; try (with_reducible rfl))
  try simp only [Act.put, List.setIfInBounds_toArray, List.set_cons_zero, List.set_cons_succ]
  refine wpAnyH_ready (rs := [3]) (by kernel_rfl) (by simp) ?_
  refine AllReadyH.cons (o := { dst := some 82, op := Go.Op.call { callee := Go.Callee.value (Go.Operand.func 22), args := #[Go.Operand.tmp 81], argTypes := #[31] }, type := 31, pos := "law.go:103", after := #[{ on := 2, ground := Go.Ground.data }], guard := none }) rfl (fun K hK => ?_) AllReadyH.nil
  go_simp
  go_at_call 22
  refine HCo.out.mono ?_
  rintro e w2 ⟨q2, c2, KK, rfl, hKK, r2, x2⟩
  have HKr := Lib.hid hKK
  have HR2 := Lib.hid r2.rowsP
  have HX2 := Lib.hid (HX0d.out.trans x2)
  have HB2 := Lib.hid (HB1.out.ext (HX1d.out.trans x2))
  have HA2 := Lib.hid (HB0.out.ext (HX1d.out.trans x2))
  have hS2 := HA2.out.cell 2 _ rfl
  clear hKK r2 x2
  go_wp2_with fail
  refine hK.out _ _ hS2 (fun hHeld => ?_)
  clear hK K
  try simp only [Act.put, List.setIfInBounds_toArray, List.set_cons_zero, List.set_cons_succ]
  refine wpAnyH_ready (rs := [4]) (by kernel_rfl) (by simp) ?_
  refine AllReadyH.cons (o := { dst := some 83, op := Go.Op.call { callee := Go.Callee.value (Go.Operand.func 21), args := #[Go.Operand.tmp 79, Go.Operand.tmp 82], argTypes := #[28, 31] }, type := 42, pos := "law.go:103", after := #[{ on := 0, ground := Go.Ground.data }, { on := 3, ground := Go.Ground.data }, { on := 3, ground := Go.Ground.chain }], guard := none }) rfl (fun K hK => ?_) AllReadyH.nil
  go_simp
  go_at_call 21
  refine (HLd.out _ q2 c2 KK HB2.out.one HKr.out HR2.out).mono ?_
  rintro e w3 ⟨rfl, i3, k3⟩
  have HT3 := Lib.hid i3
  have HK3 := Lib.hid k3
  have HR3 := Lib.hid (HB2.out.two.turn k3 HB2.out.nt HB2.out.one.noV)
  have HP3 := Lib.hid ((HP.out.ext HX2.out).turn k3 HB2.out.one.noV)
  have hS3 := (k3.blk HA2.out HBt.out).cell 2 _ rfl
  clear i3 k3
  go_wp2_with fail
  refine hK.out _ _ hS3 (fun hHeld => ?_)
  clear hK K
  try simp only [Act.put, List.setIfInBounds_toArray, List.set_cons_zero, List.set_cons_succ]
  refine wpAnyH_ready (rs := [8]) (by kernel_rfl) (by simp) ?_
  refine AllReadyH.cons (o := { dst := some 87, op := Go.Op.call { callee := Go.Callee.value (Go.Operand.func 30), args := #[Go.Operand.tmp 84, Go.Operand.tmp 86], argTypes := #[30, 31] }, type := 42, pos := "law.go:103", after := #[{ on := 5, ground := Go.Ground.data }, { on := 7, ground := Go.Ground.data }, { on := 4, ground := Go.Ground.chain }], guard := none }) rfl (fun K hK => ?_) AllReadyH.nil
  go_simp
  go_at_call 30
  refine (HRL.out _ HR3.out HP3.out).mono ?_
  rintro e w4 ⟨rfl, i4, k4⟩
  have HR4 := Lib.hid i4
  have HK4 := Lib.hid k4
  have HT4 := Lib.hid (HT3.out.turn k4 HB.out.ne1 HB.out.ne2 HR3.out.noT)
  have hS4 := (k4.blk (HK3.out.blk HA2.out HBt.out) (fun q => HBr.out q)).cell 2 _ rfl
  clear i4 k4
  go_wp2_with fail
  refine hK.out _ _ hS4 (fun hHeld => ?_)
  clear hK K
  try simp only [Act.put, List.setIfInBounds_toArray, List.set_cons_zero, List.set_cons_succ]
  refine wpAnyH_take (i := 9) (oi := { dst := some 88, op := Go.Op.binOp Go.BinOp.eql 42 (Go.Operand.tmp 83) (Go.Operand.tmp 87) 42, type := 4, pos := "law.go:103", after := #[{ on := 4, ground := Go.Ground.data }, { on := 8, ground := Go.Ground.data }], guard := none }) (v := ?_) rfl (by kernel_rfl) (by kernel_rfl) (by kernel_rfl) (fun _ _ _ h => h) (Or.inl ⟨by rfl, ?_⟩) (by assumption) ?_
  rotate_left
  · (intro u hSw; (try dsimp only at hSw); go_simp; try (with_reducible rfl))
  try simp only [Act.put, List.setIfInBounds_toArray, List.set_cons_zero, List.set_cons_succ]
  refine wpAnyH_take (i := 10) (oi := { dst := some 6, op := Go.Op.assign (Go.Operand.tmp 88), type := 4, pos := "law.go:103", after := #[{ on := 9, ground := Go.Ground.data }, { on := 8, ground := Go.Ground.chain }, { on := 0, ground := Go.Ground.phase }, { on := 1, ground := Go.Ground.phase }, { on := 2, ground := Go.Ground.phase }, { on := 3, ground := Go.Ground.phase }, { on := 4, ground := Go.Ground.phase }, { on := 5, ground := Go.Ground.phase }, { on := 6, ground := Go.Ground.phase }, { on := 7, ground := Go.Ground.phase }, { on := 8, ground := Go.Ground.phase }, { on := 9, ground := Go.Ground.phase }], guard := none }) (v := ?_) rfl (by kernel_rfl) (by kernel_rfl) (by kernel_rfl) (fun _ _ _ h => h) (Or.inl ⟨by rfl, ?_⟩) (by assumption) ?_
  rotate_left
  · (intro u hSw; (try dsimp only at hSw); go_simp; try (with_reducible rfl))
  try simp only [Act.put, List.setIfInBounds_toArray, List.set_cons_zero, List.set_cons_succ]
  refine wpAnyH_done (by kernel_rfl) ?_ _
  go_wp2
  go_ret
  exact ⟨⟨_, rfl⟩, ⟨TL.2, HT4.out, HLen.out⟩, ((Turn.ofExt _ HX2.out).trans (HK3.out.mono fun g q => .inl q)).trans (HK4.out.mono fun g q => .inr q)⟩
set_option maxRecDepth 100000 in
set_option maxHeartbeats 8000000 in
theorem does3n_any (w : World) (t b r : Nat) (qp qb : Int) (R : List RowP) (up ub : Int) (U : List RowP) (h : Pair w t b r qp qb R up ub U) (hl : R.length ≤ 40000) (hu : U.length ≤ 40000) (dv : Nat) (hdv : dv % 4 = 3) (ea : Option Addr) (el ec : Nat) (ra : Option Addr) (rl rc : Nat) (pa : Option Addr) (pl pc : Nat) (P : List ByteArray) (hP : TextsP w pa P) (hpl : P.length = pl) (hn : pl ≤ 1100) (hs : ∀ s ∈ P, s.size ≤ 140737488351232) :
    Calls Tryz.prog 9 #[.pointer (some ⟨t, 0, none⟩), .pointer (some ⟨r, 0, none⟩), .agg #[.int .u8 (dv : Int), .slice ea el ec, .slice ra rl rc, .slice pa pl pc]] w (DoesQ t b r qp qb R 0 w) := by
  have HB := Lib.hid h
  have hq : (dv : Int) % 4 = 3 := by omega
  have HX0 := Lib.hid ((Ext.refl w).alloc (.cells #[.int .u8 (dv : Int), .slice ea el ec, .slice ra rl rc, .slice pa pl pc] 38))
  have HB0 := Lib.hid (Blk.new w [.int .u8 (dv : Int), .slice ea el ec, .slice ra rl rc, .slice pa pl pc] 38)
  have hbt : ¬ TB t b w.heap.size := fun q => by
    have h1 := h.one.blk.lt
    have h2 := h.one.map.lt
    rcases q with q | q <;> omega
  have HBt := Lib.hid hbt
  have HB1 := Lib.hid (h.ext HX0.out)
  have HBr : Hid (¬ w.heap.size = r) := Lib.hid (fun q => by have := h.two.lt; omega)
  have HP := Lib.hid hP
  have HX0d := Lib.hid (HX0.out.drew)
  have HB0d := Lib.hid (HB0.out.drew)
  have HB2 := Lib.hid (HB1.out.ext (Ext.refl (w.alloc (.cells #[.int .u8 (dv : Int), .slice ea el ec, .slice ra rl rc, .slice pa pl pc] 38))).drew)
  have hS0 : (w.alloc (.cells #[.int .u8 (dv : Int), .slice ea el ec, .slice ra rl rc, .slice pa pl pc] 38)).drew.cell? ⟨w.heap.size, 3, none⟩ = some (.slice pa pl pc) := HB0.out.drew.cell 3 _ rfl
  have HDr := Lib.hid (tdrops_any (w.alloc (.cells #[.int .u8 (dv : Int), .slice ea el ec, .slice ra rl rc, .slice pa pl pc] 38)).drew 0 t b qp qb R HB2.out.one (by omega) pa pc P (hP.ext HX0d.out) hs (by omega))
  have HRD := Lib.hid (fun u (x : IsRT u r up ub U) (y : TextsP u pa P) => rdrop_any u r up ub U x (by omega) pa pc P y (by omega))
  have hlen := dropsR_len P R
  rw [hpl] at HDr HRD
  generalize dropsR R P = TD at *
  generalize dropsR U P = UD at *
  obtain ⟨HRl, hrl⟩ : ∃ n, R.length = n := ⟨_, rfl⟩
  obtain ⟨HDl, hdl⟩ : ∃ n, TD.length = n := ⟨_, rfl⟩
  have HLen := Lib.hid hlen
  rw [hrl, hdl] at HDr
  clear h hl hu hdv hP hpl hs hbt hlen hrl hdl
  go_enter Tryz.func9, Tryz.ntmps9
  go_upto_region 12 with (fail)
  refine wp_region_held_drew (S := fun u => u.cell? ⟨w.heap.size, 3, none⟩ = some (.slice pa pl pc)) (by kernel_rfl) hS0 (fun hHeld => ?_)
  refine wpAnyH_take (i := 0) (oi := { dst := some 89, op := Go.Op.move (Go.Operand.tmp 0), type := 28, pos := "law.go:105", after := #[], guard := none }) (v := ?_) rfl (by kernel_rfl) (by kernel_rfl) (by kernel_rfl) (fun _ _ _ h => h) (Or.inl ⟨by rfl, ?_⟩) (by assumption) ?_
  rotate_left
  · (intro u hSw; (try dsimp only at hSw); go_simp; try (with_reducible rfl))
  try simp only [Act.put, List.setIfInBounds_toArray, List.set_cons_zero, List.set_cons_succ]
  refine wpAnyH_take (i := 1) (oi := { dst := some 90, op := Go.Op.fieldAddr 38 (Go.Operand.tmp 5) 3, type := 0, pos := "law.go:105", after := #[], guard := none }) (v := ?_) rfl (by kernel_rfl) (by kernel_rfl) (by kernel_rfl) (fun _ _ _ h => h) (Or.inl ⟨by rfl, ?_⟩) (by assumption) ?_
  rotate_left
  · (intro u hSw; (try dsimp only at hSw); go_simp; try (with_reducible rfl))
  try simp only [Act.put, List.setIfInBounds_toArray, List.set_cons_zero, List.set_cons_succ]
  refine wpAnyH_take (i := 2) (oi := { dst := some 91, op := Go.Op.load 36 (Go.Operand.tmp 90), type := 36, pos := "law.go:105", after := #[{ on := 1, ground := Go.Ground.data }], guard := none }) (v := ?_) rfl (by kernel_rfl) (by kernel_rfl) (by kernel_rfl) (fun _ _ _ h => h) (Or.inl ⟨by rfl, ?_⟩) (by assumption) ?_
  rotate_left
  · (intro u hSw; (try dsimp only at hSw); go_simp; try (with_reducible rfl))
  try simp only [Act.put, List.setIfInBounds_toArray, List.set_cons_zero, List.set_cons_succ]
  refine wpAnyH_take (i := 4) (oi := { dst := some 93, op := Go.Op.move (Go.Operand.tmp 1), type := 30, pos := "law.go:105", after := #[], guard := none }) (v := ?_) rfl (by kernel_rfl) (by kernel_rfl) (by kernel_rfl) (fun _ _ _ h => h) (Or.inl ⟨by rfl, ?_⟩) (by assumption) ?_
  rotate_left
  · (intro u hSw; (try dsimp only at hSw); go_simp; try (with_reducible rfl))
  try simp only [Act.put, List.setIfInBounds_toArray, List.set_cons_zero, List.set_cons_succ]
  refine wpAnyH_take (i := 5) (oi := { dst := some 94, op := Go.Op.fieldAddr 38 (Go.Operand.tmp 5) 3, type := 0, pos := "law.go:105", after := #[], guard := none }) (v := ?_) rfl (by kernel_rfl) (by kernel_rfl) (by kernel_rfl) (fun _ _ _ h => h) (Or.inl ⟨by rfl, ?_⟩) (by assumption) ?_
  rotate_left
  · (intro u hSw; (try dsimp only at hSw); go_simp; try (with_reducible rfl))
  try simp only [Act.put, List.setIfInBounds_toArray, List.set_cons_zero, List.set_cons_succ]
  refine wpAnyH_take (i := 6) (oi := { dst := some 95, op := Go.Op.load 36 (Go.Operand.tmp 94), type := 36, pos := "law.go:105", after := #[{ on := 5, ground := Go.Ground.data }], guard := none }) (v := ?_) rfl (by kernel_rfl) (by kernel_rfl) (by kernel_rfl) (fun _ _ _ h => h) (Or.inl ⟨by rfl, ?_⟩) (by assumption) ?_
  rotate_left
  · (intro u hSw; (try dsimp only at hSw); go_simp; try (with_reducible rfl))
  try simp only [Act.put, List.setIfInBounds_toArray, List.set_cons_zero, List.set_cons_succ]
  refine wpAnyH_ready (rs := [3]) (by kernel_rfl) (by simp) ?_
  refine AllReadyH.cons (o := { dst := some 92, op := Go.Op.call { callee := Go.Callee.value (Go.Operand.func 26), args := #[Go.Operand.tmp 89, Go.Operand.tmp 91], argTypes := #[28, 36] }, type := 3, pos := "law.go:105", after := #[{ on := 0, ground := Go.Ground.data }, { on := 2, ground := Go.Ground.data }], guard := none }) rfl (fun K hK => ?_) AllReadyH.nil
  go_simp
  go_at_call 26
  refine HDr.out.mono ?_
  rintro e w3 ⟨rfl, i3, k3⟩
  have HT3 := Lib.hid i3
  have HK3 := Lib.hid k3
  have HR3 := Lib.hid (HB2.out.two.turn k3 HB2.out.nt HB2.out.one.noV)
  have HP3 := Lib.hid ((HP.out.ext HX0d.out).turnS k3 HB2.out.one.noS)
  have hS3 := (k3.blk HB0d.out HBt.out).cell 3 _ rfl
  clear i3 k3
  go_wp2_with fail
  refine hK.out _ _ hS3 (fun hHeld => ?_)
  clear hK K
  try simp only [Act.put, List.setIfInBounds_toArray, List.set_cons_zero, List.set_cons_succ]
  refine wpAnyH_ready (rs := [7]) (by kernel_rfl) (by simp) ?_
  refine AllReadyH.cons (o := { dst := some 96, op := Go.Op.call { callee := Go.Callee.value (Go.Operand.func 31), args := #[Go.Operand.tmp 93, Go.Operand.tmp 95], argTypes := #[30, 36] }, type := 3, pos := "law.go:105", after := #[{ on := 4, ground := Go.Ground.data }, { on := 6, ground := Go.Ground.data }, { on := 3, ground := Go.Ground.chain }], guard := none }) rfl (fun K hK => ?_) AllReadyH.nil
  go_simp
  go_at_call 31
  refine (HRD.out _ HR3.out HP3.out).mono ?_
  rintro e w4 ⟨d4, rfl, hd4, i4, k4⟩
  have HD4 := Lib.hid hd4
  have HR4 := Lib.hid i4
  have HK4 := Lib.hid k4
  have HT4 := Lib.hid (HT3.out.turn k4 HB.out.ne1 HB.out.ne2 HR3.out.noT)
  have hS4 := (k4.blk (HK3.out.blk HB0d.out HBt.out) (fun q => HBr.out q)).cell 3 _ rfl
  clear i4 k4 hd4
  go_wp2_with fail
  refine hK.out _ _ hS4 (fun hHeld => ?_)
  clear hK K
  try simp only [Act.put, List.setIfInBounds_toArray, List.set_cons_zero, List.set_cons_succ]
  refine wpAnyH_take (i := 8) (oi := { dst := some 97, op := Go.Op.binOp Go.BinOp.eql 3 (Go.Operand.tmp 92) (Go.Operand.tmp 96) 3, type := 4, pos := "law.go:105", after := #[{ on := 3, ground := Go.Ground.data }, { on := 7, ground := Go.Ground.data }], guard := none }) (v := ?_) rfl (by kernel_rfl) (by kernel_rfl) (by kernel_rfl) (fun _ _ _ h => h) (Or.inl ⟨by rfl, ?_⟩) (by assumption) ?_
  rotate_left
  · (intro u hSw; (try dsimp only at hSw); go_simp; try (with_reducible rfl))
  try simp only [Act.put, List.setIfInBounds_toArray, List.set_cons_zero, List.set_cons_succ]
  refine wpAnyH_take (i := 9) (oi := { dst := some 6, op := Go.Op.assign (Go.Operand.tmp 97), type := 4, pos := "law.go:105", after := #[{ on := 8, ground := Go.Ground.data }, { on := 7, ground := Go.Ground.chain }, { on := 0, ground := Go.Ground.phase }, { on := 1, ground := Go.Ground.phase }, { on := 2, ground := Go.Ground.phase }, { on := 3, ground := Go.Ground.phase }, { on := 4, ground := Go.Ground.phase }, { on := 5, ground := Go.Ground.phase }, { on := 6, ground := Go.Ground.phase }, { on := 7, ground := Go.Ground.phase }, { on := 8, ground := Go.Ground.phase }], guard := none }) (v := ?_) rfl (by kernel_rfl) (by kernel_rfl) (by kernel_rfl) (fun _ _ _ h => h) (Or.inl ⟨by rfl, ?_⟩) (by assumption) ?_
  rotate_left
  · (intro u hSw; (try dsimp only at hSw); go_simp; try (with_reducible rfl))
  try simp only [Act.put, List.setIfInBounds_toArray, List.set_cons_zero, List.set_cons_succ]
  refine wpAnyH_done (by kernel_rfl) ?_ _
  go_wp2
  go_ret
  exact ⟨⟨_, rfl⟩, ⟨TD, HT4.out, HLen.out⟩, ((Turn.ofExt _ HX0d.out).trans (HK3.out.mono fun g q => .inl q)).trans (HK4.out.mono fun g q => .inr q)⟩
end Go.Proofs.YtkjcpjalldbahaaGreatDoor
