/- Contracts: copies of a cell: the law's copied, slices.Clone, the program's clone. A map of cells by paths, told as rows; a table; what may turn. -/
import Derived.Test.YtkjcpjalldbahaaGreatDoorM05
import Derived.Test.YtkjcpjalldbahaaGreatDoorM09
import Derived.Test.YtkjcpjalldbahaaGreatDoorM10
import Derived.StringKeys
import Derived.Maps.Keyed
import Derived.Maps.OwnSet
section
namespace Go.Proofs.YtkjcpjalldbahaaGreatDoor
open Go.RowKit

section
variable {w w' : World} {B : Nat} {p : Option Addr} {c : Nat} {L : List Ver}
theorem IsV.setCell (h : IsV w B p c L) {a : Addr} (ha : a.block < B) (u : Value) : IsV (w.setCell a u) B p c L :=
  ⟨h.sl.same (fun g _ hg => Below.heap_setCell _ _ _ _ (by have := h.low g (kp_one hg); omega)) (fun _ _ q => q), h.low⟩
/-- A new slice of versions. -/
theorem isV_new {p' : Option Addr} {c' n : Nat} {κ' : Foot} (hn : L.length = n) (s : Sl w' κ' 1 3 41 p' n c' (vsCells L)) (e : p' = none ∨ p' = some ⟨B, 0, none⟩) : IsV w' B p' c' L := by
  subst hn
  refine ⟨s.kp, fun g hg => ?_⟩
  rcases e with e | e
  · rw [e] at hg; cases hg
  · rw [e] at hg; cases hg; exact Nat.le_refl _
end
theorem size2 (w : World) (o o' : Obj) : ((w.alloc o).alloc o').heap.size = w.heap.size + 2 := by simp
theorem nilV (p : Option Addr) (n c : Nat) (w : World) : (binOp .eql 53 (.slice p n c) (.slice none 0 0)).run Tryz.prog w = .ok (.bool p.isNone) w := by
  have h2 : ∀ d, (Op.equalIn (d + 1) 53 (.slice p n c) (.slice none 0 0)).run Tryz.prog w = .ok p.isNone w := fun d => by
    cases p <;> simp [Op.equalIn, run_underlying Tryz.underlying53]
  have h : (Op.equal 53 (.slice p n c) (.slice none 0 0)).run Tryz.prog w = .ok p.isNone w := h2 9999
  simp [binOp, h]
theorem VersP.none_nil {w : World} {L : List Ver} (h : VersP w none L) : L = [] := by
  cases L with
  | nil => rfl
  | cons v r => obtain ⟨a, e, _⟩ := h 0 v rfl; cases e
set_option maxRecDepth 100000 in
set_option maxHeartbeats 2000000 in
/-- slices.Clone of versions. -/
theorem cloneV_any (w : World) (p : Option Addr) (c : Nat) (L : List Ver) (h : VersP w p L) (hl : L.length ≤ 1000000) :
    Calls Tryz.prog 46 #[.slice p L.length c] w fun e w' => ∃ q c', e = .returned (.slice q L.length c') ∧ IsV w' w.heap.size q c' L ∧ Ext w w' := by
  have hnil := fun p n c u => nilV p n c u
  cases p with
  | none =>
    obtain rfl := h.none_nil
    clear h
    go_enter Tryz.func46, Tryz.ntmps46
    go_wp2
    go_ret
    exact ⟨none, 0, rfl, IsV.nil _ _, Ext.refl _⟩
  | some a =>
    have HX0 := Lib.hid ((Ext.refl w).alloc (.cells #[] 41))
    have HS := Lib.hid ((h.ext HX0.out).src c)
    obtain ⟨k, hk⟩ : ∃ k, L.length = k := ⟨_, rfl⟩
    have HK := Lib.hid hk
    rw [hk] at hl HS ⊢
    have hl2 : 0 + k ≤ 1000000000 := by omega
    generalize hcs : vsCells L = cs at *
    have HC := Lib.hid hcs
    clear h hk hcs
    go_enter Tryz.func46, Tryz.ntmps46
    go_wp2_with (refine wpList_append_sl rfl (.tmp 5) (.tmp 6) 53 53 rfl Tryz.underlying53 infoV rfl (by decide) rfl (Sl.empty _ (kp none) 1 3 _ w.heap.size) (fun u hu => by cases hu) _ rfl k cs HS.out hl2 ?_; intro p1 c1 w1 κ1 s1 f1 e1 x1 o1; rw [Nat.zero_add, List.nil_append] at s1; have HSl := Lib.hid s1; have HE := Lib.hid e1; have HX1 := Lib.hid (x1 rfl); clear s1 f1 e1 x1 o1; rw [Nat.zero_add])
    go_ret
    refine ⟨p1, c1, rfl, ?_, HX0.out.trans HX1.out⟩
    refine ⟨?_, fun g hg => ?_⟩
    · have s := HSl.out.kp
      rw [← HC.out, ← HK.out] at s
      exact s
    · rcases HE.out with e | e
      · rw [e] at hg; cases hg; exact Nat.le_refl _
      · rw [e] at hg; cases hg; simp
set_option maxRecDepth 100000 in
set_option maxHeartbeats 2000000 in
/-- The program's clone. -/
theorem clone_any (w : World) (m : Nat) (p : Option Addr) (c : Nat) (L : List Ver) (h : VersP w p L) (hl : L.length ≤ 1000000) :
    Calls Tryz.prog 115 #[.agg #[.int .u64 (m : Int), .slice p L.length c]] w fun e w' => ∃ q c', e = .returned (.agg #[.int .u64 (m : Int), .slice q L.length c']) ∧ IsV w' w.heap.size q c' L ∧ Ext w w' := by
  have HX0 := Lib.hid (((Ext.refl w).alloc (.cells #[.int .u64 (m : Int), .slice p L.length c] 55)).alloc (.cells #[.int .u64 0, .slice none 0 0] 55))
  have HB1 := Lib.hid ((Blk.new w [.int .u64 (m : Int), .slice p L.length c] 55).alloc (.cells #[.int .u64 0, .slice none 0 0] 55))
  have HB2 := Lib.hid (Blk.new1V w (.cells #[.int .u64 (m : Int), .slice p L.length c] 55) [.int .u64 0, .slice none 0 0] 55)
  have HZ := Lib.hid (size2 w (.cells #[.int .u64 (m : Int), .slice p L.length c] 55) (.cells #[.int .u64 0, .slice none 0 0] 55))
  have HC := Lib.hid (cloneV_any _ p c L (h.ext HX0.out) hl)
  obtain ⟨k, hk⟩ : ∃ k, L.length = k := ⟨_, rfl⟩
  rw [hk] at HX0 HB1 HB2 HZ HC ⊢
  clear h hk hl
  go_enter Tryz.func115, Tryz.ntmps115
  go_wp2_with (go_at_call 46; refine HC.out.mono ?_; rintro e w1 ⟨p1, c1, rfl, v1, x1⟩; have HV := Lib.hid v1; have HX1 := Lib.hid x1; have HB3 := Lib.hid (HB1.out.ext HX1.out); have HB4 := Lib.hid (HB2.out.ext HX1.out); have b0 := HB3.out.cell 0 _ rfl; have b1 := HB3.out.cell 1 _ rfl; have z1 := HB3.out.frozen 1; have d0 := HB4.out.cell 0 _ rfl; have d1 := HB4.out.cell 1 _ rfl; have y0 := HB4.out.frozen 0; have y1 := HB4.out.frozen 1; clear v1 x1)
  have HV2 := HV.out
  rw [HZ.out] at HV2
  have HW := ((HV2.setCell (a := ⟨w.heap.size, 1, none⟩) (by show w.heap.size < _; omega) (.slice p1 k c1)).setCell (a := ⟨w.heap.size + 1, 0, none⟩) (by show w.heap.size + 1 < _; omega) (.int .u64 (m : Int))).setCell (a := ⟨w.heap.size + 1, 1, none⟩) (by show w.heap.size + 1 < _; omega) (.slice p1 k c1)
  exact bodyPost_ret (results_cell_row rfl _ _ (w.heap.size + 1) 55 #[.int .u64 (m : Int), .slice p1 k c1] (0, 0) _ rfl (((HB4.out.other (by omega) _ _).set_ 0 _).set_ 1 _) Tryz.underlying55 rfl cell_info) rfl ⟨p1, c1, rfl, HW.base (by omega), (((HX0.out.trans HX1.out).setCell (p := ⟨w.heap.size, 1, none⟩) (Nat.le_refl _) _).setCell (p := ⟨w.heap.size + 1, 0, none⟩) (Nat.le_succ _) _).setCell (p := ⟨w.heap.size + 1, 1, none⟩) (Nat.le_succ _) _⟩
end Go.Proofs.YtkjcpjalldbahaaGreatDoor
end

section
namespace Go.Proofs.YtkjcpjalldbahaaGreatDoor
open Go.RowKit Go.ChangeMaps Go.MapKept
open Go.Maps (Keyed string_keyed)
open Go.WideMaps (keyOf_string_mk)

/-! ### What may turn -/
/-- From w to w' only the blocks S were written; new ones came. -/
structure Turn (S : Nat → Prop) (w w' : World) : Prop where
  os : w'.os = w.os
  tape : w'.tape = w.tape
  output : w'.output = w.output
  size : w.heap.size ≤ w'.heap.size
  other : ∀ g, g < w.heap.size → ¬ S g → w'.heap[g]? = w.heap[g]?
section
variable {S S' : Nat → Prop} {w w' w'' : World}
theorem Turn.refl (S : Nat → Prop) (w : World) : Turn S w w := ⟨rfl, rfl, rfl, Nat.le_refl _, fun _ _ _ => rfl⟩
theorem Turn.trans (h : Turn S w w') (k : Turn S w' w'') : Turn S w w'' :=
  ⟨k.os.trans h.os, k.tape.trans h.tape, k.output.trans h.output, Nat.le_trans h.size k.size, fun g hg hn => (k.other g (Nat.lt_of_lt_of_le hg h.size) hn).trans (h.other g hg hn)⟩
theorem Turn.ofExt (S : Nat → Prop) (h : Ext w w') : Turn S w w' := ⟨h.os, h.tape, h.output, h.size, fun g hg _ => h.block g hg⟩
theorem Turn.ext (h : Turn S w w') (k : Ext w' w'') : Turn S w w'' := h.trans (Turn.ofExt S k)
theorem Turn.mono (h : Turn S w w') (hs : ∀ g, S g → S' g) : Turn S' w w' := ⟨h.os, h.tape, h.output, h.size, fun g hg hn => h.other g hg fun q => hn (hs g q)⟩
theorem Turn.setCell (h : Turn S w w') {p : Addr} (hp : S p.block ∨ w.heap.size ≤ p.block) (u : Value) : Turn S w (w'.setCell p u) :=
  ⟨h.os, h.tape, h.output, by simpa [World.setCell] using h.size, fun g hg hn => (Below.heap_setCell _ _ _ _ (fun e => by
    rcases hp with q | q
    · exact hn (e ▸ q)
    · omega)).trans (h.other g hg hn)⟩
theorem Turn.map (h : Turn S w w') {b : Nat} (k : w'.mapTurned w'' b) (hb : S b ∨ w.heap.size ≤ b) : Turn S w w'' := by
  obtain ⟨es, clock, es', clock', hb', rfl⟩ := k
  refine ⟨h.os, h.tape, h.output, by simpa [setBlock] using h.size, fun g hg hn => (heap_setBlock_other hb' _ (fun e => ?_)).trans (h.other g hg hn)⟩
  rcases hb with q | q
  · exact hn (e ▸ q)
  · omega
theorem Turn.alloc (h : Turn S w w') (o : Obj) : Turn S w (w'.alloc o) := h.ext ((Ext.refl _).alloc o)
/-- None of what turns lies below: nothing has turned. -/
theorem Turn.toExt (h : Turn S w w') (hn : ∀ g, S g → w.heap.size ≤ g) : Ext w w' := ⟨h.os, h.tape, h.output, h.size, fun g hg => h.other g hg fun q => by have := hn g q; omega⟩
theorem Turn.blk (h : Turn S w w') {b : Nat} {T : TypeId} {cs : List Value} (hb : Blk w b T cs) (hn : ¬ S b) : Blk w' b T cs := (h.other b hb.lt hn).trans hb
/-- No number of 64 bits stands in the block. -/
def NoV (w : World) (g : Nat) : Prop := ∀ a : Addr, a.block = g → ∀ k, w.cell? a ≠ some (.int .u64 k)
theorem VersP.turn {p : Option Addr} {L : List Ver} (h : VersP w p L) (f : Turn S w w') (hS : ∀ g, S g → NoV w g) : VersP w' p L := fun k x hk => by
  obtain ⟨a, h1, h2, h3⟩ := h k x hk
  have hn : ¬ S a.block := fun q => hS _ q (a.add (k * 3 + 0)) (add_blockV _ _) _ (h3 0 _ rfl)
  refine ⟨a, h1, Nat.lt_of_lt_of_le h2 f.size, fun j v hv => ?_⟩
  rw [← h3 j v hv]
  have hbl := f.other a.block h2 hn
  unfold World.cell?
  rw [add_blockV, hbl]
theorem NoV.map {b : Nat} {es : Array MapEntry} {clock : Nat} (h : w.heap[b]? = some (.map es clock)) : NoV w b := fun a ha k => by
  subst ha
  unfold World.cell?
  rw [h]
  simp
theorem NoV.blk {b : Nat} {T : TypeId} {cs : List Value} (h : Blk w b T cs) (hc : ∀ v ∈ cs, ∀ k, v ≠ .int .u64 k) : NoV w b := fun a ha k e => by
  subst ha
  unfold Blk at h
  unfold World.cell? at e
  rw [h] at e
  dsimp only at e
  split at e
  · cases e
  · have : cs[a.off]? = some (.int .u64 k) := by simpa using e
    exact hc _ (List.mem_of_getElem? this) k rfl
end

/-- The block holds no versions. -/
def NoT (w : World) (g : Nat) : Prop := ∀ cur fr, w.heap[g]? ≠ some (.cells cur 41 fr)
/-- Versions at an address, in a block of versions. -/
structure VersT (w : World) (p : Option Addr) (L : List Ver) : Prop where
  vers : VersP w p L
  ty : ∀ x, p = some x → L ≠ [] → ∃ cur fr, w.heap[x.block]? = some (.cells cur 41 fr)
section
variable {w w' : World} {p : Option Addr} {L : List Ver}
theorem VersP.lt (h : VersP w p L) (hL : L ≠ []) {x : Addr} (hx : p = some x) : x.block < w.heap.size := by
  cases L with
  | nil => exact absurd rfl hL
  | cons v r =>
    obtain ⟨a, e, hlt, _⟩ := h 0 v rfl
    rw [hx] at e
    cases e
    exact hlt
theorem VersT.ext (h : VersT w p L) (x : Ext w w') : VersT w' p L := ⟨h.vers.ext x, fun y hy hL => by
  obtain ⟨cur, fr, e⟩ := h.ty y hy hL
  exact ⟨cur, fr, (x.block _ (h.vers.lt hL hy)).trans e⟩⟩
theorem VersT.keep (h : VersT w p L) (hs : w.heap.size ≤ w'.heap.size) (hk : ∀ (g : Nat) (cur : Array Value) (fr : Nat × Nat), w.heap[g]? = some (Obj.cells cur 41 fr) → w'.heap[g]? = w.heap[g]?) : VersT w' p L := by
  refine ⟨fun k x hk' => ?_, fun y hy hL => ?_⟩
  · have hL : L ≠ [] := fun e => by rw [e] at hk'; simp at hk'
    obtain ⟨a, h1, h2, h3⟩ := h.vers k x hk'
    obtain ⟨cur, fr, e⟩ := h.ty a h1 hL
    refine ⟨a, h1, Nat.lt_of_lt_of_le h2 hs, fun j v hv => ?_⟩
    rw [← h3 j v hv]
    unfold World.cell?
    rw [add_blockV, hk _ _ _ e]
  · obtain ⟨cur, fr, e⟩ := h.ty y hy hL
    exact ⟨cur, fr, (hk _ _ _ e).trans e⟩
theorem VersT.turn {S : Nat → Prop} (h : VersT w p L) (f : Turn S w w') (hS : ∀ g, S g → NoT w g) : VersT w' p L :=
  h.keep f.size fun g cur fr e => f.other g (heap_lt e) fun q => hS g q cur fr e
theorem VersT.nil (w : World) (p : Option Addr) : VersT w p [] := ⟨VersP.nil _ _, fun _ _ h => absurd rfl h⟩
theorem IsV.versT {B c : Nat} (h : IsV w B p c L) : VersT w p L := ⟨h.vers, fun x hx hL => by
  have hpos : 0 < c := Nat.lt_of_lt_of_le (List.length_pos_iff.2 hL) h.le
  obtain ⟨g, cur, e, _, hg, _⟩ := h.sl.2.2.2 hpos
  rw [hx] at e
  cases e
  exact ⟨cur, (0, 0), hg⟩⟩
theorem IsV.low' {B c : Nat} (h : IsV w B p c L) : ∀ x, p = some x → B ≤ x.block := fun x hx => by
  rcases h.sl.2.2.1 with e | ⟨g, e⟩
  · rw [e] at hx; cases hx
  · rw [e] at hx; cases hx; exact h.low g e
theorem NoT.blk {b : Nat} {T : TypeId} {cs : List Value} (h : Blk w b T cs) (hT : T ≠ 41) : NoT w b := fun cur fr e => by
  have h2 : w.heap[b]? = _ := h
  rw [h2] at e
  cases e
  exact hT rfl
theorem NoT.map {b : Nat} {es : Array MapEntry} {clock : Nat} (h : w.heap[b]? = some (.map es clock)) : NoT w b := fun cur fr e => by
  rw [h] at e
  cases e
end

/-! ### Maps -/
/-- An entry of the map: a path, its cell, where its versions lie. -/
structure Ent where
  p : ByteArray
  m : Nat
  L : List Ver
  a : Option Addr
  c : Nat
def Ent.row (e : Ent) : RowP := ⟨e.p, e.m, e.L⟩
def cellV (m : Nat) (a : Option Addr) (n c : Nat) : Value := .agg #[.int .u64 (m : Int), .slice a n c]
def kvE (e : Ent) : Value × Value := (.string e.p, .agg #[.int .u64 (e.m : Int), .slice e.a e.L.length e.c])
theorem kvE_key {e : Ent} {p : ByteArray} (h : (kvE e).1 = .string p) : e.p = p := by
  simpa [kvE] using h
/-- The versions of an entry are there, in no block below lo. -/
structure EntP (w : World) (lo : Nat) (e : Ent) : Prop where
  vers : VersT w e.a e.L
  low : ∀ x, e.a = some x → lo ≤ x.block
theorem EntP.ext {w w' : World} {lo : Nat} {e : Ent} (h : EntP w lo e) (x : Ext w w') : EntP w' lo e := ⟨h.vers.ext x, h.low⟩
theorem EntP.turn {S : Nat → Prop} {w w' : World} {lo : Nat} {e : Ent} (h : EntP w lo e) (f : Turn S w w') (hS : ∀ g, S g → NoT w g) : EntP w' lo e := ⟨h.vers.turn f hS, h.low⟩
/-- Block b is a map of these rows; M: its entries. -/
structure IsME (w : World) (lo b : Nat) (M : List Ent) (R : List RowP) : Prop where
  map : MapL w Tryz.prog 9 b (M.map kvE)
  ents : ∀ e ∈ M, EntP w lo e
  rows : ∀ r, r ∈ R ↔ ∃ e ∈ M, e.row = r
def IsM (w : World) (lo b : Nat) (R : List RowP) : Prop := ∃ M, IsME w lo b M R
theorem keyS : Keyed Tryz.prog 9 := string_keyed Tryz.underlying9
theorem keyS_at (p : ByteArray) (hp : p.size ≤ 140737488355328) : keyOf Tryz.prog 9 (.string p) = some (.string p.data.toList) := keyOf_string_mk Tryz.underlying9 (by unfold maxLen; omega)
theorem zero_cell (w : World) : (zeroValue 55).run Tryz.prog w = .ok (.agg #[.int .u64 0, .slice none 0 0]) w := by kernel_rfl
theorem MapL.keys_nodup {w : World} {P : Program} {k : TypeId} {b : Nat} {l : List (Value × Value)} (h : MapL w P k b l) : (l.map Prod.fst).Nodup := by
  obtain ⟨es, clock, hb, hs, rfl, _⟩ := h
  have hp := ((stamped_iff es clock).1 hs).2.2
  rw [List.map_map]
  exact List.pairwise_map.2 hp
section
variable {w w' : World} {lo b : Nat} {M : List Ent} {R : List RowP}
theorem IsME.paths (h : IsME w lo b M R) : (M.map (·.p)).Nodup := by
  have hn := h.map.keys_nodup
  rw [List.map_map] at hn
  have hi : ∀ {x y : Ent}, (Prod.fst ∘ kvE) x ≠ (Prod.fst ∘ kvE) y → x.p ≠ y.p := fun {x y} q e => q (by simp [kvE, e])
  exact List.pairwise_map.2 (List.Pairwise.imp hi (List.pairwise_map.1 hn))
theorem ent_inj {x y : Ent} (hn : (M.map (·.p)).Nodup) (hx : x ∈ M) (hy : y ∈ M) (e : x.p = y.p) : x = y := by
  induction M with
  | nil => cases hx
  | cons z t ih =>
    obtain ⟨n1, n2⟩ := List.nodup_cons.1 hn
    rcases List.mem_cons.1 hx with e1 | hx' <;> rcases List.mem_cons.1 hy with e2 | hy'
    · rw [e1, e2]
    · exact (n1 (List.mem_map.2 ⟨y, hy', by rw [← e, e1]⟩)).elim
    · exact (n1 (List.mem_map.2 ⟨x, hx', by rw [e, e2]⟩)).elim
    · exact ih n2 hx' hy'
theorem IsME.ext (h : IsME w lo b M R) (x : Ext w w') : IsME w' lo b M R := ⟨h.map.ext x, fun e he => (h.ents e he).ext x, h.rows⟩
theorem IsM.ext (h : IsM w lo b R) (x : Ext w w') : IsM w' lo b R := by obtain ⟨M, h⟩ := h; exact ⟨M, h.ext x⟩
theorem IsM.lt (h : IsM w lo b R) : b < w.heap.size := by obtain ⟨M, h⟩ := h; exact h.map.lt
theorem IsME.turn {S : Nat → Prop} (h : IsME w lo b M R) (f : Turn S w w') (hb : ¬ S b) (hS : ∀ g, S g → NoT w g) : IsME w' lo b M R :=
  ⟨h.map.same (f.other b h.map.lt hb), fun e he => (h.ents e he).turn f hS, h.rows⟩
theorem IsM.turn {S : Nat → Prop} (h : IsM w lo b R) (f : Turn S w w') (hb : ¬ S b) (hS : ∀ g, S g → NoT w g) : IsM w' lo b R := by obtain ⟨M, h⟩ := h; exact ⟨M, h.turn f hb hS⟩
theorem IsM.noV (h : IsM w lo b R) : NoV w b := by
  obtain ⟨M, h⟩ := h
  obtain ⟨es, c, hb⟩ := h.map.is
  exact NoV.map hb
theorem IsM.noT (h : IsM w lo b R) : NoT w b := by
  obtain ⟨M, h⟩ := h
  obtain ⟨es, c, hb⟩ := h.map.is
  exact NoT.map hb
theorem IsM.made (w : World) (lo : Nat) : IsM (w.alloc (.map #[] 0)) lo w.heap.size [] := ⟨[], MapL.made w _ _, (fun e he => by cases he), (fun r => by simp)⟩
theorem IsM.base {lo' : Nat} (h : IsM w lo b R) (hl : lo' ≤ lo) : IsM w lo' b R := by
  obtain ⟨M, h⟩ := h
  exact ⟨M, h.map, fun e he => ⟨(h.ents e he).vers, fun x hx => Nat.le_trans hl ((h.ents e he).low x hx)⟩, h.rows⟩
/-- m[p], and whether it is there. -/
theorem IsM.look (h : IsM w lo b R) (p : ByteArray) (hp : p.size ≤ 140737488355328) :
    ∃ a c, VersP w a (cellR R p).2 ∧ (∀ x, a = some x → lo ≤ x.block) ∧ ∀ w', Ext w w' → ∀ k, (Instr.lookup 71 (.map (some b)) (.string p) k).run Tryz.prog w' = .ok (if k then .tuple #[.agg #[.int .u64 ((cellR R p).1 : Int), .slice a (cellR R p).2.length c], .bool (hasR R p)] else .agg #[.int .u64 ((cellR R p).1 : Int), .slice a (cellR R p).2.length c]) w' := by
  obtain ⟨M, h⟩ := h
  cases e : lookR R p with
  | some r =>
    obtain ⟨h1, h2⟩ := lookR_mem e
    obtain ⟨x, hx, hxr⟩ := (h.rows r).1 h1
    rw [cellR_some e, show hasR R p = true by simp [hasR, e]]
    subst hxr
    subst h2
    exact ⟨x.a, x.c, (h.ents x hx).vers.vers, (h.ents x hx).low, fun w' hx' k => (h.map.ext hx').look keyS Tryz.underlying71 k (keyS_at _ hp) (List.mem_map.2 ⟨x, hx, rfl⟩)⟩
  | none =>
    rw [cellR_none e, show hasR R p = false by simp [hasR, e]]
    refine ⟨none, 0, VersP.nil _ _, (fun x hx => by cases hx), fun w' hx' k => (h.map.ext hx').look_none keyS Tryz.underlying71 k (zero_cell w') (keyS_at _ hp) fun q hq hk => ?_⟩
    obtain ⟨x, hx, rfl⟩ := List.mem_map.1 hq
    exact lookR_none.1 e x.row ((h.rows _).2 ⟨x, hx, rfl⟩) (kvE_key hk)
theorem listE {l : List (Value × Value)} {Q : Ent → Prop} (h : ∀ p ∈ l, ∃ e, Q e ∧ p = kvE e) : ∃ K : List Ent, l = K.map kvE ∧ ∀ e ∈ K, Q e := by
  induction l with
  | nil => exact ⟨[], rfl, fun _ h => by cases h⟩
  | cons p r ih =>
    obtain ⟨K, rfl, hK⟩ := ih fun q hq => h q (by simp [hq])
    obtain ⟨e, he, rfl⟩ := h p (by simp)
    exact ⟨e :: K, rfl, fun x hx => by
      rcases List.mem_cons.1 hx with rfl | hx
      · exact he
      · exact hK x hx⟩
/-- m[p] = c. -/
theorem IsM.store (h : IsM w lo b R) (hR : RisesR R) (r : RowP) (hp : r.p.size ≤ 140737488355328) (a : Option Addr) (c : Nat) (hv : VersT w a r.L) (hlo : ∀ x, a = some x → lo ≤ x.block) :
    ∃ w', (Instr.mapUpdate 71 (.map (some b)) (.string r.p) (.agg #[.int .u64 (r.m : Int), .slice a r.L.length c])).run Tryz.prog w = .ok () w' ∧ IsM w' lo b (withR r R) ∧ w.mapTurned w' b := by
  obtain ⟨M, h⟩ := h
  obtain ⟨w', l', r1, r2, r3, r4⟩ := h.map.store (val := .agg #[.int .u64 (r.m : Int), .slice a r.L.length c]) keyS Tryz.underlying71 (keyS_at r.p hp)
  have hno := IsM.noT ⟨M, h⟩
  have ht : Turn (fun g => g = b) w w' := (Turn.refl _ w).map r4 (.inl rfl)
  have hnn : ∀ g, g = b → NoT w g := fun g e => e ▸ hno
  obtain ⟨K, rfl, hK⟩ := listE (l := l') (Q := fun e => (e ∈ M ∧ e.p ≠ r.p) ∨ e = ⟨r.p, r.m, r.L, a, c⟩) fun p hp => by
    rcases (r3 p).1 hp with ⟨q1, q2⟩ | q
    · obtain ⟨x, hx, rfl⟩ := List.mem_map.1 q1
      exact ⟨x, .inl ⟨hx, fun e => q2 (by simp [kvE, e])⟩, rfl⟩
    · exact ⟨⟨r.p, r.m, r.L, a, c⟩, .inr rfl, q⟩
  have hpn : (K.map (·.p)).Nodup := by
    have hn := r2.keys_nodup
    rw [List.map_map] at hn
    have hi : ∀ {x y : Ent}, (Prod.fst ∘ kvE) x ≠ (Prod.fst ∘ kvE) y → x.p ≠ y.p := fun {x y} q e => q (by simp [kvE, e])
    exact List.pairwise_map.2 (List.Pairwise.imp hi (List.pairwise_map.1 hn))
  refine ⟨w', r1, ⟨K, r2, fun e he => ?_, fun x => ?_⟩, r4⟩
  · rcases hK e he with ⟨q, _⟩ | rfl
    · exact (h.ents e q).turn ht hnn
    · exact ⟨hv.turn ht hnn, hlo⟩
  · rw [withR_mem hR]
    constructor
    · rintro (rfl | ⟨q1, q2⟩)
      · have hin : (kvE ⟨x.p, x.m, x.L, a, c⟩) ∈ K.map kvE := (r3 _).2 (.inr rfl)
        obtain ⟨y, hy, hye⟩ := List.mem_map.1 hin
        have hyp : y.p = x.p := by have := congrArg Prod.fst hye; simpa [kvE] using this
        rcases hK y hy with ⟨_, q⟩ | rfl
        · exact absurd hyp q
        · exact ⟨_, hy, rfl⟩
      · obtain ⟨y, hy, rfl⟩ := (h.rows x).1 q1
        have hin : kvE y ∈ K.map kvE := (r3 _).2 (.inl ⟨List.mem_map.2 ⟨y, hy, rfl⟩, fun e => q2 (kvE_key e)⟩)
        obtain ⟨z, hz, hze⟩ := List.mem_map.1 hin
        have hzp : z.p = y.p := by have := congrArg Prod.fst hze; simpa [kvE] using this
        rcases hK z hz with ⟨q, _⟩ | rfl
        · exact ⟨z, hz, by rw [ent_inj h.paths q hy hzp]⟩
        · exact absurd hzp.symm q2
    · rintro ⟨y, hy, rfl⟩
      rcases hK y hy with ⟨q1, q2⟩ | rfl
      · exact .inr ⟨(h.rows _).2 ⟨y, q1, rfl⟩, q2⟩
      · exact .inl rfl
/-- delete(m, p). -/
theorem IsM.drop (h : IsM w lo b R) (p : ByteArray) (hp : p.size ≤ 140737488355328) :
    ∃ w', (∀ ty, (Builtin.delete_ #[71, 9] ty #[.map (some b), .string p]).run Tryz.prog w = .ok (.tuple #[]) w') ∧ IsM w' lo b (dropR p R) ∧ w.mapTurned w' b := by
  obtain ⟨M, h⟩ := h
  obtain ⟨w', l', r1, r2, r3, r4⟩ := h.map.drop keyS Tryz.underlying71 (keyS_at p hp)
  have hno := IsM.noT ⟨M, h⟩
  have ht : Turn (fun g => g = b) w w' := (Turn.refl _ w).map r4 (.inl rfl)
  have hnn : ∀ g, g = b → NoT w g := fun g e => e ▸ hno
  obtain ⟨K, rfl, hK⟩ := listE (l := l') (Q := fun e => e ∈ M ∧ e.p ≠ p) fun q hq => by
    obtain ⟨q1, q2⟩ := (r3 q).1 hq
    obtain ⟨x, hx, rfl⟩ := List.mem_map.1 q1
    exact ⟨x, ⟨hx, fun e => q2 (by simp [kvE, e])⟩, rfl⟩
  refine ⟨w', r1, ⟨K, r2, fun e he => (h.ents e (hK e he).1).turn ht hnn, fun x => ?_⟩, r4⟩
  rw [dropR_mem]
  constructor
  · rintro ⟨q1, q2⟩
    obtain ⟨y, hy, rfl⟩ := (h.rows x).1 q1
    have hin : kvE y ∈ K.map kvE := (r3 _).2 ⟨List.mem_map.2 ⟨y, hy, rfl⟩, fun e => q2 (kvE_key e)⟩
    obtain ⟨z, hz, hze⟩ := List.mem_map.1 hin
    have hzp : z.p = y.p := by have := congrArg Prod.fst hze; simpa [kvE] using this
    exact ⟨z, hz, by rw [ent_inj h.paths (hK z hz).1 hy hzp]⟩
  · rintro ⟨y, hy, rfl⟩
    exact ⟨(h.rows _).2 ⟨y, (hK y hy).1, rfl⟩, (hK y hy).2⟩
theorem IsME.perm (h : IsME w lo b M R) (hR : RisesR R) : (M.map Ent.row).Perm R := by
  refine (List.perm_ext_iff_of_nodup ?_ hR.nodupR).2 fun r => ?_
  · have hi : ∀ {x y : Ent}, x.p ≠ y.p → x.row ≠ y.row := fun {x y} q e => q (congrArg RowP.p e)
    exact List.pairwise_map.2 (List.Pairwise.imp hi (List.pairwise_map.1 h.paths))
  · rw [h.rows]
    simp
theorem IsM.len (h : IsM w lo b R) (hR : RisesR R) (ty : TypeId) : (Builtin.len_ #[71] ty #[.map (some b)]).run Tryz.prog w = .ok (.int .i64 (R.length : Int)) w := by
  obtain ⟨M, h⟩ := h
  have := h.map.len Tryz.underlying71 ty
  have hl := (h.perm hR).length_eq
  rw [List.length_map] at this hl
  rw [hl] at this
  exact this
end
/-! ### Ranges -/
/-- Of the entries M those that are done, and what is left. -/
structure Gone (M : List Ent) (left : List (Value × Value)) (done : List Ent) : Prop where
  perm : (left ++ done.map kvE).Perm (M.map kvE)
  sub : ∀ e ∈ done, e ∈ M
  keys : (M.map (·.p)).Nodup
section
variable {M : List Ent} {left left' : List (Value × Value)} {done : List Ent}
theorem Gone.start (h : (M.map (·.p)).Nodup) : Gone M (M.map kvE) [] := ⟨by simp, (fun _ h => by cases h), h⟩
theorem Gone.inv (h : Gone M left done) : ∀ p ∈ left, ∃ x : { e : Ent // e ∈ M }, p = kvE x.1 := fun p hp => by
  have : p ∈ M.map kvE := h.perm.mem_iff.1 (by simp [hp])
  obtain ⟨x, hx, rfl⟩ := List.mem_map.1 this
  exact ⟨⟨x, hx⟩, rfl⟩
theorem Gone.nodup (h : Gone M left done) : ((left ++ done.map kvE).map Prod.fst).Nodup := by
  refine (h.perm.map Prod.fst).nodup_iff.2 ?_
  rw [List.map_map]
  have hi : ∀ {x y : Ent}, x.p ≠ y.p → (Prod.fst ∘ kvE) x ≠ (Prod.fst ∘ kvE) y := fun {x y} q e => q (by simpa [kvE] using e)
  exact List.pairwise_map.2 (List.Pairwise.imp hi (List.pairwise_map.1 h.keys))
theorem Gone.step (h : Gone M left done) {x : Ent} (hx : x ∈ M) (hp : left.Perm (kvE x :: left')) : Gone M left' (done ++ [x]) ∧ ∀ y ∈ done, y.p ≠ x.p := by
  refine ⟨⟨?_, fun e he => ?_, h.keys⟩, fun y hy e => ?_⟩
  · refine List.Perm.trans ?_ h.perm
    rw [List.map_append, List.map_cons, List.map_nil, ← List.append_assoc]
    refine List.Perm.trans List.perm_append_comm ?_
    rw [List.singleton_append, ← List.cons_append]
    exact List.Perm.append_right _ hp.symm
  · rcases List.mem_append.1 he with q | q
    · exact h.sub e q
    · simp at q; subst q; exact hx
  · have hn := ((((hp.append_right (done.map kvE)).map Prod.fst).nodup_iff).1 h.nodup)
    rw [List.cons_append, List.map_cons] at hn
    refine (List.nodup_cons.1 hn).1 (List.mem_map.2 ⟨kvE y, ?_, by simp [kvE, e]⟩)
    exact List.mem_append.2 (.inr (List.mem_map.2 ⟨y, hy, rfl⟩))
theorem Gone.stop (h : Gone M [] done) : ∀ e, e ∈ done ↔ e ∈ M := fun e => by
  refine ⟨h.sub e, fun he => ?_⟩
  have : kvE e ∈ done.map kvE := by
    have := h.perm.mem_iff.2 (List.mem_map.2 ⟨e, he, rfl⟩)
    simpa using this
  obtain ⟨d, hd, hde⟩ := List.mem_map.1 this
  have hp : d.p = e.p := by have := congrArg Prod.fst hde; simpa [kvE] using this
  rw [← ent_inj h.keys (h.sub d hd) he hp]
  exact hd
theorem Gone.paths (h : Gone M left done) : ((done.map Ent.row).map (·.p)).Nodup := by
  have hn := h.nodup
  rw [List.map_append, List.nodup_append] at hn
  have h2 := hn.2.1
  rw [List.map_map] at h2 ⊢
  have hi : ∀ {x y : Ent}, (Prod.fst ∘ kvE) x ≠ (Prod.fst ∘ kvE) y → ((fun r : RowP => r.p) ∘ Ent.row) x ≠ ((fun r : RowP => r.p) ∘ Ent.row) y := fun {x y} q e => q (by have e' : x.p = y.p := e; simp [kvE, e'])
  exact List.pairwise_map.2 (List.Pairwise.imp hi (List.pairwise_map.1 h2))
end
/-! ### Tables -/
/-- Block t is a table of this quota, whose map is block b, with these rows; their versions lie in no block below lo. -/
structure IsT (w : World) (lo t b : Nat) (qp qb : Int) (R : List RowP) : Prop where
  blk : Blk w t 73 [.int .i64 qp, .int .i64 qb, .map (some b), .int .i64 (bytesR R : Int)]
  map : IsM w lo b R
  good : GoodR R
section
variable {w w' : World} {lo t b : Nat} {qp qb : Int} {R : List RowP}
/-- What a table's calls may turn. -/
def TB (t b : Nat) : Nat → Prop := fun g => g = t ∨ g = b
theorem IsT.noV (h : IsT w lo t b qp qb R) : ∀ g, TB t b g → NoV w g := fun g q => by
  rcases q with rfl | rfl
  · exact NoV.blk h.blk (by simp)
  · exact h.map.noV
theorem IsT.noT (h : IsT w lo t b qp qb R) : ∀ g, TB t b g → NoT w g := fun g q => by
  rcases q with rfl | rfl
  · exact NoT.blk h.blk (by decide)
  · exact h.map.noT
theorem IsT.ne (h : IsT w lo t b qp qb R) : t ≠ b := fun e => by
  obtain ⟨M, hm⟩ := h.map
  obtain ⟨es, c, hb⟩ := hm.map.is
  have h2 : w.heap[t]? = _ := h.blk
  rw [e, hb] at h2
  cases h2
theorem IsT.ext (h : IsT w lo t b qp qb R) (x : Ext w w') : IsT w' lo t b qp qb R := ⟨h.blk.ext x, h.map.ext x, h.good⟩
theorem IsT.turn {S : Nat → Prop} (h : IsT w lo t b qp qb R) (f : Turn S w w') (ht : ¬ S t) (hb : ¬ S b) (hS : ∀ g, S g → NoT w g) : IsT w' lo t b qp qb R :=
  ⟨f.blk h.blk ht, h.map.turn f hb hS, h.good⟩
end
end Go.Proofs.YtkjcpjalldbahaaGreatDoor
end
