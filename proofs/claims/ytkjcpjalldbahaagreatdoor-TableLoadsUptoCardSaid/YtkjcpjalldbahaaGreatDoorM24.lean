/- Contracts: what a table tells: Read, Now, Last, List, by the program. Contracts: the rows of a table, by the program. -/
import Derived.Test.YtkjcpjalldbahaaGreatDoorM23
section
namespace Go.Proofs.YtkjcpjalldbahaaGreatDoor
open Go.RowKit Go.ChangeMaps Go.MapKept

theorem tlist_no (w : World) (s : ByteArray) :
    Calls Tryz.prog 18 #[.pointer none, .string s] w fun e w' => e = .returned (.slice none 0 0) ∧ w = w' := by
  go_enter Tryz.func18, Tryz.ntmps18
  go_wp2_with (go_at_call 33; refine (tthere_no _).mono ?_; rintro e w1 ⟨rfl, rfl⟩)
  go_ret
  exact ⟨rfl, rfl⟩
set_option maxRecDepth 100000 in
theorem tnow_no (w : World) (s : ByteArray) :
    Calls Tryz.prog 13 #[.pointer none, .string s] w fun e w' => e = .returned (.int .u64 0) ∧ Ext w w' := by
  have HN : Hid (∀ u, Calls Tryz.prog 39 #[.agg #[.int .u64 0, .slice none 0 0]] u fun e w' => e = .returned (.int .u64 0) ∧ Ext u w') := Lib.hid (fun u => now_any u 0 none 0 [] (VersP.nil _ _) (by simp))
  go_enter Tryz.func13, Tryz.ntmps13
  go_wp2_with (first | (go_at_call 40; refine (tcellOf_no _ _).mono ?_; rintro e w1 ⟨rfl, x1⟩) | (go_at_call 39; refine (HN.out _).mono ?_; rintro e w2 ⟨rfl, x2⟩))
  go_ret
  exact ⟨rfl, x1.trans x2⟩
theorem field_last (m : Int) (p : Option Addr) (n c : Nat) (u : World) : (Instr.field 55 (.agg #[.int .u64 m, .slice p n c]) 0).run Tryz.prog u = .ok (.int .u64 m) u := by kernel_rfl
set_option maxRecDepth 100000 in
theorem tlast_no (w : World) (s : ByteArray) :
    Calls Tryz.prog 15 #[.pointer none, .string s] w fun e w' => e = .returned (.int .u64 0) ∧ Ext w w' := by
  have hf := field_last
  go_enter Tryz.func15, Tryz.ntmps15
  go_wp2_with (go_at_call 40; refine (tcellOf_no _ _).mono ?_; rintro e w1 ⟨rfl, x1⟩)
  go_ret
  exact ⟨rfl, x1⟩
theorem trows_no (w : World) :
    Calls Tryz.prog 20 #[.pointer none] w fun e w' => e = .returned (.slice none 0 0) ∧ w = w' := by
  go_enter Tryz.func20, Tryz.ntmps20
  go_wp2_with (go_at_call 33; refine (tthere_no _).mono ?_; rintro e w1 ⟨rfl, rfl⟩)
  go_ret
  exact ⟨rfl, rfl⟩
theorem tload_no (w : World) (l : Value) :
    Calls Tryz.prog 21 #[.pointer none, l] w fun e w' => e = .returned (.int .i64 1) ∧ w = w' := by
  go_enter Tryz.func21, Tryz.ntmps21
  go_wp2_with (go_at_call 33; refine (tthere_no _).mono ?_; rintro e w1 ⟨rfl, rfl⟩)
  go_ret
  exact ⟨rfl, rfl⟩
theorem tdrops_no (w : World) (l : Value) :
    Calls Tryz.prog 26 #[.pointer none, l] w fun e w' => e = .returned (.int .i64 0) ∧ w = w' := by
  go_enter Tryz.func26, Tryz.ntmps26
  go_wp2_with (go_at_call 33; refine (tthere_no _).mono ?_; rintro e w1 ⟨rfl, rfl⟩)
  go_ret
  exact ⟨rfl, rfl⟩
theorem ver_infoT : (Tryz.prog.info? 41).map (·.size) = some 3 := by kernel_rfl
theorem tread_no (w : World) (s : ByteArray) (n : Int) :
    Calls Tryz.prog 11 #[.pointer none, .string s, .int .u64 n] w fun e w' => e = .returned (.tuple #[.agg #[.int .u64 0, .int .u8 0, .string ⟨#[]⟩], .int .i64 1]) ∧ Ext w w' := by
  have HB0 := Lib.hid (Blk.new w [.int .u64 0, .int .u8 0, .string ⟨#[]⟩] 41)
  go_enter Tryz.func11, Tryz.ntmps11
  go_wp2_with (go_at_call 33; refine (tthere_no _).mono ?_; rintro e w1 ⟨rfl, rfl⟩)
  exact bodyPost_ret (resV_row_tmp rfl _ _ w.heap.size #[.int .u64 0, .int .u8 0, .string ⟨#[]⟩] rfl (load_ver _ _ _ _ _ HB0.out)) rfl ⟨rfl, (Ext.refl w).alloc _⟩
/-- The live paths of entries. -/
def liveE (D : List Ent) : List ByteArray := (D.filter fun e => decide (nowL e.L ≠ 0)).map (·.p)
theorem liveE_len (D : List Ent) : (liveE D).length ≤ D.length := by
  unfold liveE
  rw [List.length_map]
  exact List.length_filter_le _ _
theorem IsA.textsP {w : World} {B c : Nat} {p : Option Addr} {l : List ByteArray} (h : IsA w B 9 p c (l.map Value.string)) : TextsP w p l := fun i s hs => by
  obtain ⟨g, e, h2, _, h3, _⟩ := h.sl.cell (j := i) (u := .string s) (by simp [hs])
  exact ⟨_, e, h2, by rw [Addr.add_mid, Nat.zero_add]; exact h3⟩
theorem strV_one (l : List ByteArray) : ∀ u ∈ l.map Value.string, u.oneCell' = true := fun u hu => by
  obtain ⟨_, _, rfl⟩ := List.mem_map.1 hu; rfl
theorem RangeL.keepA {w w' : World} {P : Program} {k : TypeId} {b r A : Nat} {T : TypeId} {l left : List (Value × Value)} (h : RangeL w P k b r l left) (q : KeepA T A w w') : RangeL w' P k b r l left := by
  obtain ⟨es, clock, since, seen, c0, hb, _, _, _, hr, _⟩ := id h
  exact h.same ((q.keep _ _ hb (fun _ _ e => by cases e)).trans hb.symm) ((q.keep _ _ hr (fun _ _ e => by cases e)).trans hr.symm)
set_option maxRecDepth 100000 in
set_option maxHeartbeats 4000000 in
theorem tlist_any (w : World) (lo t b : Nat) (qp qb : Int) (R : List RowP) (h : IsT w lo t b qp qb R) (hl : R.length ≤ 90000) (s : ByteArray) (hs : s.size ≤ 140737488351232) :
    Calls Tryz.prog 18 #[.pointer (some ⟨t, 0, none⟩), .string s] w fun e w' => ∃ v, e = .returned v ∧ BufS w' w.heap.size v (namesB s (liveR R)) ∧ Ext w w' := by
  have hc := h.cell
  have HIT := Lib.hid h
  obtain ⟨M, hM⟩ := h.map
  have HM := Lib.hid hM
  have HRL := Lib.hid hl
  have HSZ := Lib.hid hs
  clear h hM hl hs
  go_enter Tryz.func18, Tryz.ntmps18
  go_wp2_with (first
    | (go_at_call 33; refine (tthere_yes _ t b hc).mono ?_; rintro e w1 ⟨rfl, rfl⟩)
    | (at_range; refine wpList_range_L _ rfl _ 71 rfl 9 55 Tryz.underlying71 b (M.map kvE) rfl HM.out.map ?_; intro w0 hrg hx0 hs0))
  have HRG := Lib.hid hrg
  have HX0 := Lib.hid hx0
  clear hrg hx0 hs0
  go_frame
  go_loopw [5] (fun sv wr => ∃ (left : List (Value × Value)) (done : List Ent) (pv : Option Addr) (cv n : Nat), sv = .slice pv n cv ∧ Hid (n = (liveE done).length) ∧ Hid (Gone M left done) ∧ Hid (RangeL wr Tryz.prog 9 b w.heap.size (M.map kvE) left) ∧ Hid (IsA wr w.heap.size 9 pv cv ((liveE done).map Value.string)) ∧ Hid (Ext w wr)) (fun _ wr => wr.rangeLeft b w.heap.size)
  case atStart => exact ⟨M.map kvE, [], none, 0, 0, rfl, Lib.hid rfl, Lib.hid (Gone.start HM.out.paths), HRG, Lib.hid (IsA.nil _ _ _), HX0⟩
  case round =>
    obtain ⟨left, done, pv, cv, n, rfl, HN, HGo, HR, HA, HX⟩ := hrel
    have hdl : done.length ≤ R.length := by
      have h1 := HGo.out.perm.length_eq
      have h2 := (HM.out.perm HIT.out.good.up).length_eq
      simp only [List.length_append, List.length_map] at h1 h2
      omega
    have hnl : n ≤ 90000 := by have := HN.out; have := liveE_len done; have := HRL.out; omega
    clear hdl
    go_wp2_with (at_next; refine wpList_next_L _ rfl _ rfl 9 (fun x : { e : Ent // e ∈ M } => kvE x.1) b w.heap.size (M.map kvE) left HGo.out.inv rfl HR.out ?_ ?_)
    · intro h0
      have HL : Hid (namesB s (liveE done) = namesB s (liveR R)) := Lib.hid (by
        unfold namesB
        congr 1
        refine names_same _ fun x => ?_
        have hst := HGo.out
        rw [h0] at hst
        unfold dataL liveE liveR
        simp only [List.mem_map, List.mem_filter]
        constructor
        · rintro ⟨y, ⟨e, ⟨he, hn⟩, rfl⟩, rfl⟩
          exact ⟨e.p, ⟨e.row, ⟨(HM.out.rows _).2 ⟨e, (hst.stop e).1 he, rfl⟩, hn⟩, rfl⟩, rfl⟩
        · rintro ⟨y, ⟨r, ⟨hr, hn⟩, rfl⟩, rfl⟩
          obtain ⟨e, he, rfl⟩ := (HM.out.rows _).1 hr
          exact ⟨_, ⟨e, ⟨(hst.stop e).2 he, hn⟩, rfl⟩, rfl⟩)
      have HNm := Lib.hid (Names_any s HSZ.out pv cv (liveE done) wr HA.out.textsP (by have := HN.out; omega) (fun x hx => by
        obtain ⟨e, he, rfl⟩ := List.mem_map.1 hx
        have hem := HGo.out.sub e (List.mem_filter.1 he).1
        have := may_size (HIT.out.good.each _ ((HM.out.rows _).2 ⟨e, hem, rfl⟩)).path
        show e.p.size ≤ _
        have h2 : e.p.size ≤ 128 := this
        omega))
      rw [HL.out, ← HN.out] at HNm
      clear h0
      go_wp2_with (go_at_call 42; refine HNm.out.mono ?_; rintro e w2 ⟨v, rfl, hb, x2⟩)
      go_ret
      exact ⟨v, rfl, bufS_mono hb HX.out.size, HX.out.trans x2⟩
    · intro x hxM left' w2 hq hrg1 hg1 hs1 hen
      obtain ⟨xp, xm, xL, xa, xc⟩ := x
      obtain ⟨G1, _⟩ := HGo.out.step hxM hq
      have HG1 := Lib.hid G1; have HQL := Lib.hid hq.length_eq; have HR2 := Lib.hid hrg1
      have HX2 := Lib.hid (HX.out.grown hg1 (fun k hk => by cases hk; exact Nat.le_refl _))
      have HA2 : Hid (IsA w2 w.heap.size 9 pv cv ((liveE done).map Value.string)) := Lib.hid (HA.out.turnN (grown_turn hg1) fun g e => by subst e; exact HR.out.iter _)
      have hok := HIT.out.good.each _ ((HM.out.rows _).2 ⟨_, hxM, rfl⟩)
      have hxl : xL.length ≤ 8 := hok.len
      have HNw := Lib.hid (fun u (x : Ext w u) => now_any u xm xa xc xL ((HM.out.ents _ hxM).vers.vers.ext x) (by omega))
      have HX3 := Lib.hid (HX2.out.alloc (.cells #[.int .u64 (xm : Int), .slice xa xL.length xc] 55))
      have HA3 := Lib.hid (HA2.out.ext ((Ext.refl w2).alloc (.cells #[.int .u64 (xm : Int), .slice xa xL.length xc] 55)))
      have HR3 := Lib.hid (HR2.out.ext ((Ext.refl w2).alloc (.cells #[.int .u64 (xm : Int), .slice xa xL.length xc] 55)))
      have HLE : Hid (liveE (done ++ [Ent.mk xp xm xL xa xc]) = if nowL xL ≠ 0 then liveE done ++ [xp] else liveE done) := Lib.hid (by
        unfold liveE
        rw [List.filter_append, List.map_append]
        by_cases q : nowL xL = 0 <;> simp [q])
      have hls : left.length = left'.length + 1 := by have := HQL.out; simpa using this
      have HLs := Lib.hid hls
      obtain ⟨nw, hnw⟩ : ∃ nw, nowL xL = nw := ⟨_, rfl⟩
      rw [hnw] at HNw HLE
      unfold kvE at hen ⊢
      dsimp only at hen ⊢
      generalize xL.length = nx at *
      clear G1 hq hrg1 hg1 hs1 hok hxl hls hxM hnw
      by_cases h0 : nw = 0
      · subst h0
        rw [if_neg (by simp)] at HLE
        go_wp2_with (go_at_call 39; refine (HNw.out _ HX3.out).mono ?_; rintro e w4 ⟨rfl, x4⟩; have HX4 := Lib.hid (HX3.out.trans x4); have HA4 := Lib.hid (HA3.out.ext x4); have HR4 := Lib.hid (HR3.out.ext x4); clear x4)
        go_roundw
        case rel => exact ⟨left', done ++ [Ent.mk xp xm xL xa xc], pv, cv, n, rfl, Lib.hid (by rw [HLE.out]; exact HN.out), HG1, HR4, Lib.hid (by rw [HLE.out]; exact HA4.out), HX4⟩
        case measure =>
          rw [HR4.out.left_eq, HR.out.left_eq, HLs.out]
          omega
      · have hne : ((nw : Int) != 0) = true := by have : ¬ (nw : Int) = 0 := (by omega); simpa using this
        rw [if_pos h0] at HLE
        have hn1 : n + 1 ≤ 1000000000 := by omega
        clear h0
        go_wp2_with (first
          | (go_at_call 39; refine (HNw.out _ HX3.out).mono ?_; rintro e w4 ⟨rfl, x4⟩; have HX4 := Lib.hid (HX3.out.trans x4); have HA4 := Lib.hid (HA3.out.ext x4); have HR4 := Lib.hid (HR3.out.ext x4); have HA5 := Lib.hid (HA4.out.ext ((Ext.refl w4).alloc (.cells #[.string xp] 9))); have HR5 := Lib.hid (HR4.out.ext ((Ext.refl w4).alloc (.cells #[.string xp] 9))); have HX5 := Lib.hid (HX4.out.alloc (.cells #[.string xp] 9)); have HSLB : Hid (Sl (w4.alloc (.cells #[.string xp] 9)) (kp pv) 1 1 9 pv n cv ((liveE done).map Value.string)) := Lib.hid (by have := HA5.out.sl; rwa [List.length_map, ← HN.out] at this); have HSRC := Lib.hid (src_text (w4.alloc (.cells #[.string xp] 9)) w4.heap.size xp ((Blk.new w4 [.string xp] 9).cell 0 _ rfl)); clear x4)
          | (refine wpList_append_sl rfl (.tmp 24) (.tmp 26) 36 36 rfl Tryz.underlying36 infoS rfl (by decide) rfl HSLB.out (strV_one _) _ rfl 1 _ HSRC.out hn1 ?_; intro p4 c4 w5 κ4 s4 f4 e4 x4 o4; have HK := Lib.hid (keepA_of_fr HSLB.out HA5.out.low HX5.out.size f4 x4); have HA6 : Hid (IsA w5 w.heap.size 9 p4 c4 ((liveE done ++ [xp]).map Value.string)) := Lib.hid (by rw [List.map_append]; exact isA_grown s4 (by rw [List.length_map, HN.out]) e4 HA5.out.low HX5.out.size); have HR6 := Lib.hid (HR5.out.keepA HK.out); have HX6 := Lib.hid (HX5.out.keptA HK.out); clear s4 f4 e4 x4 o4))
        go_roundw
        case rel => exact ⟨left', done ++ [Ent.mk xp xm xL xa xc], p4, c4, n + 1, rfl, Lib.hid (by rw [HLE.out, List.length_append, ← HN.out]; rfl), HG1, HR6, Lib.hid (by rw [HLE.out]; exact HA6.out), HX6⟩
        case measure =>
          rw [HR6.out.left_eq, HR.out.left_eq, HLs.out]
          omega
end Go.Proofs.YtkjcpjalldbahaaGreatDoor
end

section
namespace Go.Proofs.YtkjcpjalldbahaaGreatDoor
open Go.RowKit Go.ChangeMaps Go.MapKept

def Ent.cells (e : Ent) : List Value := [.string e.p, .int .u64 (e.m : Int), .slice e.a e.L.length e.c]
def entCells (M : List Ent) : List Value := M.flatMap Ent.cells
theorem entCells_len (M : List Ent) : (entCells M).length = M.length * 3 := by
  induction M with
  | nil => rfl
  | cons a r ih => simp only [entCells, Ent.cells, List.flatMap_cons, List.length_append, List.length_cons, List.length_nil] at ih ⊢; omega
theorem entCells_app (M K : List Ent) : entCells (M ++ K) = entCells M ++ entCells K := by simp [entCells]
theorem entCells_one (M : List Ent) : ∀ u ∈ entCells M, u.oneCell' = true := fun u hu => by
  obtain ⟨x, _, hx⟩ := List.mem_flatMap.1 hu
  simp only [Ent.cells, List.mem_cons, List.not_mem_nil, or_false] at hx
  rcases hx with rfl | rfl | rfl <;> rfl
theorem entCells_get : ∀ (L : List Ent) (i : Nat) (x : Ent), L[i]? = some x → ∀ (k : Nat) (u : Value), x.cells[k]? = some u → (entCells L)[i * 3 + k]? = some u
  | [], i, x, h => by simp at h
  | a :: r, 0, x, h => by
    simp at h; subst h
    intro k u hu
    have : k < 3 := (List.getElem?_eq_some_iff.1 hu).1
    rw [entCells, List.flatMap_cons, List.getElem?_append_left (by simp [Ent.cells]; omega)]
    simpa using hu
  | a :: r, i + 1, x, h => by
    intro k u hu
    have ih := entCells_get r i x (by simpa using h) k u hu
    rw [entCells, List.flatMap_cons, List.getElem?_append_right (by simp [Ent.cells]; omega)]
    rw [show (i + 1) * 3 + k - (Ent.cells a).length = i * 3 + k by simp [Ent.cells]; omega]
    exact ih
theorem infoRow : (Tryz.prog.info? 57).map (fun i => (i.zero, i.size, i.bytes)) = some (some (.agg #[.string ⟨#[]⟩, .int .u64 0, .slice none 0 0]), 3, 48) := by kernel_rfl
theorem src_row (w : World) (g : Nat) (e : Ent) (h : Blk w g 57 e.cells) : Src Tryz.prog 3 31 (.slice (some ⟨g, 0, none⟩) 1 1) 1 (entCells [e]) w := by
  refine Src.ofSlice w Tryz.underlying31 ⟨g, 0, none⟩ 1 1 _ (by rw [entCells_len]; rfl) (fun j v hj => ?_) (entCells_one _)
  rw [Addr.add_mid, Nat.zero_add]
  exact h.cell j v (by simpa [entCells] using hj)
/-- The cells from the address on, if there are any, are these rows; their versions are there. -/
def RowsP (w : World) (p : Option Addr) (M : List Ent) : Prop := (∀ (k : Nat) (x : Ent), M[k]? = some x → ∃ a, p = some a ∧ a.block < w.heap.size ∧ ∀ (j : Nat) (v : Value), x.cells[j]? = some v → w.cell? (a.add (k * 3 + j)) = some v) ∧ ∀ e ∈ M, VersP w e.a e.L
/-- A slice of rows of its own, each with versions of its own; none of them lies below B. -/
structure IsRows (w : World) (B : Nat) (p : Option Addr) (c : Nat) (M : List Ent) : Prop where
  sl : Sl w (kp p) 1 3 57 p M.length c (entCells M)
  low : ∀ g, p = some ⟨g, 0, none⟩ → B ≤ g
  vers : ∀ e ∈ M, IsV w B e.a e.c e.L
section
variable {w w' : World} {B : Nat} {p : Option Addr} {c : Nat} {M : List Ent}
theorem RowsP.ext (h : RowsP w p M) (hx : Ext w w') : RowsP w' p M := ⟨fun k x hk => by
  obtain ⟨a, h1, h2, h4⟩ := h.1 k x hk
  exact ⟨a, h1, Nat.lt_of_lt_of_le h2 hx.size, fun j v hv => by rw [hx.below.cell (p := a.add (k * 3 + j)) (by rw [add_blockV]; omega)]; exact h4 j v hv⟩, fun e he => (h.2 e he).ext hx⟩
theorem RowsP.turn {S : Nat → Prop} (h : RowsP w p M) (f : Turn S w w') (hS : ∀ g, S g → NoV w g) : RowsP w' p M := ⟨fun k x hk => by
  obtain ⟨a, h1, h2, h3⟩ := h.1 k x hk
  have hn : ¬ S a.block := fun q => hS _ q (a.add (k * 3 + 1)) (add_blockV _ _) _ (h3 1 _ rfl)
  refine ⟨a, h1, Nat.lt_of_lt_of_le h2 f.size, fun j v hv => ?_⟩
  rw [← h3 j v hv]
  have hbl := f.other a.block h2 hn
  unfold World.cell?
  rw [add_blockV, hbl], fun e he => (h.2 e he).turn f hS⟩
theorem RowsP.three (h : RowsP w p M) (hx : Ext w w') {j : Nat} {x : Ent} (hj : M[j]? = some x) : ∃ a, p = some a ∧ w'.cell? (a.add (j * 3)) = some (.string x.p) ∧ w'.cell? ⟨(a.add (j * 3)).block, (a.add (j * 3)).off + 1, none⟩ = some (.int .u64 (x.m : Int)) ∧ w'.cell? ⟨(a.add (j * 3)).block, (a.add (j * 3)).off + 2, none⟩ = some (.slice x.a x.L.length x.c) := by
  obtain ⟨a, e, _, h⟩ := (h.ext hx).1 j x hj
  exact ⟨a, e, h 0 _ rfl, ver_at (h 1 _ rfl), ver_at (h 2 _ rfl)⟩
theorem IsRows.nil (w : World) (B : Nat) : IsRows w B none 0 [] := ⟨Sl.nil _ _ _ _ _, (fun _ h => by cases h), (fun _ h => by cases h)⟩
theorem IsRows.ext (h : IsRows w B p c M) (x : Ext w w') : IsRows w' B p c M := ⟨h.sl.ext x, h.low, fun e he => (h.vers e he).ext x⟩
theorem IsRows.base {A : Nat} (h : IsRows w B p c M) (hA : A ≤ B) : IsRows w A p c M := ⟨h.sl, fun g hg => Nat.le_trans hA (h.low g hg), fun e he => (h.vers e he).base hA⟩
theorem IsRows.rowsP (h : IsRows w B p c M) : RowsP w p M := ⟨fun k x hk => by
  obtain ⟨g, h1, h2, _, _, _⟩ := h.sl.cell (entCells_get M k x hk 0 _ rfl)
  refine ⟨_, h1, h2, fun j v hv => ?_⟩
  obtain ⟨g', e, _, _, h4, _⟩ := h.sl.cell (entCells_get M k x hk j v hv)
  rw [h1] at e
  cases e
  rw [Addr.add_mid, Nat.zero_add]
  exact h4, fun e he => (h.vers e he).vers⟩
theorem keepA_of_frZ {z : Nat} {T : TypeId} {vs : List Value} {κ' : Foot} {n : Nat} (hs : Sl w (kp p) 1 z T p n c vs) (hl : ∀ g, p = some ⟨g, 0, none⟩ → B ≤ g) (hB : B ≤ w.heap.size) (f : Fr (kp p) (fun j => j = 1) w w' κ') (hx : c = 0 → Ext w w') : KeepA T B w w' := by
  refine ⟨f.below (by decide) (fun g hg => ?_) hB, fun g o ho hn => ?_⟩
  · unfold kp
    rw [if_neg fun e => by have := hl g e; omega]
  · by_cases hc : c = 0
    · exact ((hx hc).block g (heap_lt ho)).trans ho
    · obtain ⟨g', cur, e1, _, h3, _⟩ := hs.2.2.2 (by omega)
      by_cases e : g = g'
      · subst e
        rw [h3] at ho
        cases ho
        exact absurd rfl (hn _ _)
      · refine (f.other g (heap_lt ho) fun q => ?_).trans ho
        have := kp_one q
        rw [e1] at this
        cases this
        exact e rfl
theorem isRows_grown {w4 : World} {n c4 g0 : Nat} {p4 : Option Addr} {κ4 : Foot} {e : Ent} (s : Sl w4 κ4 1 3 57 p4 (n + 1) c4 (entCells M ++ entCells [e])) (hl : M.length = n) (he : p4 = p ∨ p4 = some ⟨g0, 0, none⟩) (low : ∀ g, p = some ⟨g, 0, none⟩ → B ≤ g) (hB : B ≤ g0) (hv : ∀ x ∈ M, IsV w4 B x.a x.c x.L) (hv2 : IsV w4 B e.a e.c e.L) : IsRows w4 B p4 c4 (M ++ [e]) := by
  refine ⟨?_, fun g hg => ?_, fun x hx => by
    rcases List.mem_append.1 hx with hx | hx
    · exact hv x hx
    · rw [List.mem_singleton] at hx; subst hx; exact hv2⟩
  · rw [entCells_app, List.length_append, hl]
    exact s.kp
  · rcases he with q | q
    · rw [q] at hg; exact low g hg
    · rw [q] at hg; cases hg; exact hB
end
set_option maxRecDepth 100000 in
set_option maxHeartbeats 4000000 in
theorem trows_any (w : World) (lo t b : Nat) (qp qb : Int) (R : List RowP) (h : IsT w lo t b qp qb R) (hl : R.length ≤ 90000) :
    Calls Tryz.prog 20 #[.pointer (some ⟨t, 0, none⟩)] w fun e w' => ∃ pv, (∃ cv M, e = .returned (.slice pv R.length cv) ∧ M.map Ent.row = R ∧ IsRows w' w.heap.size pv cv M) ∧ Ext w w' := by
  have hc := h.cell
  have HIT := Lib.hid h
  have HKy := Lib.hid (fun u => keysC_any (some b) u)
  have HSo := Lib.hid (sorted_paths w lo b R h.map h.good.up (fun r hr => may_size (h.good.each r hr).path) (by omega))
  obtain ⟨n, hn⟩ : ∃ n, R.length = n := ⟨_, rfl⟩
  have HN := Lib.hid hn
  rw [hn] at hl ⊢
  clear h hn
  go_enter Tryz.func20, Tryz.ntmps20
  go_wp2_with (first
    | (go_at_call 33; refine (tthere_yes _ t b hc).mono ?_; rintro e w1 ⟨rfl, rfl⟩)
    | (go_at_call 45; refine (HKy.out _).mono ?_; rintro e w1 ⟨rfl, hw⟩; rw [hw])
    | (go_at_call 44; refine HSo.out.mono ?_; rintro e w2 ⟨v, rfl, hb, x2⟩; obtain ⟨pk, ck, rfl, tk, -⟩ := hb.texts; have HX2 := Lib.hid x2; have HTk := Lib.hid tk; rw [List.length_map, HN.out]; clear hb x2 tk))
  go_loopw [3, 17] (fun sv iv wr => ∃ (j : Nat) (M : List Ent) (pv : Option Addr) (cv : Nat), j ≤ n ∧ iv = .int .i64 (j : Int) ∧ sv = .slice pv j cv ∧ Hid (M.length = j ∧ M.map Ent.row = R.take j) ∧ Hid (IsRows wr w2.heap.size pv cv M) ∧ Hid (Ext w2 wr)) (fun _ iv _ => n - (intOf iv).toNat)
  case atStart => exact ⟨0, [], none, 0, Nat.zero_le _, rfl, rfl, Lib.hid ⟨rfl, rfl⟩, Lib.hid (IsRows.nil _ _), Lib.hid (Ext.refl _)⟩
  case round =>
    obtain ⟨j, M, pv, cv, hj, rfl, rfl, HM, HRo, HX⟩ := hrel
    by_cases hlt : j < n
    · obtain ⟨⟨rp, rm, rL⟩, hx⟩ : ∃ r, R[j]? = some r := ⟨_, List.getElem?_eq_getElem (by have := HN.out; omega)⟩
      have hxm := List.mem_of_getElem? hx
      have hok := HIT.out.good.each _ hxm
      obtain ⟨a0, rfl, _, c0⟩ := (HTk.out.ext HX.out) j rp (by rw [List.getElem?_map, hx]; rfl)
      have HXw := Lib.hid (HX2.out.trans HX.out)
      have hcr : cellR R rp = (rm, rL) := cellR_some (lookR_of HIT.out.good.up hxm)
      obtain ⟨ax, cx, hv, -, hrun⟩ := (HIT.out.ext HXw.out).map.look rp (by have := may_size hok.path; have h2 : rp.size ≤ 128 := this; omega)
      rw [hcr] at hv hrun
      dsimp only at hv hrun
      have hrl : rL.length ≤ 8 := hok.len
      obtain ⟨nl, hnl⟩ : ∃ nl, rL.length = nl := ⟨_, rfl⟩
      have HNL := Lib.hid hnl
      have hl2 := hrun wr (Ext.refl wr) false
      simp only [Bool.false_eq_true, if_false] at hl2
      rw [hnl] at hl2
      have hc2 := (HIT.out.ext HXw.out).cell
      have HCl := Lib.hid (cloneV_any (wr.alloc (.cells #[.int .u64 (rm : Int), .slice ax nl cx] 55)) ax cx rL (hv.ext ((Ext.refl wr).alloc _)) (by omega))
      rw [hnl] at HCl
      have HB1 := Lib.hid (Blk.new wr [.int .u64 (rm : Int), .slice ax nl cx] 55)
      have HX1 := Lib.hid ((Ext.refl wr).alloc (.cells #[.int .u64 (rm : Int), .slice ax nl cx] 55))
      have HTake : Hid (R.take (j + 1) = R.take j ++ [⟨rp, rm, rL⟩]) := Lib.hid (by rw [List.take_add_one, hx]; rfl)
      have hj1 : j + 1 ≤ 1000000000 := by omega
      have hMl := HM.out.1
      clear hx hxm hok hcr hv hrun hrl hnl hMl
      go_wp2_with (first
        | (go_at_call 46; refine HCl.out.mono ?_; rintro e w3 ⟨q, c1, rfl, v3, x3⟩; have HX3 := Lib.hid (HX1.out.trans x3); have B1 := Lib.hid (HB1.out.ext x3); have b0 := B1.out.cell 0 _ rfl; have b1 := B1.out.cell 1 _ rfl; have bf0 := B1.out.frozen 0; have bf1 := B1.out.frozen 1; have HV3 : Hid (IsV w3 w2.heap.size q c1 rL) := Lib.hid (v3.base (HX.out.trans HX1.out).size); have HV4 : Hid (IsV ((w3.setCell ⟨wr.heap.size, 1, none⟩ (.slice q nl c1)).alloc (.cells #[.string rp, .int .u64 (rm : Int), .slice q nl c1] 57)) w2.heap.size q c1 rL) := Lib.hid ((HV3.out.parted B1.out (by decide) _).ext ((Ext.refl _).alloc _)); have HXa : Hid (Ext wr (w3.setCell ⟨wr.heap.size, 1, none⟩ (.slice q nl c1))) := Lib.hid (HX3.out.setCell (p := ⟨wr.heap.size, 1, none⟩) (Nat.le_refl _) _); have HX4 : Hid (Ext wr ((w3.setCell ⟨wr.heap.size, 1, none⟩ (.slice q nl c1)).alloc (.cells #[.string rp, .int .u64 (rm : Int), .slice q nl c1] 57))) := Lib.hid (HXa.out.alloc _); have HR4 := Lib.hid (HRo.out.ext HX4.out); have HSLB : Hid (Sl ((w3.setCell ⟨wr.heap.size, 1, none⟩ (.slice q nl c1)).alloc (.cells #[.string rp, .int .u64 (rm : Int), .slice q nl c1] 57)) (kp pv) 1 3 57 pv j cv (entCells M)) := Lib.hid (by have := HR4.out.sl; rwa [HM.out.1] at this); have HSRC : Hid (Src Tryz.prog 3 31 (.slice (some ⟨w3.heap.size, 0, none⟩) 1 1) 1 (entCells [⟨rp, rm, rL, q, c1⟩]) ((w3.setCell ⟨wr.heap.size, 1, none⟩ (.slice q nl c1)).alloc (.cells #[.string rp, .int .u64 (rm : Int), .slice q nl c1] 57))) := Lib.hid (src_row _ _ ⟨rp, rm, rL, q, c1⟩ (by have := Blk.new (w3.setCell ⟨wr.heap.size, 1, none⟩ (.slice q nl c1)) [.string rp, .int .u64 (rm : Int), .slice q nl c1] 57; simp only [World.setCell, Array.size_modify] at this; unfold Ent.cells; dsimp only; rw [HNL.out]; exact this)); have HSZ : Hid (w2.heap.size ≤ ((w3.setCell ⟨wr.heap.size, 1, none⟩ (.slice q nl c1)).alloc (.cells #[.string rp, .int .u64 (rm : Int), .slice q nl c1] 57)).heap.size) := Lib.hid (HX.out.trans HX4.out).size; clear x3 v3)
        | (refine wpList_append_sl rfl (.tmp 31) (.tmp 35) 31 31 rfl Tryz.underlying31 infoRow rfl (by decide) rfl HSLB.out (entCells_one M) _ rfl 1 _ HSRC.out hj1 ?_; intro p4 c4 w5 κ4 s4 f4 e4 x4 o4; have HK := Lib.hid (keepA_of_frZ HSLB.out HR4.out.low HSZ.out f4 x4); have HR5 : Hid (IsRows w5 w2.heap.size p4 c4 (M ++ [⟨rp, rm, rL, q, c1⟩])) := Lib.hid (isRows_grown s4 HM.out.1 e4 HR4.out.low HSZ.out (fun x hx => (HR4.out.vers x hx).keepA HK.out (by decide)) (HV4.out.keepA HK.out (by decide))); clear s4 f4 e4 x4 o4))
      go_roundw
      case rel => exact ⟨j + 1, M ++ [⟨rp, rm, rL, q, c1⟩], p4, c4, hlt, by go_num, rfl, Lib.hid ⟨by rw [List.length_append, HM.out.1]; rfl, by rw [List.map_append, HM.out.2, HTake.out]; rfl⟩, HR5, Lib.hid ((HX.out.trans HX4.out).trans3 HK.out.below)⟩
      case measure => simp [intOf]; omega
    · obtain rfl : j = n := by omega
      go_wp2
      go_ret
      exact ⟨pv, ⟨cv, M, rfl, by rw [HM.out.2, List.take_of_length_le (by rw [HN.out]; exact Nat.le_refl _)], HRo.out.base HX2.out.size⟩, HX2.out.trans HX.out⟩
end Go.Proofs.YtkjcpjalldbahaaGreatDoor
end
