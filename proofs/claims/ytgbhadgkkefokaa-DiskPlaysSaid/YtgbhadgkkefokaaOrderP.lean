/- Plain: two disks, of which one has the first writes of the other. -/
import Derived.Test.YtgbhadgkkefokaaKeepsP
import Derived.Test.YtgbhadgkkefokaaSteps
namespace Go.Proofs.Ytgbhadgkkefokaa
open Go.RowKit
theorem infoSt : (Try.prog.info? 32).map (fun i => (i.zero, i.size, i.bytes)) = some (some (.agg #[.int .u8 0, .int .i64 0, .int .i64 0, .int .i64 0, .string ⟨#[]⟩, .int .u8 0]), 6, 56) := by kernel_rfl
/-- Steps' cells, one behind the other. -/
def stpsV (T : List Stp) : List Value := T.flatMap Stp.cells
theorem stpsV_length (T : List Stp) : (stpsV T).length = T.length * 6 := by
  induction T with
  | nil => rfl
  | cons c r ih =>
    have e : (Stp.cells c).length = 6 := rfl
    simp only [stpsV, List.flatMap_cons, List.length_append, List.length_cons, e] at ih ⊢
    omega
theorem stpsV_snoc (T : List Stp) (x : Stp) : stpsV (T ++ [x]) = stpsV T ++ x.cells := by simp [stpsV]
theorem stps_one (x : Stp) : ∀ u ∈ x.cells, u.oneCell' = true := by
  intro u hu
  simp [Stp.cells] at hu
  rcases hu with rfl | rfl | rfl | rfl | rfl | rfl <;> rfl
theorem stpsV_one (T : List Stp) : ∀ u ∈ stpsV T, u.oneCell' = true := by
  intro u hu
  obtain ⟨c, _, h⟩ := List.mem_flatMap.1 hu
  exact stps_one c u h
theorem stpsV_at : ∀ (T : List Stp) (j k : Nat) (x : Stp), T[j]? = some x → k < 6 → (stpsV T)[j * 6 + k]? = x.cells[k]?
  | [], j, k, x, h, _ => by simp at h
  | a :: r, 0, k, x, h, hk => by
    simp at h; subst h
    unfold stpsV
    rw [List.flatMap_cons, List.getElem?_append_left (by show 0 * 6 + k < 6; omega)]
    congr 1; omega
  | a :: r, j + 1, k, x, h, hk => by
    have ih := stpsV_at r j k x (by simpa using h) hk
    have e : (Stp.cells a).length = 6 := rfl
    unfold stpsV at ih ⊢
    rw [List.flatMap_cons, List.getElem?_append_right (by rw [e]; omega), e, ← ih]
    congr 1; omega
/-- Two objects have no block in common. -/
def Dis (a b : Foot) : Prop := ∀ g, a g = 0 ∨ b g = 0
theorem Dis.symm {a b : Foot} (h : Dis a b) : Dis b a := fun g => (h g).symm
theorem Dis.left {a a' b : Foot} {P : Nat → Prop} {w w' : World} (h : Dis a b) (f : Fr a P w w' a') (hb : ∀ g, b g ≠ 0 → g < w.heap.size) : Dis a' b := fun g => by
  rcases Nat.lt_or_ge g w.heap.size with q | q
  · rw [f.foot g q]; exact h g
  · right
    rcases Nat.eq_zero_or_pos (b g) with z | z
    · exact z
    · have := hb g (by omega); omega
theorem IsD.dis {w w' : World} {b : Nat} {κ κ2 κ2' : Foot} {d : DS} {P : Nat → Prop} (h : IsD w b κ d) (f : Fr κ2 P w w' κ2') (hP : ¬ P 0) (hd : Dis κ κ2) : IsD w' b κ d :=
  h.keep (fun g hg hk => f.other g hg (by rcases hd g with q | q; exact absurd q hk; rw [q]; exact hP)) f.size
theorem Sl.dis {w w' : World} {κ κ2 κ2' : Foot} {k z : Nat} {T : TypeId} {p : Option Addr} {n c : Nat} {vs : List Value} {P : Nat → Prop} (h : Sl w κ k z T p n c vs) (hk0 : k ≠ 0) (f : Fr κ2 P w w' κ2') (hP : ¬ P 0) (hd : Dis κ κ2) : Sl w' κ k z T p n c vs :=
  h.same (fun g hg e => f.other g hg (by rcases hd g with q | q; exact absurd (e.symm.trans q) hk0; rw [q]; exact hP)) (fun _ _ e => e)
def Stp.chg (x : Stp) : Chg := .wr x.f.toNat x.s
/-- The writes that were answered OK, on a disk of three files and room for r bytes. -/
structure Took (d : DS) (T : List Stp) (r : Nat) : Prop where
  S : d.S = noFs
  L : d.L = T.map Stp.chg
  m : d.m = 3
  fuse : d.fuse = -1
  room : d.room = r
  each : ∀ j x, T[j]? = some x → 0 ≤ x.f ∧ x.f < 3 ∧ szs (runs noFs ((T.take j).map Stp.chg)) 3 + x.s.size ≤ r
theorem Took.new (r : Nat) : Took (DS.new 3 r) [] r := ⟨rfl, rfl, rfl, rfl, rfl, fun j x h => by simp at h⟩
theorem burnt_free (d : DS) (h : d.fuse = -1) : d.burnt = d := by unfold DS.burnt; rw [if_neg (by omega)]
/-- A write is refused, or is one more. -/
theorem Took.write {d : DS} {T : List Stp} {r : Nat} (h : Took d T r) (x : Stp) : ((d.write x.f x.s).2 ≠ 0 ∧ (d.write x.f x.s).1 = d) ∨ ((d.write x.f x.s).2 = 0 ∧ Took (d.write x.f x.s).1 (T ++ [x]) r) := by
  have hb := burnt_free d h.fuse
  unfold DS.write
  rw [if_neg (by rw [h.fuse]; decide), hb]
  by_cases hf : d.isF x.f
  · rw [if_neg (fun q => q hf)]
    by_cases hr : d.left < (x.s.size : Int)
    · rw [if_pos hr]; exact .inl ⟨by show (4 : Int) ≠ 0; decide, rfl⟩
    · rw [if_neg hr]
      refine .inr ⟨rfl, ⟨h.S, by show d.L ++ [_] = _; rw [h.L, List.map_append]; rfl, h.m, h.fuse, h.room, fun j y hy => ?_⟩⟩
      rcases Nat.lt_trichotomy j T.length with hj | rfl | hj
      · rw [List.getElem?_append_left hj] at hy
        rw [List.take_append_of_le_length (Nat.le_of_lt hj)]
        exact h.each j y hy
      · rw [List.getElem?_append_right (Nat.le_refl _)] at hy
        simp at hy
        subst hy
        rw [List.take_left]
        refine ⟨hf.1, by have := hf.2; rw [h.m] at this; exact this, ?_⟩
        have e : d.now = runs noFs (T.map Stp.chg) := by unfold DS.now; rw [h.S, h.L]
        unfold DS.left at hr
        rw [e, h.m, h.room] at hr
        omega
      · rw [List.getElem?_eq_none (by simp; omega)] at hy
        cases hy
  · rw [if_pos hf]; exact .inl ⟨by show (3 : Int) ≠ 0; decide, rfl⟩
/-- The other disk: it has what a crash of the first would leave of i calls. -/
structure Half (x : DS) (d : DS) (k bytes : Int) (i r : Nat) : Prop where
  now : x.now = d.stage k bytes i
  m : x.m = 3
  fuse : x.fuse = -1
  room : x.room = r
  len : x.L.length ≤ i
theorem Half.new (d : DS) (h : d.S = noFs) (k bytes : Int) (r : Nat) : Half (DS.new 3 r) d k bytes 0 r := ⟨by rw [d.stage_zero, h]; rfl, rfl, rfl, rfl, Nat.le_refl _⟩
theorem Half.write {x d : DS} {T : List Stp} {k bytes : Int} {i r : Nat} (h : Half x d k bytes i r) (t : Took d T r) (y : Stp) (hy : T[i]? = some y) (hi : (i : Int) ≤ k) (s : ByteArray)
    (hs : (i : Int) < k ∧ s = y.s ∨ (i : Int) = k ∧ s = y.s.extract 0 (min bytes.toNat y.s.size)) : (x.write y.f s).2 = 0 ∧ Half (x.write y.f s).1 d k bytes (i + 1) r := by
  have hb := burnt_free x h.fuse
  obtain ⟨e1, e2, e3⟩ := t.each i y hy
  have hst : d.stage k bytes i = runs noFs ((T.take i).map Stp.chg) := by
    unfold DS.stage
    rw [if_neg (by omega), if_pos hi, t.S, t.L, ← List.map_take]
  have hle : s.size ≤ y.s.size := by
    rcases hs with ⟨_, rfl⟩ | ⟨_, rfl⟩
    · exact Nat.le_refl _
    · rw [size_extract _ _ (Nat.min_le_right _ _)]; exact Nat.min_le_right _ _
  have hc : d.L[i]? = some (.wr y.f.toNat y.s) := by rw [t.L, List.getElem?_map, hy]; rfl
  unfold DS.write
  rw [if_neg (by rw [h.fuse]; decide), hb, if_neg (fun q => q ⟨e1, by rw [h.m]; exact e2⟩), if_neg (by unfold DS.left; rw [h.now, hst, h.m, h.room]; omega)]
  refine ⟨rfl, ⟨?_, h.m, h.fuse, h.room, by show (x.L ++ [_]).length ≤ _; have := h.len; simp; omega⟩⟩
  show runs x.S (x.L ++ [.wr y.f.toNat s]) = _
  rw [runs_snoc]
  have hn : runs x.S x.L = d.stage k bytes i := h.now
  rw [hn]
  rcases hs with ⟨h1, rfl⟩ | ⟨h1, rfl⟩
  · rw [d.stage_done k bytes i _ hc h1]
  · rw [d.stage_torn k bytes i _ hc h1]
    rfl
theorem Half.done {x d : DS} {k bytes : Int} {i r : Nat} (h : Half x d k bytes i r) (hk : 0 ≤ k) (hi : i ≤ d.L.length) (he : i = d.L.length ∨ k < (i : Int)) : x.now = d.left_ k bytes := by
  rw [h.now]
  by_cases e : i = d.L.length
  · subst e; exact d.stage_all k bytes
  · have h1 : k < (i : Int) := by rcases he with q | q; exact absurd q e; exact q
    rw [← d.stage_all k bytes]
    unfold DS.stage
    rw [if_neg (show ¬ k < 0 by omega), if_neg (show ¬ (i : Int) ≤ k by omega), if_neg (show ¬ k < 0 by omega), if_neg (show ¬ (d.L.length : Int) ≤ k by omega)]
/-- Where the walk stands: two disks, and the steps that were taken. -/
structure Ord (W w : World) (bd bx : Nat) (κd κx κl : Foot) (d x : DS) (T : List Stp) (p : Option Addr) (c : Nat) : Prop where
  d : IsD w bd κd d
  x : IsD w bx κx x
  l : Sl w κl 5 6 32 p T.length c (stpsV T)
  lins : ∀ g, κl g ≠ 0 → g < w.heap.size
  dx : Dis κd κx
  dl : Dis κd κl
  xl : Dis κx κl
  ext : Ext W w
  yd : ∀ g, g < W.heap.size → κd g = 0
  yx : ∀ g, g < W.heap.size → κx g = 0
  yl : ∀ g, g < W.heap.size → κl g = 0
theorem young_of {κ κ' : Foot} {P : Nat → Prop} {w w1 w2 : World} (f : Fr κ P w1 w2 κ') (hP : ¬ P 0) (x : Ext w w1) (h : ∀ g, g < w.heap.size → κ g = 0) : Ext w w2 ∧ ∀ g, g < w.heap.size → κ' g = 0 :=
  ⟨x.trans3 (f.below hP h x.size), fun g hg => (f.foot g (Nat.lt_of_lt_of_le hg x.size)).trans (h g hg)⟩
section
variable {W w w' : World} {bd bx : Nat} {κd κx κl κ' : Foot} {d x y : DS} {T T' : List Stp} {p p' : Option Addr} {c c' : Nat}
theorem Ord.stepD (h : Ord W w bd bx κd κx κl d x T p c) (k : IsD w' bd κ' y) (f : Fr κd (2 ≤ ·) w w' κ') : Ord W w' bd bx κ' κx κl y x T p c :=
  ⟨k, h.x.dis f (by decide) h.dx.symm, h.l.dis (by decide) f (by decide) h.dl.symm, fun g hg => Nat.lt_of_lt_of_le (h.lins g hg) f.size, h.dx.left f h.x.ins, h.dl.left f h.lins, h.xl, (young_of f (by decide) h.ext h.yd).1, (young_of f (by decide) h.ext h.yd).2, h.yx, h.yl⟩
theorem Ord.stepX (h : Ord W w bd bx κd κx κl d x T p c) (k : IsD w' bx κ' y) (f : Fr κx (2 ≤ ·) w w' κ') : Ord W w' bd bx κd κ' κl d y T p c :=
  ⟨h.d.dis f (by decide) h.dx, k, h.l.dis (by decide) f (by decide) h.xl.symm, fun g hg => Nat.lt_of_lt_of_le (h.lins g hg) f.size, (h.dx.symm.left f h.d.ins).symm, h.dl, h.xl.left f h.lins, (young_of f (by decide) h.ext h.yx).1, h.yd, (young_of f (by decide) h.ext h.yx).2, h.yl⟩
theorem Ord.stepL (h : Ord W w bd bx κd κx κl d x T p c) (f : Fr κl (· = 5) w w' κ') (s : Sl w' κ' 5 6 32 p' T'.length c' (stpsV T')) : Ord W w' bd bx κd κx κ' d x T' p' c' :=
  ⟨h.d.dis f (by decide) h.dl, h.x.dis f (by decide) h.xl, s, f.ins h.lins, h.dx, (h.dl.symm.left f h.d.ins).symm, (h.xl.symm.left f h.x.ins).symm, (young_of f (by decide) h.ext h.yl).1, h.yd, h.yx, (young_of f (by decide) h.ext h.yl).2⟩
theorem Ord.grow (h : Ord W w bd bx κd κx κl d x T p c) (e : Ext w w') : Ord W w' bd bx κd κx κl d x T p c :=
  ⟨h.d.ext e, h.x.ext e, h.l.ext e, fun g hg => Nat.lt_of_lt_of_le (h.lins g hg) e.size, h.dx, h.dl, h.xl, h.ext.trans e, h.yd, h.yx, h.yl⟩
end
end Go.Proofs.Ytgbhadgkkefokaa
