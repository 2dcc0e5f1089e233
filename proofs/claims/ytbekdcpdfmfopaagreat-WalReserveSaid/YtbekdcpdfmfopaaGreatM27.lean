/- A disk in memory: its cells, its files' bytes, what is loose; what each call leaves of others. append in a walk, to slices by footprints; copies of slices. -/
import Derived.Test.YtbekdcpdfmfopaaGreatProg
import Derived.Test.YtbekdcpdfmfopaaGreatM26
import Derived.Test.YtbekdcpdfmfopaaGreatM07
import Derived.Test.YtbekdcpdfmfopaaGreatM00
import Derived.WalkSpells
import Derived.Outline
import Derived.Deep.RegionLaw
section
namespace Go.Proofs.YtbekdcpdfmfopaaGreat
open Go.RowKit

/-- Slices of 16 files. -/
def sls (N : Fs) (p : Nat → Option Addr) (c : Nat → Nat) : List Value := (List.range 16).map fun i => Value.slice (p i) (N i).size (c i)
theorem sls_length (N : Fs) (p : Nat → Option Addr) (c : Nat → Nat) : (sls N p c).length = 16 := by simp [sls]
theorem sls_at (N : Fs) (p : Nat → Option Addr) (c : Nat → Nat) (i : Nat) (h : i < 16) : (sls N p c)[i]? = some (.slice (p i) (N i).size (c i)) := by simp [sls, h]
theorem sls_one (N : Fs) (p : Nat → Option Addr) (c : Nat → Nat) : ∀ v ∈ sls N p c, v.oneCell' = true := by
  intro v hv
  obtain ⟨i, _, rfl⟩ := List.mem_map.1 hv
  rfl
theorem sls_all (N : Fs) (p : Nat → Option Addr) (c : Nat → Nat) : (sls N p c).toArray.all (·.oneCell') = true := all_oneCell_toArray (sls_one N p c)
theorem sls_set (N : Fs) (p : Nat → Option Addr) (c : Nat → Nat) (f : Nat) (_hf : f < 16) (s : ByteArray) (q : Option Addr) (k : Nat) :
    (sls N p c).set f (.slice q s.size k) = sls (upd N f s) (fun i => if i = f then q else p i) (fun i => if i = f then k else c i) := by
  apply List.ext_getElem
  · simp [sls]
  · intro i h1 h2
    simp only [sls, List.getElem_set, List.getElem_map, List.getElem_range]
    by_cases e : f = i
    · subst e; simp [upd]
    · simp [e, Ne.symm e, upd]
theorem sls_congr {N N' : Fs} {p p' : Nat → Option Addr} {c c' : Nat → Nat} (h : ∀ i, i < 16 → N i = N' i ∧ p i = p' i ∧ c i = c' i) : sls N p c = sls N' p' c' := by
  apply List.ext_getElem
  · simp [sls]
  · intro i h1 h2
    obtain ⟨a, b, d⟩ := h i (by simpa [sls] using h1)
    simp [sls, a, b, d]
def rcells (m room : Nat) (fuse : Int) (A B : List Value) (lv : Value) : List Value := [.int .i64 (m : Int), .int .i64 (room : Int), .int .i64 fuse] ++ (A ++ (B ++ [lv]))
section
variable {m room : Nat} {fuse : Int} {A B : List Value} {lv : Value}
theorem rcells_now (hA : A.length = 16) (i : Nat) (h : i < 16) : (rcells m room fuse A B lv)[3 + i]? = A[i]? := by
  unfold rcells
  rw [List.getElem?_append_right (by simp), List.getElem?_append_left (by simp; omega)]
  simp
theorem rcells_sure (hA : A.length = 16) (hB : B.length = 16) (i : Nat) (h : i < 16) : (rcells m room fuse A B lv)[19 + i]? = B[i]? := by
  unfold rcells
  rw [List.getElem?_append_right (by simp; omega), List.getElem?_append_right (by simp [hA]; omega), List.getElem?_append_left (by simp [hA, hB]; omega)]
  simp [hA]
  congr 1; omega
theorem rcells_loose (hA : A.length = 16) (hB : B.length = 16) : (rcells m room fuse A B lv)[35]? = some lv := by
  unfold rcells
  rw [List.getElem?_append_right (by simp), List.getElem?_append_right (by simp [hA]), List.getElem?_append_right (by simp [hA, hB])]
  simp [hA, hB]
theorem rcells_length (hA : A.length = 16) (hB : B.length = 16) : (rcells m room fuse A B lv).length = 36 := by simp [rcells, hA, hB]
theorem rcells_set_now (hA : A.length = 16) (i : Nat) (h : i < 16) (v : Value) : (rcells m room fuse A B lv).set (3 + i) v = rcells m room fuse (A.set i v) B lv := by
  unfold rcells
  rw [List.set_append_right _ _ (by simp), List.set_append_left _ _ (by simp; omega)]
  simp
theorem rcells_set_loose (hA : A.length = 16) (hB : B.length = 16) (v : Value) : (rcells m room fuse A B lv).set 35 v = rcells m room fuse A B v := by
  unfold rcells
  rw [List.set_append_right _ _ (by simp), List.set_append_right _ _ (by simp [hA]), List.set_append_right _ _ (by simp [hA, hB])]
  simp [hA, hB]
theorem rcells_set_fuse (x : Int) : (rcells m room fuse A B lv).set 2 (.int .i64 x) = rcells m room x A B lv := rfl
end
/-- A loose call, as a closure. -/
def IsChg (w : World) (κ : Foot) (v : Value) : Chg → Prop
  | .wr f s => ∃ a e, v = .func (.func 98) #[] #[.pointer (some ⟨a, 0, none⟩), .pointer (some ⟨e, 0, none⟩)] ∧ κ a = 1 ∧ κ e = 1 ∧ Blk w a 9 [.string s] ∧ Blk w e 3 [.int .i64 (f : Int)]
  | .cut f n => ∃ a e, v = .func (.func 111) #[] #[.pointer (some ⟨a, 0, none⟩), .pointer (some ⟨e, 0, none⟩)] ∧ κ a = 1 ∧ κ e = 1 ∧ Blk w a 3 [.int .i64 (f : Int)] ∧ Blk w e 3 [.int .i64 (n : Int)]
theorem IsChg.same {w w' : World} {κ κ' : Foot} {v : Value} {c : Chg} (h : IsChg w κ v c) (hb : ∀ g, g < w.heap.size → κ g = 1 → w'.heap[g]? = w.heap[g]?) (hκ : ∀ g, g < w.heap.size → κ g = 1 → κ' g = 1) : IsChg w' κ' v c := by
  cases c with
  | wr f s =>
    obtain ⟨a, e, h1, h2, h3, h4, h5⟩ := h
    exact ⟨a, e, h1, hκ a h4.lt h2, hκ e h5.lt h3, (hb a h4.lt h2).trans h4, (hb e h5.lt h3).trans h5⟩
  | cut f n =>
    obtain ⟨a, e, h1, h2, h3, h4, h5⟩ := h
    exact ⟨a, e, h1, hκ a h4.lt h2, hκ e h5.lt h3, (hb a h4.lt h2).trans h4, (hb e h5.lt h3).trans h5⟩
/-- The disk's block, and its files. -/
structure Raw (w : World) (b : Nat) (κ : Foot) (m room : Nat) (fuse : Int) (N S : Fs) (pn qs : Nat → Option Addr) (cn ks : Nat → Nat) (lv : Value) : Prop where
  blk : Blk w b 85 (rcells m room fuse (sls N pn cn) (sls S qs ks) lv)
  slot : ∀ i, i < 16 → Sl w κ (4 + i) 1 5 (pn i) (N i).size (cn i) (byteCells (N i)) ∧ Sl w κ (4 + i) 1 5 (qs i) (S i).size (ks i) (byteCells (S i)) ∧ Al (pn i) (N i).size (cn i) (qs i) (S i).size
  disk : κ b = 2
  ins : ∀ g, κ g ≠ 0 → g < w.heap.size
def Loose (w : World) (κ : Foot) (L : List Chg) (lp : Option Addr) (lc : Nat) : Prop :=
  ∃ fv, Sl w κ 3 1 98 lp L.length lc fv ∧ (∀ (j : Nat) (c : Chg), L[j]? = some c → ∃ v, fv[j]? = some v ∧ IsChg w κ v c) ∧ ∀ u ∈ fv, u.oneCell' = true
theorem Loose.nil (w : World) (κ : Foot) : Loose w κ [] none 0 := ⟨[], Sl.nil _ _ _ _ _, fun j c h => by simp at h, fun u h => by cases h⟩
/-- Block b is a disk that New made, or Copy. -/
structure IsD (w : World) (b : Nat) (κ : Foot) (d : DS) : Prop where
  lay : ∃ pn qs cn ks lp lc, Raw w b κ d.m d.room d.fuse d.now d.S pn qs cn ks (.slice lp d.L.length lc) ∧ Loose w κ d.L lp lc
  ok : d.Ok
section
variable {w w' : World} {b : Nat} {κ κ' : Foot} {P : Nat → Prop} {m room : Nat} {fuse : Int} {N S : Fs} {pn qs : Nat → Option Addr} {cn ks : Nat → Nat} {lv : Value}
theorem Raw.cells (h : Raw w b κ m room fuse N S pn qs cn ks lv) : w.cell? ⟨b, 0, none⟩ = some (.int .i64 (m : Int)) ∧ w.cell? ⟨b, 1, none⟩ = some (.int .i64 (room : Int)) ∧ w.cell? ⟨b, 2, none⟩ = some (.int .i64 fuse) ∧ w.cell? ⟨b, 35, none⟩ = some lv :=
  ⟨h.blk.cell 0 _ rfl, h.blk.cell 1 _ rfl, h.blk.cell 2 _ rfl, h.blk.cell 35 _ (rcells_loose (sls_length _ _ _) (sls_length _ _ _))⟩
theorem Raw.now (h : Raw w b κ m room fuse N S pn qs cn ks lv) (i : Nat) (hi : i < 16) : w.cell? ⟨b, 3 + i, none⟩ = some (.slice (pn i) (N i).size (cn i)) :=
  h.blk.cell _ _ ((rcells_now (sls_length _ _ _) i hi).trans (sls_at _ _ _ i hi))
theorem Raw.nowR (h : Raw w b κ m room fuse N S pn qs cn ks lv) : w.rangeAt b 3 (sls N pn cn) := h.blk.range 3 _ fun j v hv => by
  have hj : j < (sls N pn cn).length := (List.getElem?_eq_some_iff.1 hv).1
  rw [rcells_now (sls_length _ _ _) j (by simpa [sls_length] using hj)]; exact hv
theorem Raw.sureR (h : Raw w b κ m room fuse N S pn qs cn ks lv) : w.rangeAt b 19 (sls S qs ks) := h.blk.range 19 _ fun j v hv => by
  have hj : j < (sls S qs ks).length := (List.getElem?_eq_some_iff.1 hv).1
  rw [rcells_sure (sls_length _ _ _) (sls_length _ _ _) j (by simpa [sls_length] using hj)]; exact hv
/-- Where nothing of the object was written. -/
theorem Raw.keep (h : Raw w b κ m room fuse N S pn qs cn ks lv) (hb : ∀ g, g < w.heap.size → κ g ≠ 0 → w'.heap[g]? = w.heap[g]?) (hs : w.heap.size ≤ w'.heap.size) : Raw w' b κ m room fuse N S pn qs cn ks lv :=
  ⟨(hb b h.blk.lt (by rw [h.disk]; decide)).trans h.blk, fun i hi => ⟨(h.slot i hi).1.same (fun g hg e => hb g hg (by omega)) (fun _ _ e => e), (h.slot i hi).2.1.same (fun g hg e => hb g hg (by omega)) (fun _ _ e => e), (h.slot i hi).2.2⟩, h.disk, fun g hg => Nat.lt_of_lt_of_le (h.ins g hg) hs⟩
theorem Loose.keep {L : List Chg} {lp : Option Addr} {lc : Nat} (h : Loose w κ L lp lc) (hb : ∀ g, g < w.heap.size → κ g ≠ 0 → w'.heap[g]? = w.heap[g]?) : Loose w' κ L lp lc := by
  obtain ⟨fv, h1, h2, h3⟩ := h
  exact ⟨fv, h1.same (fun g hg e => hb g hg (by omega)) (fun _ _ e => e), fun j c hj => by
    obtain ⟨v, e, hv⟩ := h2 j c hj
    exact ⟨v, e, hv.same (fun g hg e => hb g hg (by omega)) (fun _ _ e => e)⟩, h3⟩
theorem Loose.fr {L : List Chg} {lp : Option Addr} {lc : Nat} (h : Loose w κ L lp lc) (f : Fr κ P w w' κ') (h1 : ¬ P 1) (h3 : ¬ P 3) : Loose w' κ' L lp lc := by
  obtain ⟨fv, k1, k2, k3⟩ := h
  exact ⟨fv, k1.fr f h3, fun j c hj => by
    obtain ⟨v, e, hv⟩ := k2 j c hj
    exact ⟨v, e, hv.same (fun g hg e => f.other g hg (by rw [e]; exact h1)) (fun g hg e => (f.foot g hg).trans e)⟩, k3⟩
theorem IsD.keep {d : DS} (h : IsD w b κ d) (hb : ∀ g, g < w.heap.size → κ g ≠ 0 → w'.heap[g]? = w.heap[g]?) (hs : w.heap.size ≤ w'.heap.size) : IsD w' b κ d := by
  obtain ⟨pn, qs, cn, ks, lp, lc, h1, h2⟩ := h.lay
  exact ⟨⟨pn, qs, cn, ks, lp, lc, h1.keep hb hs, h2.keep hb⟩, h.ok⟩
theorem IsD.ext {d : DS} (h : IsD w b κ d) (hx : Ext w w') : IsD w' b κ d := h.keep (fun g hg _ => hx.block g hg) hx.size
theorem IsD.alloc {d : DS} (h : IsD w b κ d) (o : Obj) : IsD (w.alloc o) b κ d := h.ext ((Ext.refl w).alloc o)
theorem IsD.drew {d : DS} (h : IsD w b κ d) : IsD w.drew b κ d := h.ext (Ext.refl w).drew
theorem IsD.drewN {d : DS} (h : IsD w b κ d) (n : Nat) : IsD (w.drewN n) b κ d := h.ext ((Ext.refl w).drewN n)
theorem IsD.ins {d : DS} (h : IsD w b κ d) : ∀ g, κ g ≠ 0 → g < w.heap.size := by
  obtain ⟨pn, qs, cn, ks, lp, lc, h1, h2⟩ := h.lay
  exact h1.ins
theorem IsD.lt {d : DS} (h : IsD w b κ d) : b < w.heap.size := by
  obtain ⟨pn, qs, cn, ks, lp, lc, h1, h2⟩ := h.lay
  exact h1.blk.lt
theorem IsD.disk {d : DS} (h : IsD w b κ d) : κ b = 2 := by
  obtain ⟨pn, qs, cn, ks, lp, lc, h1, h2⟩ := h.lay
  exact h1.disk
/-- What a call on another object leaves of this one. -/
theorem IsD.apart {d : DS} {κ2 κ2' : Foot} (h : IsD w b κ d) (f : Fr κ2 (2 ≤ ·) w w' κ2') (ha : ∀ g, κ g ≠ 0 → κ2 g ≤ 1) : IsD w' b κ d :=
  h.keep (fun g hg hk => f.other g hg (by have := ha g hk; omega)) f.size
/-- The fuse's cell alone was written. -/
theorem Raw.setFuse (h : Raw w b κ m room fuse N S pn qs cn ks lv) (x : Int) : Raw (w.setCell ⟨b, 2, none⟩ (.int .i64 x)) b κ m room x N S pn qs cn ks lv := by
  have hb := h.blk.set_ 2 (.int .i64 x)
  rw [rcells_set_fuse] at hb
  have ho : ∀ g, g ≠ b → (w.setCell ⟨b, 2, none⟩ (.int .i64 x)).heap[g]? = w.heap[g]? := fun g hg => Below.heap_setCell _ _ _ _ hg
  have hk : ∀ i g, κ g = 4 + i → g ≠ b := fun i g e e2 => by have := h.disk; rw [e2] at e; omega
  exact ⟨hb, fun i hi => ⟨(h.slot i hi).1.same (fun g _ e => ho g (hk i g e)) (fun _ _ e => e), (h.slot i hi).2.1.same (fun g _ e => ho g (hk i g e)) (fun _ _ e => e), (h.slot i hi).2.2⟩, h.disk, fun g hg => by have := h.ins g hg; simpa [World.setCell] using this⟩
end
/-- What a call on a disk leaves: the disk, as it is then; all else, as it was. -/
def Post (w : World) (b : Nat) (κ : Foot) (w' : World) (d : DS) : Prop := ∃ κ', IsD w' b κ' d ∧ Fr κ (2 ≤ ·) w w' κ'
theorem IsD.setFuse {w : World} {b : Nat} {κ : Foot} {d : DS} (h : IsD w b κ d) (x : Int) (h0 : -1 ≤ x) (h1 : x ≤ 9223372036854775807) : Post w b κ (w.setCell ⟨b, 2, none⟩ (.int .i64 x)) { d with fuse := x } := by
  obtain ⟨pn, qs, cn, ks, lp, lc, r, l⟩ := h.lay
  refine ⟨κ, ⟨⟨pn, qs, cn, ks, lp, lc, r.setFuse x, ?_⟩, ⟨h.ok.m1, h.ok.m16, h.ok.room, h0, h1, h.ok.sizes, h.ok.none, h.ok.oks⟩⟩, setCell_fr _ _ _ _ (by show 2 ≤ κ b; rw [r.disk]; exact Nat.le_refl _) _⟩
  exact l.fr (P := (· = 2)) (setCell_fr _ _ _ _ r.disk _) (by decide) (by decide)
end Go.Proofs.YtbekdcpdfmfopaaGreat
end

section
namespace Go.Proofs.YtbekdcpdfmfopaaGreat
open Go.RowKit

theorem byteCells_one (s : ByteArray) : ∀ u ∈ byteCells s, u.oneCell' = true := fun u hu => by
  obtain ⟨_, _, rfl⟩ := List.mem_map.1 hu
  rfl
theorem infoC : (Tryz.prog.info? 98).map (fun i => (i.zero, i.size, i.bytes)) = some (some Value.nilFunc, 1, 8) := by kernel_rfl
/-- 's == nil' -/
theorem eql_nil (t e : TypeId) (ht : Tryz.prog.underlying t = some (.slice e)) (p : Option Addr) (n c : Nat) (w : World) : (binOp .eql t (.slice p n c) (.slice none 0 0)).run Tryz.prog w = .ok (.bool p.isNone) w := by
  have h2 : ∀ d, (Op.equalIn (d + 1) t (.slice p n c) (.slice none 0 0)).run Tryz.prog w = .ok p.isNone w := fun d => by
    cases p <;> simp [Op.equalIn, run_underlying ht]
  have h : (Op.equal t (.slice p n c) (.slice none 0 0)).run Tryz.prog w = .ok p.isNone w := h2 9999
  simp [binOp, h]
/-- A copy of bytes: of new memory, or none. -/
theorem cloneB_any (w : World) (κ : Foot) (k : Nat) (p : Option Addr) (c : Nat) (s : ByteArray) (h : Sl w κ k 1 5 p s.size c (byteCells s)) (hs : s.size ≤ 4194304) (κ0 : Foot) (k0 : Nat) :
    Calls Tryz.prog 72 #[.slice p s.size c] w fun e w' => ∃ q c', e = .returned (.slice q s.size c') ∧ ∃ κ', Sl w' κ' k0 1 5 q s.size c' (byteCells s) ∧ Fr κ0 (fun _ => False) w w' κ' := by
  rcases h.2.2.1 with hp | ⟨g, hp⟩
  · subst hp
    have hc : c = 0 := by
      rcases Nat.eq_zero_or_pos c with e | e
      · exact e
      · obtain ⟨g, _, e', _⟩ := h.2.2.2 e; cases e'
    have hn : s.size = 0 := by have := h.2.1; omega
    have hb : byteCells s = [] := List.length_eq_zero_iff.1 (by rw [byteCells_length]; exact hn)
    rw [hb, hn, hc]
    clear h
    have hnil := fun p n c u => eql_nil 41 _ Tryz.underlying41 p n c u
    go_enter Tryz.func72, Tryz.ntmps72
    go_wp2
    go_ret
    exact ⟨none, 0, rfl, κ0, Sl.nil _ _ _ _ _, Fr.refl _ _ _⟩
  · subst hp
    have hx1 : Ext w (w.alloc (.cells #[] 5)) := (Ext.refl w).alloc _
    have HS := Lib.hid ((h.ext hx1).src (P := Tryz.prog) (tx := 41) Tryz.underlying41 (byteCells_one s))
    have HX1 := Lib.hid hx1
    have hs' : 0 + s.size ≤ 1000000000 := by omega
    clear h hx1 hs
    generalize s.size = n at *
    generalize byteCells s = vs at *
    have hnil := fun p n c u => eql_nil 41 _ Tryz.underlying41 p n c u
    go_enter Tryz.func72, Tryz.ntmps72
    go_wp2_with (refine wpList_append_sl rfl (.tmp 5) (.tmp 6) 41 41 rfl Tryz.underlying41 info5 rfl (by decide) rfl (Sl.empty _ κ0 k0 1 _ w.heap.size) (fun u hu => by cases hu) _ rfl n vs HS.out hs' ?_; intro p1 c1 w1 κ1 s1 f1 e1 x1 o1; rw [Nat.zero_add, List.nil_append] at s1; have HSl := Lib.hid s1; have HF := Lib.hid f1; have HX2 := Lib.hid (x1 rfl); clear s1 f1 x1 o1 e1; rw [Nat.zero_add])
    go_ret
    exact ⟨p1, c1, rfl, κ1, HSl.out, ((HX1.out.fr κ0 (fun _ => False)).trans ⟨HF.out.os, HF.out.tape, HF.out.output, HF.out.size, fun g hg _ => HX2.out.block g hg, HF.out.foot, HF.out.ins⟩)⟩
/-- A slice that has no room behind it. -/
theorem Clip_any (w : World) (p : Option Addr) (n c : Nat) (hn : n ≤ c) (hp : p = none ∧ c = 0 ∨ ∃ g, p = some ⟨g, 0, none⟩) :
    Calls Tryz.prog 112 #[.slice p n c] w fun e w' => e = .returned (.slice p n n) ∧ w = w' := by
  rcases hp with ⟨rfl, rfl⟩ | ⟨g, rfl⟩
  · obtain rfl : n = 0 := by omega
    go_enter Tryz.func112, Tryz.ntmps112
    go_wp2
    go_ret
    exact ⟨rfl, rfl⟩
  · have h1 : (n : Int) ≤ (c : Int) := by omega
    go_enter Tryz.func112, Tryz.ntmps112
    go_wp2
    go_ret
    exact ⟨rfl, rfl⟩
end Go.Proofs.YtbekdcpdfmfopaaGreat
end
