/- A slice of one-cell elements of a type, in a block of its own, beside others. -/
import Derived.Test.YtkjcpjalldbahaaDoorM20
section
namespace Go.Proofs.YtkjcpjalldbahaaDoor
open Go.RowKit

/-- A slice of these cells of this type; its block does not lie below B. -/
structure IsA (w : World) (B : Nat) (T : TypeId) (p : Option Addr) (c : Nat) (vs : List Value) : Prop where
  sl : Sl w (kp p) 1 1 T p vs.length c vs
  low : ∀ g, p = some ⟨g, 0, none⟩ → B ≤ g
/-- All but blocks of this type were kept, and all below a place. -/
structure KeepA (T : TypeId) (B : Nat) (w w' : World) : Prop where
  below : Below B w w'
  keep : ∀ (g : Nat) (o : Obj), w.heap[g]? = some o → (∀ cur fr, o ≠ .cells cur T fr) → w'.heap[g]? = some o
section
variable {w w' : World} {B : Nat} {T : TypeId} {p : Option Addr} {c : Nat} {vs : List Value}
theorem IsA.ext (h : IsA w B T p c vs) (x : Ext w w') : IsA w' B T p c vs := ⟨h.sl.ext x, h.low⟩
theorem IsA.nil (w : World) (B : Nat) (T : TypeId) : IsA w B T none 0 [] := ⟨Sl.nil _ _ _ _ _, fun _ h => by cases h⟩
theorem IsA.keepA {A : Nat} {T' : TypeId} (h : IsA w B T p c vs) (k : KeepA T' A w w') (hT : T ≠ T') : IsA w' B T p c vs :=
  ⟨⟨h.sl.1, h.sl.2.1, h.sl.2.2.1, fun hc => by
    obtain ⟨g, cur, h1, h2, h3, h4⟩ := h.sl.2.2.2 hc
    exact ⟨g, cur, h1, h2, k.keep _ _ h3 (fun _ _ e => hT (by cases e; rfl)), h4⟩⟩, h.low⟩
theorem IsA.keepV {A : Nat} (h : IsA w B T p c vs) (k : KeepV A w w') (hT : T ≠ 58) : IsA w' B T p c vs :=
  ⟨⟨h.sl.1, h.sl.2.1, h.sl.2.2.1, fun hc => by
    obtain ⟨g, cur, h1, h2, h3, h4⟩ := h.sl.2.2.2 hc
    exact ⟨g, cur, h1, h2, k.keep _ _ h3 (fun _ _ e => hT (by cases e; rfl)), h4⟩⟩, h.low⟩
theorem IsA.parted (h : IsA w B T p c vs) {b o : Nat} {T' : TypeId} {cs : List Value} (hb : Blk w b T' cs) (hT : T' ≠ T) (u : Value) : IsA (w.setCell ⟨b, o, none⟩ u) B T p c vs :=
  ⟨h.sl.parted hb hT fun g hg => Below.heap_setCell _ _ _ _ (by simpa using hg), h.low⟩
theorem IsV.keepA {A : Nat} {T' : TypeId} {L : List Ver} (h : IsV w B p c L) (k : KeepA T' A w w') (hT : 58 ≠ T') : IsV w' B p c L :=
  ⟨⟨h.sl.1, h.sl.2.1, h.sl.2.2.1, fun hc => by
    obtain ⟨g, cur, h1, h2, h3, h4⟩ := h.sl.2.2.2 hc
    exact ⟨g, cur, h1, h2, k.keep _ _ h3 (fun _ _ e => hT (by cases e; rfl)), h4⟩⟩, h.low⟩
theorem Blk.keepA {A b : Nat} {T' : TypeId} {cs : List Value} (h : Blk w b T' cs) (k : KeepA T A w w') (hT : T' ≠ T) : Blk w' b T' cs := k.keep _ _ h (fun _ _ e => hT (by cases e; rfl))
theorem Ext.keptA {v : World} (hv : Ext v w) (k : KeepA T v.heap.size w w') : Ext v w' := hv.trans3 k.below
theorem KeepA.base {A : Nat} (h : KeepA T B w w') (hA : A ≤ B) : KeepA T A w w' := ⟨⟨h.below.os, h.below.tape, h.below.output, h.below.size, fun g hg => h.below.block g (by omega)⟩, h.keep⟩
theorem keepA_of_fr {κ' : Foot} {n : Nat} (hs : Sl w (kp p) 1 1 T p n c vs) (hl : ∀ g, p = some ⟨g, 0, none⟩ → B ≤ g) (hB : B ≤ w.heap.size) (f : Fr (kp p) (fun j => j = 1) w w' κ') (hx : c = 0 → Ext w w') : KeepA T B w w' := by
  refine ⟨f.below (by decide) (fun g hg => ?_) hB, fun g o ho hn => ?_⟩
  · unfold kp
    rw [if_neg fun e => by have := hl g e; omega]
  · by_cases hc : c = 0
    · exact ((hx hc).block g (heap_lt ho)).trans ho
    · obtain ⟨g', cur, e1, _, h3, _⟩ := hs.2.2.2 (by omega)
      by_cases e : g = g'
      · subst e
        rw [h3] at ho
        cases ho
        exact absurd rfl (hn _ _)
      · refine (f.other g (heap_lt ho) fun q => ?_).trans ho
        have := kp_one q
        rw [e1] at this
        cases this
        exact e rfl
/-- An element. -/
theorem IsA.at_ (h : IsA w B T p c vs) {i : Nat} {u : Value} (hu : vs[i]? = some u) : ∃ g, p = some ⟨g, 0, none⟩ ∧ B ≤ g ∧ w.cell? ⟨g, i, none⟩ = some u ∧ w.frozen? ⟨g, i, none⟩ = false := by
  obtain ⟨g, h1, _, _, h4, h5⟩ := h.sl.cell (j := i) hu
  exact ⟨g, h1, h.low g h1, h4, h5⟩
/-- An element written over. -/
theorem IsA.put {g i : Nat} (h : IsA w B T (some ⟨g, 0, none⟩) c vs) (hi : i < vs.length) (u : Value) : IsA (w.setCell ⟨g, i, none⟩ u) B T (some ⟨g, 0, none⟩) c (vs.set i u) ∧ KeepA T B w (w.setCell ⟨g, i, none⟩ u) := by
  obtain ⟨g', cur, e, e1, hg, hcs, hcell⟩ := h.sl.2.2.2 (by have := h.sl.2.1; omega)
  cases e
  have hlow := h.low g rfl
  have h1 : (w.setCell ⟨g, i, none⟩ u).heap[g]? = some (.cells (cur.setIfInBounds i u) T (0, 0)) := by
    simp [World.setCell, Array.getElem?_modify, hg]
  refine ⟨⟨⟨by simp, by rw [List.length_set]; exact h.sl.2.1, .inr ⟨g, rfl⟩, fun _ => ⟨g, _, rfl, e1, h1, by simpa using hcs, fun j v hj => ?_⟩⟩, h.low⟩, ⟨(Below.refl _ _).setCell (p := ⟨g, i, none⟩) hlow _, fun x o ho hn => ?_⟩⟩
  · have hic : i < cur.size := by have := h.sl.2.1; have : c * 1 ≤ cur.size := hcs; omega
    by_cases e : j = i
    · subst e
      rw [List.getElem?_set_self hi] at hj
      rw [Array.getElem?_setIfInBounds]
      simp [hic, hj]
    · rw [List.getElem?_set_ne (Ne.symm e)] at hj
      rw [Array.getElem?_setIfInBounds]
      simp [Ne.symm e]
      exact hcell j v hj
  · by_cases e : x = g
    · subst e
      rw [hg] at ho
      cases ho
      exact absurd rfl (hn _ _)
    · exact (Below.heap_setCell _ _ _ _ e).trans ho
/-- One element more. -/
theorem isA_grown {w4 : World} {B n c4 g0 : Nat} {p p4 : Option Addr} {κ4 : Foot} {vs : List Value} {u : Value} (s : Sl w4 κ4 1 1 T p4 (n + 1) c4 (vs ++ [u])) (hl : vs.length = n) (e : p4 = p ∨ p4 = some ⟨g0, 0, none⟩) (low : ∀ g, p = some ⟨g, 0, none⟩ → B ≤ g) (hB : B ≤ g0) : IsA w4 B T p4 c4 (vs ++ [u]) := by
  refine ⟨by rw [show (vs ++ [u]).length = n + 1 by simp [hl]]; exact s.kp, fun g hg => ?_⟩
  rcases e with q | q
  · exact low g (by rw [← q]; exact hg)
  · rw [q] at hg; cases hg; exact hB
end
/-- One text, one number of eight bits, as what is appended. -/
theorem infoU64 : (Tryd.prog.info? 38).map (fun i => (i.zero, i.size, i.bytes)) = some (some (.int .u64 0), 1, 8) := by kernel_rfl
theorem src_u64 (w : World) (g : Nat) (s : Nat) (h : w.cell? ⟨g, 0, none⟩ = some (.int .u64 (s : Int))) : Src Tryd.prog 1 34 (.slice (some ⟨g, 0, none⟩) 1 1) 1 [.int .u64 (s : Int)] w := by
  refine Src.ofSlice w Tryd.underlying34 ⟨g, 0, none⟩ 1 1 _ (by simp) (fun j v hj => ?_) (fun u hu => by simp at hu; subst hu; rfl)
  match j, hj with
  | 0, hj => simp at hj; subst hj; rw [Addr.add_mid, Nat.zero_add]; exact h
  | n + 1, hj => simp at hj
def nuV (P : List Nat) : List Value := P.map (fun x : Nat => Value.int .u64 (x : Int))
theorem nuV_one (P : List Nat) : ∀ u ∈ nuV P, u.oneCell' = true := fun u hu => by
  obtain ⟨_, _, rfl⟩ := List.mem_map.1 hu; rfl
theorem nuV_app (P Q : List Nat) : nuV (P ++ Q) = nuV P ++ nuV Q := by simp [nuV]
theorem nuV_len (P : List Nat) : (nuV P).length = P.length := by simp [nuV]
theorem src_text (w : World) (g : Nat) (s : ByteArray) (h : w.cell? ⟨g, 0, none⟩ = some (.string s)) : Src Tryd.prog 1 25 (.slice (some ⟨g, 0, none⟩) 1 1) 1 [.string s] w := by
  refine Src.ofSlice w Tryd.underlying25 ⟨g, 0, none⟩ 1 1 _ (by simp) (fun j v hj => ?_) (fun u hu => by simp at hu; subst hu; rfl)
  match j, hj with
  | 0, hj => simp at hj; subst hj; rw [Addr.add_mid, Nat.zero_add]; exact h
  | n + 1, hj => simp at hj
theorem blk_clash {w : World} {B g c i : Nat} {T T' : TypeId} {vs cs : List Value} (h : IsA w B T (some ⟨g, 0, none⟩) c vs) (hi : i < vs.length) (hb : Blk w g T' cs) (hT : T' ≠ T) : False := by
  obtain ⟨g', cur, e, e1, hg, hcs, hcell⟩ := h.sl.2.2.2 (by have := h.sl.2.1; omega)
  cases e
  have := hb
  unfold Blk at this
  rw [this] at hg
  cases hg
  exact hT rfl
end Go.Proofs.YtkjcpjalldbahaaDoor
end
