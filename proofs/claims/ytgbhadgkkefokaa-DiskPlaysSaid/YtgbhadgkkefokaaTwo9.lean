/- A disk and the document's, of the same state or one a step behind, in one world. -/
import Derived.Test.YtgbhadgkkefokaaRefCopy
import Derived.Test.YtgbhadgkkefokaaOrderP
namespace Go.Proofs.Ytgbhadgkkefokaa
open Go.RowKit
theorem IsX.dis {w w' : World} {r : Nat} {κ κ2 κ2' : Foot} {d : DS} {P : Nat → Prop} (h : IsX w r κ d) (f : Fr κ2 P w w' κ2') (hP : ¬ P 0) (hd : Dis κ κ2) : IsX w' r κ d :=
  h.keep (fun g hg hk => f.other g hg (by rcases hd g with q | q; exact absurd q hk; rw [q]; exact hP)) f.size
/-- Where the walk stands. -/
structure Two (W w : World) (bd bx : Nat) (κd κx : Foot) (d y : DS) : Prop where
  d : IsD w bd κd d
  x : IsX w bx κx y
  dx : Dis κd κx
  ext : Ext W w
  yd : ∀ g, g < W.heap.size → κd g = 0
  yx : ∀ g, g < W.heap.size → κx g = 0
section
variable {W w w' : World} {bd bx : Nat} {κd κx κ' : Foot} {d y z : DS}
theorem Two.stepD (h : Two W w bd bx κd κx d y) (k : IsD w' bd κ' z) (f : Fr κd (2 ≤ ·) w w' κ') : Two W w' bd bx κ' κx z y :=
  ⟨k, h.x.dis f (by decide) h.dx.symm, h.dx.left f h.x.ins, (young_of f (by decide) h.ext h.yd).1, (young_of f (by decide) h.ext h.yd).2, h.yx⟩
theorem Two.stepX (h : Two W w bd bx κd κx d y) (k : PostX w bx κx w' z) : ∃ κ', Two W w' bd bx κd κ' d z := by
  obtain ⟨κ', k, f⟩ := k
  exact ⟨κ', h.d.dis f (by decide) h.dx, k, (h.dx.symm.left f h.d.ins).symm, (young_of f (by decide) h.ext h.yx).1, h.yd, (young_of f (by decide) h.ext h.yx).2⟩
theorem Two.grow (h : Two W w bd bx κd κx d y) (e : Ext w w') : Two W w' bd bx κd κx d y := ⟨h.d.ext e, h.x.ext e, h.dx, h.ext.trans e, h.yd, h.yx⟩
/-- A copy is made of the disk; the old one is there still. -/
structure Three (W w : World) (bd bo bx : Nat) (κd κo κx : Foot) (d o y : DS) : Prop where
  two : Two W w bd bx κd κx d y
  o : IsD w bo κo o
  ox : Dis κo κx
  co : ∀ g, κd g ≠ 0 → κo g ≤ 1
  yo : ∀ g, g < W.heap.size → κo g = 0
theorem Two.copy {c : Nat} (h : Two W w bd bx κd κx d y) (k : IsD w' c κ' d) (f : Fr (shared κd) (fun _ => False) w w' κ') : Three W w' c bd bx κ' κd κx d d y := by
  have e := f.toExt
  have hs : ∀ g, κ' g ≠ 0 → g < w.heap.size → κd g = 1 := fun g hg hlt => shared_ne (by rw [← f.foot g hlt]; exact hg)
  refine ⟨⟨k, h.x.ext e, fun g => ?_, h.ext.trans e, fun g hg => ?_, h.yx⟩, h.d.ext e, h.dx, fun g hg => ?_, h.yd⟩
  · by_cases hg : κ' g = 0
    · exact .inl hg
    · right
      rcases Nat.lt_or_ge g w.heap.size with q | q
      · rcases h.dx g with q2 | q2
        · have := hs g hg q; omega
        · exact q2
      · by_cases q2 : κx g = 0
        · exact q2
        · have := h.x.ins g q2; omega
  · by_cases q : κ' g = 0
    · exact q
    · have := hs g q (Nat.lt_of_lt_of_le hg h.ext.size)
      have := h.yd g hg
      omega
  · rcases Nat.lt_or_ge g w.heap.size with q | q
    · have := hs g hg q; omega
    · by_cases q2 : κd g = 0
      · omega
      · have := h.d.ins g q2; omega
theorem Three.old {bo : Nat} {κo : Foot} {o : DS} (h : Three W w bd bo bx κd κo κx d o y) (k : IsD w' bo κ' z) (f : Fr κo (2 ≤ ·) w w' κ') : Three W w' bd bo bx κd κ' κx d z y :=
  ⟨⟨h.two.d.apart f h.co, h.two.x.dis f (by decide) h.ox.symm, h.two.dx, (young_of f (by decide) h.two.ext h.yo).1, h.two.yd, h.two.yx⟩, k, h.ox.left f h.two.x.ins, fun g hg => by
    rw [f.foot g (h.two.d.ins g hg)]; exact h.co g hg, (young_of f (by decide) h.two.ext h.yo).2⟩
theorem Two.copyX {c : Nat} (h : Two W w bd bx κd κx d y) (k : IsX w' c κ' y) (e : Ext w w') (hf : ∀ g, κ' g ≠ 0 → w.heap.size ≤ g) : Two W w' bd c κd κ' d y :=
  ⟨h.d.ext e, k, fun g => by
    by_cases q : κ' g = 0
    · exact .inr q
    · left
      by_cases q2 : κd g = 0
      · exact q2
      · have := h.d.ins g q2; have := hf g q; omega, h.ext.trans e, h.yd, fun g hg => by
    by_cases q : κ' g = 0
    · exact q
    · have := hf g q; have := h.ext.size; omega⟩
end
end Go.Proofs.Ytgbhadgkkefokaa
