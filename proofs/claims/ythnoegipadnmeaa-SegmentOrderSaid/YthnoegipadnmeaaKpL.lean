/- What a round of a range over a function keeps: all below a bound, and named blocks above it. -/
import Derived.RangeFuncNested
import Derived.RangeFuncBound
import Derived.RangeFuncCalls
import Derived.RangeFuncLeaves
import Derived.RangeFuncFrom
import Derived.Shelf.Abstract
import Derived.Shelf.RegionOpen
import Derived.WalkKit
import Derived.OwnWalkIn
import Derived.TacticsInMore
import Derived.LoopNIn
import Derived.LoopIn
import Derived.Test.YthnoegipadnmeaaHeap
import Derived.Test.YthnoegipadnmeaaBlk
namespace Go.Proofs.Ythnoegipadnmeaa
open Go.RowKit Go.Shelf

theorem grown_of_ext {W W' : World} (h : Ext W W') : W.grownBy W' none := ⟨h.os, h.tape, h.output, h.size, fun k hk _ => h.block k hk⟩
/-- What a round keeps: all below n₀, and the blocks bs. -/
def KpL (n₀ : Nat) (bs : List Nat) (W W' : World) : Prop := Below n₀ W W' ∧ ∀ b, b ∈ bs → W'.heap[b]? = W.heap[b]?
theorem KpL.refl (n₀ : Nat) (bs : List Nat) (W : World) : KpL n₀ bs W W := ⟨Below.refl _ _, fun _ _ => rfl⟩
theorem KpL.trans {n₀ : Nat} {bs : List Nat} {A B C : World} (h : KpL n₀ bs A B) (k : KpL n₀ bs B C) : KpL n₀ bs A C := ⟨h.1.trans k.1, fun b hb => (k.2 b hb).trans (h.2 b hb)⟩
theorem KpL.of_ext {n₀ : Nat} {bs : List Nat} {A B : World} (h : Ext A B) (hn : n₀ ≤ A.heap.size) (hb : ∀ b, b ∈ bs → b < A.heap.size) : KpL n₀ bs A B := ⟨Below.mono h.below hn, fun b hm => h.block b (hb b hm)⟩
theorem KpL.put {n₀ : Nat} {bs : List Nat} {w : World} (hn : n₀ ≤ w.heap.size) (hb : ∀ b, b ∈ bs → b < w.heap.size) (W : World) (l : Nat) (o o' : Obj) (hwl : w.heap.size ≤ l) (h : W.heap[l]? = some o) (h1 : o.isCells = false) (h2 : o.isWalk = false) : KpL n₀ bs W (W.putObj l o') :=
  ⟨belowK_b hn W l o o' hwl h h1 h2, fun b hm => World.putObj_heap_other (by have := hb b hm; omega)⟩
theorem KpL.below {n₀ : Nat} {bs : List Nat} {A B : World} (h : KpL n₀ bs A B) : Below n₀ A B := h.1
theorem KpL.keeps {n₀ : Nat} {bs : List Nat} {A B : World} (h : KpL n₀ bs A B) {b : Nat} (hb : b ∈ bs) : B.heap[b]? = A.heap[b]? := h.2 b hb
end Go.Proofs.Ythnoegipadnmeaa
