/- Plain: a row of numbers of 32 bits that is sorted in place: where it lies, and that nothing else turns. -/
import Derived.Sort.LotA
import Derived.Sort.LotB
import Derived.Sort.LotC
import Derived.Sort.LotD3
import Derived.Lib.BufferWrite
import Derived.Maps.Range
import Derived.Test.YteddogalmdgjlaaDoorM03
namespace Go.Proofs.YteddogalmdgjlaaDoor
open Go.RowKit

def cN (n : Nat) : Value := .int .u32 (n : Int)
def ltN (x y : Nat) : Bool := decide (x < y)
theorem ltN_swo : Sort.SWO ltN := ⟨fun x => by simp [ltN], fun x y z => by simp [ltN]; omega, fun x y z => by simp [ltN]; omega⟩
/-- From w0 to w nothing turned but block g, which holds these numbers now, and what else lies behind them; new blocks may have come. -/
structure RowN (w0 w : World) (g : Nat) (T : TypeId) (pos : List Value) (d : Array Nat) : Prop where
  blk : Blk w g T (d.toList.map cN ++ pos)
  grown : w0.grownBy w (some g)
  lt : g < w0.heap.size
theorem grown_drewN {a b : World} {r : Option Nat} (h : a.grownBy b r) (n : Nat) : a.grownBy (b.drewN n) r := ⟨h.os, h.tape, h.output, h.size, h.block⟩
/-- A number that is kept in a block of its own: from w to w' nothing else turned. -/
structure Cnt (w w' : World) (s : Nat) (T : TypeId) (v : Value) : Prop where
  grown : w.grownBy w' (some s)
  blk : Blk w' s T [v]
theorem Cnt.refl {w : World} {s : Nat} {T : TypeId} {v : Value} (h : Blk w s T [v]) : Cnt w w s T v := ⟨World.grownBy.refl w _, h⟩
theorem Cnt.drewN {w w' : World} {s : Nat} {T : TypeId} {v : Value} (h : Cnt w w' s T v) (n : Nat) : Cnt w (w'.drewN n) s T v := ⟨grown_drewN h.grown n, h.blk⟩
theorem Cnt.set_ {w w' : World} {s : Nat} {T : TypeId} {v : Value} (h : Cnt w w' s T v) (u : Value) : Cnt w (w'.setCell ⟨s, 0, none⟩ u) s T u := ⟨h.grown.andThen (Lib.grownBy_setCell _ s 0 _) (fun _ hj => .inr hj), h.blk.set_ 0 u⟩
theorem Cnt.trans {w w' w'' : World} {s : Nat} {T : TypeId} {v u : Value} (h : Cnt w w' s T v) (k : Cnt w' w'' s T u) : Cnt w w'' s T u := ⟨h.grown.andThen k.grown (fun _ hj => .inr hj), k.blk⟩
theorem Cnt.other {w w' : World} {s g : Nat} {T U : TypeId} {v : Value} {cs : List Value} (h : Cnt w w' s T v) (hg : Blk w g U cs) (hn : g ≠ s) : Blk w' g U cs := (h.grown.block g hg.lt (by simpa using hn)).trans hg
/-- Where the block is a new one, nothing turned. -/
theorem Cnt.ext {w0 w w' : World} {s : Nat} {T : TypeId} {v : Value} (h : Cnt w w' s T v) (hx : Ext w0 w) (hs : w0.heap.size ≤ s) : Ext w0 w' :=
  ⟨h.grown.os.trans hx.os, h.grown.tape.trans hx.tape, h.grown.output.trans hx.output, Nat.le_trans hx.size h.grown.size, fun k hk => (h.grown.block k (Nat.lt_of_lt_of_le hk hx.size) (by simp; omega)).trans (hx.block k hk)⟩
section
variable {w0 w w' : World} {g : Nat} {T : TypeId} {pos : List Value} {d d' : Array Nat}
theorem RowN.refl (h : Blk w g T (d.toList.map cN ++ pos)) : RowN w w g T pos d := ⟨h, World.grownBy.refl w _, h.lt⟩
theorem RowN.drewN (h : RowN w0 w g T pos d) (n : Nat) : RowN w0 (w.drewN n) g T pos d := ⟨h.blk, ⟨h.grown.os, h.grown.tape, h.grown.output, h.grown.size, h.grown.block⟩, h.lt⟩
theorem RowN.drew (h : RowN w0 w g T pos d) : RowN w0 w.drew g T pos d := h.drewN 1
theorem RowN.size (h : RowN w0 w g T pos d) : g < w.heap.size := h.blk.lt
theorem RowN.trans (h : RowN w0 w g T pos d) (k : RowN w w' g T pos d') : RowN w0 w' g T pos d' := ⟨k.blk, h.grown.andThen k.grown (fun _ hj => .inr hj), h.lt⟩
theorem RowN.ext (h : RowN w0 w g T pos d) (hx : Ext w w') : RowN w0 w' g T pos d :=
  ⟨h.blk.ext hx, ⟨hx.os.trans h.grown.os, hx.tape.trans h.grown.tape, hx.output.trans h.grown.output, Nat.le_trans h.grown.size hx.size, fun k hk hne => (hx.block k (Nat.lt_of_lt_of_le hk h.grown.size)).trans (h.grown.block k hk hne)⟩, h.lt⟩
theorem get_list (d : Array Nat) (i : Nat) (h : i < d.size) : (d.toList.map cN ++ pos)[i]? = some (cN d[i]!) := by
  rw [List.getElem?_append_left (by simpa using h)]
  simp [h]
theorem RowN.cell (h : RowN w0 w g T pos d) (i : Nat) (hi : i < d.size) : w.cell? ⟨g, i, none⟩ = some (.int .u32 (d[i]! : Int)) := h.blk.cell i _ (get_list d i hi)
theorem RowN.frozen (h : RowN w0 w g T pos d) (i : Nat) : w.frozen? ⟨g, i, none⟩ = false := h.blk.frozen i
theorem swp_list (d : Array Nat) (i j : Nat) (hi : i < d.size) (hj : j < d.size) : ((d.toList.map cN ++ pos).set i (cN d[j]!)).set j (cN d[i]!) = (Sort.swp d i j).toList.map cN ++ pos := by
  rw [List.set_append_left _ _ (by simpa using hi), List.set_append_left _ _ (by simpa using hj)]
  simp [Sort.swp, List.map_set]
theorem RowN.swap (h : RowN w0 w g T pos d) (i j : Nat) (hi : i < d.size) (hj : j < d.size) {x y : Nat} (hx : d[i]! = x) (hy : d[j]! = y) :
    RowN w0 ((w.setCell ⟨g, i, none⟩ (.int .u32 (y : Int))).setCell ⟨g, j, none⟩ (.int .u32 (x : Int))) g T pos (Sort.swp d i j) := by
  have hb := (h.blk.set_ i (cN d[j]!)).set_ j (cN d[i]!)
  rw [swp_list d i j hi hj, hx, hy] at hb
  exact ⟨hb, (h.grown.andThen (Lib.grownBy_setCell w g i _) (fun _ hj => .inr hj)).andThen (Lib.grownBy_setCell _ g j _) (fun _ hj => .inr hj), h.lt⟩
theorem swp_comm (d : Array Nat) (i j : Nat) : Sort.swp d i j = Sort.swp d j i := by
  unfold Sort.swp
  by_cases h : i = j
  · subst h; rfl
  · rw [Array.setIfInBounds_comm _ _ h]
/-- The same with the later place first. -/
theorem RowN.swap' (h : RowN w0 w g T pos d) (i j : Nat) (hi : i < d.size) (hj : j < d.size) {x y : Nat} (hx : d[i]! = x) (hy : d[j]! = y) :
    RowN w0 ((w.setCell ⟨g, j, none⟩ (.int .u32 (x : Int))).setCell ⟨g, i, none⟩ (.int .u32 (y : Int))) g T pos (Sort.swp d i j) := by
  rw [swp_comm]
  exact h.swap j i hj hi hy hx
end
end Go.Proofs.YteddogalmdgjlaaDoor
