/- Plain words of a block of numbers of 32 bits in memory. -/
import Derived.Test.YthglecfbcdikaaaBlk
import Derived.Laws.Rows
import Derived.Laws.Tables
import Derived.Laws.World
import Derived.Deep.MidRow
namespace Go.Proofs.Ythglecfbcdikaaa
open Go.RowKit

/-- A number in memory. -/
def cell32 (n : Nat) : Value := .int .u32 (n : Int)
/-- Block g holds just these numbers. -/
def Row32 (w : World) (g : Nat) (t : TypeId) (l : List Nat) : Prop := w.heap[g]? = some (.cells (l.map cell32).toArray t (0, 0))
section
variable {w w' : World} {g : Nat} {t : TypeId} {l : List Nat}
theorem Row32.lt (h : Row32 w g t l) : g < w.heap.size := heap_lt h
theorem Row32.cell (h : Row32 w g t l) (i : Nat) (hi : i < l.length) : w.cell? ⟨g, i, none⟩ = some (.int .u32 (l.getD i 0 : Nat)) := by
  rw [cell_of_row w g i _ t (0, 0) h]; simp [List.getElem?_eq_getElem hi, cell32]
theorem Row32.frozen (h : Row32 w g t l) (i : Nat) : w.frozen? ⟨g, i, none⟩ = false := by
  unfold Row32 at h
  simp [World.frozen?, h]
theorem Row32.drew (h : Row32 w g t l) : Row32 w.drew g t l := h
theorem Row32.drewN (h : Row32 w g t l) (n : Nat) : Row32 (w.drewN n) g t l := h
theorem Row32.alloc (h : Row32 w g t l) (o : Obj) : Row32 (w.alloc o) g t l := (Below.heap_alloc w o g h.lt).trans h
theorem Row32.new (w : World) (l : List Nat) (t : TypeId) : Row32 (w.alloc (.cells (l.map cell32).toArray t)) w.heap.size t l := heap_alloc_new w _
theorem Row32.set_ (h : Row32 w g t l) (i : Nat) (x : Int) (y : Nat) (e : x = (y : Int)) : Row32 (w.setCell ⟨g, i, none⟩ (.int .u32 x)) g t (l.set i y) := by
  subst e
  unfold Row32 at h ⊢
  simp [World.setCell, Array.getElem?_modify, h, List.map_set, cell32]
theorem Row32.below {B : Nat} (h : Row32 w g t l) (hb : Below B w w') (hg : g < B) : Row32 w' g t l := (hb.block g hg).trans h
theorem Row32.ext (h : Row32 w g t l) (hb : Ext w w') : Row32 w' g t l := h.below hb h.lt
theorem Row32.other (h : Row32 w g t l) {b : Nat} (hb : g ≠ b) (o : Nat) (u : Value) : Row32 (w.setCell ⟨b, o, none⟩ u) g t l := by
  unfold Row32 at h ⊢
  simp [World.setCell, Array.getElem?_modify, h, Ne.symm hb]
end
theorem cells32_one (l : List Nat) : ((l.map cell32).toArray).all (·.oneCell') = true := by
  rw [Array.all_eq_true_iff_forall_mem]
  intro v hv
  simp only [List.mem_toArray, List.mem_map] at hv
  obtain ⟨n, _, rfl⟩ := hv
  rfl
/-- Filled from the front. -/
theorem set_zero32 (l : List Nat) (n x : Nat) (h : l.length < n) : (l ++ List.replicate (n - l.length) 0).set l.length x = (l ++ [x]) ++ List.replicate (n - (l.length + 1)) 0 := by
  have e2 : n - l.length = (n - (l.length + 1)) + 1 := by omega
  rw [List.set_append_right _ _ (Nat.le_refl _), Nat.sub_self, e2, List.replicate_succ]
  simp
end Go.Proofs.Ythglecfbcdikaaa
