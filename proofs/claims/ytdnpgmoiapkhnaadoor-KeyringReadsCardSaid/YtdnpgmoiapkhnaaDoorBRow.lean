/- A text's bytes in a row of their own, as a conversion lays them: what is read, and written, there. -/
import Derived.Test.YtdnpgmoiapkhnaaDoorProg
import Derived.Test.YtdnpgmoiapkhnaaDoorM01
import Derived.Lib.ConvBytes
import Derived.Laws.AppendOwn
namespace Go.Proofs.YtdnpgmoiapkhnaaDoor
open Go.RowKit

/-- Block g begins with these bytes, and is not frozen there. -/
def BRow (w : World) (g : Nat) (t : TypeId) (l : List UInt8) : Prop := ∃ (rest : List Value) (fz : Nat × Nat), w.heap[g]? = some (.cells (l.map cellOf ++ rest).toArray t fz) ∧ l.length ≤ fz.1
section
variable {w w' : World} {g : Nat} {t : TypeId} {l : List UInt8}
theorem BRow.lt (h : BRow w g t l) : g < w.heap.size := by obtain ⟨_, _, h, _⟩ := h; exact heap_lt h
theorem BRow.cell (h : BRow w g t l) (i : Nat) (b : UInt8) (hb : l[i]? = some b) : w.cell? ⟨g, i, none⟩ = some (.int .u8 (b.toNat : Int)) := by
  obtain ⟨rest, fz, h, _⟩ := h
  have hi : i < l.length := (List.getElem?_eq_some_iff.1 hb).1
  rw [cell_of_row w g i _ t fz h]
  rw [List.getElem?_eq_getElem hi] at hb
  obtain rfl := Option.some.inj hb
  simp [List.getElem?_append_left, hi, cellOf]
theorem BRow.frozen (h : BRow w g t l) (i : Nat) (hi : i < l.length) : w.frozen? ⟨g, i, none⟩ = false := by
  obtain ⟨rest, ⟨lo, hi2⟩, h, hl⟩ := h
  have : ¬ lo ≤ i := by simp only at hl; omega
  simp [World.frozen?, h, this]
theorem BRow.set_ (h : BRow w g t l) (i : Nat) (hi : i < l.length) (x : Int) (b : UInt8) (hx : x = (b.toNat : Int)) : BRow (w.setCell ⟨g, i, none⟩ (.int .u8 x)) g t (l.set i b) := by
  subst hx
  obtain ⟨rest, fz, h, hl⟩ := h
  refine ⟨rest, fz, ?_, by simpa using hl⟩
  have e : (l.map cellOf ++ rest).set i (.int .u8 (b.toNat : Int)) = (l.set i b).map cellOf ++ rest := by
    rw [List.set_append_left _ _ (by simpa using hi), List.map_set]; rfl
  simp [World.setCell, Array.getElem?_modify, h]
  rw [e, List.map_set]
theorem BRow.ext (h : BRow w g t l) (hb : Ext w w') : BRow w' g t l := by
  have hlt := h.lt
  obtain ⟨rest, fz, h, hl⟩ := h
  exact ⟨rest, fz, (hb.block g hlt).trans h, hl⟩
set_option maxRecDepth 100000 in
/-- The text of the first n bytes. -/
theorem BRow.text (h : BRow w g t l) (n c : Nat) (hn : n ≤ l.length) :
    (convert 35 9 (.slice (some ⟨g, 0, none⟩) n c)).run Tryd.prog w = .ok (.string ⟨(l.take n).toArray⟩) w := by
  have hc := run_convert_bytes_arg (P := Tryd.prog) w 35 5 Tryd.underlying35 Tryd.underlying5 g 0 n c ((l.take n).map fun c => (c.toNat : Int)) (by simp; omega) (by
    intro i hi
    have hi2 : i < l.length := by omega
    have := h.cell i l[i] (List.getElem?_eq_getElem hi2)
    simpa [List.getD, hi, List.getElem?_eq_getElem hi2] using this) 9 Tryd.underlying9
  rw [hc]
  have e : strOfNums ((l.take n).map fun c => (c.toNat : Int)) = ⟨(l.take n).toArray⟩ := by
    unfold strOfNums
    congr 2
    rw [List.map_map]
    conv => rhs; rw [← List.map_id (l.take n)]
    apply List.map_congr_left
    intro b _
    simp
  rw [e]
end
/-- What a conversion of a text lays. -/
theorem bytes_of_text (w : World) (s : ByteArray) : ∃ (c : Nat) (W : World), (convert 9 35 (.string s)).run Tryd.prog w = .ok (.slice (some ⟨w.heap.size, 0, none⟩) s.size c) W ∧ s.size ≤ c ∧ Ext w W ∧ BRow W w.heap.size 5 s.data.toList := by
  refine ⟨grownCap w s.size 0 5, Lib.bytesWorld w 5 s, Lib.run_convert_string_bytes (P := Tryd.prog) w 9 35 5 s Tryd.underlying9 Tryd.underlying35 Tryd.underlying5, grownCap_ge w s.size 0 5, ?_, ?_⟩
  · refine ⟨?_, ?_, ?_, by rw [Lib.bytesWorld_size]; omega, fun k hk => Lib.bytesWorld_at_old w _ s k hk⟩
    all_goals
      unfold Lib.bytesWorld World.freeze
      split <;> rfl
  · refine ⟨List.replicate (grownCap w s.size 0 5 - s.size) (.int .u8 0), ((Lib.bytesCells w 5 s).size, (Lib.bytesCells w 5 s).size + 1), ?_, ?_⟩
    · rw [Lib.bytesWorld_at_new]
      have e : Lib.bytesCells w 5 s = (s.data.toList.map cellOf ++ List.replicate (grownCap w s.size 0 5 - s.size) (Value.int .u8 0)).toArray := by
        unfold Lib.bytesCells
        apply Array.toList_inj.1
        simp
        intro a _
        rfl
      rw [← e]
    · have := grownCap_ge w s.size 0 5
      simp [Lib.bytesCells]
end Go.Proofs.YtdnpgmoiapkhnaaDoor
