/- Plain: slices of texts that came in. -/
import Derived.Test.YtbobijgbemnmiaaHeap
namespace Go.Proofs.Ytbobijgbemnmiaa
open Go.RowKit

/-- The cells from a on are these texts. -/
def Texts (w : World) (a : Addr) (l : List ByteArray) : Prop := ∀ i s, l[i]? = some s → a.block < w.heap.size ∧ w.cell? (a.add i) = some (.string s)
theorem add_block (a : Addr) (i : Nat) : (a.add i).block = a.block := by unfold Addr.add; split <;> rfl
theorem Texts.ext {w w' : World} {a : Addr} {l : List ByteArray} (h : Texts w a l) (hx : Ext w w') : Texts w' a l := fun i s hs =>
  ⟨Nat.lt_of_lt_of_le (h i s hs).1 hx.below.size, by rw [hx.below.cell (p := a.add i) (by rw [add_block]; exact (h i s hs).1)]; exact (h i s hs).2⟩
/-- The value is a row of texts, or nil. -/
def TextsV (w : World) (v : Value) (l : List ByteArray) : Prop := (v = .slice none 0 0 ∧ l = []) ∨ ∃ a c, v = .slice (some a) l.length c ∧ Texts w a l ∧ l.length ≤ 140737488355328
theorem TextsV.ext {w w' : World} {v : Value} {l : List ByteArray} (h : TextsV w v l) (hx : Ext w w') : TextsV w' v l := by
  rcases h with h | ⟨a, c, h1, h2, h3⟩
  · exact .inl h
  · exact .inr ⟨a, c, h1, h2.ext hx, h3⟩
end Go.Proofs.Ytbobijgbemnmiaa
