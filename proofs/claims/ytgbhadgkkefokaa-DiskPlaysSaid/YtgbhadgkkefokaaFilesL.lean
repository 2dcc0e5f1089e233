/- Contract: what all files have, as a law asks it; texts of the call's own. -/
import Derived.Test.YtgbhadgkkefokaaRefD
import Derived.Test.YtgbhadgkkefokaaDo
namespace Go.Proofs.Ytgbhadgkkefokaa
open Go.RowKit
/-- A slice of texts that lies in blocks from n0 up to n1. -/
def TX (w : World) (p : Option Addr) (l : List Value) (n0 n1 : Nat) : Prop := n1 ≤ w.heap.size ∧ ∀ (j : Nat) (u : Value), l[j]? = some u → ∃ g, p = some ⟨g, 0, none⟩ ∧ n0 ≤ g ∧ g < n1 ∧ w.cell? ⟨g, j, none⟩ = some u
theorem TX.keep {w w' : World} {p : Option Addr} {l : List Value} {n0 n1 : Nat} (h : TX w p l n0 n1) (hs : w.heap.size ≤ w'.heap.size) (hb : ∀ g, n0 ≤ g → g < n1 → w'.heap[g]? = w.heap[g]?) : TX w' p l n0 n1 :=
  ⟨Nat.le_trans h.1 hs, fun j u hu => by
    obtain ⟨g, h1, h2, h3, h4⟩ := h.2 j u hu
    exact ⟨g, h1, h2, h3, (World.cell?_of_block (w := w) (a := ⟨g, j, none⟩) (hb g h2 h3)).trans h4⟩⟩
theorem TX.ext {w w' : World} {p : Option Addr} {l : List Value} {n0 n1 : Nat} (h : TX w p l n0 n1) (hx : Ext w w') : TX w' p l n0 n1 := h.keep hx.size (fun g _ hg => hx.block g (Nat.lt_of_lt_of_le hg h.1))
theorem TX.fr {w w' : World} {p : Option Addr} {l : List Value} {n0 n1 : Nat} {κ κ' : Foot} (h : TX w p l n0 n1) (f : Fr κ (2 ≤ ·) w w' κ') (hz : ∀ g, n0 ≤ g → g < n1 → κ g = 0) : TX w' p l n0 n1 ∧ ∀ g, n0 ≤ g → g < n1 → κ' g = 0 :=
  ⟨h.keep f.size (fun g h1 h2 => f.other g (Nat.lt_of_lt_of_le h2 h.1) (by rw [hz g h1 h2]; decide)), fun g h1 h2 => (f.foot g (Nat.lt_of_lt_of_le h2 h.1)).trans (hz g h1 h2)⟩
end Go.Proofs.Ytgbhadgkkefokaa
