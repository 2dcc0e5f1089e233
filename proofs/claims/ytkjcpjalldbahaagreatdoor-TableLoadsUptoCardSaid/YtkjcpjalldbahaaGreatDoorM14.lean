/- Plain: a version of a cell written over, in place. -/
import Derived.Test.YtkjcpjalldbahaaGreatDoorM13
section
namespace Go.Proofs.YtkjcpjalldbahaaGreatDoor
open Go.RowKit

section
variable {w w' : World} {B : Nat} {a : Addr} {c k : Nat} {L : List Ver}
theorem IsV.addr (h : IsV w B (some a) c L) : ∃ g, a = ⟨g, 0, none⟩ := by
  rcases h.sl.2.2.1 with e | ⟨g, e⟩
  · cases e
  · cases e; exact ⟨g, rfl⟩
theorem vsCells_set (L : List Ver) (k : Nat) (v : Ver) (j : Nat) (u : Value) (h : (vsCells (L.set k v))[j]? = some u) (hk : k < L.length) : (j / 3 = k ∧ v.cells[j % 3]? = some u) ∨ (j / 3 ≠ k ∧ (vsCells L)[j]? = some u) := by
  have hl : j < L.length * 3 := by
    have := (List.getElem?_eq_some_iff.1 h).1
    rwa [vsCells_length, List.length_set] at this
  have e3 : j / 3 * 3 + j % 3 = j := by omega
  have hm : j % 3 < 3 := Nat.mod_lt _ (by decide)
  by_cases e : j / 3 = k
  · left
    refine ⟨e, ?_⟩
    obtain ⟨u', hu⟩ : ∃ u', v.cells[j % 3]? = some u' := ⟨_, List.getElem?_eq_getElem (by simp only [Ver.cells, List.length_cons, List.length_nil]; omega)⟩
    have := vsCells_get (L.set k v) (j / 3) v (by rw [e]; simp [hk]) _ _ hu
    rw [e3, h] at this
    rw [hu, ← this]
  · right
    refine ⟨e, ?_⟩
    obtain ⟨x, hx⟩ : ∃ x, L[j / 3]? = some x := ⟨_, List.getElem?_eq_getElem (by omega)⟩
    obtain ⟨u', hu⟩ : ∃ u', x.cells[j % 3]? = some u' := ⟨_, List.getElem?_eq_getElem (by simp only [Ver.cells, List.length_cons, List.length_nil]; omega)⟩
    have h1 := vsCells_get (L.set k v) (j / 3) x (by rw [List.getElem?_set_ne (Ne.symm e)]; exact hx) _ _ hu
    have h2 := vsCells_get L (j / 3) x hx _ _ hu
    rw [e3] at h1 h2
    rw [h2, ← h1, h]
/-- It may be written. -/
theorem IsV.loose (h : IsV w B (some a) c L) (hk : k < L.length) : w.frozen? (a.add (k * 3)) = false ∧ w.frozen? ⟨(a.add (k * 3)).block, (a.add (k * 3)).off + 1, none⟩ = false ∧ w.frozen? ⟨(a.add (k * 3)).block, (a.add (k * 3)).off + 2, none⟩ = false := by
  obtain ⟨g, cur, e, _, hg, _⟩ := h.sl.2.2.2 (by have := h.le; omega)
  cases e
  rw [Addr.add_mid]
  exact ⟨by simp [World.frozen?, hg], by simp [World.frozen?, hg], by simp [World.frozen?, hg]⟩
theorem IsV.put (h : IsV w B (some a) c L) (hk : k < L.length) (v : Ver) :
    IsV (((w.setCell (a.add (k * 3)) (.int .u64 (v.n : Int))).setCell ⟨(a.add (k * 3)).block, (a.add (k * 3)).off + 1, none⟩ (.int .u8 (v.s : Int))).setCell ⟨(a.add (k * 3)).block, (a.add (k * 3)).off + 2, none⟩ (.string v.t)) B (some a) c (L.set k v) ∧
    KeepV B w (((w.setCell (a.add (k * 3)) (.int .u64 (v.n : Int))).setCell ⟨(a.add (k * 3)).block, (a.add (k * 3)).off + 1, none⟩ (.int .u8 (v.s : Int))).setCell ⟨(a.add (k * 3)).block, (a.add (k * 3)).off + 2, none⟩ (.string v.t)) := by
  obtain ⟨g, cur, e, e1, hg, hcs, hcell⟩ := h.sl.2.2.2 (by have := h.le; omega)
  have hlow := h.low g e
  cases e
  rw [Addr.add_mid, Nat.zero_add]
  have hW : (((w.setCell ⟨g, k * 3, none⟩ (.int .u64 (v.n : Int))).setCell ⟨g, k * 3 + 1, none⟩ (.int .u8 (v.s : Int))).setCell ⟨g, k * 3 + 2, none⟩ (.string v.t)) = w.setCells g (k * 3) v.cells := rfl
  rw [hW]
  obtain ⟨cur', q1, q2, q3, q4⟩ := setCells_block g v.cells (k * 3) w cur 41 hg
  have hks : k * 3 + 3 ≤ cur.size := by have := h.le; have : (k + 1) * 3 ≤ c * 3 := Nat.mul_le_mul_right _ (by omega); omega
  refine ⟨⟨⟨by rw [vsCells_length], by rw [List.length_set]; exact h.le, .inr ⟨g, rfl⟩, fun _ => ⟨g, cur', rfl, e1, q1, by rw [q2]; exact hcs, fun j u hj => ?_⟩⟩, h.low⟩, keepV_setCells hg hlow _ _⟩
  rcases vsCells_set L k v j u hj hk with ⟨ej, hu⟩ | ⟨ej, hu⟩
  · have hm : j % 3 < 3 := Nat.mod_lt _ (by decide)
    have := q4 (j % 3) u hu (by omega)
    rwa [show k * 3 + j % 3 = j by omega] at this
  · have hold := hcell j u hu
    by_cases hlt : j < k * 3
    · rw [q3 j hlt]; exact hold
    · have hge : k * 3 + 3 ≤ j := by
        have : k < j / 3 := by omega
        omega
      have hfar : ∀ (vs : List Value) (o : Nat) (w0 : World) (c0 : Array Value), w0.heap[g]? = some (.cells c0 41 (0, 0)) → o + vs.length ≤ j → ∃ c1, (w0.setCells g o vs).heap[g]? = some (.cells c1 41 (0, 0)) ∧ c1[j]? = c0[j]? := by
        intro vs
        induction vs with
        | nil => intro o w0 c0 h0 _; exact ⟨c0, h0, rfl⟩
        | cons x r ih =>
          intro o w0 c0 h0 hl
          have h1 : (w0.setCell ⟨g, o, none⟩ x).heap[g]? = some (.cells (c0.setIfInBounds o x) 41 (0, 0)) := by
            simp [World.setCell, Array.getElem?_modify, h0]
          obtain ⟨c1, h2, h3⟩ := ih (o + 1) _ _ h1 (by simp at hl ⊢; omega)
          refine ⟨c1, h2, ?_⟩
          rw [h3, Array.getElem?_setIfInBounds]
          simp at hl
          simp [show ¬ o = j by omega]
      obtain ⟨c1, f1, f2⟩ := hfar v.cells (k * 3) w cur hg (by simp only [Ver.cells, List.length_cons, List.length_nil]; omega)
      rw [q1] at f1
      cases f1
      rw [f2]
      exact hold
theorem IsV.block (h : IsV w B (some a) c L) : ∃ g, a = ⟨g, 0, none⟩ ∧ B ≤ g := by
  obtain ⟨g, rfl⟩ := h.addr
  exact ⟨g, rfl, h.low g rfl⟩
theorem IsV.lit {g : Nat} (h : IsV w B (some ⟨g, 0, none⟩) c L) {v x : Ver} (hv : L[k]? = some v) :
    (w.cell? ⟨g, k * 3, none⟩ = some (.int .u64 (v.n : Int)) ∧ w.cell? ⟨g, k * 3 + 1, none⟩ = some (.int .u8 (v.s : Int)) ∧ w.cell? ⟨g, k * 3 + 2, none⟩ = some (.string v.t)) ∧
    (w.frozen? ⟨g, k * 3, none⟩ = false ∧ w.frozen? ⟨g, k * 3 + 1, none⟩ = false ∧ w.frozen? ⟨g, k * 3 + 2, none⟩ = false) ∧
    IsV (((w.setCell ⟨g, k * 3, none⟩ (.int .u64 (x.n : Int))).setCell ⟨g, k * 3 + 1, none⟩ (.int .u8 (x.s : Int))).setCell ⟨g, k * 3 + 2, none⟩ (.string x.t)) B (some ⟨g, 0, none⟩) c (L.set k x) ∧
    KeepV B w (((w.setCell ⟨g, k * 3, none⟩ (.int .u64 (x.n : Int))).setCell ⟨g, k * 3 + 1, none⟩ (.int .u8 (x.s : Int))).setCell ⟨g, k * 3 + 2, none⟩ (.string x.t)) := by
  have hk : k < L.length := (List.getElem?_eq_some_iff.1 hv).1
  obtain ⟨a', e, c0, c1, c2⟩ := h.vers.three (Ext.refl w) hv
  cases e
  have l := h.loose hk
  have q := h.put hk x
  rw [Addr.add_mid, Nat.zero_add] at c0 c1 c2 l q
  exact ⟨⟨c0, c1, c2⟩, l, q.1, q.2⟩
end
end Go.Proofs.YtkjcpjalldbahaaGreatDoor
end
