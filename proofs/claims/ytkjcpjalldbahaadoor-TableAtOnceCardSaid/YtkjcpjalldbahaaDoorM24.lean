/- Plain: slices of texts that came in. Plain: slices of texts, nil or not, under one word. Texts cut: from, up to, between. Contract: a text, cut at its slashes, by the document. -/
import Derived.Test.YtkjcpjalldbahaaDoorM03
import Derived.Test.YtkjcpjalldbahaaDoorM04
import Derived.Test.YtkjcpjalldbahaaDoorProg
import Derived.Test.YtkjcpjalldbahaaDoorM00
import Derived.Test.YtkjcpjalldbahaaDoorM02
import Derived.Test.YtkjcpjalldbahaaDoorM23
import Derived.Outline
section
namespace Go.Proofs.YtkjcpjalldbahaaDoor
open Go.RowKit

/-- The cells from a on are these texts. -/
def Texts (w : World) (a : Addr) (l : List ByteArray) : Prop := ∀ i s, l[i]? = some s → a.block < w.heap.size ∧ w.cell? (a.add i) = some (.string s)
theorem add_block (a : Addr) (i : Nat) : (a.add i).block = a.block := by unfold Addr.add; split <;> rfl
theorem Texts.ext {w w' : World} {a : Addr} {l : List ByteArray} (h : Texts w a l) (hx : Ext w w') : Texts w' a l := fun i s hs =>
  ⟨Nat.lt_of_lt_of_le (h i s hs).1 hx.below.size, by rw [hx.below.cell (p := a.add i) (by rw [add_block]; exact (h i s hs).1)]; exact (h i s hs).2⟩
/-- The value is a row of texts, or nil. -/
def TextsV (w : World) (v : Value) (l : List ByteArray) : Prop := (v = .slice none 0 0 ∧ l = []) ∨ ∃ a c, v = .slice (some a) l.length c ∧ Texts w a l ∧ l.length ≤ 140737488355328
theorem TextsV.ext {w w' : World} {v : Value} {l : List ByteArray} (h : TextsV w v l) (hx : Ext w w') : TextsV w' v l := by
  rcases h with h | ⟨a, c, h1, h2, h3⟩
  · exact .inl h
  · exact .inr ⟨a, c, h1, h2.ext hx, h3⟩
end Go.Proofs.YtkjcpjalldbahaaDoor
end

section
namespace Go.Proofs.YtkjcpjalldbahaaDoor
open Go.RowKit
/-- The cells from the address on, if there are any, are these texts. -/
def TextsP (w : World) (p : Option Addr) (l : List ByteArray) : Prop := ∀ i s, l[i]? = some s → ∃ a, p = some a ∧ a.block < w.heap.size ∧ w.cell? (a.add i) = some (.string s)
theorem TextsP.ext {w w' : World} {p : Option Addr} {l : List ByteArray} (h : TextsP w p l) (hx : Ext w w') : TextsP w' p l := fun i s hs => by
  obtain ⟨a, h1, h2, h3⟩ := h i s hs
  exact ⟨a, h1, Nat.lt_of_lt_of_le h2 hx.below.size, by rw [hx.below.cell (p := a.add i) (by rw [add_block]; exact h2)]; exact h3⟩
theorem TextsP.below {B : Nat} {w w' : World} {p : Option Addr} {l : List ByteArray} (h : TextsP w p l) (hx : Below B w w') (hb : ∀ a, p = some a → a.block < B) : TextsP w' p l := fun i s hs => by
  obtain ⟨a, h1, h2, h3⟩ := h i s hs
  exact ⟨a, h1, Nat.lt_of_lt_of_le h2 hx.size, by rw [hx.cell (p := a.add i) (by rw [add_block]; exact hb a h1)]; exact h3⟩
theorem TextsP.grown {w w' : World} {b : Nat} {p : Option Addr} {l : List ByteArray} (h : TextsP w p l) (hx : w.grownBy w' (some b)) (hb : ∀ a, p = some a → a.block ≠ b) : TextsP w' p l := fun i s hs => by
  obtain ⟨a, h1, h2, h3⟩ := h i s hs
  have e : w'.heap[(a.add i).block]? = w.heap[(a.add i).block]? := hx.block _ (by rw [add_block]; exact h2) (by rw [add_block]; simpa using hb a h1)
  exact ⟨a, h1, Nat.lt_of_lt_of_le h2 hx.size, by rw [World.cell?_of_block (w := w) e]; exact h3⟩
theorem TextsP.none (w : World) : TextsP w none [] := fun i s hs => by simp at hs
theorem Texts.p {w : World} {a : Addr} {l : List ByteArray} (h : Texts w a l) : TextsP w (some a) l := fun i s hs => ⟨a, rfl, (h i s hs).1, (h i s hs).2⟩
theorem TextsP.alloc {w : World} {p : Option Addr} {l : List ByteArray} (h : TextsP w p l) (o : Obj) : TextsP (w.alloc o) p l := h.ext ((Ext.refl w).alloc o)
theorem TextsP.drew {w : World} {p : Option Addr} {l : List ByteArray} (h : TextsP w p l) : TextsP w.drew p l := h
/-- A slice that was grown by append, as a row of texts: nil, or not. -/
theorem BufS.texts {w : World} {B : Nat} {v : Value} {l : List ByteArray} (h : BufS w B v l) : ∃ p c, v = .slice p l.length c ∧ TextsP w p l ∧ (∀ a, p = some a → B ≤ a.block ∧ a.block < w.heap.size ∧ ∃ cur T fz, w.heap[a.block]? = some (.cells cur T fz)) ∧ (∀ a, p = some a → a = ⟨a.block, 0, .none⟩ ∧ l.length ≤ c) := by
  unfold BufS at h
  rcases h.2 with ⟨hv, h0⟩ | ⟨g, cap, cur, hv, hB, hg, hle, _, hsz, ht⟩
  · have : l = [] := List.length_eq_zero_iff.1 h0
    subst this
    exact ⟨.none, 0, hv, TextsP.none w, by simp, by simp⟩
  · refine ⟨some ⟨g, 0, .none⟩, cap, hv, fun i s hs => ⟨_, rfl, heap_lt hg, ?_⟩, fun a ha => ?_, fun a ha => ?_⟩
    · have hi : i < l.length := (List.getElem?_eq_some_iff.1 hs).1
      have e0 : ((⟨g, 0, .none⟩ : Addr).add i) = ⟨g, i, .none⟩ := by unfold Addr.add; split <;> simp_all
      rw [e0, cell_of_row w g i cur _ (0, 0) hg]
      have e : cur.toList[i]? = (l.map Value.string)[i]? := by
        rw [← ht, List.getElem?_take, if_pos (by omega)]
      rw [← Array.getElem?_toList, e]
      simp [hs]
    · cases ha
      exact ⟨hB, heap_lt hg, cur, _, _, hg⟩
    · cases ha
      exact ⟨rfl, hle⟩
end Go.Proofs.YtkjcpjalldbahaaDoor
end

section
namespace Go.Proofs.YtkjcpjalldbahaaDoor
open Go.RowKit

theorem cut_to (X : ByteArray) (c : Nat) (h : c ≤ X.size) (u : World) : (Instr.slice 9 (.string X) none (some (.int .i64 (c : Int))) none).run Tryd.prog u = .ok (.string (X.extract 0 c)) u := by
  have hj : (0 : Int) ≤ (c : Int) ∧ (c : Int) ≤ (X.size : Int) := by omega
  simp [Instr.slice, Instr.sliceBounds, Instr.sliceBound, asIntOf, run_underlying Tryd.underlying9, hj]
  intro hgt
  omega
theorem cut_from (X : ByteArray) (c : Nat) (h : c ≤ X.size) (u : World) : (Instr.slice 9 (.string X) (some (.int .i64 (c : Int))) none none).run Tryd.prog u = .ok (.string (X.extract c X.size)) u := by
  have hj : (0 : Int) ≤ (c : Int) ∧ (c : Int) ≤ (X.size : Int) := by omega
  simp [Instr.slice, Instr.sliceBounds, Instr.sliceBound, asIntOf, run_underlying Tryd.underlying9, hj]
  intro hgt
  omega
theorem cut_mid (X : ByteArray) (a c : Nat) (ha : a ≤ c) (h : c ≤ X.size) (u : World) : (Instr.slice 9 (.string X) (some (.int .i64 (a : Int))) (some (.int .i64 (c : Int))) none).run Tryd.prog u = .ok (.string (X.extract a c)) u := by
  have hj : (0 : Int) ≤ (c : Int) ∧ (c : Int) ≤ (X.size : Int) := by omega
  have hk : (0 : Int) ≤ (a : Int) ∧ (a : Int) ≤ (c : Int) := by omega
  simp [Instr.slice, Instr.sliceBounds, Instr.sliceBound, asIntOf, run_underlying Tryd.underlying9, hj, hk]
  rw [if_pos h, if_pos ha]
theorem cut_list (X : ByteArray) (a c : Nat) : (X.extract a c).data.toList = (X.data.toList.drop a).take (c - a) := by
  rw [ByteArray.data_extract, Array.toList_extract, List.extract_eq_take_drop]
end Go.Proofs.YtkjcpjalldbahaaDoor
end

section
namespace Go.Proofs.YtkjcpjalldbahaaDoor
open Go.RowKit

/-- The end of a call that answers these texts. -/
def TextsR (l : List ByteArray) (w : World) (e : Ending) (w' : World) : Prop := ∃ p c, e = .returned (.slice p l.length c) ∧ TextsP w' p l ∧ Ext w w'
/-- How far a text is cut. -/
def CutAt (S : List UInt8) (a k : Nat) (L : List (List UInt8)) : Prop := a ≤ k ∧ k ≤ S.length ∧ cuts S = L ++ cuts (S.drop a) ∧ 47 ∉ (S.drop a).take (k - a)
theorem cutAt_start (S : List UInt8) : CutAt S 0 0 [] := ⟨Nat.le_refl _, Nat.zero_le _, rfl, by simp⟩
theorem cutAt_next {S : List UInt8} {a k : Nat} {L : List (List UInt8)} (h : CutAt S a k L) {b : UInt8} (hb : S[k]? = some b) (hn : b ≠ 47) : CutAt S a (k + 1) L := by
  obtain ⟨h1, h2, h3, h4⟩ := h
  have hk : k < S.length := (List.getElem?_eq_some_iff.1 hb).1
  refine ⟨by omega, hk, h3, ?_⟩
  rw [show k + 1 - a = (k - a) + 1 by omega, List.take_add_one, List.getElem?_drop, show a + (k - a) = k by omega, hb]
  simp only [Option.toList_some, List.mem_append, List.mem_singleton, not_or]
  exact ⟨h4, Ne.symm hn⟩
theorem drop_slash {S : List UInt8} {a k : Nat} (h1 : a ≤ k) (hb : S[k]? = some 47) : S.drop a = (S.drop a).take (k - a) ++ 47 :: S.drop (k + 1) := by
  have hk : k < S.length := (List.getElem?_eq_some_iff.1 hb).1
  conv => lhs; rw [← List.take_append_drop (k - a) (S.drop a)]
  rw [List.drop_drop, show a + (k - a) = k by omega, List.drop_eq_getElem_cons hk]
  rw [List.getElem?_eq_getElem hk] at hb
  rw [Option.some.inj hb]
theorem cutAt_slash {S : List UInt8} {a k : Nat} {L : List (List UInt8)} (h : CutAt S a k L) (hb : S[k]? = some 47) : CutAt S (k + 1) (k + 1) (L ++ [(S.drop a).take (k - a)]) := by
  obtain ⟨h1, h2, h3, h4⟩ := h
  have hk : k < S.length := (List.getElem?_eq_some_iff.1 hb).1
  refine ⟨Nat.le_refl _, hk, ?_, by simp⟩
  rw [h3, drop_slash h1 hb, cuts_app, cuts_one _ h4, ← drop_slash h1 hb]
  simp
theorem cutAt_end {S : List UInt8} {a : Nat} {L : List (List UInt8)} (h : CutAt S a S.length L) : cuts S = L ++ [(S.drop a).take (S.length - a)] := by
  obtain ⟨h1, h2, h3, h4⟩ := h
  have e : (S.drop a).take (S.length - a) = S.drop a := List.take_of_length_le (by simp)
  rw [e] at h4 ⊢
  rw [h3, cuts_one _ h4]
theorem cutAt_len {S : List UInt8} {a k : Nat} {L : List (List UInt8)} (h : CutAt S a k L) : L.length ≤ S.length := by
  have h2 := count_slash S
  rw [h.2.2.1] at h2
  have h3 : 1 ≤ (cuts (S.drop a)).length := by
    have := cuts_ne (S.drop a)
    cases e : cuts (S.drop a) with
    | nil => exact absurd e this
    | cons => simp
  simp at h2
  omega
theorem extract_toB (s : ByteArray) (a k : Nat) : s.extract a k = toB ((s.data.toList.drop a).take (k - a)) := by
  apply ByteArray.ext
  apply Array.toList_inj.1
  rw [cut_list, toB_data]
end Go.Proofs.YtkjcpjalldbahaaDoor
end
