/- A law's arguments: the generic part: fields of structs, texts in a row, lists of what there is at each place. -/
import Derived.Test.YtkjcpjalldbahaaDoorM02
import Derived.Deep.Slices
import Derived.Deep.Fields
import Derived.ChangeArms
import Derived.Lib.SmallJoins
section
namespace Go.Proofs.YtkjcpjalldbahaaDoor
open Go.ChangeShapes Go.WideShapes Go.ChangeAt Go.RowKit
theorem one_at {l : List Value} {j : Nat} {v : Value} (h : (l.drop j).take 1 = [v]) : l[j]? = some v := by
  have h2 : ((l.drop j).take 1)[0]? = some v := by rw [h]; rfl
  rw [List.getElem?_take, if_pos (by decide), List.getElem?_drop] at h2
  simpa using h2
/-- A list of what there is at each place. -/
theorem list_of_all {α : Type} {P : Nat → α → Prop} : ∀ n, (∀ k, k < n → ∃ x, P k x) → ∃ L : List α, L.length = n ∧ ∀ k x, L[k]? = some x → P k x
  | 0, _ => ⟨[], rfl, fun k x h => by simp at h⟩
  | n + 1, h => by
    obtain ⟨L, hl, hp⟩ := list_of_all n (fun k hk => h k (by omega))
    obtain ⟨x, hx⟩ := h n (by omega)
    refine ⟨L ++ [x], by simp [hl], fun k y hy => ?_⟩
    rcases Nat.lt_trichotomy k n with hk | rfl | hk
    · rw [List.getElem?_append_left (by omega)] at hy
      exact hp k y hy
    · rw [List.getElem?_append_right (by omega)] at hy
      simp [hl] at hy
      subst hy
      exact hx
    · rw [List.getElem?_eq_none (by simp; omega)] at hy
      cases hy
section
variable {H : Type} {enc : TypeId × Value → H} {W : World} {base : Nat} {v : Value} {d : DataW H} {p : List MemPlace}
theorem field_at {cs : List Value} {xs : List (DataW H × List MemPlace)} {n j : Nat} {t : TypeId} {k : IntKind} (hl : j < xs.length) (ht : Tryd.prog.underlying t = some (.int k)) (h : DataW.trod enc Tryd.prog W 0 (fun _ => true) true n t ((cs.drop j).take 1) = xs[j]?) : ∃ z, cs[j]? = some (.int k z) ∧ (Lit.int k z).wf = true := by
  rw [List.getElem?_eq_getElem hl] at h
  obtain ⟨z, hz, _, hw⟩ := DataW.trod_int ht h
  exact ⟨z, one_at hz, hw⟩
theorem field_str {cs : List Value} {xs : List (DataW H × List MemPlace)} {n j : Nat} {t : TypeId} (hl : j < xs.length) (ht : Tryd.prog.underlying t = some .string) (h : DataW.trod enc Tryd.prog W 0 (fun _ => true) true n t ((cs.drop j).take 1) = xs[j]?) : ∃ s : ByteArray, cs[j]? = some (.string s) ∧ (xs.map (·.1))[j]? = some (.lit (.string s.data.toList)) := by
  have h0 := h
  rw [List.getElem?_eq_getElem hl] at h
  obtain ⟨s, hz, hx, _⟩ := DataW.trod_string ht h
  refine ⟨s, one_at hz, ?_⟩
  rw [List.getElem?_map, List.getElem?_eq_getElem hl, hx]
  rfl
theorem weightsAll_mem {P : Program} {e : TypeId} {w : Nat} {x : DataW H} : ∀ {l : List (DataW H)}, x ∈ l → w ∈ x.weights P e → w ∈ DataW.weightsAll P e l
  | [], h, _ => by cases h
  | a :: r, h, hw => by
    simp only [DataW.weightsAll, List.mem_append]
    rcases List.mem_cons.1 h with rfl | h
    · exact .inl hw
    · exact .inr (weightsAll_mem h hw)
theorem open_texts_f {a0 : Option Addr} {len cap : Nat} {fuel : Nat} (hf : DataW.trod enc Tryd.prog W 0 (fun _ => true) true fuel 25 [.slice a0 len cap] = some (d, p)) (hlt : ∀ x ∈ p, x.block < W.heap.size)
    {ts : List TypeId} {ds : List (DataW H)} {j : Nat} (hsz : (DataW.weightsEach Tryd.prog ts ds).all (· ≤ reachBytes) = true) (ht : ts[j]? = some 25) (hd : ds[j]? = some d) :
    ∃ (pa : Option Addr) (c : Nat) (l : List ByteArray), (Value.slice a0 len cap) = .slice pa (List.length l) c ∧ TextsP W pa l ∧ (l.length ≤ 140737488355328 ∧ ∀ s, s ∈ l → s.size ≤ 140737488351232) ∧ l.length ≤ c ∧ (pa = none → c = 0) := by
  rcases open_strings Tryd.underlying25 Tryd.underlying9 cells_string hf with ⟨hcs, hx⟩ | ⟨a, len', cap', ss, hcs, _, hl, hm, hz, hx, hcell, _⟩
  · exact ⟨none, 0, [], by simpa [Value.cells] using hcs, TextsP.none W, by simp, by simp, by simp⟩
  · simp at hcs
    obtain ⟨rfl, rfl, rfl⟩ := hcs
    simp only [Prod.mk.injEq] at hx
    obtain ⟨rfl, rfl⟩ := hx
    simp only [if_true] at hz
    have hll : (ss.take len).length = len := by rw [List.length_take]; omega
    have hr := sized_slice hsz ht hd Tryd.underlying25
    rw [bytes_string] at hr
    simp only [strs, List.length_map, List.length_take, List.length_drop, reachBytes] at hr
    refine ⟨some a, cap, ss.take len, by rw [hll], fun i s hs => ⟨a, rfl, ?_⟩, ⟨by rw [hll]; omega, fun s hs => ?_⟩, by rw [hll]; exact hl, fun e => by cases e⟩
    · have hi : i < len := by
        have := (List.getElem?_eq_some_iff.1 hs).1
        omega
      rw [List.getElem?_take, if_pos hi] at hs
      have hc := hcell i (by omega)
      have e : ss.getD i ByteArray.empty = s := by rw [List.getD_eq_getElem?_getD, hs]; rfl
      rw [e] at hc
      exact ⟨hlt (.cell a.block (a.off + i)) (MemPlace.mem_row.2 ⟨i, by omega, rfl⟩), hc⟩
    · have hw := DataW.weights_mem_each (P := Tryd.prog) ht hd s.data.toList.length (by
        simp only [DataW.weights, Tryd.underlying25, List.mem_cons, List.mem_append]
        exact .inr (.inl (weights_strs _ _ s hs)))
      have := List.all_eq_true.1 hsz _ hw
      simp only [decide_eq_true_eq, reachBytes, size_list] at this
      omega
theorem field_bool {cs : List Value} {xs : List (DataW H × List MemPlace)} {n j : Nat} {t : TypeId} (hl : j < xs.length) (ht : Tryd.prog.underlying t = some .bool) (h : DataW.trod enc Tryd.prog W 0 (fun _ => true) true n t ((cs.drop j).take 1) = xs[j]?) : ∃ z, cs[j]? = some (.bool z) := by
  rw [List.getElem?_eq_getElem hl] at h
  obtain ⟨z, hz, _⟩ := DataW.trod_bool ht h
  exact ⟨z, one_at hz⟩
end
end Go.Proofs.YtkjcpjalldbahaaDoor
end
