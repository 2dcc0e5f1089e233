/- Texts in a row among a law's arguments, opened: what its walk asks of them. -/
import Derived.Test.YtbobijgbemnmiaaTextsP
import Derived.SizedLaws
import Derived.SliceStrings
import Derived.ChangeSlices
import Derived.Carry
namespace Go.Proofs.Ytbobijgbemnmiaa
open Go.ChangeShapes Go.WideShapes Go.ChangeAt Go.RowKit

theorem laidOut : laidOutB Try.prog = true := by kernel_rfl
theorem cells_string : Try.prog.cellsOf 9 = 1 := by kernel_rfl
theorem bytes_string : Try.prog.bytesOf 9 = 16 := by kernel_rfl
section
variable {H : Type} {enc : TypeId × Value → H} {W : World} {base : Nat} {v : Value} {d : DataW H} {p : List MemPlace}
theorem weights_strs (e : TypeId) (l : List ByteArray) (s : ByteArray) (hs : s ∈ l) : s.data.toList.length ∈ DataW.weightsAll Try.prog e (strs (H := H) l) := by
  induction l with
  | nil => cases hs
  | cons x r ih =>
    simp only [strs, List.map_cons, DataW.weightsAll, List.mem_append]
    rcases List.mem_cons.1 hs with rfl | h
    · left; simp [DataW.weights]
    · right; exact ih h
set_option maxRecDepth 100000 in
theorem open_texts_p (hval : Value.okWide Try.prog W .any base 45 v) (h : DataW.Trod enc Try.prog W 0 (fun _ => true) true 45 v d p) (hlt : ∀ x ∈ p, x.block < W.heap.size)
    {ts : List TypeId} {ds : List (DataW H)} {j : Nat} (hsz : (DataW.weightsEach Try.prog ts ds).all (· ≤ reachBytes) = true) (ht : ts[j]? = some 45) (hd : ds[j]? = some d) :
    ∃ (pa : Option Addr) (c : Nat) (l : List ByteArray), v = .slice pa (List.length l) c ∧ TextsP W pa l ∧ l.length ≤ 140737488355328 ∧ ∀ s, s ∈ l → s.size ≤ 140737488351232 := by
  obtain ⟨a0, len, cap, rfl⟩ := okWide_slice Try.underlying45 hval
  obtain ⟨fuel, hf⟩ := h
  rcases open_strings Try.underlying45 Try.underlying9 cells_string hf with ⟨hcs, hx⟩ | ⟨a, len', cap', ss, hcs, _, hl, hm, hz, hx, hcell, _⟩
  · exact ⟨none, 0, [], by simpa [Value.cells] using hcs, TextsP.none W, by simp, by simp⟩
  · simp [Value.cells] at hcs
    obtain ⟨rfl, rfl, rfl⟩ := hcs
    simp only [Prod.mk.injEq] at hx
    obtain ⟨rfl, rfl⟩ := hx
    simp only [if_true] at hz
    have hll : (ss.take len).length = len := by rw [List.length_take]; omega
    have hr := sized_slice hsz ht hd Try.underlying45
    rw [bytes_string] at hr
    simp only [strs, List.length_map, List.length_take, List.length_drop, reachBytes] at hr
    refine ⟨some a, cap, ss.take len, by rw [hll], fun i s hs => ⟨a, rfl, ?_⟩, by rw [hll]; omega, fun s hs => ?_⟩
    · have hi : i < len := by
        have := (List.getElem?_eq_some_iff.1 hs).1
        omega
      rw [List.getElem?_take, if_pos hi] at hs
      have hc := hcell i (by omega)
      have e : ss.getD i ByteArray.empty = s := by rw [List.getD_eq_getElem?_getD, hs]; rfl
      rw [e] at hc
      exact ⟨hlt (.cell a.block (a.off + i)) (MemPlace.mem_row.2 ⟨i, by omega, rfl⟩), hc⟩
    · have hw := DataW.weights_mem_each (P := Try.prog) ht hd s.data.toList.length (by
        simp only [DataW.weights, Try.underlying45, List.mem_cons, List.mem_append]
        exact .inr (.inl (weights_strs _ _ s hs)))
      have := List.all_eq_true.1 hsz _ hw
      simp only [decide_eq_true_eq, reachBytes, size_list] at this
      omega
end
end Go.Proofs.Ytbobijgbemnmiaa
