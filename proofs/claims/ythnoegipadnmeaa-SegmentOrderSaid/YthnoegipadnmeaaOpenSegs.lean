/- A slice of segments among a law's arguments, opened: what its walk asks of it. -/
import Derived.Test.YthnoegipadnmeaaSegBase
namespace Go.Proofs.Ythnoegipadnmeaa
open Go.ChangeShapes Go.WideShapes Go.ChangeAt Go.RowKit
theorem bytes_seg : Try.prog.bytesOf 25 = 80 := by kernel_rfl
section
variable {H : Type} {enc : TypeId × Value → H} {W : World} {base : Nat} {v : Value} {d : DataW H} {p : List MemPlace}
set_option maxRecDepth 100000 in
theorem open_segs_p (hval : Value.okWide Try.prog W .any base 42 v) (h : DataW.Trod enc Try.prog W 0 (fun _ => true) true 42 v d p) (hlt : ∀ x ∈ p, x.block < W.heap.size)
    {ts : List TypeId} {ds : List (DataW H)} {j : Nat} (hsz : (DataW.weightsEach Try.prog ts ds).all (· ≤ reachBytes) = true) (ht : ts[j]? = some 42) (hd : ds[j]? = some d) :
    ∃ (pa : Option Addr) (c : Nat) (L : List Seg), v = .slice pa L.length c ∧ SegsP W pa L ∧ (∀ x, x ∈ L → x.Ok) ∧ L.length ≤ 140737488355328 := by
  obtain ⟨a0, len, cap, rfl⟩ := okWide_slice Try.underlying42 hval
  obtain ⟨fuel, hf⟩ := h
  rcases Deep.open_slice Try.underlying42 hf with ⟨hcs, hx⟩ | ⟨a, len', cap', m, n, D, Pl, hcs, _, hl, hm, hmm, hx, hi⟩
  · simp [Value.cells] at hcs
    obtain ⟨rfl, rfl, rfl⟩ := hcs
    exact ⟨none, 0, [], rfl, fun k x hk => by simp at hk, fun x hx => by simp at hx, by simp⟩
  · simp [Value.cells] at hcs
    obtain ⟨rfl, rfl, rfl⟩ := hcs
    simp only [Prod.mk.injEq] at hx
    obtain ⟨rfl, rfl⟩ := hx
    simp only [if_true] at hmm
    subst hmm
    have hr := sized_slice hsz ht hd Try.underlying42
    rw [bytes_seg] at hr
    simp only [List.length_map, List.length_range, reachBytes] at hr
    obtain ⟨L, hL, hP⟩ := list_of_all (α := Seg) (P := fun k x => x.Ok ∧ a.block < W.heap.size ∧ ∃ q c, TextsP W q x.r ∧ ∀ (i : Nat) (u : Value), (segC x (.slice q x.r.length c))[i]? = some u → W.cell? (a.add (k * 7 + i)) = some u) len (fun k hk => by
      obtain ⟨cs', hc, htr⟩ := hi k (by omega)
      rw [cells_seg] at hc
      obtain ⟨_, hcl, hat⟩ := World.cells?_some hc
      obtain ⟨q, c, x, rfl, h1, h2, _⟩ := open_seg_cells htr (fun y hy => hlt y (List.mem_append_right _ (List.mem_flatMap.2 ⟨k, List.mem_range.2 (by omega), hy⟩))) (fun w hw => by
        have hw2 := DataW.weights_mem_each (P := Try.prog) ht hd w (by
          simp only [DataW.weights, Try.underlying42, List.mem_cons, List.mem_append]
          exact .inr (.inl (weightsAll_mem (x := D k) (List.mem_map.2 ⟨k, List.mem_range.2 hk, rfl⟩) hw)))
        have := List.all_eq_true.1 hsz _ hw2
        simpa using this)
      refine ⟨x, h2, hlt (.cell a.block (a.off + k * 7)) (List.mem_append_left _ (MemPlace.mem_row.2 ⟨k * 7, by rw [cells_seg]; omega, rfl⟩)), q, c, h1, fun i u hu => ?_⟩
      have hi7 : i < 7 := (List.getElem?_eq_some_iff.1 hu).1
      have := hat i hi7
      rw [Deep.add_add] at this
      rw [this]
      exact hu)
    refine ⟨some a, m, L, by rw [hL], fun k x hk => ?_, fun x hx => ?_, by rw [hL]; omega⟩
    · obtain ⟨_, h2, q, c, h3, h4⟩ := hP k x hk
      exact ⟨a, q, c, rfl, h2, h3, h4⟩
    · obtain ⟨k, hk⟩ := List.getElem?_of_mem hx
      exact (hP k x hk).1
end
end Go.Proofs.Ythnoegipadnmeaa
