/- A slice of steps among a law's arguments, opened: what its walk asks of it. -/
import Derived.Test.YtgbhadgkkefokaaOpenArgs
import Derived.Test.YtgbhadgkkefokaaSteps
import Derived.Deep.Slices
import Derived.Deep.Fields
import Derived.ChangeArms
namespace Go.Proofs.Ytgbhadgkkefokaa
open Go.ChangeShapes Go.WideShapes Go.ChangeAt Go.RowKit
theorem cells_step : Try.prog.cellsOf 32 = 6 := by kernel_rfl
theorem bytes_step : Try.prog.bytesOf 32 = 56 := by kernel_rfl
theorem cells_u8' : Try.prog.cellsOf 5 = 1 := by kernel_rfl
theorem cells_int' : Try.prog.cellsOf 3 = 1 := by kernel_rfl
theorem one_at {l : List Value} {j : Nat} {v : Value} (h : (l.drop j).take 1 = [v]) : l[j]? = some v := by
  have h2 : ((l.drop j).take 1)[0]? = some v := by rw [h]; rfl
  rw [List.getElem?_take, if_pos (by decide), List.getElem?_drop] at h2
  simpa using h2
/-- A list of what there is at each place. -/
theorem list_of_all {α : Type} {P : Nat → α → Prop} : ∀ n, (∀ k, k < n → ∃ x, P k x) → ∃ L : List α, L.length = n ∧ ∀ k x, L[k]? = some x → P k x
  | 0, _ => ⟨[], rfl, fun k x h => by simp at h⟩
  | n + 1, h => by
    obtain ⟨L, hl, hp⟩ := list_of_all n (fun k hk => h k (by omega))
    obtain ⟨x, hx⟩ := h n (by omega)
    refine ⟨L ++ [x], by simp [hl], fun k y hy => ?_⟩
    rcases Nat.lt_trichotomy k n with hk | rfl | hk
    · rw [List.getElem?_append_left (by omega)] at hy
      exact hp k y hy
    · rw [List.getElem?_append_right (by omega)] at hy
      simp [hl] at hy
      subst hy
      exact hx
    · rw [List.getElem?_eq_none (by simp; omega)] at hy
      cases hy
section
variable {H : Type} {enc : TypeId × Value → H} {W : World} {base : Nat} {v : Value} {d : DataW H} {p : List MemPlace}
theorem field_at {cs : List Value} {xs : List (DataW H × List MemPlace)} {n j : Nat} {t : TypeId} {k : IntKind} (hl : j < xs.length) (ht : Try.prog.underlying t = some (.int k)) (h : DataW.trod enc Try.prog W 0 (fun _ => true) true n t ((cs.drop j).take 1) = xs[j]?) : ∃ z, cs[j]? = some (.int k z) ∧ (Lit.int k z).wf = true := by
  rw [List.getElem?_eq_getElem hl] at h
  obtain ⟨z, hz, _, hw⟩ := DataW.trod_int ht h
  exact ⟨z, one_at hz, hw⟩
theorem field_str {cs : List Value} {xs : List (DataW H × List MemPlace)} {n j : Nat} {t : TypeId} (hl : j < xs.length) (ht : Try.prog.underlying t = some .string) (h : DataW.trod enc Try.prog W 0 (fun _ => true) true n t ((cs.drop j).take 1) = xs[j]?) : ∃ s : ByteArray, cs[j]? = some (.string s) ∧ (xs.map (·.1))[j]? = some (.lit (.string s.data.toList)) := by
  have h0 := h
  rw [List.getElem?_eq_getElem hl] at h
  obtain ⟨s, hz, hx, _⟩ := DataW.trod_string ht h
  refine ⟨s, one_at hz, ?_⟩
  rw [List.getElem?_map, List.getElem?_eq_getElem hl, hx]
  rfl
theorem weightsAll_mem {P : Program} {e : TypeId} {w : Nat} {x : DataW H} : ∀ {l : List (DataW H)}, x ∈ l → w ∈ x.weights P e → w ∈ DataW.weightsAll P e l
  | [], h, _ => by cases h
  | a :: r, h, hw => by
    simp only [DataW.weightsAll, List.mem_append]
    rcases List.mem_cons.1 h with rfl | h
    · exact .inl hw
    · exact .inr (weightsAll_mem h hw)
theorem open_steps_p (hval : Value.okWide Try.prog W .any base 22 v) (h : DataW.Trod enc Try.prog W 0 (fun _ => true) true 22 v d p) (hlt : ∀ x ∈ p, x.block < W.heap.size)
    {ts : List TypeId} {ds : List (DataW H)} {j : Nat} (hsz : (DataW.weightsEach Try.prog ts ds).all (· ≤ reachBytes) = true) (ht : ts[j]? = some 22) (hd : ds[j]? = some d) :
    ∃ (pa : Option Addr) (c : Nat) (L : List Stp), v = .slice pa L.length c ∧ StepsP W pa L ∧ (∀ x, x ∈ L → x.Ok) ∧ L.length ≤ 140737488355328 := by
  obtain ⟨a0, len, cap, rfl⟩ := okWide_slice Try.underlying22 hval
  obtain ⟨fuel, hf⟩ := h
  rcases Deep.open_slice Try.underlying22 hf with ⟨hcs, hx⟩ | ⟨a, len', cap', m, n, D, Pl, hcs, _, hl, hm, hmm, hx, hi⟩
  · simp [Value.cells] at hcs
    obtain ⟨rfl, rfl, rfl⟩ := hcs
    exact ⟨none, 0, [], rfl, fun k x hk => by simp at hk, fun x hx => by simp at hx, by simp⟩
  · simp [Value.cells] at hcs
    obtain ⟨rfl, rfl, rfl⟩ := hcs
    simp only [Prod.mk.injEq] at hx
    obtain ⟨rfl, rfl⟩ := hx
    simp only [if_true] at hmm
    subst hmm
    have hr := sized_slice hsz ht hd Try.underlying22
    rw [bytes_step] at hr
    simp only [List.length_map, List.length_range, reachBytes] at hr
    obtain ⟨L, hL, hP⟩ := list_of_all (α := Stp) (P := fun k x => x.Ok ∧ a.block < W.heap.size ∧ ∀ (i : Nat) (u : Value), x.cells[i]? = some u → W.cell? (a.add (k * 6 + i)) = some u) len (fun k hk => by
      obtain ⟨cs', hc, htr⟩ := hi k (by omega)
      rw [cells_step] at hc
      obtain ⟨_, hcl, hat⟩ := World.cells?_some hc
      obtain ⟨xs, n', _, hD, _, hlen, hfl⟩ := DataW.trod_struct Try.underlying32 htr
      have hlen6 : xs.length = 6 := hlen
      have g0 : DataW.trod enc Try.prog W 0 (fun _ => true) true n' 5 ((cs'.drop 0).take (Try.prog.cellsOf 5)) = xs[0]? := hfl 0 _ rfl
      rw [cells_u8'] at g0
      have g1 : DataW.trod enc Try.prog W 0 (fun _ => true) true n' 3 ((cs'.drop 1).take (Try.prog.cellsOf 3)) = xs[1]? := hfl 1 _ rfl
      rw [cells_int'] at g1
      have g2 : DataW.trod enc Try.prog W 0 (fun _ => true) true n' 3 ((cs'.drop 2).take (Try.prog.cellsOf 3)) = xs[2]? := hfl 2 _ rfl
      rw [cells_int'] at g2
      have g3 : DataW.trod enc Try.prog W 0 (fun _ => true) true n' 3 ((cs'.drop 3).take (Try.prog.cellsOf 3)) = xs[3]? := hfl 3 _ rfl
      rw [cells_int'] at g3
      have g4 : DataW.trod enc Try.prog W 0 (fun _ => true) true n' 9 ((cs'.drop 4).take (Try.prog.cellsOf 9)) = xs[4]? := hfl 4 _ rfl
      rw [cells_string] at g4
      have g5 : DataW.trod enc Try.prog W 0 (fun _ => true) true n' 5 ((cs'.drop 5).take (Try.prog.cellsOf 5)) = xs[5]? := hfl 5 _ rfl
      rw [cells_u8'] at g5
      obtain ⟨d0, e0, w0⟩ := field_at (k := .u8) (by omega) Try.underlying5 g0
      obtain ⟨d1, e1, w1⟩ := field_at (k := .i64) (by omega) Try.underlying3 g1
      obtain ⟨d2, e2, w2⟩ := field_at (k := .i64) (by omega) Try.underlying3 g2
      obtain ⟨d3, e3, w3⟩ := field_at (k := .i64) (by omega) Try.underlying3 g3
      obtain ⟨s4, e4, x4⟩ := field_str (by omega) Try.underlying9 g4
      obtain ⟨d5, e5, w5⟩ := field_at (k := .u8) (by omega) Try.underlying5 g5
      simp [Lit.wf, IntKind.min, IntKind.max, IntKind.signed, IntKind.bits] at w0 w1 w2 w3 w5
      have hDk : D k = .agg (xs.map (·.1)) := congrArg Prod.fst hD
      have hw := DataW.weights_mem_each (P := Try.prog) ht hd s4.data.toList.length (by
        simp only [DataW.weights, Try.underlying22, List.mem_cons, List.mem_append]
        refine .inr (.inl (weightsAll_mem (x := D k) (List.mem_map.2 ⟨k, List.mem_range.2 hk, rfl⟩) ?_))
        rw [hDk]
        simp only [DataW.weights, Try.underlying32]
        exact DataW.weights_mem_each (P := Try.prog) (j := 4) (t := 9) rfl x4 _ (by simp [DataW.weights]))
      have hs := List.all_eq_true.1 hsz _ hw
      simp only [decide_eq_true_eq, reachBytes, size_list] at hs
      refine ⟨⟨d0.toNat, d1, d2, d3, s4, d5.toNat⟩, ⟨by show d0.toNat < 256; omega, by show _ ∧ _; omega, by show _ ∧ _; omega, by show _ ∧ _; omega, by show d5.toNat < 256; omega, by show s4.size ≤ _; omega⟩, hlt (.cell a.block (a.off + k * 6)) (List.mem_append_left _ (MemPlace.mem_row.2 ⟨k * 6, by rw [cells_step]; omega, rfl⟩)), fun i u hu => ?_⟩
      have hi6 : i < 6 := (List.getElem?_eq_some_iff.1 hu).1
      have := hat i hi6
      rw [Deep.add_add] at this
      rw [this]
      match i, hi6, hu with
      | 0, _, hu =>
        rw [e0]
        have : ((d0.toNat : Nat) : Int) = d0 := Int.toNat_of_nonneg (by omega)
        simp only [Stp.cells, this] at hu
        exact hu
      | 1, _, hu => rw [e1]; exact hu
      | 2, _, hu => rw [e2]; exact hu
      | 3, _, hu => rw [e3]; exact hu
      | 4, _, hu => rw [e4]; exact hu
      | 5, _, hu =>
        rw [e5]
        have : ((d5.toNat : Nat) : Int) = d5 := Int.toNat_of_nonneg (by omega)
        simp only [Stp.cells, this] at hu
        exact hu)
    refine ⟨some a, m, L, by rw [hL], fun k x hk => ⟨a, rfl, (hP k x hk).2.1, (hP k x hk).2.2⟩, fun x hx => ?_, by rw [hL]; omega⟩
    obtain ⟨k, hk⟩ := List.getElem?_of_mem hx
    exact (hP k x hk).1
end
end Go.Proofs.Ytgbhadgkkefokaa
