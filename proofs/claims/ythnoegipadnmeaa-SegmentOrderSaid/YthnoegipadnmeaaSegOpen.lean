/- A slice of slices of texts among a law's arguments, opened: what its walk asks of it. A slice of small numbers among a law's arguments, opened: what its walk asks of it. -/
import Derived.Test.YthnoegipadnmeaaSegBase
import Derived.Test.YthnoegipadnmeaaValsL
import Derived.Deep.Grids
section
namespace Go.Proofs.Ythnoegipadnmeaa
open Go.ChangeShapes Go.WideShapes Go.ChangeAt Go.RowKit
theorem bytes_strs : Try.prog.bytesOf 23 = 24 := by kernel_rfl
/-- The cells from the address on, if there are any, are slices of these texts. -/
def StrssP (w : World) (p : Option Addr) (L : List (List ByteArray)) : Prop := ∀ (k : Nat) (l : List ByteArray), L[k]? = some l → ∃ a q c, p = some a ∧ a.block < w.heap.size ∧ TextsP w q l ∧ w.cell? (a.add k) = some (.slice q l.length c)
theorem StrssP.ext {w w' : World} {p : Option Addr} {L : List (List ByteArray)} (h : StrssP w p L) (hx : Ext w w') : StrssP w' p L := fun k l hk => by
  obtain ⟨a, q, c, h1, h2, h3, h4⟩ := h k l hk
  exact ⟨a, q, c, h1, Nat.lt_of_lt_of_le h2 hx.size, h3.ext hx, by rw [hx.below.cell (p := a.add k) (by rw [add_block]; omega)]; exact h4⟩
section
variable {H : Type} {enc : TypeId × Value → H} {W : World} {base : Nat} {v : Value} {d : DataW H} {p : List MemPlace}
set_option maxRecDepth 100000 in
theorem open_strss_p (hval : Value.okWide Try.prog W .any base 53 v) (h : DataW.Trod enc Try.prog W 0 (fun _ => true) true 53 v d p) (hlt : ∀ x ∈ p, x.block < W.heap.size)
    {ts : List TypeId} {ds : List (DataW H)} {j : Nat} (hsz : (DataW.weightsEach Try.prog ts ds).all (· ≤ reachBytes) = true) (ht : ts[j]? = some 53) (hd : ds[j]? = some d) :
    ∃ (pa : Option Addr) (c : Nat) (L : List (List ByteArray)), v = .slice pa L.length c ∧ StrssP W pa L ∧ (∀ l, l ∈ L → l.length ≤ 140737488355328 ∧ ∀ s, s ∈ l → s.size ≤ 140737488351232) ∧ L.length ≤ 140737488355328 := by
  obtain ⟨a0, len, cap, rfl⟩ := okWide_slice Try.underlying53 hval
  obtain ⟨fuel, hf⟩ := h
  rcases Deep.open_slice Try.underlying53 hf with ⟨hcs, hx⟩ | ⟨a, len', cap', m, n, D, Pl, hcs, _, hl, hm, hmm, hx, hi⟩
  · simp [Value.cells] at hcs
    obtain ⟨rfl, rfl, rfl⟩ := hcs
    exact ⟨none, 0, [], rfl, fun k x hk => by simp at hk, fun x hx => by simp at hx, by simp⟩
  · simp [Value.cells] at hcs
    obtain ⟨rfl, rfl, rfl⟩ := hcs
    simp only [Prod.mk.injEq] at hx
    obtain ⟨rfl, rfl⟩ := hx
    simp only [if_true] at hmm
    subst hmm
    have hr := sized_slice hsz ht hd Try.underlying53
    rw [bytes_strs] at hr
    simp only [List.length_map, List.length_range, reachBytes] at hr
    obtain ⟨L, hL, hP⟩ := list_of_all (α := List ByteArray) (P := fun k l => (l.length ≤ 140737488355328 ∧ ∀ s, s ∈ l → s.size ≤ 140737488351232) ∧ a.block < W.heap.size ∧ ∃ q c, TextsP W q l ∧ W.cell? (a.add k) = some (.slice q l.length c)) len (fun k hk => by
      obtain ⟨cs', hc, htr⟩ := hi k (by omega)
      rw [cells_strs'] at hc
      obtain ⟨_, hcl, hat⟩ := World.cells?_some hc
      obtain ⟨a4, l4, c4, rfl⟩ := Go.Joins.slice_form Try.underlying23 htr
      have hw : ∀ w ∈ (D k).weights Try.prog 23, w ≤ reachBytes := fun w hw => by
        have hw2 := DataW.weights_mem_each (P := Try.prog) ht hd w (by
          simp only [DataW.weights, Try.underlying53, List.mem_cons, List.mem_append]
          exact .inr (.inl (weightsAll_mem (x := D k) (List.mem_map.2 ⟨k, List.mem_range.2 hk, rfl⟩) hw)))
        have := List.all_eq_true.1 hsz _ hw2
        simpa using this
      obtain ⟨q, c, l, hv4, h1, ⟨h2, h3⟩, _⟩ := open_texts_f htr (fun y hy => hlt y (List.mem_append_right _ (List.mem_flatMap.2 ⟨k, List.mem_range.2 (by omega), hy⟩))) (ts := [23]) (ds := [D k]) (j := 0) (List.all_eq_true.2 (fun w hw1 => by
        simp only [DataW.weightsEach, List.append_nil] at hw1
        simpa using hw w hw1)) rfl rfl
      refine ⟨l, ⟨h2, h3⟩, hlt (.cell a.block (a.off + k * 1)) (List.mem_append_left _ (MemPlace.mem_row.2 ⟨k * 1, by rw [cells_strs']; omega, rfl⟩)), q, c, h1, ?_⟩
      have := hat 0 (by decide)
      rw [Deep.add_add, Nat.mul_one, Nat.add_zero] at this
      rw [this, ← hv4]
      rfl)
    refine ⟨some a, m, L, by rw [hL], fun k x hk => ?_, fun x hx => ?_, by rw [hL]; omega⟩
    · obtain ⟨_, h2, q, c, h3, h4⟩ := hP k x hk
      exact ⟨a, q, c, rfl, h2, h3, h4⟩
    · obtain ⟨k, hk⟩ := List.getElem?_of_mem hx
      exact (hP k x hk).1
end
end Go.Proofs.Ythnoegipadnmeaa
end

section
namespace Go.Proofs.Ythnoegipadnmeaa
open Go.ChangeShapes Go.WideShapes Go.ChangeAt Go.RowKit
theorem cells_b8 : Try.prog.cellsOf 5 = 1 := by kernel_rfl
theorem bytes_b8 : Try.prog.bytesOf 5 = 1 := by kernel_rfl
def vU8 (l : List Nat) : List Value := l.map fun (n : Nat) => Value.int .u8 (n : Int)
section
variable {H : Type} {enc : TypeId × Value → H} {W : World} {base : Nat} {v : Value} {d : DataW H} {p : List MemPlace}
set_option maxRecDepth 100000 in
theorem open_u8s_p (hval : Value.okWide Try.prog W .any base 55 v) (h : DataW.Trod enc Try.prog W 0 (fun _ => true) true 55 v d p) (hlt : ∀ x ∈ p, x.block < W.heap.size)
    {ts : List TypeId} {ds : List (DataW H)} {j : Nat} (hsz : (DataW.weightsEach Try.prog ts ds).all (· ≤ reachBytes) = true) (ht : ts[j]? = some 55) (hd : ds[j]? = some d) :
    ∃ (pa : Option Addr) (n c : Nat) (l : List Nat), v = .slice pa n c ∧ l.length = n ∧ ValsP W pa (vU8 l) ∧ n ≤ 140737488355328 ∧ ∀ x, x ∈ l → x < 256 := by
  obtain ⟨a0, len, cap, rfl⟩ := okWide_slice Try.underlying55 hval
  obtain ⟨fuel, hf⟩ := h
  rcases open_ints (k := .u8) Try.underlying55 Try.underlying5 cells_b8 hf with ⟨hcs, hx⟩ | ⟨a, len', cap', zs, hcs, _, hl, hm, hz, hx, hcell, hwf⟩
  · simp [Value.cells] at hcs
    obtain ⟨rfl, rfl, rfl⟩ := hcs
    exact ⟨none, 0, 0, [], rfl, rfl, fun i s hs => by simp [vU8] at hs, by omega, by simp⟩
  · simp [Value.cells] at hcs
    obtain ⟨rfl, rfl, rfl⟩ := hcs
    simp only [Prod.mk.injEq] at hx
    obtain ⟨rfl, rfl⟩ := hx
    simp only [if_true] at hz
    have hr := sized_slice hsz ht hd Try.underlying55
    rw [bytes_b8] at hr
    simp only [lits, List.length_map, List.length_take, List.length_drop, reachBytes] at hr
    refine ⟨some a, len, cap, (zs.take len).map Int.toNat, rfl, by simp [List.length_take]; omega, fun i u hs => ?_, by omega, fun x hx => ?_⟩
    · have hi : i < len := by
        have := (List.getElem?_eq_some_iff.1 hs).1
        simp [vU8] at this
        omega
      unfold vU8 at hs
      rw [List.getElem?_map, List.getElem?_map] at hs
      rcases hz0 : (zs.take len)[i]? with _ | z
      · rw [hz0] at hs; cases hs
      · rw [hz0] at hs
        rw [List.getElem?_take, if_pos hi] at hz0
        have hmem : z ∈ zs := List.mem_of_getElem? hz0
        have hwz := hwf z hmem
        simp [Lit.wf, IntKind.min, IntKind.max, IntKind.signed, IntKind.bits] at hwz
        have hc := hcell i (by omega)
        have e : zs.getD i 0 = z := by rw [List.getD_eq_getElem?_getD, hz0]; rfl
        rw [e] at hc
        have e2 : u = .int .u8 z := by
          have := Option.some.inj hs
          rw [← this]
          show Value.int .u8 ((z.toNat : Nat) : Int) = _
          rw [Int.toNat_of_nonneg (by omega)]
        rw [e2]
        exact ⟨a, rfl, hlt (.cell a.block (a.off + i)) (MemPlace.mem_row.2 ⟨i, by omega, rfl⟩), hc⟩
    ·
      obtain ⟨z, hz1, rfl⟩ := List.mem_map.1 hx
      have hwz := hwf z (List.mem_of_mem_take hz1)
      simp [Lit.wf, IntKind.min, IntKind.max, IntKind.signed, IntKind.bits] at hwz
      omega
end
end Go.Proofs.Ythnoegipadnmeaa
end
