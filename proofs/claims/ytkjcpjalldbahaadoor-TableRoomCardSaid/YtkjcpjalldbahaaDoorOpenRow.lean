/- A slice of rows among a law's arguments, opened: what its walk asks of it. -/
import Derived.Test.YtkjcpjalldbahaaDoorM07
import Derived.Test.YtkjcpjalldbahaaDoorM31
namespace Go.Proofs.YtkjcpjalldbahaaDoor
open Go.ChangeShapes Go.WideShapes Go.ChangeAt Go.RowKit
theorem cells_rowx : Tryd.prog.cellsOf 56 = 3 := by kernel_rfl
theorem bytes_rowx : Tryd.prog.bytesOf 56 = 48 := by kernel_rfl
/-- What a row among the arguments holds. -/
structure Ent.Fit (e : Ent) : Prop where
  p : e.p.size ≤ 140737488351232
  m : e.m < 18446744073709551616
  L : ∀ x ∈ e.L, x.Fit
  n : e.L.length * 32 ≤ 140737488351232
section
variable {H : Type} {enc : TypeId × Value → H} {W : World} {base : Nat} {v : Value} {d : DataW H} {p : List MemPlace}
theorem two_list {cs : List Value} {v0 v1 : Value} (hl : cs.length = 2) (e0 : cs[0]? = some v0) (e1 : cs[1]? = some v1) : cs = [v0, v1] := by
  apply List.ext_getElem?
  intro i
  rcases (show i = 0 ∨ i = 1 ∨ 2 ≤ i by omega) with rfl | rfl | h
  · exact e0
  · exact e1
  · rw [List.getElem?_eq_none (by omega), List.getElem?_eq_none (by simpa using h)]
theorem open_cellx {fuel : Nat} {cs : List Value} (htr : DataW.trod enc Tryd.prog W 0 (fun _ => true) true fuel 54 cs = some (d, p)) (hlt : ∀ x ∈ p, x.block < W.heap.size) (hw : ∀ w ∈ d.weights Tryd.prog 54, w ≤ reachBytes) :
    ∃ (m : Nat) (q : Option Addr) (c : Nat) (L : List Ver), cs = [.int .u64 (m : Int), .slice q L.length c] ∧ m < 18446744073709551616 ∧ VersP W q L ∧ (∀ x ∈ L, x.Fit) ∧ L.length * 32 ≤ 140737488351232 := by
  obtain ⟨xs, n', _, hD, hcl, hlen, hfl⟩ := DataW.trod_struct Tryd.underlying54 htr
  have hlenN : xs.length = 2 := hlen
  simp only [Prod.mk.injEq] at hD
  obtain ⟨rfl, rfl⟩ := hD
  rw [show Tryd.prog.cellsOf 54 = 2 by kernel_rfl] at hcl
  have g0 : DataW.trod enc Tryd.prog W 0 (fun _ => true) true n' 38 ((cs.drop 0).take (Tryd.prog.cellsOf 38)) = xs[0]? := hfl 0 _ rfl
  rw [show Tryd.prog.cellsOf 38 = 1 from by kernel_rfl] at g0
  have g1 : DataW.trod enc Tryd.prog W 0 (fun _ => true) true n' 52 ((cs.drop 1).take (Tryd.prog.cellsOf 52)) = xs[1]? := hfl 1 _ rfl
  rw [show Tryd.prog.cellsOf 52 = 1 from by kernel_rfl] at g1
  have hwe : ∀ w ∈ DataW.weightsEach Tryd.prog [38, 52] (xs.map (·.1)), w ≤ reachBytes := fun w hw1 => hw w (by
    simp only [DataW.weights, Tryd.underlying54]
    exact hw1)
  have hwb : (DataW.weightsEach Tryd.prog [38, 52] (xs.map (·.1))).all (· ≤ reachBytes) = true := List.all_eq_true.2 (fun w hw1 => by simpa using hwe w hw1)
  obtain ⟨d0, e0, w0⟩ := field_at (k := .u64) (by omega) Tryd.underlying38 g0
  obtain ⟨y1, hy1⟩ : ∃ y, xs[1]? = some y := ⟨_, List.getElem?_eq_getElem (by omega)⟩
  rw [hy1] at g1
  obtain ⟨a1, l1, c1, hc1⟩ := Go.Joins.slice_form Tryd.underlying52 g1
  have e1 := one_at hc1
  rw [hc1] at g1
  obtain ⟨q, c, L, hv, hP, hok, hl⟩ := open_verxs_f g1 (fun x hx => hlt x (List.mem_flatMap.2 ⟨y1, List.mem_of_getElem? hy1, hx⟩)) hwb (j := 1) rfl (by rw [List.getElem?_map, hy1]; rfl)
  simp [Lit.wf, IntKind.min, IntKind.max, IntKind.signed, IntKind.bits] at w0
  have n0 : ((d0.toNat : Nat) : Int) = d0 := Int.toNat_of_nonneg (by omega)
  refine ⟨d0.toNat, q, c, L.map VerX.ver, ?_, by omega, versX hP, fun x hx => ?_, by rw [List.length_map]; exact hl⟩
  · rw [n0, List.length_map, ← hv]
    exact two_list hcl e0 e1
  · obtain ⟨y, hy, rfl⟩ := List.mem_map.1 hx
    have := hok y hy
    exact ⟨this.N, this.State, this.Text⟩
theorem open_rowx {fuel : Nat} {cs : List Value} (htr : DataW.trod enc Tryd.prog W 0 (fun _ => true) true fuel 56 cs = some (d, p)) (hlt : ∀ x ∈ p, x.block < W.heap.size) (hw : ∀ w ∈ d.weights Tryd.prog 56, w ≤ reachBytes) :
    ∃ (e : Ent), cs = e.cells ∧ VersP W e.a e.L ∧ e.Fit := by
  obtain ⟨xs, n', _, hD, hcl, hlen, hfl⟩ := DataW.trod_struct Tryd.underlying56 htr
  have hlenN : xs.length = 2 := hlen
  simp only [Prod.mk.injEq] at hD
  obtain ⟨rfl, rfl⟩ := hD
  rw [cells_rowx] at hcl
  have g0 : DataW.trod enc Tryd.prog W 0 (fun _ => true) true n' 9 ((cs.drop 0).take (Tryd.prog.cellsOf 9)) = xs[0]? := hfl 0 _ rfl
  rw [show Tryd.prog.cellsOf 9 = 1 from by kernel_rfl] at g0
  have g1 : DataW.trod enc Tryd.prog W 0 (fun _ => true) true n' 54 ((cs.drop 1).take (Tryd.prog.cellsOf 54)) = xs[1]? := hfl 1 _ rfl
  rw [show Tryd.prog.cellsOf 54 = 2 from by kernel_rfl] at g1
  have hwe : ∀ w ∈ DataW.weightsEach Tryd.prog [9, 54] (xs.map (·.1)), w ≤ reachBytes := fun w hw1 => hw w (by
    simp only [DataW.weights, Tryd.underlying56]
    exact hw1)
  obtain ⟨s0, e0, x0⟩ := field_str (by omega) Tryd.underlying9 g0
  have hs0 := hwe s0.data.toList.length (DataW.weights_mem_each (P := Tryd.prog) (j := 0) (t := 9) rfl x0 _ (by simp [DataW.weights]))
  simp only [reachBytes, size_list] at hs0
  obtain ⟨y1, hy1⟩ : ∃ y, xs[1]? = some y := ⟨_, List.getElem?_eq_getElem (by omega)⟩
  rw [hy1] at g1
  obtain ⟨m, q, c, L, hcc, hm, hP, hF, hl⟩ := open_cellx (d := y1.1) (p := y1.2) g1 (fun x hx => hlt x (List.mem_flatMap.2 ⟨y1, List.mem_of_getElem? hy1, hx⟩)) (fun w hw1 => hwe w (DataW.weights_mem_each (P := Tryd.prog) (j := 1) (t := 54) rfl (by rw [List.getElem?_map, hy1]; rfl) w hw1))
  refine ⟨⟨s0, m, L, q, c⟩, ?_, hP, ⟨by show s0.size ≤ _; omega, hm, hF, hl⟩⟩
  have hd1 : ∀ i u, i < 2 → (cs.drop 1 |>.take 2)[i]? = u → cs[i + 1]? = u := fun i u hi h => by
    rw [List.getElem?_take, if_pos hi, List.getElem?_drop] at h
    rw [Nat.add_comm]
    exact h
  rw [hcc] at hd1
  exact verx_list hcl e0 (hd1 0 _ (by decide) rfl) (hd1 1 _ (by decide) rfl)
set_option maxRecDepth 100000 in
theorem open_rows_p (hval : Value.okWide Tryd.prog W .any base 24 v) (h : DataW.Trod enc Tryd.prog W 0 (fun _ => true) true 24 v d p) (hlt : ∀ x ∈ p, x.block < W.heap.size)
    {ts : List TypeId} {ds : List (DataW H)} {j : Nat} (hsz : (DataW.weightsEach Tryd.prog ts ds).all (· ≤ reachBytes) = true) (ht : ts[j]? = some 24) (hd : ds[j]? = some d) :
    ∃ (pa : Option Addr) (c : Nat) (L : List Ent), v = .slice pa L.length c ∧ RowsP W pa L ∧ (∀ x, x ∈ L → x.Fit) ∧ L.length ≤ 140737488355328 := by
  obtain ⟨a0, len, cap, rfl⟩ := okWide_slice Tryd.underlying24 hval
  obtain ⟨fuel, hf⟩ := h
  rcases Deep.open_slice Tryd.underlying24 hf with ⟨hcs, hx⟩ | ⟨a, len', cap', m, n, D, Pl, hcs, _, hl, hm, hmm, hx, hi⟩
  · simp [Value.cells] at hcs
    obtain ⟨rfl, rfl, rfl⟩ := hcs
    exact ⟨none, 0, [], rfl, ⟨fun k x hk => by simp at hk, fun x hx => by simp at hx⟩, fun x hx => by simp at hx, by simp⟩
  · simp [Value.cells] at hcs
    obtain ⟨rfl, rfl, rfl⟩ := hcs
    simp only [Prod.mk.injEq] at hx
    obtain ⟨rfl, rfl⟩ := hx
    simp only [if_true] at hmm
    subst hmm
    have hr := sized_slice hsz ht hd Tryd.underlying24
    rw [bytes_rowx] at hr
    simp only [List.length_map, List.length_range, reachBytes] at hr
    obtain ⟨L, hL, hP⟩ := list_of_all (α := Ent) (P := fun k x => (x.Fit ∧ VersP W x.a x.L) ∧ a.block < W.heap.size ∧ ∀ (i : Nat) (u : Value), (x.cells)[i]? = some u → W.cell? (a.add (k * 3 + i)) = some u) len (fun k hk => by
      obtain ⟨cs', hc, htr⟩ := hi k (by omega)
      rw [cells_rowx] at hc
      obtain ⟨_, hcl, hat⟩ := World.cells?_some hc
      obtain ⟨x, rfl, h2, h3⟩ := open_rowx htr (fun y hy => hlt y (List.mem_append_right _ (List.mem_flatMap.2 ⟨k, List.mem_range.2 (by omega), hy⟩))) (fun w hw => by
        have hw2 := DataW.weights_mem_each (P := Tryd.prog) ht hd w (by
          simp only [DataW.weights, Tryd.underlying24, List.mem_cons, List.mem_append]
          exact .inr (.inl (weightsAll_mem (x := D k) (List.mem_map.2 ⟨k, List.mem_range.2 hk, rfl⟩) hw)))
        have := List.all_eq_true.1 hsz _ hw2
        simpa using this)
      refine ⟨x, ⟨h3, h2⟩, hlt (.cell a.block (a.off + k * 3)) (List.mem_append_left _ (MemPlace.mem_row.2 ⟨k * 3, by rw [cells_rowx]; omega, rfl⟩)), fun i u hu => ?_⟩
      have hiN : i < 3 := (List.getElem?_eq_some_iff.1 hu).1
      have := hat i hiN
      rw [Deep.add_add] at this
      rw [this]
      exact hu)
    refine ⟨some a, m, L, by rw [hL], ⟨fun k x hk => ?_, fun x hx => ?_⟩, fun x hx => ?_, by rw [hL]; omega⟩
    · obtain ⟨_, h2, h4⟩ := hP k x hk
      exact ⟨a, rfl, h2, h4⟩
    · obtain ⟨k, hk⟩ := List.getElem?_of_mem hx
      exact (hP k x hk).1.2
    · obtain ⟨k, hk⟩ := List.getElem?_of_mem hx
      exact (hP k x hk).1.1
end
end Go.Proofs.YtkjcpjalldbahaaDoor
