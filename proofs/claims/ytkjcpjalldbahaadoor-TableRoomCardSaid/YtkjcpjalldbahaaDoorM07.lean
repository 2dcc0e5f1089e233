/- A slice of Version among a law's arguments, opened: what its walk asks of it. (Printed by mkopen.py.) -/
import Derived.Test.YtkjcpjalldbahaaDoorM03
import Derived.Test.YtkjcpjalldbahaaDoorM06
import Derived.Deep.Slices
import Derived.Deep.Fields
import Derived.ChangeArms
import Derived.Lib.SmallJoins
section
namespace Go.Proofs.YtkjcpjalldbahaaDoor
open Go.ChangeShapes Go.WideShapes Go.ChangeAt Go.RowKit
structure VerX where
  N : Nat
  State : Nat
  Text : ByteArray
def VerX.cells (x : VerX) : List Value := [.int .u64 (x.N : Int), .int .u8 (x.State : Int), .string x.Text]
structure VerX.Ok (x : VerX) : Prop where
  N : x.N < 18446744073709551616
  State : x.State < 256
  Text : x.Text.size ≤ 140737488351232
/-- The cells from the address on, if there are any, are these. -/
def VerXsP (w : World) (p : Option Addr) (L : List VerX) : Prop := ∀ (k : Nat) (x : VerX), L[k]? = some x → ∃ a, p = some a ∧ a.block < w.heap.size ∧ ∀ (j : Nat) (v : Value), (x.cells)[j]? = some v → w.cell? (a.add (k * 3 + j)) = some v
theorem VerXsP.ext {w w' : World} {p : Option Addr} {L : List VerX} (h : VerXsP w p L) (hx : Ext w w') : VerXsP w' p L := fun k x hk => by
  obtain ⟨a, h1, h2, h4⟩ := h k x hk
  exact ⟨a, h1, Nat.lt_of_lt_of_le h2 hx.size, fun j v hv => by rw [hx.below.cell (p := a.add (k * 3 + j)) (by rw [add_block]; omega)]; exact h4 j v hv⟩
theorem verx_at {w : World} {a : Addr} {j k : Nat} {v : Option Value} (h : w.cell? (a.add (j * 3 + (k + 1))) = v) : w.cell? ⟨(a.add (j * 3)).block, (a.add (j * 3)).off + (k + 1), none⟩ = v := by
  rw [← Deep.add_add] at h
  exact h
theorem cells_verx : Tryd.prog.cellsOf 58 = 3 := by kernel_rfl
theorem bytes_verx : Tryd.prog.bytesOf 58 = 32 := by kernel_rfl
section
variable {H : Type} {enc : TypeId × Value → H} {W : World} {base : Nat} {v : Value} {d : DataW H} {p : List MemPlace}
def verxTs : List TypeId := [38, 5, 9]
theorem verx_list {cs : List Value} {v0 v1 v2 : Value} (hl : cs.length = 3) (e0 : cs[0]? = some v0) (e1 : cs[1]? = some v1) (e2 : cs[2]? = some v2) : cs = [v0, v1, v2] := by
  apply List.ext_getElem?
  intro i
  rcases (show i = 0 ∨ i = 1 ∨ i = 2 ∨ 3 ≤ i by omega) with rfl | rfl | rfl | h
  · exact e0
  · exact e1
  · exact e2
  · rw [List.getElem?_eq_none (by omega), List.getElem?_eq_none (by simpa using h)]
theorem open_verx_cells {fuel : Nat} {cs : List Value} (htr : DataW.trod enc Tryd.prog W 0 (fun _ => true) true fuel 58 cs = some (d, p)) (hlt : ∀ x ∈ p, x.block < W.heap.size) (hw : ∀ w ∈ d.weights Tryd.prog 58, w ≤ reachBytes) :
    ∃ (x : VerX), cs = x.cells ∧ x.Ok := by
  obtain ⟨xs, n', _, hD, hcl, hlen, hfl⟩ := DataW.trod_struct Tryd.underlying58 htr
  have hlenN : xs.length = 3 := hlen
  simp only [Prod.mk.injEq] at hD
  obtain ⟨rfl, rfl⟩ := hD
  rw [cells_verx] at hcl
  have g0 : DataW.trod enc Tryd.prog W 0 (fun _ => true) true n' 38 ((cs.drop 0).take (Tryd.prog.cellsOf 38)) = xs[0]? := hfl 0 _ rfl
  rw [show Tryd.prog.cellsOf 38 = 1 from by kernel_rfl] at g0
  have g1 : DataW.trod enc Tryd.prog W 0 (fun _ => true) true n' 5 ((cs.drop 1).take (Tryd.prog.cellsOf 5)) = xs[1]? := hfl 1 _ rfl
  rw [show Tryd.prog.cellsOf 5 = 1 from by kernel_rfl] at g1
  have g2 : DataW.trod enc Tryd.prog W 0 (fun _ => true) true n' 9 ((cs.drop 2).take (Tryd.prog.cellsOf 9)) = xs[2]? := hfl 2 _ rfl
  rw [show Tryd.prog.cellsOf 9 = 1 from by kernel_rfl] at g2
  have hwe : ∀ w ∈ DataW.weightsEach Tryd.prog verxTs (xs.map (·.1)), w ≤ reachBytes := fun w hw1 => hw w (by
    simp only [DataW.weights, Tryd.underlying58]
    exact hw1)
  have hwb : (DataW.weightsEach Tryd.prog verxTs (xs.map (·.1))).all (· ≤ reachBytes) = true := List.all_eq_true.2 (fun w hw1 => by simpa using hwe w hw1)
  obtain ⟨d0, e0, w0⟩ := field_at (k := .u64) (by omega) Tryd.underlying38 g0
  obtain ⟨d1, e1, w1⟩ := field_at (k := .u8) (by omega) Tryd.underlying5 g1
  obtain ⟨s2, e2, x2⟩ := field_str (by omega) Tryd.underlying9 g2
  have hs2 := hwe s2.data.toList.length (DataW.weights_mem_each (P := Tryd.prog) (j := 2) (t := 9) rfl x2 _ (by simp [DataW.weights]))
  simp only [reachBytes, size_list] at hs2
  simp [Lit.wf, IntKind.min, IntKind.max, IntKind.signed, IntKind.bits] at w0 w1
  have n0 : ((d0.toNat : Nat) : Int) = d0 := Int.toNat_of_nonneg (by omega)
  have n1 : ((d1.toNat : Nat) : Int) = d1 := Int.toNat_of_nonneg (by omega)
  refine ⟨⟨d0.toNat, d1.toNat, s2⟩, ?_, ⟨by show d0.toNat < _; omega, by show d1.toNat < _; omega, by show s2.size ≤ _; omega⟩⟩
  unfold VerX.cells
  dsimp only
  rw [n0, n1]
  exact verx_list hcl e0 e1 e2
set_option maxRecDepth 100000 in
theorem open_verxs_f {fuel : Nat} {a0 : Option Addr} {len cap : Nat} (hf : DataW.trod enc Tryd.prog W 0 (fun _ => true) true fuel 52 [.slice a0 len cap] = some (d, p)) (hlt : ∀ x ∈ p, x.block < W.heap.size)
    {ts : List TypeId} {ds : List (DataW H)} {j : Nat} (hsz : (DataW.weightsEach Tryd.prog ts ds).all (· ≤ reachBytes) = true) (ht : ts[j]? = some 52) (hd : ds[j]? = some d) :
    ∃ (pa : Option Addr) (c : Nat) (L : List VerX), (.slice a0 len cap : Value) = .slice pa L.length c ∧ VerXsP W pa L ∧ (∀ x, x ∈ L → x.Ok) ∧ L.length * 32 ≤ 140737488351232 := by
  rcases Deep.open_slice Tryd.underlying52 hf with ⟨hcs, hx⟩ | ⟨a, len', cap', m, n, D, Pl, hcs, _, hl, hm, hmm, hx, hi⟩
  · simp at hcs
    obtain ⟨rfl, rfl, rfl⟩ := hcs
    exact ⟨none, 0, [], rfl, fun k x hk => by simp at hk, fun x hx => by simp at hx, by simp⟩
  · simp at hcs
    obtain ⟨rfl, rfl, rfl⟩ := hcs
    simp only [Prod.mk.injEq] at hx
    obtain ⟨rfl, rfl⟩ := hx
    simp only [if_true] at hmm
    subst hmm
    have hr := sized_slice hsz ht hd Tryd.underlying52
    rw [bytes_verx] at hr
    simp only [List.length_map, List.length_range, reachBytes] at hr
    obtain ⟨L, hL, hP⟩ := list_of_all (α := VerX) (P := fun k x => x.Ok ∧ a.block < W.heap.size ∧ ∀ (i : Nat) (u : Value), (x.cells)[i]? = some u → W.cell? (a.add (k * 3 + i)) = some u) len (fun k hk => by
      obtain ⟨cs', hc, htr⟩ := hi k (by omega)
      rw [cells_verx] at hc
      obtain ⟨_, hcl, hat⟩ := World.cells?_some hc
      obtain ⟨x, rfl, h2⟩ := open_verx_cells htr (fun y hy => hlt y (List.mem_append_right _ (List.mem_flatMap.2 ⟨k, List.mem_range.2 (by omega), hy⟩))) (fun w hw => by
        have hw2 := DataW.weights_mem_each (P := Tryd.prog) ht hd w (by
          simp only [DataW.weights, Tryd.underlying52, List.mem_cons, List.mem_append]
          exact .inr (.inl (weightsAll_mem (x := D k) (List.mem_map.2 ⟨k, List.mem_range.2 hk, rfl⟩) hw)))
        have := List.all_eq_true.1 hsz _ hw2
        simpa using this)
      refine ⟨x, h2, hlt (.cell a.block (a.off + k * 3)) (List.mem_append_left _ (MemPlace.mem_row.2 ⟨k * 3, by rw [cells_verx]; omega, rfl⟩)), fun i u hu => ?_⟩
      have hiN : i < 3 := (List.getElem?_eq_some_iff.1 hu).1
      have := hat i hiN
      rw [Deep.add_add] at this
      rw [this]
      exact hu)
    refine ⟨some a, m, L, by rw [hL], fun k x hk => ?_, fun x hx => ?_, by rw [hL]; omega⟩
    · obtain ⟨_, h2, h4⟩ := hP k x hk
      exact ⟨a, rfl, h2, h4⟩
    · obtain ⟨k, hk⟩ := List.getElem?_of_mem hx
      exact (hP k x hk).1
def VerX.ver (x : VerX) : Ver := ⟨x.N, x.State, x.Text⟩
theorem versX {w : World} {q : Option Addr} {L : List VerX} (h : VerXsP w q L) : VersP w q (L.map VerX.ver) := fun k x hk => by
  rw [List.getElem?_map] at hk
  cases hx : L[k]? with
  | none => rw [hx] at hk; cases hk
  | some y =>
    rw [hx] at hk
    cases hk
    exact h k y hx
/-- What a version holds. -/
structure Ver.Fit (v : Ver) : Prop where
  n : v.n < 18446744073709551616
  s : v.s < 256
  t : v.t.size ≤ 140737488351232
set_option maxRecDepth 100000 in
theorem open_cell_v (hval : Value.okWide Tryd.prog W .any base 54 v) (h : DataW.Trod enc Tryd.prog W 0 (fun _ => true) true 54 v d p) (hlt : ∀ x ∈ p, x.block < W.heap.size)
    {ts : List TypeId} {ds : List (DataW H)} {j : Nat} (hsz : (DataW.weightsEach Tryd.prog ts ds).all (· ≤ reachBytes) = true) (ht : ts[j]? = some 54) (hd : ds[j]? = some d) :
    ∃ (m : Nat) (q : Option Addr) (c : Nat) (L : List Ver), v = .agg #[.int .u64 (m : Int), .slice q L.length c] ∧ m < 18446744073709551616 ∧ VersP W q L ∧ (∀ x ∈ L, x.Fit) ∧ L.length ≤ 140737488355328 := by
  obtain ⟨v0, v1, y0, y1, n, rfl, hd0, hp0, h0, h1⟩ := Go.Joins.open_agg2 Tryd.underlying54 (by kernel_rfl) (by kernel_rfl) hval h
  obtain ⟨z, hz, _, hw⟩ := DataW.trod_int (k := .u64) Tryd.underlying38 h0
  simp only [List.cons.injEq, and_true] at hz
  subst hz
  simp [Lit.wf, IntKind.min, IntKind.max, IntKind.signed, IntKind.bits] at hw
  have h1' : DataW.trod enc Tryd.prog W 0 (fun _ => true) true n 52 [v1] = some y1 := h1
  obtain ⟨a4, l4, c4, hc4⟩ := Go.Joins.slice_form Tryd.underlying52 h1'
  simp only [List.cons.injEq, and_true] at hc4
  subst hc4
  have hwe : ∀ w ∈ DataW.weightsEach Tryd.prog [38, 52] [y0.1, y1.1], w ≤ reachBytes := fun w hw1 => by
    have := List.all_eq_true.1 hsz _ (DataW.weights_mem_each (P := Tryd.prog) ht hd w (by
      rw [hd0]
      simp only [DataW.weights, Tryd.underlying54]
      exact hw1))
    simpa using this
  have hwb : (DataW.weightsEach Tryd.prog [38, 52] [y0.1, y1.1]).all (· ≤ reachBytes) = true := List.all_eq_true.2 (fun w hw1 => by simpa using hwe w hw1)
  obtain ⟨q, c, L, hv4, hP, hok, hl⟩ := open_verxs_f (d := y1.1) (p := y1.2) h1' (fun x hx => hlt x (by rw [hp0]; exact List.mem_append_right _ hx)) hwb (j := 1) rfl rfl
  have n0 : ((z.toNat : Nat) : Int) = z := Int.toNat_of_nonneg (by omega)
  refine ⟨z.toNat, q, c, L.map VerX.ver, ?_, by omega, versX hP, fun x hx => ?_, by rw [List.length_map]; omega⟩
  · rw [n0, hv4, List.length_map]
  · obtain ⟨y, hy, rfl⟩ := List.mem_map.1 hx
    have := hok y hy
    exact ⟨this.N, this.State, this.Text⟩
end
end Go.Proofs.YtkjcpjalldbahaaDoor
end
