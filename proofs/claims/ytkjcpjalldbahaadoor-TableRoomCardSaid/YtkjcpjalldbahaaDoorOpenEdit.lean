/- A slice of Edit among a law's arguments, opened: what its walk asks of it. (Printed by mkopen.py.) -/
import Derived.Test.YtkjcpjalldbahaaDoorM03
import Derived.Deep.Slices
import Derived.Deep.Fields
import Derived.ChangeArms
import Derived.Lib.SmallJoins
namespace Go.Proofs.YtkjcpjalldbahaaDoor
open Go.ChangeShapes Go.WideShapes Go.ChangeAt Go.RowKit
structure EditO where
  Kind : Nat
  Path : ByteArray
  Any : Bool
  Want : Nat
  N : Nat
  Text : ByteArray
def EditO.cells (x : EditO) : List Value := [.int .u8 (x.Kind : Int), .string x.Path, .bool x.Any, .int .u64 (x.Want : Int), .int .u64 (x.N : Int), .string x.Text]
structure EditO.Ok (x : EditO) : Prop where
  Kind : x.Kind < 256
  Path : x.Path.size ≤ 140737488351232
  Want : x.Want < 18446744073709551616
  N : x.N < 18446744073709551616
  Text : x.Text.size ≤ 140737488351232
/-- The cells from the address on, if there are any, are these. -/
def EditOsP (w : World) (p : Option Addr) (L : List EditO) : Prop := ∀ (k : Nat) (x : EditO), L[k]? = some x → ∃ a, p = some a ∧ a.block < w.heap.size ∧ ∀ (j : Nat) (v : Value), (x.cells)[j]? = some v → w.cell? (a.add (k * 6 + j)) = some v
theorem EditOsP.ext {w w' : World} {p : Option Addr} {L : List EditO} (h : EditOsP w p L) (hx : Ext w w') : EditOsP w' p L := fun k x hk => by
  obtain ⟨a, h1, h2, h4⟩ := h k x hk
  exact ⟨a, h1, Nat.lt_of_lt_of_le h2 hx.size, fun j v hv => by rw [hx.below.cell (p := a.add (k * 6 + j)) (by rw [add_block]; omega)]; exact h4 j v hv⟩
theorem edito_at {w : World} {a : Addr} {j k : Nat} {v : Option Value} (h : w.cell? (a.add (j * 6 + (k + 1))) = v) : w.cell? ⟨(a.add (j * 6)).block, (a.add (j * 6)).off + (k + 1), none⟩ = v := by
  rw [← Deep.add_add] at h
  exact h
theorem cells_edito : Tryd.prog.cellsOf 40 = 6 := by kernel_rfl
theorem bytes_edito : Tryd.prog.bytesOf 40 = 64 := by kernel_rfl
section
variable {H : Type} {enc : TypeId × Value → H} {W : World} {base : Nat} {v : Value} {d : DataW H} {p : List MemPlace}
def editoTs : List TypeId := [5, 9, 4, 38, 38, 9]
theorem edito_list {cs : List Value} {v0 v1 v2 v3 v4 v5 : Value} (hl : cs.length = 6) (e0 : cs[0]? = some v0) (e1 : cs[1]? = some v1) (e2 : cs[2]? = some v2) (e3 : cs[3]? = some v3) (e4 : cs[4]? = some v4) (e5 : cs[5]? = some v5) : cs = [v0, v1, v2, v3, v4, v5] := by
  apply List.ext_getElem?
  intro i
  rcases (show i = 0 ∨ i = 1 ∨ i = 2 ∨ i = 3 ∨ i = 4 ∨ i = 5 ∨ 6 ≤ i by omega) with rfl | rfl | rfl | rfl | rfl | rfl | h
  · exact e0
  · exact e1
  · exact e2
  · exact e3
  · exact e4
  · exact e5
  · rw [List.getElem?_eq_none (by omega), List.getElem?_eq_none (by simpa using h)]
theorem open_edito_cells {fuel : Nat} {cs : List Value} (htr : DataW.trod enc Tryd.prog W 0 (fun _ => true) true fuel 40 cs = some (d, p)) (hlt : ∀ x ∈ p, x.block < W.heap.size) (hw : ∀ w ∈ d.weights Tryd.prog 40, w ≤ reachBytes) :
    ∃ (x : EditO), cs = x.cells ∧ x.Ok := by
  obtain ⟨xs, n', _, hD, hcl, hlen, hfl⟩ := DataW.trod_struct Tryd.underlying40 htr
  have hlenN : xs.length = 6 := hlen
  simp only [Prod.mk.injEq] at hD
  obtain ⟨rfl, rfl⟩ := hD
  rw [cells_edito] at hcl
  have g0 : DataW.trod enc Tryd.prog W 0 (fun _ => true) true n' 5 ((cs.drop 0).take (Tryd.prog.cellsOf 5)) = xs[0]? := hfl 0 _ rfl
  rw [show Tryd.prog.cellsOf 5 = 1 from by kernel_rfl] at g0
  have g1 : DataW.trod enc Tryd.prog W 0 (fun _ => true) true n' 9 ((cs.drop 1).take (Tryd.prog.cellsOf 9)) = xs[1]? := hfl 1 _ rfl
  rw [show Tryd.prog.cellsOf 9 = 1 from by kernel_rfl] at g1
  have g2 : DataW.trod enc Tryd.prog W 0 (fun _ => true) true n' 4 ((cs.drop 2).take (Tryd.prog.cellsOf 4)) = xs[2]? := hfl 2 _ rfl
  rw [show Tryd.prog.cellsOf 4 = 1 from by kernel_rfl] at g2
  have g3 : DataW.trod enc Tryd.prog W 0 (fun _ => true) true n' 38 ((cs.drop 3).take (Tryd.prog.cellsOf 38)) = xs[3]? := hfl 3 _ rfl
  rw [show Tryd.prog.cellsOf 38 = 1 from by kernel_rfl] at g3
  have g4 : DataW.trod enc Tryd.prog W 0 (fun _ => true) true n' 38 ((cs.drop 4).take (Tryd.prog.cellsOf 38)) = xs[4]? := hfl 4 _ rfl
  rw [show Tryd.prog.cellsOf 38 = 1 from by kernel_rfl] at g4
  have g5 : DataW.trod enc Tryd.prog W 0 (fun _ => true) true n' 9 ((cs.drop 5).take (Tryd.prog.cellsOf 9)) = xs[5]? := hfl 5 _ rfl
  rw [show Tryd.prog.cellsOf 9 = 1 from by kernel_rfl] at g5
  have hwe : ∀ w ∈ DataW.weightsEach Tryd.prog editoTs (xs.map (·.1)), w ≤ reachBytes := fun w hw1 => hw w (by
    simp only [DataW.weights, Tryd.underlying40]
    exact hw1)
  have hwb : (DataW.weightsEach Tryd.prog editoTs (xs.map (·.1))).all (· ≤ reachBytes) = true := List.all_eq_true.2 (fun w hw1 => by simpa using hwe w hw1)
  obtain ⟨d0, e0, w0⟩ := field_at (k := .u8) (by omega) Tryd.underlying5 g0
  obtain ⟨s1, e1, x1⟩ := field_str (by omega) Tryd.underlying9 g1
  have hs1 := hwe s1.data.toList.length (DataW.weights_mem_each (P := Tryd.prog) (j := 1) (t := 9) rfl x1 _ (by simp [DataW.weights]))
  simp only [reachBytes, size_list] at hs1
  obtain ⟨b2, e2⟩ := field_bool (by omega) Tryd.underlying4 g2
  obtain ⟨d3, e3, w3⟩ := field_at (k := .u64) (by omega) Tryd.underlying38 g3
  obtain ⟨d4, e4, w4⟩ := field_at (k := .u64) (by omega) Tryd.underlying38 g4
  obtain ⟨s5, e5, x5⟩ := field_str (by omega) Tryd.underlying9 g5
  have hs5 := hwe s5.data.toList.length (DataW.weights_mem_each (P := Tryd.prog) (j := 5) (t := 9) rfl x5 _ (by simp [DataW.weights]))
  simp only [reachBytes, size_list] at hs5
  simp [Lit.wf, IntKind.min, IntKind.max, IntKind.signed, IntKind.bits] at w0 w3 w4
  have n0 : ((d0.toNat : Nat) : Int) = d0 := Int.toNat_of_nonneg (by omega)
  have n3 : ((d3.toNat : Nat) : Int) = d3 := Int.toNat_of_nonneg (by omega)
  have n4 : ((d4.toNat : Nat) : Int) = d4 := Int.toNat_of_nonneg (by omega)
  refine ⟨⟨d0.toNat, s1, b2, d3.toNat, d4.toNat, s5⟩, ?_, ⟨by show d0.toNat < _; omega, by show s1.size ≤ _; omega, by show d3.toNat < _; omega, by show d4.toNat < _; omega, by show s5.size ≤ _; omega⟩⟩
  unfold EditO.cells
  dsimp only
  rw [n0, n3, n4]
  exact edito_list hcl e0 e1 e2 e3 e4 e5
set_option maxRecDepth 100000 in
theorem open_editos_p (hval : Value.okWide Tryd.prog W .any base 22 v) (h : DataW.Trod enc Tryd.prog W 0 (fun _ => true) true 22 v d p) (hlt : ∀ x ∈ p, x.block < W.heap.size)
    {ts : List TypeId} {ds : List (DataW H)} {j : Nat} (hsz : (DataW.weightsEach Tryd.prog ts ds).all (· ≤ reachBytes) = true) (ht : ts[j]? = some 22) (hd : ds[j]? = some d) :
    ∃ (pa : Option Addr) (c : Nat) (L : List EditO), v = .slice pa L.length c ∧ EditOsP W pa L ∧ (∀ x, x ∈ L → x.Ok) ∧ L.length ≤ 140737488355328 := by
  obtain ⟨a0, len, cap, rfl⟩ := okWide_slice Tryd.underlying22 hval
  obtain ⟨fuel, hf⟩ := h
  rcases Deep.open_slice Tryd.underlying22 hf with ⟨hcs, hx⟩ | ⟨a, len', cap', m, n, D, Pl, hcs, _, hl, hm, hmm, hx, hi⟩
  · simp [Value.cells] at hcs
    obtain ⟨rfl, rfl, rfl⟩ := hcs
    exact ⟨none, 0, [], rfl, fun k x hk => by simp at hk, fun x hx => by simp at hx, by simp⟩
  · simp [Value.cells] at hcs
    obtain ⟨rfl, rfl, rfl⟩ := hcs
    simp only [Prod.mk.injEq] at hx
    obtain ⟨rfl, rfl⟩ := hx
    simp only [if_true] at hmm
    subst hmm
    have hr := sized_slice hsz ht hd Tryd.underlying22
    rw [bytes_edito] at hr
    simp only [List.length_map, List.length_range, reachBytes] at hr
    obtain ⟨L, hL, hP⟩ := list_of_all (α := EditO) (P := fun k x => x.Ok ∧ a.block < W.heap.size ∧ ∀ (i : Nat) (u : Value), (x.cells)[i]? = some u → W.cell? (a.add (k * 6 + i)) = some u) len (fun k hk => by
      obtain ⟨cs', hc, htr⟩ := hi k (by omega)
      rw [cells_edito] at hc
      obtain ⟨_, hcl, hat⟩ := World.cells?_some hc
      obtain ⟨x, rfl, h2⟩ := open_edito_cells htr (fun y hy => hlt y (List.mem_append_right _ (List.mem_flatMap.2 ⟨k, List.mem_range.2 (by omega), hy⟩))) (fun w hw => by
        have hw2 := DataW.weights_mem_each (P := Tryd.prog) ht hd w (by
          simp only [DataW.weights, Tryd.underlying22, List.mem_cons, List.mem_append]
          exact .inr (.inl (weightsAll_mem (x := D k) (List.mem_map.2 ⟨k, List.mem_range.2 hk, rfl⟩) hw)))
        have := List.all_eq_true.1 hsz _ hw2
        simpa using this)
      refine ⟨x, h2, hlt (.cell a.block (a.off + k * 6)) (List.mem_append_left _ (MemPlace.mem_row.2 ⟨k * 6, by rw [cells_edito]; omega, rfl⟩)), fun i u hu => ?_⟩
      have hiN : i < 6 := (List.getElem?_eq_some_iff.1 hu).1
      have := hat i hiN
      rw [Deep.add_add] at this
      rw [this]
      exact hu)
    refine ⟨some a, m, L, by rw [hL], fun k x hk => ?_, fun x hx => ?_, by rw [hL]; omega⟩
    · obtain ⟨_, h2, h4⟩ := hP k x hk
      exact ⟨a, rfl, h2, h4⟩
    · obtain ⟨k, hk⟩ := List.getElem?_of_mem hx
      exact (hP k x hk).1
set_option maxRecDepth 100000 in
theorem open_edito_v (hval : Value.okWide Tryd.prog W .any base 40 v) (h : DataW.Trod enc Tryd.prog W 0 (fun _ => true) true 40 v d p) (hlt : ∀ x ∈ p, x.block < W.heap.size)
    {ts : List TypeId} {ds : List (DataW H)} {j : Nat} (hsz : (DataW.weightsEach Tryd.prog ts ds).all (· ≤ reachBytes) = true) (ht : ts[j]? = some 40) (hd : ds[j]? = some d) :
    ∃ (x : EditO), v = .agg (x.cells).toArray ∧ x.Ok := by
  obtain ⟨cs, rfl, _⟩ := okWide_struct Tryd.underlying40 hval
  obtain ⟨fuel, hf⟩ := h
  obtain ⟨x, hcs, h1⟩ := open_edito_cells hf hlt (fun w hw => by
    have := List.all_eq_true.1 hsz _ (DataW.weights_mem_each (P := Tryd.prog) ht hd w hw)
    simpa using this)
  refine ⟨x, ?_, h1⟩
  have e : cs.toList = x.cells := by simpa [Value.cells] using hcs
  rw [← e]
end
end Go.Proofs.YtkjcpjalldbahaaDoor
