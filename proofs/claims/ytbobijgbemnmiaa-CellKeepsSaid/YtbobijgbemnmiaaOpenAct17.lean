/- A slice of Act among a law's arguments, opened: what its walk asks of it. (Printed by mkopen.py.) -/
import Derived.Test.YtbobijgbemnmiaaOpenG
import Derived.Deep.Slices
import Derived.Deep.Fields
import Derived.ChangeArms
import Derived.Lib.SmallJoins
namespace Go.Proofs.Ytbobijgbemnmiaa
open Go.ChangeShapes Go.WideShapes Go.ChangeAt Go.RowKit
structure Act17 where
  Do : Nat
  Any : Bool
  Want : Nat
  N : Nat
  Text : ByteArray
def Act17.cells (x : Act17) : List Value := [.int .u8 (x.Do : Int), .bool x.Any, .int .u64 (x.Want : Int), .int .u64 (x.N : Int), .string x.Text]
structure Act17.Ok (x : Act17) : Prop where
  Do : x.Do < 256
  Want : x.Want < 18446744073709551616
  N : x.N < 18446744073709551616
  Text : x.Text.size ≤ 140737488351232
/-- The cells from the address on, if there are any, are these. -/
def Act17sP (w : World) (p : Option Addr) (L : List Act17) : Prop := ∀ (k : Nat) (x : Act17), L[k]? = some x → ∃ a, p = some a ∧ a.block < w.heap.size ∧ ∀ (j : Nat) (v : Value), (x.cells)[j]? = some v → w.cell? (a.add (k * 5 + j)) = some v
theorem Act17sP.ext {w w' : World} {p : Option Addr} {L : List Act17} (h : Act17sP w p L) (hx : Ext w w') : Act17sP w' p L := fun k x hk => by
  obtain ⟨a, h1, h2, h4⟩ := h k x hk
  exact ⟨a, h1, Nat.lt_of_lt_of_le h2 hx.size, fun j v hv => by rw [hx.below.cell (p := a.add (k * 5 + j)) (by rw [add_block]; omega)]; exact h4 j v hv⟩
theorem act17_at {w : World} {a : Addr} {j k : Nat} {v : Option Value} (h : w.cell? (a.add (j * 5 + (k + 1))) = v) : w.cell? ⟨(a.add (j * 5)).block, (a.add (j * 5)).off + (k + 1), none⟩ = v := by
  rw [← Deep.add_add] at h
  exact h
theorem cells_act17 : Try.prog.cellsOf 27 = 5 := by kernel_rfl
theorem bytes_act17 : Try.prog.bytesOf 27 = 40 := by kernel_rfl
section
variable {H : Type} {enc : TypeId × Value → H} {W : World} {base : Nat} {v : Value} {d : DataW H} {p : List MemPlace}
def act17Ts : List TypeId := [5, 4, 22, 22, 9]
theorem act17_list {cs : List Value} {v0 v1 v2 v3 v4 : Value} (hl : cs.length = 5) (e0 : cs[0]? = some v0) (e1 : cs[1]? = some v1) (e2 : cs[2]? = some v2) (e3 : cs[3]? = some v3) (e4 : cs[4]? = some v4) : cs = [v0, v1, v2, v3, v4] := by
  apply List.ext_getElem?
  intro i
  rcases (show i = 0 ∨ i = 1 ∨ i = 2 ∨ i = 3 ∨ i = 4 ∨ 5 ≤ i by omega) with rfl | rfl | rfl | rfl | rfl | h
  · exact e0
  · exact e1
  · exact e2
  · exact e3
  · exact e4
  · rw [List.getElem?_eq_none (by omega), List.getElem?_eq_none (by simpa using h)]
theorem open_act17_cells {fuel : Nat} {cs : List Value} (htr : DataW.trod enc Try.prog W 0 (fun _ => true) true fuel 27 cs = some (d, p)) (hlt : ∀ x ∈ p, x.block < W.heap.size) (hw : ∀ w ∈ d.weights Try.prog 27, w ≤ reachBytes) :
    ∃ (x : Act17), cs = x.cells ∧ x.Ok := by
  obtain ⟨xs, n', _, hD, hcl, hlen, hfl⟩ := DataW.trod_struct Try.underlying27 htr
  have hlenN : xs.length = 5 := hlen
  simp only [Prod.mk.injEq] at hD
  obtain ⟨rfl, rfl⟩ := hD
  rw [cells_act17] at hcl
  have g0 : DataW.trod enc Try.prog W 0 (fun _ => true) true n' 5 ((cs.drop 0).take (Try.prog.cellsOf 5)) = xs[0]? := hfl 0 _ rfl
  rw [show Try.prog.cellsOf 5 = 1 from by kernel_rfl] at g0
  have g1 : DataW.trod enc Try.prog W 0 (fun _ => true) true n' 4 ((cs.drop 1).take (Try.prog.cellsOf 4)) = xs[1]? := hfl 1 _ rfl
  rw [show Try.prog.cellsOf 4 = 1 from by kernel_rfl] at g1
  have g2 : DataW.trod enc Try.prog W 0 (fun _ => true) true n' 22 ((cs.drop 2).take (Try.prog.cellsOf 22)) = xs[2]? := hfl 2 _ rfl
  rw [show Try.prog.cellsOf 22 = 1 from by kernel_rfl] at g2
  have g3 : DataW.trod enc Try.prog W 0 (fun _ => true) true n' 22 ((cs.drop 3).take (Try.prog.cellsOf 22)) = xs[3]? := hfl 3 _ rfl
  rw [show Try.prog.cellsOf 22 = 1 from by kernel_rfl] at g3
  have g4 : DataW.trod enc Try.prog W 0 (fun _ => true) true n' 9 ((cs.drop 4).take (Try.prog.cellsOf 9)) = xs[4]? := hfl 4 _ rfl
  rw [show Try.prog.cellsOf 9 = 1 from by kernel_rfl] at g4
  have hwe : ∀ w ∈ DataW.weightsEach Try.prog act17Ts (xs.map (·.1)), w ≤ reachBytes := fun w hw1 => hw w (by
    simp only [DataW.weights, Try.underlying27]
    exact hw1)
  have hwb : (DataW.weightsEach Try.prog act17Ts (xs.map (·.1))).all (· ≤ reachBytes) = true := List.all_eq_true.2 (fun w hw1 => by simpa using hwe w hw1)
  obtain ⟨d0, e0, w0⟩ := field_at (k := .u8) (by omega) Try.underlying5 g0
  obtain ⟨b1, e1⟩ := field_bool (by omega) Try.underlying4 g1
  obtain ⟨d2, e2, w2⟩ := field_at (k := .u64) (by omega) Try.underlying22 g2
  obtain ⟨d3, e3, w3⟩ := field_at (k := .u64) (by omega) Try.underlying22 g3
  obtain ⟨s4, e4, x4⟩ := field_str (by omega) Try.underlying9 g4
  have hs4 := hwe s4.data.toList.length (DataW.weights_mem_each (P := Try.prog) (j := 4) (t := 9) rfl x4 _ (by simp [DataW.weights]))
  simp only [reachBytes, size_list] at hs4
  simp [Lit.wf, IntKind.min, IntKind.max, IntKind.signed, IntKind.bits] at w0 w2 w3
  have n0 : ((d0.toNat : Nat) : Int) = d0 := Int.toNat_of_nonneg (by omega)
  have n2 : ((d2.toNat : Nat) : Int) = d2 := Int.toNat_of_nonneg (by omega)
  have n3 : ((d3.toNat : Nat) : Int) = d3 := Int.toNat_of_nonneg (by omega)
  refine ⟨⟨d0.toNat, b1, d2.toNat, d3.toNat, s4⟩, ?_, ⟨by show d0.toNat < _; omega, by show d2.toNat < _; omega, by show d3.toNat < _; omega, by show s4.size ≤ _; omega⟩⟩
  unfold Act17.cells
  dsimp only
  rw [n0, n2, n3]
  exact act17_list hcl e0 e1 e2 e3 e4
set_option maxRecDepth 100000 in
theorem open_act17s_p (hval : Value.okWide Try.prog W .any base 29 v) (h : DataW.Trod enc Try.prog W 0 (fun _ => true) true 29 v d p) (hlt : ∀ x ∈ p, x.block < W.heap.size)
    {ts : List TypeId} {ds : List (DataW H)} {j : Nat} (hsz : (DataW.weightsEach Try.prog ts ds).all (· ≤ reachBytes) = true) (ht : ts[j]? = some 29) (hd : ds[j]? = some d) :
    ∃ (pa : Option Addr) (c : Nat) (L : List Act17), v = .slice pa L.length c ∧ Act17sP W pa L ∧ (∀ x, x ∈ L → x.Ok) ∧ L.length ≤ 140737488355328 := by
  obtain ⟨a0, len, cap, rfl⟩ := okWide_slice Try.underlying29 hval
  obtain ⟨fuel, hf⟩ := h
  rcases Deep.open_slice Try.underlying29 hf with ⟨hcs, hx⟩ | ⟨a, len', cap', m, n, D, Pl, hcs, _, hl, hm, hmm, hx, hi⟩
  · simp [Value.cells] at hcs
    obtain ⟨rfl, rfl, rfl⟩ := hcs
    exact ⟨none, 0, [], rfl, fun k x hk => by simp at hk, fun x hx => by simp at hx, by simp⟩
  · simp [Value.cells] at hcs
    obtain ⟨rfl, rfl, rfl⟩ := hcs
    simp only [Prod.mk.injEq] at hx
    obtain ⟨rfl, rfl⟩ := hx
    simp only [if_true] at hmm
    subst hmm
    have hr := sized_slice hsz ht hd Try.underlying29
    rw [bytes_act17] at hr
    simp only [List.length_map, List.length_range, reachBytes] at hr
    obtain ⟨L, hL, hP⟩ := list_of_all (α := Act17) (P := fun k x => x.Ok ∧ a.block < W.heap.size ∧ ∀ (i : Nat) (u : Value), (x.cells)[i]? = some u → W.cell? (a.add (k * 5 + i)) = some u) len (fun k hk => by
      obtain ⟨cs', hc, htr⟩ := hi k (by omega)
      rw [cells_act17] at hc
      obtain ⟨_, hcl, hat⟩ := World.cells?_some hc
      obtain ⟨x, rfl, h2⟩ := open_act17_cells htr (fun y hy => hlt y (List.mem_append_right _ (List.mem_flatMap.2 ⟨k, List.mem_range.2 (by omega), hy⟩))) (fun w hw => by
        have hw2 := DataW.weights_mem_each (P := Try.prog) ht hd w (by
          simp only [DataW.weights, Try.underlying29, List.mem_cons, List.mem_append]
          exact .inr (.inl (weightsAll_mem (x := D k) (List.mem_map.2 ⟨k, List.mem_range.2 hk, rfl⟩) hw)))
        have := List.all_eq_true.1 hsz _ hw2
        simpa using this)
      refine ⟨x, h2, hlt (.cell a.block (a.off + k * 5)) (List.mem_append_left _ (MemPlace.mem_row.2 ⟨k * 5, by rw [cells_act17]; omega, rfl⟩)), fun i u hu => ?_⟩
      have hiN : i < 5 := (List.getElem?_eq_some_iff.1 hu).1
      have := hat i hiN
      rw [Deep.add_add] at this
      rw [this]
      exact hu)
    refine ⟨some a, m, L, by rw [hL], fun k x hk => ?_, fun x hx => ?_, by rw [hL]; omega⟩
    · obtain ⟨_, h2, h4⟩ := hP k x hk
      exact ⟨a, rfl, h2, h4⟩
    · obtain ⟨k, hk⟩ := List.getElem?_of_mem hx
      exact (hP k x hk).1
theorem open_act17_v (hval : Value.okWide Try.prog W .any base 27 v) (h : DataW.Trod enc Try.prog W 0 (fun _ => true) true 27 v d p) (hlt : ∀ x ∈ p, x.block < W.heap.size)
    {ts : List TypeId} {ds : List (DataW H)} {j : Nat} (hsz : (DataW.weightsEach Try.prog ts ds).all (· ≤ reachBytes) = true) (ht : ts[j]? = some 27) (hd : ds[j]? = some d) :
    ∃ (x : Act17), v = .agg (x.cells).toArray ∧ x.Ok := by
  obtain ⟨cs, rfl, _⟩ := okWide_struct Try.underlying27 hval
  obtain ⟨fuel, hf⟩ := h
  obtain ⟨x, hcs, h1⟩ := open_act17_cells hf hlt (fun w hw => by
    have := List.all_eq_true.1 hsz _ (DataW.weights_mem_each (P := Try.prog) ht hd w hw)
    simpa using this)
  refine ⟨x, ?_, h1⟩
  have e : cs.toList = x.cells := by simpa [Value.cells] using hcs
  rw [← e]
end
end Go.Proofs.Ytbobijgbemnmiaa
