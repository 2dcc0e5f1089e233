/- A slice of Act among a law's arguments, opened: what its walk asks of it. (Printed by mkopen.py.) Plain: new blocks of zeros, of any size. -/
import Derived.Test.YteddogalmdgjlaaDoorM11
import Derived.Deep.Slices
import Derived.Deep.Fields
import Derived.ChangeArms
import Derived.Lib.SmallJoins
import Derived.Test.YteddogalmdgjlaaDoorProg
import Derived.Test.YteddogalmdgjlaaDoorM03
section
namespace Go.Proofs.YteddogalmdgjlaaDoor
open Go.ChangeShapes Go.WideShapes Go.ChangeAt Go.RowKit
structure Act13 where
  Go : Bool
  Epoch : Nat
  Key : ByteArray
  Fit : Bool
def Act13.cells (x : Act13) : List Value := [.bool x.Go, .int .u32 (x.Epoch : Int), .string x.Key, .bool x.Fit]
structure Act13.Ok (x : Act13) : Prop where
  Epoch : x.Epoch < 4294967296
  Key : x.Key.size ≤ 140737488351232
/-- The cells from the address on, if there are any, are these. -/
def Act13sP (w : World) (p : Option Addr) (L : List Act13) : Prop := ∀ (k : Nat) (x : Act13), L[k]? = some x → ∃ a, p = some a ∧ a.block < w.heap.size ∧ ∀ (j : Nat) (v : Value), (x.cells)[j]? = some v → w.cell? (a.add (k * 4 + j)) = some v
theorem Act13sP.ext {w w' : World} {p : Option Addr} {L : List Act13} (h : Act13sP w p L) (hx : Ext w w') : Act13sP w' p L := fun k x hk => by
  obtain ⟨a, h1, h2, h4⟩ := h k x hk
  exact ⟨a, h1, Nat.lt_of_lt_of_le h2 hx.size, fun j v hv => by rw [hx.below.cell (p := a.add (k * 4 + j)) (by rw [add_block]; omega)]; exact h4 j v hv⟩
theorem act13_at {w : World} {a : Addr} {j k : Nat} {v : Option Value} (h : w.cell? (a.add (j * 4 + (k + 1))) = v) : w.cell? ⟨(a.add (j * 4)).block, (a.add (j * 4)).off + (k + 1), none⟩ = v := by
  rw [← Deep.add_add] at h
  exact h
theorem cells_act13 : Tryd.prog.cellsOf 34 = 4 := by kernel_rfl
theorem bytes_act13 : Tryd.prog.bytesOf 34 = 32 := by kernel_rfl
section
variable {H : Type} {enc : TypeId × Value → H} {W : World} {base : Nat} {v : Value} {d : DataW H} {p : List MemPlace}
def act13Ts : List TypeId := [4, 29, 9, 4]
theorem act13_list {cs : List Value} {v0 v1 v2 v3 : Value} (hl : cs.length = 4) (e0 : cs[0]? = some v0) (e1 : cs[1]? = some v1) (e2 : cs[2]? = some v2) (e3 : cs[3]? = some v3) : cs = [v0, v1, v2, v3] := by
  apply List.ext_getElem?
  intro i
  rcases (show i = 0 ∨ i = 1 ∨ i = 2 ∨ i = 3 ∨ 4 ≤ i by omega) with rfl | rfl | rfl | rfl | h
  · exact e0
  · exact e1
  · exact e2
  · exact e3
  · rw [List.getElem?_eq_none (by omega), List.getElem?_eq_none (by simpa using h)]
theorem open_act13_cells {fuel : Nat} {cs : List Value} (htr : DataW.trod enc Tryd.prog W 0 (fun _ => true) true fuel 34 cs = some (d, p)) (hlt : ∀ x ∈ p, x.block < W.heap.size) (hw : ∀ w ∈ d.weights Tryd.prog 34, w ≤ reachBytes) :
    ∃ (x : Act13), cs = x.cells ∧ x.Ok := by
  obtain ⟨xs, n', _, hD, hcl, hlen, hfl⟩ := DataW.trod_struct Tryd.underlying34 htr
  have hlenN : xs.length = 4 := hlen
  simp only [Prod.mk.injEq] at hD
  obtain ⟨rfl, rfl⟩ := hD
  rw [cells_act13] at hcl
  have g0 : DataW.trod enc Tryd.prog W 0 (fun _ => true) true n' 4 ((cs.drop 0).take (Tryd.prog.cellsOf 4)) = xs[0]? := hfl 0 _ rfl
  rw [show Tryd.prog.cellsOf 4 = 1 from by kernel_rfl] at g0
  have g1 : DataW.trod enc Tryd.prog W 0 (fun _ => true) true n' 29 ((cs.drop 1).take (Tryd.prog.cellsOf 29)) = xs[1]? := hfl 1 _ rfl
  rw [show Tryd.prog.cellsOf 29 = 1 from by kernel_rfl] at g1
  have g2 : DataW.trod enc Tryd.prog W 0 (fun _ => true) true n' 9 ((cs.drop 2).take (Tryd.prog.cellsOf 9)) = xs[2]? := hfl 2 _ rfl
  rw [show Tryd.prog.cellsOf 9 = 1 from by kernel_rfl] at g2
  have g3 : DataW.trod enc Tryd.prog W 0 (fun _ => true) true n' 4 ((cs.drop 3).take (Tryd.prog.cellsOf 4)) = xs[3]? := hfl 3 _ rfl
  rw [show Tryd.prog.cellsOf 4 = 1 from by kernel_rfl] at g3
  have hwe : ∀ w ∈ DataW.weightsEach Tryd.prog act13Ts (xs.map (·.1)), w ≤ reachBytes := fun w hw1 => hw w (by
    simp only [DataW.weights, Tryd.underlying34]
    exact hw1)
  have hwb : (DataW.weightsEach Tryd.prog act13Ts (xs.map (·.1))).all (· ≤ reachBytes) = true := List.all_eq_true.2 (fun w hw1 => by simpa using hwe w hw1)
  obtain ⟨b0, e0⟩ := field_bool (by omega) Tryd.underlying4 g0
  obtain ⟨d1, e1, w1⟩ := field_at (k := .u32) (by omega) Tryd.underlying29 g1
  obtain ⟨s2, e2, x2⟩ := field_str (by omega) Tryd.underlying9 g2
  have hs2 := hwe s2.data.toList.length (DataW.weights_mem_each (P := Tryd.prog) (j := 2) (t := 9) rfl x2 _ (by simp [DataW.weights]))
  simp only [reachBytes, size_list] at hs2
  obtain ⟨b3, e3⟩ := field_bool (by omega) Tryd.underlying4 g3
  simp [Lit.wf, IntKind.min, IntKind.max, IntKind.signed, IntKind.bits] at w1
  have n1 : ((d1.toNat : Nat) : Int) = d1 := Int.toNat_of_nonneg (by omega)
  refine ⟨⟨b0, d1.toNat, s2, b3⟩, ?_, ⟨by show d1.toNat < _; omega, by show s2.size ≤ _; omega⟩⟩
  unfold Act13.cells
  dsimp only
  rw [n1]
  exact act13_list hcl e0 e1 e2 e3
set_option maxRecDepth 100000 in
theorem open_act13s_p (hval : Value.okWide Tryd.prog W .any base 22 v) (h : DataW.Trod enc Tryd.prog W 0 (fun _ => true) true 22 v d p) (hlt : ∀ x ∈ p, x.block < W.heap.size)
    {ts : List TypeId} {ds : List (DataW H)} {j : Nat} (hsz : (DataW.weightsEach Tryd.prog ts ds).all (· ≤ reachBytes) = true) (ht : ts[j]? = some 22) (hd : ds[j]? = some d) :
    ∃ (pa : Option Addr) (c : Nat) (L : List Act13), v = .slice pa L.length c ∧ Act13sP W pa L ∧ (∀ x, x ∈ L → x.Ok) ∧ L.length ≤ 140737488355328 := by
  obtain ⟨a0, len, cap, rfl⟩ := okWide_slice Tryd.underlying22 hval
  obtain ⟨fuel, hf⟩ := h
  rcases Deep.open_slice Tryd.underlying22 hf with ⟨hcs, hx⟩ | ⟨a, len', cap', m, n, D, Pl, hcs, _, hl, hm, hmm, hx, hi⟩
  · simp [Value.cells] at hcs
    obtain ⟨rfl, rfl, rfl⟩ := hcs
    exact ⟨none, 0, [], rfl, fun k x hk => by simp at hk, fun x hx => by simp at hx, by simp⟩
  · simp [Value.cells] at hcs
    obtain ⟨rfl, rfl, rfl⟩ := hcs
    simp only [Prod.mk.injEq] at hx
    obtain ⟨rfl, rfl⟩ := hx
    simp only [if_true] at hmm
    subst hmm
    have hr := sized_slice hsz ht hd Tryd.underlying22
    rw [bytes_act13] at hr
    simp only [List.length_map, List.length_range, reachBytes] at hr
    obtain ⟨L, hL, hP⟩ := list_of_all (α := Act13) (P := fun k x => x.Ok ∧ a.block < W.heap.size ∧ ∀ (i : Nat) (u : Value), (x.cells)[i]? = some u → W.cell? (a.add (k * 4 + i)) = some u) len (fun k hk => by
      obtain ⟨cs', hc, htr⟩ := hi k (by omega)
      rw [cells_act13] at hc
      obtain ⟨_, hcl, hat⟩ := World.cells?_some hc
      obtain ⟨x, rfl, h2⟩ := open_act13_cells htr (fun y hy => hlt y (List.mem_append_right _ (List.mem_flatMap.2 ⟨k, List.mem_range.2 (by omega), hy⟩))) (fun w hw => by
        have hw2 := DataW.weights_mem_each (P := Tryd.prog) ht hd w (by
          simp only [DataW.weights, Tryd.underlying22, List.mem_cons, List.mem_append]
          exact .inr (.inl (weightsAll_mem (x := D k) (List.mem_map.2 ⟨k, List.mem_range.2 hk, rfl⟩) hw)))
        have := List.all_eq_true.1 hsz _ hw2
        simpa using this)
      refine ⟨x, h2, hlt (.cell a.block (a.off + k * 4)) (List.mem_append_left _ (MemPlace.mem_row.2 ⟨k * 4, by rw [cells_act13]; omega, rfl⟩)), fun i u hu => ?_⟩
      have hiN : i < 4 := (List.getElem?_eq_some_iff.1 hu).1
      have := hat i hiN
      rw [Deep.add_add] at this
      rw [this]
      exact hu)
    refine ⟨some a, m, L, by rw [hL], fun k x hk => ?_, fun x hx => ?_, by rw [hL]; omega⟩
    · obtain ⟨_, h2, h4⟩ := hP k x hk
      exact ⟨a, rfl, h2, h4⟩
    · obtain ⟨k, hk⟩ := List.getElem?_of_mem hx
      exact (hP k x hk).1
end
end Go.Proofs.YteddogalmdgjlaaDoor
end

section
namespace Go.Proofs.YteddogalmdgjlaaDoor
open Go.RowKit

/-- n bytes 0. -/
def zc (n : Nat) : Array Value := ((List.replicate n (0 : UInt8)).map cellOf).toArray
theorem zero_run {P : Program} {t : TypeId} {z : Value} (h : (P.info? t).bind (·.zero) = some z) (w : World) : (zeroValue t).run P w = .ok z w := by
  cases hq : P.info? t with
  | none => simp [hq] at h
  | some i =>
    have hz : i.zero = some z := by simpa [hq] using h
    simp [zeroValue, typeInfo, hq, hz]
theorem Row.zero (w : World) (t : TypeId) (n : Nat) : Row (w.alloc (.cells (zc n) t)) w.heap.size t (List.replicate n 0) := heap_alloc_new w _
theorem sized {t n : Nat} {l : List UInt8} (h : (Tryd.prog.info? t).map (·.size) = some n) (hl : l.length = n) : (Tryd.prog.info? t).map (·.size) = some ((l.map cellOf).toArray).size := by simp [h, hl]
end Go.Proofs.YteddogalmdgjlaaDoor
end
