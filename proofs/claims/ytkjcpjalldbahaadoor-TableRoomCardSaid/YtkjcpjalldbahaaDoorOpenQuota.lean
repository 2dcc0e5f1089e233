/- A slice of Quota among a law's arguments, opened: what its walk asks of it. (Printed by mkopen.py.) -/
import Derived.Test.YtkjcpjalldbahaaDoorM03
import Derived.Deep.Slices
import Derived.Deep.Fields
import Derived.ChangeArms
import Derived.Lib.SmallJoins
namespace Go.Proofs.YtkjcpjalldbahaaDoor
open Go.ChangeShapes Go.WideShapes Go.ChangeAt Go.RowKit
structure QuotaO where
  Paths : Int
  Bytes : Int
def QuotaO.cells (x : QuotaO) : List Value := [.int .i64 x.Paths, .int .i64 x.Bytes]
structure QuotaO.Ok (x : QuotaO) : Prop where
  Paths : -9223372036854775808 ≤ x.Paths ∧ x.Paths ≤ 9223372036854775807
  Bytes : -9223372036854775808 ≤ x.Bytes ∧ x.Bytes ≤ 9223372036854775807
/-- The cells from the address on, if there are any, are these. -/
def QuotaOsP (w : World) (p : Option Addr) (L : List QuotaO) : Prop := ∀ (k : Nat) (x : QuotaO), L[k]? = some x → ∃ a, p = some a ∧ a.block < w.heap.size ∧ ∀ (j : Nat) (v : Value), (x.cells)[j]? = some v → w.cell? (a.add (k * 2 + j)) = some v
theorem QuotaOsP.ext {w w' : World} {p : Option Addr} {L : List QuotaO} (h : QuotaOsP w p L) (hx : Ext w w') : QuotaOsP w' p L := fun k x hk => by
  obtain ⟨a, h1, h2, h4⟩ := h k x hk
  exact ⟨a, h1, Nat.lt_of_lt_of_le h2 hx.size, fun j v hv => by rw [hx.below.cell (p := a.add (k * 2 + j)) (by rw [add_block]; omega)]; exact h4 j v hv⟩
theorem quotao_at {w : World} {a : Addr} {j k : Nat} {v : Option Value} (h : w.cell? (a.add (j * 2 + (k + 1))) = v) : w.cell? ⟨(a.add (j * 2)).block, (a.add (j * 2)).off + (k + 1), none⟩ = v := by
  rw [← Deep.add_add] at h
  exact h
theorem cells_quotao : Tryd.prog.cellsOf 31 = 2 := by kernel_rfl
theorem bytes_quotao : Tryd.prog.bytesOf 31 = 16 := by kernel_rfl
section
variable {H : Type} {enc : TypeId × Value → H} {W : World} {base : Nat} {v : Value} {d : DataW H} {p : List MemPlace}
def quotaoTs : List TypeId := [3, 3]
theorem quotao_list {cs : List Value} {v0 v1 : Value} (hl : cs.length = 2) (e0 : cs[0]? = some v0) (e1 : cs[1]? = some v1) : cs = [v0, v1] := by
  apply List.ext_getElem?
  intro i
  rcases (show i = 0 ∨ i = 1 ∨ 2 ≤ i by omega) with rfl | rfl | h
  · exact e0
  · exact e1
  · rw [List.getElem?_eq_none (by omega), List.getElem?_eq_none (by simpa using h)]
theorem open_quotao_cells {fuel : Nat} {cs : List Value} (htr : DataW.trod enc Tryd.prog W 0 (fun _ => true) true fuel 31 cs = some (d, p)) (hlt : ∀ x ∈ p, x.block < W.heap.size) (hw : ∀ w ∈ d.weights Tryd.prog 31, w ≤ reachBytes) :
    ∃ (x : QuotaO), cs = x.cells ∧ x.Ok := by
  obtain ⟨xs, n', _, hD, hcl, hlen, hfl⟩ := DataW.trod_struct Tryd.underlying31 htr
  have hlenN : xs.length = 2 := hlen
  simp only [Prod.mk.injEq] at hD
  obtain ⟨rfl, rfl⟩ := hD
  rw [cells_quotao] at hcl
  have g0 : DataW.trod enc Tryd.prog W 0 (fun _ => true) true n' 3 ((cs.drop 0).take (Tryd.prog.cellsOf 3)) = xs[0]? := hfl 0 _ rfl
  rw [show Tryd.prog.cellsOf 3 = 1 from by kernel_rfl] at g0
  have g1 : DataW.trod enc Tryd.prog W 0 (fun _ => true) true n' 3 ((cs.drop 1).take (Tryd.prog.cellsOf 3)) = xs[1]? := hfl 1 _ rfl
  rw [show Tryd.prog.cellsOf 3 = 1 from by kernel_rfl] at g1
  have hwe : ∀ w ∈ DataW.weightsEach Tryd.prog quotaoTs (xs.map (·.1)), w ≤ reachBytes := fun w hw1 => hw w (by
    simp only [DataW.weights, Tryd.underlying31]
    exact hw1)
  have hwb : (DataW.weightsEach Tryd.prog quotaoTs (xs.map (·.1))).all (· ≤ reachBytes) = true := List.all_eq_true.2 (fun w hw1 => by simpa using hwe w hw1)
  obtain ⟨d0, e0, w0⟩ := field_at (k := .i64) (by omega) Tryd.underlying3 g0
  obtain ⟨d1, e1, w1⟩ := field_at (k := .i64) (by omega) Tryd.underlying3 g1
  simp [Lit.wf, IntKind.min, IntKind.max, IntKind.signed, IntKind.bits] at w0 w1
  refine ⟨⟨d0, d1⟩, ?_, ⟨by show _ ∧ _; omega, by show _ ∧ _; omega⟩⟩
  unfold QuotaO.cells
  dsimp only
  exact quotao_list hcl e0 e1
set_option maxRecDepth 100000 in
theorem open_quotao_v (hval : Value.okWide Tryd.prog W .any base 31 v) (h : DataW.Trod enc Tryd.prog W 0 (fun _ => true) true 31 v d p) (hlt : ∀ x ∈ p, x.block < W.heap.size)
    {ts : List TypeId} {ds : List (DataW H)} {j : Nat} (hsz : (DataW.weightsEach Tryd.prog ts ds).all (· ≤ reachBytes) = true) (ht : ts[j]? = some 31) (hd : ds[j]? = some d) :
    ∃ (x : QuotaO), v = .agg (x.cells).toArray ∧ x.Ok := by
  obtain ⟨cs, rfl, _⟩ := okWide_struct Tryd.underlying31 hval
  obtain ⟨fuel, hf⟩ := h
  obtain ⟨x, hcs, h1⟩ := open_quotao_cells hf hlt (fun w hw => by
    have := List.all_eq_true.1 hsz _ (DataW.weights_mem_each (P := Tryd.prog) ht hd w hw)
    simpa using this)
  refine ⟨x, ?_, h1⟩
  have e : cs.toList = x.cells := by simpa [Value.cells] using hcs
  rw [← e]
end
end Go.Proofs.YtkjcpjalldbahaaDoor
