/- Acts of layer 18's law: edits, rows, paths. -/
import Derived.Test.YtkjcpjalldbahaaDoorM28
import Derived.Test.YtkjcpjalldbahaaDoorOpenRow
import Derived.BigQuiet
import Derived.Deep.QuietTactic
namespace Go.Proofs.YtkjcpjalldbahaaDoor
open Go.RowKit

structure ActR where
  dv : Nat
  E : List EditP
  ea : Option Addr
  ec : Nat
  R : List Ent
  ra : Option Addr
  rc : Nat
  P : List ByteArray
  pa : Option Addr
  pc : Nat
def ActR.cells (x : ActR) : List Value := [.int .u8 (x.dv : Int), .slice x.ea x.E.length x.ec, .slice x.ra x.R.length x.rc, .slice x.pa x.P.length x.pc]
def cntA (A : List ActR) : Nat := (A.map fun x => x.E.length + x.R.length + x.P.length).sum
theorem cntA_take {A : List ActR} {j : Nat} {x : ActR} (h : A[j]? = some x) : cntA (A.take (j + 1)) = cntA (A.take j) + (x.E.length + x.R.length + x.P.length) := by
  unfold cntA
  rw [List.take_add_one, h]
  simp
def ActsR (w : World) (p : Option Addr) (A : List ActR) : Prop := ∀ (k : Nat) (x : ActR), A[k]? = some x → (∃ a, p = some a ∧ a.block < w.heap.size ∧ ∀ (j : Nat) (v : Value), x.cells[j]? = some v → w.cell? (a.add (k * 4 + j)) = some v) ∧ EditsP w x.ea x.E ∧ RowsP w x.ra x.R ∧ TextsP w x.pa x.P
theorem actR_at {w : World} {a : Addr} {j k : Nat} {v : Option Value} (h : w.cell? (a.add (j * 4 + (k + 1))) = v) : w.cell? ⟨(a.add (j * 4)).block, (a.add (j * 4)).off + (k + 1), none⟩ = v := by
  rw [← Go.Deep.add_add] at h
  exact h
/-- How long what is in an act may be. -/
structure ActR.Sz (x : ActR) (ml t rl : Nat) : Prop where
  e : x.E.length ≤ ml
  r : x.R.length ≤ ml
  p : x.P.length ≤ ml
  et : ∀ e ∈ x.E, e.p.size ≤ t ∧ e.t.size ≤ t
  rt : ∀ e ∈ x.R, e.L.length ≤ rl ∧ ∀ v ∈ e.L, v.t.size ≤ t
def HeavyR18 (A : List ActR) (w : World) (e : Ending) (w' : World) : Prop := ∃ b : Bool, e = .returned (.bool b) ∧ (b = false → A.length ≤ 40 ∧ cntA A ≤ 1024) ∧ Ext w w'
end Go.Proofs.YtkjcpjalldbahaaDoor
