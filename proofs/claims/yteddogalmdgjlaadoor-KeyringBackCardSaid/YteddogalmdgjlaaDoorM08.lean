/- From the rows' condition on the program's tables to what the contracts ask of the world; a world that meets it. Plain: slices of texts that came in. Plain: make([]byte, n). -/
import Derived.Test.YteddogalmdgjlaaDoorRows
import Derived.Test.YteddogalmdgjlaaDoorTake
import Derived.ProofKit
import Derived.JoinedOf
import Derived.LaidLaws
import Derived.LaidHandle
import Derived.MakeChecks
import Derived.Stop.LaidErr
import Derived.Stop.Joined
import Derived.Lib.LaidTab
import Derived.Test.YteddogalmdgjlaaDoorM03
import Derived.Test.YteddogalmdgjlaaDoorProg
import Derived.Test.YteddogalmdgjlaaDoorBytes
import Derived.WalkSpells
section
namespace Go.Proofs.YteddogalmdgjlaaDoor
open Go.ChangeShapes Go.WideShapes Go.RowKit

noncomputable def laidList : List (String × DataW Unit) := Rows.keyringReadsRow.laid
theorem own : ownKnob Tryd.prog.godebug = none := by kernel_rfl
def intsOf (l : List Nat) : List Int := l.map fun (n : Nat) => (n : Int)
theorem laid_of_met {W : World} (h : laidMetH Tryd.prog laidList W) : Laid W := by
  have h1 : laidMet Tryd.prog laidList W := by
    rwa [MakeChecks.laidMetH_plain _ _ _ (by kernel_rfl)] at h
  have hk := Lib.tabIs_of_head (k := .u32) (zs := intsOf Kc) (g := 1) (t := 148) (e := 29) (n := 64) (by kernel_rfl) (by kernel_rfl) Tryd.underlying148 Tryd.underlying29 (by kernel_rfl) (by kernel_rfl) (laidMet.tail (show laidMet Tryd.prog (_ :: (_, Lib.tabData .u32 (intsOf Kc)) :: []) W from h1))
  have hf := Lib.tabIs_of_head (k := .u32) (zs := intsOf init.list) (g := 0) (t := 136) (e := 29) (n := 8) (by kernel_rfl) (by kernel_rfl) Tryd.underlying136 Tryd.underlying29 (by kernel_rfl) (by kernel_rfl) (show laidMet Tryd.prog ((_, Lib.tabData .u32 (intsOf init.list)) :: _) W from h1)
  have ck := fun i hi => hk.cell (g := 1) (by kernel_rfl) i hi
  have cf := fun i hi => hf.cell (g := 0) (by kernel_rfl) i hi
  have e : ∀ (l : List Nat) (i : Nat), i < l.length → (intsOf l).getD i 0 = ((l.getD i 0 : Nat) : Int) := by
    intro l i hi
    simp [intsOf, List.getD, List.getElem?_eq_getElem hi]
  refine ⟨fun i hi => ?_, fun i hi => ?_, ?_⟩
  · rw [ck i hi, e Kc i hi]
  · rw [cf i hi, e init.list i hi]
  · have := ck 0 (by decide)
    rcases Nat.lt_or_ge 1 W.heap.size with hlt | hge
    · exact hlt
    · unfold World.cell? at this
      rw [Array.getElem?_eq_none (by simpa using hge)] at this
      cases this
/-- A world that meets the condition: the settled one, the tables laid. -/
noncomputable def laidWorld (os : Os) : World :=
  let w0 := World.holding Tryd.prog os ⟨#[], #[], []⟩
  { w0 with heap := (w0.heap.modify 0 fun
      | .cells _ t frozen => .cells (init.list.map cell32).toArray t frozen
      | o => o).modify 1 fun
      | .cells _ t frozen => .cells (Kc.map cell32).toArray t frozen
      | o => o }
theorem laidWorld_met (os : Os) (args : Array Value) : laidMetH Tryd.prog laidList ((laidWorld os).forCall (fun _ _ => 0) ⟨#[], args, []⟩).memory :=
  laidMetH_of_parts (laidMet_of_run' 8 (by kernel_rfl) (by kernel_rfl)) (by kernel_rfl)
end Go.Proofs.YteddogalmdgjlaaDoor
end

section
namespace Go.Proofs.YteddogalmdgjlaaDoor
open Go.RowKit

/-- The cells from a on are these texts. -/
def Texts (w : World) (a : Addr) (l : List ByteArray) : Prop := ∀ i s, l[i]? = some s → a.block < w.heap.size ∧ w.cell? (a.add i) = some (.string s)
theorem add_block (a : Addr) (i : Nat) : (a.add i).block = a.block := by unfold Addr.add; split <;> rfl
theorem Texts.ext {w w' : World} {a : Addr} {l : List ByteArray} (h : Texts w a l) (hx : Ext w w') : Texts w' a l := fun i s hs =>
  ⟨Nat.lt_of_lt_of_le (h i s hs).1 hx.below.size, by rw [hx.below.cell (p := a.add i) (by rw [add_block]; exact (h i s hs).1)]; exact (h i s hs).2⟩
/-- The value is a row of texts, or nil. -/
def TextsV (w : World) (v : Value) (l : List ByteArray) : Prop := (v = .slice none 0 0 ∧ l = []) ∨ ∃ a c, v = .slice (some a) l.length c ∧ Texts w a l ∧ l.length ≤ 140737488355328
theorem TextsV.ext {w w' : World} {v : Value} {l : List ByteArray} (h : TextsV w v l) (hx : Ext w w') : TextsV w' v l := by
  rcases h with h | ⟨a, c, h1, h2, h3⟩
  · exact .inl h
  · exact .inr ⟨a, c, h1, h2.ext hx, h3⟩
end Go.Proofs.YteddogalmdgjlaaDoor
end

section
namespace Go.Proofs.YteddogalmdgjlaaDoor
open Go.RowKit

theorem info5 : (Tryd.prog.info? 5).map (fun i => (i.zero, i.size, i.bytes)) = some (some (.int .u8 0), 1, 1) := by kernel_rfl

/-- make([]byte, n): a new block of n zeros. -/
theorem make_bytes (n : Nat) (hn : n ≤ 281474976710656) : ∀ u : World, (Instr.makeSlice 35 (.int .i64 (n : Int)) (.int .i64 (n : Int))).run Tryd.prog u =
      .ok (.slice (some ⟨u.heap.size, 0, none⟩) n n) (u.alloc (.cells (madeCells #[.int .u8 0] n) 5)) := fun u => by
  obtain ⟨i0, hi, hz0, hz1, hz2⟩ := info_parts info5
  have h := run_make (P := Tryd.prog) u 35 5 i0 (.int .u8 0) Tryd.underlying35 hi hz0 .i64 .i64 (n : Int) (n : Int) (by omega) (Int.le_refl _) (by rw [hz2]; omega) (by omega)
  simpa [hz1, Value.cells] using h
end Go.Proofs.YteddogalmdgjlaaDoor
end
