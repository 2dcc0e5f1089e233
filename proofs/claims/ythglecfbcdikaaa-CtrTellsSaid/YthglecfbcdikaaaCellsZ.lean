/- Plain: a cipher as it is built, and once its round keys are there. -/
import Derived.Test.YthglecfbcdikaaaRoundKeys
namespace Go.Proofs.Ythglecfbcdikaaa
open Go.RowKit
attribute [local irreducible] rkey expand enc dec
/-- The cells of a cipher whose round keys aren't there yet. -/
def cellsZ : List Value := [.bool true] ++ (boxesL ++ List.replicate 176 0).map cellOf
theorem cellsZ_length : cellsZ.length = 689 := by unfold cellsZ; rw [List.length_append, List.length_map, List.length_append, boxesL_length, List.length_replicate]; rfl
theorem built_cipher : Try.prog.built 57 [(0, .bool true), (1, .agg (boxesL.map cellOf).toArray)] = some cellsZ.toArray := by kernel_rfl
attribute [irreducible] cellsZ
theorem cellsZ_box {w : World} {c : Nat} (h : Blk w c 57 cellsZ) : Bytes w c 1 boxT := fun i b hi => by
  have hl : i < boxT.length := (List.getElem?_eq_some_iff.1 hi).1
  rw [boxT_length] at hl
  have e := boxesL_at i hl
  rw [boxT_at i hl] at hi
  apply h.cell
  unfold cellsZ
  rw [List.getElem?_append_right (by simp), List.map_append, List.getElem?_append_left (by rw [List.length_map, boxesL_length]; simp; omega)]
  have e2 : 1 + i - [Value.bool true].length = i := by simp
  rw [e2, List.getElem?_map, e, Option.some.inj hi]
  rfl
theorem cellsZ_keyed (E : List UInt8) (hE : E.length = 176) : cellsZ.take 513 ++ (E.map cellOf ++ cellsZ.drop (513 + (E.map cellOf).length)) = [.bool true] ++ (boxesL ++ E).map cellOf := by
  have e1 : cellsZ.drop (513 + (E.map cellOf).length) = [] := List.drop_of_length_le (by rw [cellsZ_length, List.length_map, hE]; omega)
  have e2 : cellsZ.take 513 = [.bool true] ++ boxesL.map cellOf := by
    unfold cellsZ
    rw [List.map_append, ← List.append_assoc, List.take_append_of_le_length (by rw [List.length_append, List.length_map, boxesL_length]; simp), List.take_of_length_le (by rw [List.length_append, List.length_map, boxesL_length]; simp)]
  rw [e1, e2, List.append_nil, List.map_append, List.append_assoc]
/-- A struct built whose cells are told. -/
theorem wpList_built {P : Program} {ops : Array Oper} {rest : List Oper} {o : Oper} {a : Act} {w : World} {Q : Exit → Act → World → Prop} (hg : o.guard = none) (t : TypeId) (l : List (Nat × Operand)) (ho : o.op = .build t l.toArray) (vs : List (Nat × Value)) (hv : l.map (fun p => (p.1, a.eval p.2)) = vs) (cells : Array Value)
    (hc : P.built t vs = some cells) (h : wpList P ops Q rest (a.put o.dst (.agg cells)) w) : wpList P ops Q (o :: rest) a w := by
  have e : (l.toArray.map fun (i, x) => (i, a.eval x)).toList = vs := by rw [← hv]; simp
  refine wpList_build hg t l.toArray ho (by rw [e, hc]; rfl) ?_
  rw [e, hc]
  exact h
end Go.Proofs.Ythglecfbcdikaaa
