/- Plain: ranges over maps that are told as lists, inside a fence. No function of the program is named here. Contracts: a map's keys, numbers of 32 bits, as the library's iterator hands them out. -/
import Derived.Sort.MapsRangeIn
import Derived.RangeFuncSeq
import Derived.Test.YteddogalmdgjlaaDoorMapL
import Derived.RangeFuncNested
import Derived.RangeFuncBound
import Derived.RangeFuncCalls
import Derived.RangeFuncLeaves
import Derived.RangeFuncFrom
import Derived.Shelf.Abstract
import Derived.WalkKit
import Derived.TacticsInMore
import Derived.LoopNIn
import Derived.LoopIn
import Derived.Test.YteddogalmdgjlaaDoorProg
section
namespace Go.Proofs.YteddogalmdgjlaaDoor
open Go.RowKit
section
variable {F : Fence} {n : Nat} {P : Program} (w : World) {ops : Array Oper} {rest : List Oper} {o : Oper} {a : Act} {Q : Exit → Act → World → Prop}
theorem wpListIn_range_L (hg : o.guard = none) (m : Operand) (t : TypeId) (hop : o.op = Op.range t m) (k e : TypeId) (ht : P.underlying t = some (.map k e)) (b : Nat) (l : List (Value × Value))
    (hm : a.eval m = .map (some b)) (h : MapL w P k b l)
    (hK : ∀ w', RangeL w' P k b w.heap.size l l → Ext w w' → w'.heap.size = w.heap.size + 1 → wpListIn F n P ops Q rest (a.put o.dst (.pointer (some ⟨w.heap.size, 0, none⟩))) w') :
    wpListIn F n P ops Q (o :: rest) a w := by
  refine wpListIn_plain hg fun K' hK' => ?_
  obtain ⟨w', hrun, r1, r2, r3⟩ := h.range ht
  unfold Oper.wpIn
  refine ⟨by simp [Oper.about, hop], ?_⟩
  rw [Oper.semAt_plain F _ _ (by rw [hop]; intro c hc'; cases hc')]
  simp [execOp, hop, hm, hrun, Result.andThen]
  exact hK' _ _ (hK w' r1 r2 r3)
theorem wpListIn_next_L {α : Type} (hg : o.guard = none) (it : Operand) (hop : o.op = Op.next it false) (k : TypeId) (f : α → Value × Value) (b r : Nat) (l left : List (Value × Value)) (inv : ∀ p ∈ left, ∃ x, p = f x)
    (hit : a.eval it = .pointer (some ⟨r, 0, none⟩)) (h : RangeL w P k b r l left)
    (hDone : left = [] → wpListIn F n P ops Q rest (a.put o.dst (.tuple #[.bool false])) w)
    (hMore : ∀ (x : α) (left' : List (Value × Value)) (w' : World), left.Perm (f x :: left') → RangeL w' P k b r l left' → w.grownBy w' (some r) → w'.heap.size = w.heap.size →
      (Instr.entry (.pointer (some ⟨r, 0, none⟩))).run P w' = .ok (.tuple #[(f x).1, (f x).2]) w' → wpListIn F n P ops Q rest (a.put o.dst (.tuple #[.bool true, (f x).1, (f x).2])) w') :
    wpListIn F n P ops Q (o :: rest) a w := by
  refine wpListIn_plain hg fun K' hK' => ?_
  unfold Oper.wpIn
  refine ⟨by simp [Oper.about, hop], ?_⟩
  rw [Oper.semAt_plain F _ _ (by rw [hop]; intro c hc'; cases hc')]
  rcases h.next o.type with ⟨h0, hrun⟩ | ⟨p, left', w', hp, hrun, hrg, hgr, hsz, hen⟩
  · simp [execOp, hop, hit, hrun, Result.andThen]
    exact hK' _ _ (hDone h0)
  · obtain ⟨x, rfl⟩ := inv p (hp.mem_iff.2 (by simp))
    simp [execOp, hop, hit, hrun, Result.andThen]
    exact hK' _ _ (hMore x left' w' hp hrg hgr hsz hen)
end
theorem RangeL.walks {w w' : World} {P : Program} {k : TypeId} {b r : Nat} {l left : List (Value × Value)} (h : RangeL w P k b r l left) (hk : KeepsWalks w w') : RangeL w' P k b r l left := by
  obtain ⟨es, clock, since, seen, c0, hb, hs, hl, hkk, hr, rest⟩ := h
  exact ⟨es, clock, since, seen, c0, hk.same _ _ hb rfl, hs, hl, hkk, hk.same _ _ hr rfl, rest⟩
theorem RangeL.walk {w : World} {P : Program} {k : TypeId} {b r : Nat} {l left : List (Value × Value)} (h : RangeL w P k b r l left) : ∃ o : Obj, w.heap[r]? = some o ∧ o.isWalk = true := by
  obtain ⟨es, clock, since, seen, c0, hb, hs, hl, hkk, hr, rest⟩ := h
  exact ⟨_, hr, rfl⟩
end Go.Proofs.YteddogalmdgjlaaDoor
end

section
namespace Go.Proofs.YteddogalmdgjlaaDoor
open Go.RowKit Go.Shelf
open Go.Maps (Keyed)
attribute [local go_sem] Oper.semAt_some

/-- An entry of a ring's map. -/
def kvR (x : Nat × ByteArray) : Value × Value := (.int .u32 (x.1 : Int), .agg #[.string x.2])
def kOf (p : Value × Value) : Nat := match p.1 with
  | .int _ z => z.toNat
  | _ => 0
theorem kOf_kvR (x : Nat × ByteArray) : kOf (kvR x) = x.1 := by simp [kOf, kvR]
theorem kOf_map (L : List (Nat × ByteArray)) : (L.map kvR).map kOf = L.map (·.1) := by
  rw [List.map_map]
  exact List.map_congr_left fun x _ => kOf_kvR x
set_option maxRecDepth 100000 in
set_option maxHeartbeats 2000000 in
theorem keys_stops (n : Nat) (hn : 1 ≤ n) (bm b : Nat) (L : List (Nat × ByteArray)) (w : World) (hbm : bm < w.heap.size) (hC : w.cell? ⟨bm, 0, none⟩ = some (.map (some b))) (hM : MapL w Tryd.prog 29 b (L.map kvR)) :
    SeqStopsK Fence.wide n Tryd.prog 48 #[.pointer (some ⟨bm, 0, none⟩)] (fun x : Nat => #[.int .u32 (x : Int)]) KeepsWalks
      (fun xs => xs.Perm (L.map (·.1))) (fun _ => True) L.length w := fun l J Jx W hW hJ hJx hY h0 => by
  have HY := Lib.hid hY; have HJ := Lib.hid hJ
  have hc := (hW.cell (p := ⟨bm, 0, none⟩) hbm).trans hC
  have hm : MapL W Tryd.prog 29 b (L.map kvR) := hM.same (hW.block b hM.lt)
  clear hC hM hW hY hJ hJx hbm
  refine callsIn_of_wp Tryd.func48 rfl trivial ?_ rfl
  simp only [Tryd.ntmps48, List.size_toArray, List.length_cons, List.length_nil, Nat.reduceAdd, Nat.reduceSub, Array.replicate_succ, Array.replicate_zero, List.push_toArray, List.append_toArray, List.nil_append, List.cons_append]
  gi_wp2_with (first
    | (gi_at_range; refine wpListIn_range_L _ rfl _ 60 rfl 29 64 Tryd.underlying60 b (L.map kvR) rfl hm ?_; intro w0 hrg0 hx0 hs0)
    | gi_in)
  (try go_frame)
  gi_loopw [3] (fun _ wr => ∃ (left : List (Value × Value)) (ys : List Nat), Hid (RangeL wr Tryd.prog 29 b W.heap.size (L.map kvR) left) ∧ Hid (∀ p ∈ left, ∃ x, p = kvR x) ∧ Hid ((ys ++ left.map kOf).Perm (L.map (·.1))) ∧ Hid (J ys wr))
    (fun _ wr => wr.rangeLeft b W.heap.size)
  case atStart =>
    refine ⟨L.map kvR, [], Lib.hid hrg0, Lib.hid (fun p hp => ?_), Lib.hid (by rw [List.nil_append, kOf_map]), Lib.hid (HJ.out [] W w0 none h0 ⟨hx0.os, hx0.tape, hx0.output, hx0.size, fun k hk _ => hx0.block k hk⟩ (fun r e => by cases e))⟩
    obtain ⟨x, _, rfl⟩ := List.mem_map.1 hp
    exact ⟨x, rfl⟩
  case round =>
    obtain ⟨left, ys, hrg, hinv, hperm, hJs⟩ := hrel
    gi_wp2_with (first
      | (gi_at_next; refine wpListIn_next_L _ rfl _ rfl 29 kvR b W.heap.size (L.map kvR) left hinv.out rfl hrg.out ?_ ?_)
      | gi_in)
    · intro hl0
      have HF : Hid (ys.Perm (L.map (·.1))) := Lib.hid (by have := hperm.out; rw [hl0] at this; simpa using this)
      clear hl0
      gi_wp2
      go_end0
      exact ⟨⟨_, rfl⟩, .inl ⟨ys, HF.out, hJs.out⟩⟩
    · intro x1 x2 left' w2 hp hrg2 hg2 hs2 hen
      obtain ⟨x, rfl, rfl⟩ : ∃ x : Nat × ByteArray, x1 = x.1 ∧ x2 = x.2 := ⟨(x1, x2), rfl, rfl⟩
      replace hp : left.Perm (kvR x :: left') := hp
      have hlen : ys.length < L.length := by
        have h1 := hperm.out.length_eq
        have h2 := hp.length_eq
        simp only [List.length_append, List.length_map, List.length_cons] at h1 h2
        omega
      obtain ⟨fn, tmps, assign, body, hy, hR⟩ := HY.out ys x.1 w2 (HJ.out _ _ _ (some W.heap.size) hJs.out hg2 (fun r e => by cases e; exact ⟨Nat.le_refl _, hrg.out.walk⟩)) hlen
      have HP := Lib.hid hp
      have HR2 := Lib.hid hrg2
      clear hs2 hp hrg2 hlen hg2
      unfold kvR at hen
      unfold kvR
      gi_wp2
      refine hR.mono ?_
      rintro e W3 (⟨rfl, hJ3, hk3⟩ | ⟨rfl, hJx3⟩)
      · gi_wp2
        have hrg3 := HR2.out.walks hk3
        go_roundw
        case rel =>
          refine ⟨left', ys ++ [x.1], Lib.hid hrg3, Lib.hid (fun p hp => hinv.out p (HP.out.mem_iff.2 (List.mem_cons_of_mem _ hp))), Lib.hid ?_, Lib.hid hJ3⟩
          have h1 := HP.out.map kOf
          rw [List.map_cons, kOf_kvR] at h1
          rw [List.append_assoc, List.singleton_append]
          exact ((h1.symm).append_left ys).trans hperm.out
        case measure =>
          rw [hrg3.left_eq, hrg.out.left_eq]
          have h2 := HP.out.length_eq
          simp only [List.length_cons] at h2
          omega
      · gi_wp2
        refine bodyPost_ret (results_none rfl _ _ _) rfl ?_
        exact ⟨⟨_, rfl⟩, .inr ⟨_, trivial, hJx3⟩⟩
theorem keys_any (b : Option Nat) (w : World) :
    Calls Tryd.prog 39 #[.map b] w fun e w' => e = .returned (.func (.func 48) #[] #[.pointer (some ⟨w.heap.size, 0, none⟩)]) ∧ w' = w.alloc (.cells #[.map b] 60) := by
  go_enter Tryd.func39, Tryd.ntmps39
  go_wp2
  go_ret
  exact ⟨rfl, rfl⟩
end Go.Proofs.YteddogalmdgjlaaDoor
end
