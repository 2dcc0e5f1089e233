/- Contracts: envelopes: what an envelope's tag is of; its parts in a row; its bytes: by the program. Contracts: envelopes: an envelope's bytes: by the program. What a round of a range over a function keeps: all below a bound, and named blocks above it. -/
import Derived.Test.YtdnpgmoiapkhnaaDoorSealP
import Derived.Test.YtdnpgmoiapkhnaaDoorM16
import Derived.Test.YtdnpgmoiapkhnaaDoorM35
import Derived.Test.YtdnpgmoiapkhnaaDoorM36
import Derived.Test.YtdnpgmoiapkhnaaDoorM18
import Derived.Deep.RegionHeld3
import Derived.RangeFuncNested
import Derived.RangeFuncBound
import Derived.RangeFuncCalls
import Derived.RangeFuncLeaves
import Derived.RangeFuncFrom
import Derived.Shelf.Abstract
import Derived.Shelf.RegionOpen
import Derived.WalkKit
import Derived.OwnWalkIn
import Derived.TacticsInMore
import Derived.LoopNIn
import Derived.LoopIn
import Derived.Test.YtdnpgmoiapkhnaaDoorM01
import Derived.Test.YtdnpgmoiapkhnaaDoorM02
section
namespace Go.Proofs.YtdnpgmoiapkhnaaDoor
open Go.RowKit

theorem infoS14 : (Tryd.prog.info? 9).map (fun i => (i.zero, i.size, i.bytes)) = some (some (.string ⟨#[]⟩), 1, 16) := by kernel_rfl
theorem strs_one (l : List ByteArray) : ∀ u ∈ l.map Value.string, u.oneCell' = true := by
  intro u hu
  obtain ⟨_, _, rfl⟩ := List.mem_map.1 hu
  rfl
theorem Sl.textsR {w : World} {κ : Foot} {k n c g : Nat} {l : List ByteArray} (h : Sl w κ k 1 9 (some ⟨g, 0, none⟩) n c (l.map Value.string)) : Texts w ⟨g, 0, none⟩ l := by
  intro i s hs
  obtain ⟨g', e, hlt, _, hc, _⟩ := h.cell (j := i) (u := .string s) (by rw [List.getElem?_map, hs]; rfl)
  cases e
  refine ⟨hlt, ?_⟩
  rw [Addr.add_mid, Nat.zero_add]
  exact hc
/-- append of texts to a slice of texts without room. -/
theorem run_app_texts {v w : World} {g g2 : Nat} {l l2 : List ByteArray} (hv : Ext v w) (hg : v.heap.size ≤ g) (hb : Blk w g 9 (l.map Value.string)) (hb2 : Blk w g2 9 (l2.map Value.string)) (hl : l.length ≤ 1000) (hl2 : l2.length ≤ 1000) (ty : TypeId) :
    ∃ g' c' w', (Builtin.append_ #[42, 42] ty #[.slice (some ⟨g, 0, none⟩) l.length l.length, .slice (some ⟨g2, 0, none⟩) l2.length l2.length]).run Tryd.prog w = .ok (.slice (some ⟨g', 0, none⟩) (l.length + l2.length) c') w' ∧ Texts w' ⟨g', 0, none⟩ (l ++ l2) ∧ l.length + l2.length ≤ c' ∧ Ext v w' := by
  have hs : Sl w (kp (some ⟨g, 0, none⟩)) 1 1 9 (some ⟨g, 0, none⟩) l.length l.length (l.map Value.string) := Sl.ofBlkR hb (by simp) (by simp [kp])
  have hsrc : Src Tryd.prog 1 42 (.slice (some ⟨g2, 0, none⟩) l2.length l2.length) l2.length (l2.map Value.string) w := (Sl.ofBlkR (κ := fun _ => 0) (z := 1) hb2 (by simp) rfl).src Tryd.underlying42 (strs_one l2)
  obtain ⟨p', c', w', κ', hr, hsl, hf, hp, _, _⟩ := run_append_sl hs 42 42 ty _ _ Tryd.underlying42 infoS14 rfl _ _ _ hsrc (strs_one l) (by omega) (by decide)
  obtain ⟨g', rfl⟩ : ∃ g', p' = some ⟨g', 0, none⟩ := by
    rcases hp with e | e
    · exact ⟨_, e⟩
    · exact ⟨_, e⟩
  refine ⟨g', c', w', hr, Sl.textsR (by rw [List.map_append]; exact hsl), hsl.2.1, ⟨hf.os.trans hv.os, hf.tape.trans hv.tape, hf.output.trans hv.output, Nat.le_trans hv.size hf.size, fun x hx => (hf.other x (Nat.lt_of_lt_of_le hx hv.size) (fun q => ?_)).trans (hv.block x hx)⟩⟩
  have := kp_one q
  simp at this
section
variable {v w : World} {ops : Array Oper} {rest : List Oper} {o : Oper} {a : Act}
theorem wpList_app_texts {Q : Exit → Act → World → Prop} (hgd : o.guard = none) (s x : Operand) (ho : o.op = .call { callee := .builtin .append, args := #[s, x], argTypes := #[42, 42] })
    {g g2 : Nat} {l l2 : List ByteArray} (hs : a.eval s = .slice (some ⟨g, 0, none⟩) l.length l.length) (hx : a.eval x = .slice (some ⟨g2, 0, none⟩) l2.length l2.length) (hv : Ext v w) (hg : v.heap.size ≤ g) (hb : Blk w g 9 (l.map Value.string)) (hb2 : Blk w g2 9 (l2.map Value.string)) (hl : l.length ≤ 1000) (hl2 : l2.length ≤ 1000)
    (hQ : ∀ g' c' w', Texts w' ⟨g', 0, none⟩ (l ++ l2) → l.length + l2.length ≤ c' → Ext v w' → wpList Tryd.prog ops Q rest (a.put o.dst (.slice (some ⟨g', 0, none⟩) (l.length + l2.length) c')) w') : wpList Tryd.prog ops Q (o :: rest) a w := by
  obtain ⟨g', c', w', hr, k1, k2, k3⟩ := run_app_texts hv hg hb hb2 hl hl2 o.type
  refine wpList_plain hgd fun K hK => ?_
  unfold Oper.wp execOp
  simp only [ho, resolve, invoke, builtin, Sem.run_bind, Sem.run_pure, Result.andThen_ok, List.map_toArray, List.map_cons, List.map_nil, hs, hx, hr]
  exact hK _ _ (hQ g' c' w' k1 k2 k3)
theorem step_app_texts {K : Act → World → Prop} {Q : Exit → Act → World → Prop} {E : Prop} (hgd : o.guard = none) (s x : Operand) (ho : o.op = .call { callee := .builtin .append, args := #[s, x], argTypes := #[42, 42] })
    {g g2 : Nat} {l l2 : List ByteArray} (hs : a.eval s = .slice (some ⟨g, 0, none⟩) l.length l.length) (hx : a.eval x = .slice (some ⟨g2, 0, none⟩) l2.length l2.length) (hv : Ext v w) (hg : v.heap.size ≤ g) (hb : Blk w g 9 (l.map Value.string)) (hb2 : Blk w g2 9 (l2.map Value.string)) (hl : l.length ≤ 1000) (hl2 : l2.length ≤ 1000)
    (hQ : ∀ g' c' w', Texts w' ⟨g', 0, none⟩ (l ++ l2) → l.length + l2.length ≤ c' → Ext v w' → K (a.put o.dst (.slice (some ⟨g', 0, none⟩) (l.length + l2.length) c')) w') : if Region.wanted o (yielded ops a.tmps) = true then Oper.wp Tryd.prog o a w K Q else E := by
  have hw : Region.wanted o (yielded ops a.tmps) = true := by simp [Region.wanted, hgd]
  rw [if_pos hw]
  obtain ⟨g', c', w', hr, k1, k2, k3⟩ := run_app_texts hv hg hb hb2 hl hl2 o.type
  unfold Oper.wp execOp
  simp only [ho, resolve, invoke, builtin, Sem.run_bind, Sem.run_pure, Result.andThen_ok, List.map_toArray, List.map_cons, List.map_nil, hs, hx, hr]
  exact hQ g' c' w' k1 k2 k3
end
/-! ### Parts in a row -/
theorem ahead_any (w : World) (A B C D T : ByteArray) :
    Calls Tryd.prog 43 #[.agg #[.string A, .string B, .string C, .string D, .string T]] w fun e w' => ∃ g, e = .returned (.slice (some ⟨g, 0, none⟩) 4 4) ∧ Blk w' g 9 [.string A, .string B, .string C, .string D] ∧ w.heap.size ≤ g ∧ Ext w w' := by
  obtain ⟨W0, hW0⟩ : ∃ W0, w.alloc (.cells #[.string A, .string B, .string C, .string D, .string T] 82) = W0 := ⟨_, rfl⟩
  have hx0 : Ext w W0 := by rw [← hW0]; exact (Ext.refl w).alloc _
  have hb0 : Blk W0 w.heap.size 82 [.string A, .string B, .string C, .string D, .string T] := by rw [← hW0]; exact Blk.new w _ _
  have c0 := hb0.cell 0 _ rfl
  have c1 := hb0.cell 1 _ rfl
  have c2 := hb0.cell 2 _ rfl
  have c3 := hb0.cell 3 _ rfl
  have HX := Lib.hid hx0
  clear hb0 hx0
  go_enter Tryd.func43, Tryd.ntmps43
  go_wp2
  go_ret
  exact ⟨_, rfl, Blk.new _ _ _, HX.out.size, HX.out.alloc _⟩
/-! ### What the tag is of -/
def t4 (n : Nat) : ByteArray := ⟨(be 4 n).toArray⟩
def t8 (n : Nat) : ByteArray := ⟨(be 8 n).toArray⟩
theorem tagged_any (w : World) (path : ByteArray) (v : Nat) (g : Nat) (l : List ByteArray) (hp : path.size ≤ 1048576) (hb : Blk w g 9 (l.map Value.string)) (hl : l.length = 4) :
    Calls Tryd.prog 42 #[.string path, .int .u64 (v : Int), .slice (some ⟨g, 0, none⟩) 4 4] w fun e w' => ∃ g' c', e = .returned (.slice (some ⟨g', 0, none⟩) 7 c') ∧ Texts w' ⟨g', 0, none⟩ ([t4 path.size, path, t8 v] ++ l) ∧ Ext w w' := by
  have HP4 := Lib.hid (fun u => Put32_any path.size u)
  have HP8 := Lib.hid (fun u => Put64_any v u)
  have HB := Lib.hid hb
  have hw : IntKind.u32.wrap (path.size : Int) = (path.size : Int) := by simp [IntKind.wrap, IntKind.signed, IntKind.bits]; omega
  clear hb
  unfold t4 t8
  generalize (⟨(be 4 path.size).toArray⟩ : ByteArray) = A at *
  generalize (⟨(be 8 v).toArray⟩ : ByteArray) = B at *
  go_enter Tryd.func42, Tryd.ntmps42
  go_wp2_with (first
    | (go_at_call 40; refine (HP4.out _).mono ?_; rintro e w1 ⟨rfl, x1⟩)
    | (go_at_call 62; refine (HP8.out _).mono ?_; rintro e w2 ⟨rfl, x2⟩; have x3 := x1.trans x2)
    | (refine wpList_app_texts (v := w) (l := [A, path, B]) (l2 := l) (g := w2.heap.size) (g2 := g) rfl (.tmp 16) (.tmp 17) rfl rfl (by rw [hl]; rfl) (x3.alloc _) x3.size (Blk.new _ _ _) (HB.out.ext (x3.alloc _)) (by simp) (by omega) ?_; intro g' c' w4 k1 k2 k3; rw [show ([A, path, B].length + l.length) = 7 by rw [hl]; rfl]; have K1 := Lib.hid k1; clear k1))
  go_ret
  exact ⟨g', c', rfl, K1.out, k3⟩
end Go.Proofs.YtdnpgmoiapkhnaaDoor
end

section
namespace Go.Proofs.YtdnpgmoiapkhnaaDoor
open Go.RowKit

theorem ext_le {a b : World} {g : Nat} (h : Ext a b) (q : b.heap.size ≤ g) : a.heap.size ≤ g := Nat.le_trans h.size q
/-- Five texts, one behind the other. -/
def env5 (A B C D T : ByteArray) : ByteArray := ⟨(A.data.toList ++ (B.data.toList ++ (C.data.toList ++ (D.data.toList ++ T.data.toList)))).toArray⟩
theorem env5_size (A B C D T : ByteArray) : (env5 A B C D T).size = A.size + (B.size + (C.size + (D.size + T.size))) := by
  unfold env5
  rw [txt_size]
  simp only [List.length_append, size_list]
theorem join5_any (w : World) (g c : Nat) (A B C D T : ByteArray) (h : Texts w ⟨g, 0, none⟩ [A, B, C, D, T]) (hc : 5 ≤ c) (hs : (env5 A B C D T).size ≤ 140737488355328) :
    Calls Tryd.prog 63 #[.slice (some ⟨g, 0, none⟩) 5 c, .string ⟨#[]⟩] w fun e w' => e = .returned (.string (env5 A B C D T)) ∧ Ext w w' := by
  have e : Lib.join ([A, B, C, D, T].map (·.data.toList)) ([] : List UInt8) = A.data.toList ++ (B.data.toList ++ (C.data.toList ++ (D.data.toList ++ T.data.toList))) := by
    simp [Lib.join, List.intercalate, List.intersperse]
  have h1 := Tryd.strings_Join g 0 c [A, B, C, D, T] ⟨#[]⟩ w (fun j x hj => by
    have := (h j x hj).2
    rwa [Addr.add_mid] at this) (h 0 A rfl).1 (by simp) hc (by
    rw [show (⟨#[]⟩ : ByteArray).data.toList = [] from rfl, e]
    rw [env5_size] at hs
    simp only [List.length_append, size_list]
    exact hs)
  rw [show (⟨#[]⟩ : ByteArray).data.toList = [] from rfl, e] at h1
  exact h1.mono fun _ _ q => ⟨q.1, q.2⟩
set_option maxRecDepth 100000 in
set_option maxHeartbeats 2000000 in
theorem bytes_any14 (w : World) (A B C D T : ByteArray) (hs : (env5 A B C D T).size ≤ 140737488355328) :
    Calls Tryd.prog 44 #[.agg #[.string A, .string B, .string C, .string D, .string T]] w fun e w' => e = .returned (.string (env5 A B C D T)) ∧ Ext w w' := by
  obtain ⟨W, hW⟩ : ∃ W, w.alloc (.cells #[.string A, .string B, .string C, .string D, .string T] 82) = W := ⟨_, rfl⟩
  have hx0 : Ext w W := by rw [← hW]; exact (Ext.refl w).alloc _
  have hb0 : Blk W w.heap.size 82 [.string A, .string B, .string C, .string D, .string T] := by rw [← hW]; exact Blk.new w _ _
  have HKeep : Hid (∀ u, Ext W u → u.cell? ⟨w.heap.size, 0, none⟩ = some (.string A) ∧ u.cell? ⟨w.heap.size, 1, none⟩ = some (.string B) ∧ u.cell? ⟨w.heap.size, 2, none⟩ = some (.string C) ∧ u.cell? ⟨w.heap.size, 3, none⟩ = some (.string D) ∧ u.cell? ⟨w.heap.size, 4, none⟩ = some (.string T) ∧ Ext W u) :=
    Lib.hid fun u hu => ⟨(hb0.ext hu).cell 0 _ rfl, (hb0.ext hu).cell 1 _ rfl, (hb0.ext hu).cell 2 _ rfl, (hb0.ext hu).cell 3 _ rfl, (hb0.ext hu).cell 4 _ rfl, hu⟩
  have HX := Lib.hid hx0
  have HA := Lib.hid (fun u => ahead_any u A B C D T)
  have HJ := Lib.hid (fun u g c (h : Texts u ⟨g, 0, none⟩ [A, B, C, D, T]) (hc : 5 ≤ c) => join5_any u g c A B C D T h hc hs)
  have hS := HKeep.out W.drew (Ext.refl W).drew
  clear hs hx0 hb0
  generalize env5 A B C D T = X at *
  go_enter Tryd.func44, Tryd.ntmps44
  go_upto_region 1 with (fail)
  clear hW
  go_region_held3 (fun u => u.cell? ⟨w.heap.size, 0, none⟩ = some (.string A) ∧ u.cell? ⟨w.heap.size, 1, none⟩ = some (.string B) ∧ u.cell? ⟨w.heap.size, 2, none⟩ = some (.string C) ∧ u.cell? ⟨w.heap.size, 3, none⟩ = some (.string D) ∧ u.cell? ⟨w.heap.size, 4, none⟩ = some (.string T) ∧ Ext W u) (first | exact hS | exact hS1 | exact hS2 | exact hS3 | assumption | exact HKeep.out _ (by repeat' (first | assumption | exact Ext.refl _ | refine Ext.drew ?_ | refine Ext.alloc ?_ _)) | go_keep) (first
    | (go_at_call 43; refine (HA.out _).mono ?_; rintro e w1 ⟨g, rfl, b1, q1, x1⟩; have hg1 := ext_le (a := W) (by repeat' (first | assumption | exact Ext.refl _ | refine Ext.drew ?_ | refine Ext.alloc ?_ _)) q1; have y1 := Ext.trans (a := W) (by repeat' (first | assumption | exact Ext.refl _ | refine Ext.drew ?_ | refine Ext.alloc ?_ _)) x1; have hS1 := HKeep.out _ y1)
    | (refine step_app_texts (v := W) (l := [A, B, C, D]) (l2 := [T]) rfl (.tmp 4) (.tmp 7) rfl rfl rfl (by repeat' (first | assumption | exact Ext.refl _ | refine Ext.drew ?_ | refine Ext.alloc ?_ _)) hg1 (b1.ext (by repeat' (first | assumption | exact Ext.refl _ | refine Ext.drew ?_ | refine Ext.alloc ?_ _))) (by first | exact (Blk.new _ _ _).ext (by repeat' (first | assumption | exact Ext.refl _ | exact (Ext.drew (Ext.refl _)).trans x1 | refine Ext.drew ?_ | refine Ext.alloc ?_ _))) (by simp) (by simp) ?_; intro g' c' w2 k1 k2 y2; have hS2 := HKeep.out _ y2)
    | (go_at_call 63; refine (HJ.out _ _ _ k1 k2).mono ?_; rintro e w3 ⟨rfl, x3⟩; have y3 := Ext.trans y2 x3; have hS3 := HKeep.out _ y3))
  all_goals
    go_wp2
    go_ret
    exact ⟨rfl, HX.out.trans y3⟩
end Go.Proofs.YtdnpgmoiapkhnaaDoor
end

section
namespace Go.Proofs.YtdnpgmoiapkhnaaDoor
open Go.RowKit Go.Shelf

theorem grown_of_ext {W W' : World} (h : Ext W W') : W.grownBy W' none := ⟨h.os, h.tape, h.output, h.size, fun k hk _ => h.block k hk⟩
/-- What a round keeps: all below n₀, and the blocks bs. -/
def KpL (n₀ : Nat) (bs : List Nat) (W W' : World) : Prop := Below n₀ W W' ∧ ∀ b, b ∈ bs → W'.heap[b]? = W.heap[b]?
theorem KpL.refl (n₀ : Nat) (bs : List Nat) (W : World) : KpL n₀ bs W W := ⟨Below.refl _ _, fun _ _ => rfl⟩
theorem KpL.trans {n₀ : Nat} {bs : List Nat} {A B C : World} (h : KpL n₀ bs A B) (k : KpL n₀ bs B C) : KpL n₀ bs A C := ⟨h.1.trans k.1, fun b hb => (k.2 b hb).trans (h.2 b hb)⟩
theorem KpL.of_ext {n₀ : Nat} {bs : List Nat} {A B : World} (h : Ext A B) (hn : n₀ ≤ A.heap.size) (hb : ∀ b, b ∈ bs → b < A.heap.size) : KpL n₀ bs A B := ⟨Below.mono h.below hn, fun b hm => h.block b (hb b hm)⟩
theorem KpL.put {n₀ : Nat} {bs : List Nat} {w : World} (hn : n₀ ≤ w.heap.size) (hb : ∀ b, b ∈ bs → b < w.heap.size) (W : World) (l : Nat) (o o' : Obj) (hwl : w.heap.size ≤ l) (h : W.heap[l]? = some o) (h1 : o.isCells = false) (h2 : o.isWalk = false) : KpL n₀ bs W (W.putObj l o') :=
  ⟨belowK_b hn W l o o' hwl h h1 h2, fun b hm => World.putObj_heap_other (by have := hb b hm; omega)⟩
theorem KpL.below {n₀ : Nat} {bs : List Nat} {A B : World} (h : KpL n₀ bs A B) : Below n₀ A B := h.1
theorem KpL.keeps {n₀ : Nat} {bs : List Nat} {A B : World} (h : KpL n₀ bs A B) {b : Nat} (hb : b ∈ bs) : B.heap[b]? = A.heap[b]? := h.2 b hb
end Go.Proofs.YtdnpgmoiapkhnaaDoor
end
