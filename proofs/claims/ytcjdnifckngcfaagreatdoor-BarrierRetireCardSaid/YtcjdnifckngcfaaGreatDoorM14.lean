/- Contracts: envelopes: an envelope's bytes: by the program. Contracts: the row of tags of a label, as its iterator hands them out. -/
import Derived.Test.YtcjdnifckngcfaaGreatDoorM13
import Derived.RangeFuncNested
import Derived.RangeFuncBound
import Derived.RangeFuncCalls
import Derived.RangeFuncLeaves
import Derived.RangeFuncFrom
import Derived.Shelf.Abstract
import Derived.Shelf.RegionOpen
import Derived.WalkKit
import Derived.OwnWalkIn
import Derived.TacticsInMore
import Derived.LoopNIn
import Derived.LoopIn
import Derived.Test.YtcjdnifckngcfaaGreatDoorM12
section
namespace Go.Proofs.YtcjdnifckngcfaaGreatDoor
open Go.RowKit

theorem ext_le {a b : World} {g : Nat} (h : Ext a b) (q : b.heap.size ≤ g) : a.heap.size ≤ g := Nat.le_trans h.size q
/-- Five texts, one behind the other. -/
def env5 (A B C D T : ByteArray) : ByteArray := ⟨(A.data.toList ++ (B.data.toList ++ (C.data.toList ++ (D.data.toList ++ T.data.toList)))).toArray⟩
theorem env5_size (A B C D T : ByteArray) : (env5 A B C D T).size = A.size + (B.size + (C.size + (D.size + T.size))) := by
  unfold env5
  rw [txt_size]
  simp only [List.length_append, size_list]
theorem join5_any (w : World) (g c : Nat) (A B C D T : ByteArray) (h : Texts w ⟨g, 0, none⟩ [A, B, C, D, T]) (hc : 5 ≤ c) (hs : (env5 A B C D T).size ≤ 140737488355328) :
    Calls Tryz.prog 118 #[.slice (some ⟨g, 0, none⟩) 5 c, .string ⟨#[]⟩] w fun e w' => e = .returned (.string (env5 A B C D T)) ∧ Ext w w' := by
  have e : Lib.join ([A, B, C, D, T].map (·.data.toList)) ([] : List UInt8) = A.data.toList ++ (B.data.toList ++ (C.data.toList ++ (D.data.toList ++ T.data.toList))) := by
    simp [Lib.join, List.intercalate, List.intersperse]
  have h1 := Tryz.strings_Join g 0 c [A, B, C, D, T] ⟨#[]⟩ w (fun j x hj => by
    have := (h j x hj).2
    rwa [Addr.add_mid] at this) (h 0 A rfl).1 (by simp) hc (by
    rw [show (⟨#[]⟩ : ByteArray).data.toList = [] from rfl, e]
    rw [env5_size] at hs
    simp only [List.length_append, size_list]
    exact hs)
  rw [show (⟨#[]⟩ : ByteArray).data.toList = [] from rfl, e] at h1
  exact h1.mono fun _ _ q => ⟨q.1, q.2⟩
set_option maxRecDepth 100000 in
set_option maxHeartbeats 2000000 in
theorem bytes_any14 (w : World) (A B C D T : ByteArray) (hs : (env5 A B C D T).size ≤ 140737488355328) :
    Calls Tryz.prog 83 #[.agg #[.string A, .string B, .string C, .string D, .string T]] w fun e w' => e = .returned (.string (env5 A B C D T)) ∧ Ext w w' := by
  obtain ⟨W, hW⟩ : ∃ W, w.alloc (.cells #[.string A, .string B, .string C, .string D, .string T] 120) = W := ⟨_, rfl⟩
  have hx0 : Ext w W := by rw [← hW]; exact (Ext.refl w).alloc _
  have hb0 : Blk W w.heap.size 120 [.string A, .string B, .string C, .string D, .string T] := by rw [← hW]; exact Blk.new w _ _
  have HKeep : Hid (∀ u, Ext W u → u.cell? ⟨w.heap.size, 0, none⟩ = some (.string A) ∧ u.cell? ⟨w.heap.size, 1, none⟩ = some (.string B) ∧ u.cell? ⟨w.heap.size, 2, none⟩ = some (.string C) ∧ u.cell? ⟨w.heap.size, 3, none⟩ = some (.string D) ∧ u.cell? ⟨w.heap.size, 4, none⟩ = some (.string T) ∧ Ext W u) :=
    Lib.hid fun u hu => ⟨(hb0.ext hu).cell 0 _ rfl, (hb0.ext hu).cell 1 _ rfl, (hb0.ext hu).cell 2 _ rfl, (hb0.ext hu).cell 3 _ rfl, (hb0.ext hu).cell 4 _ rfl, hu⟩
  have HX := Lib.hid hx0
  have HA := Lib.hid (fun u => ahead_any u A B C D T)
  have HJ := Lib.hid (fun u g c (h : Texts u ⟨g, 0, none⟩ [A, B, C, D, T]) (hc : 5 ≤ c) => join5_any u g c A B C D T h hc hs)
  have hS := HKeep.out W.drew (Ext.refl W).drew
  clear hs hx0 hb0
  generalize env5 A B C D T = X at *
  go_enter Tryz.func83, Tryz.ntmps83
  go_upto_region 1 with (fail)
  clear hW
  go_region_held3 (fun u => u.cell? ⟨w.heap.size, 0, none⟩ = some (.string A) ∧ u.cell? ⟨w.heap.size, 1, none⟩ = some (.string B) ∧ u.cell? ⟨w.heap.size, 2, none⟩ = some (.string C) ∧ u.cell? ⟨w.heap.size, 3, none⟩ = some (.string D) ∧ u.cell? ⟨w.heap.size, 4, none⟩ = some (.string T) ∧ Ext W u) (first | exact hS | exact hS1 | exact hS2 | exact hS3 | assumption | exact HKeep.out _ (by repeat' (first | assumption | exact Ext.refl _ | refine Ext.drew ?_ | refine Ext.alloc ?_ _)) | go_keep) (first
    | (go_at_call 82; refine (HA.out _).mono ?_; rintro e w1 ⟨g, rfl, b1, q1, x1⟩; have hg1 := ext_le (a := W) (by repeat' (first | assumption | exact Ext.refl _ | refine Ext.drew ?_ | refine Ext.alloc ?_ _)) q1; have y1 := Ext.trans (a := W) (by repeat' (first | assumption | exact Ext.refl _ | refine Ext.drew ?_ | refine Ext.alloc ?_ _)) x1; have hS1 := HKeep.out _ y1)
    | (refine step_app_texts (v := W) (l := [A, B, C, D]) (l2 := [T]) rfl (.tmp 4) (.tmp 7) rfl rfl rfl (by repeat' (first | assumption | exact Ext.refl _ | refine Ext.drew ?_ | refine Ext.alloc ?_ _)) hg1 (b1.ext (by repeat' (first | assumption | exact Ext.refl _ | refine Ext.drew ?_ | refine Ext.alloc ?_ _))) (by first | exact (Blk.new _ _ _).ext (by repeat' (first | assumption | exact Ext.refl _ | exact (Ext.drew (Ext.refl _)).trans x1 | refine Ext.drew ?_ | refine Ext.alloc ?_ _))) (by simp) (by simp) ?_; intro g' c' w2 k1 k2 y2; have hS2 := HKeep.out _ y2)
    | (go_at_call 118; refine (HJ.out _ _ _ k1 k2).mono ?_; rintro e w3 ⟨rfl, x3⟩; have y3 := Ext.trans y2 x3; have hS3 := HKeep.out _ y3))
  all_goals
    go_wp2
    go_ret
    exact ⟨rfl, HX.out.trans y3⟩
end Go.Proofs.YtcjdnifckngcfaaGreatDoor
end

section
namespace Go.Proofs.YtcjdnifckngcfaaGreatDoor
open Go.RowKit Go.Shelf

attribute [local go_sem] Oper.semAt_some

/-- A text of 32 bytes. -/
abbrev T32 := { t : ByteArray // t.size = 32 }
def tagS (k label : List UInt8) (i : Nat) : T32 := ⟨⟨(tagL k label (i + 1)).toArray⟩, by rw [txt_size, tagL_length]⟩
/-- The first n tags. -/
def seqS (k label : List UInt8) (n : Nat) : List T32 := (List.range n).map (tagS k label)
theorem seqS_succ (k label : List UInt8) (n : Nat) : seqS k label (n + 1) = seqS k label n ++ [tagS k label n] := by simp [seqS, List.range_succ]
theorem seqS_length (k label : List UInt8) (n : Nat) : (seqS k label n).length = n := by simp [seqS]
/-- Texts, one behind the other. -/
def flatS (xs : List T32) : List UInt8 := xs.flatMap fun x => x.1.data.toList
theorem flatS_snoc (xs : List T32) (x : T32) : flatS (xs ++ [x]) = flatS xs ++ x.1.data.toList := by simp [flatS]
theorem flatS_length (xs : List T32) : (flatS xs).length = 32 * xs.length := by
  induction xs with
  | nil => rfl
  | cons x r ih =>
    have := x.2
    simp only [flatS, List.flatMap_cons, List.length_append, List.length_cons] at ih ⊢
    rw [ih, size_list, this]; omega
theorem flatS_seq (k label : List UInt8) : ∀ n, flatS (seqS k label n) = rowL k label n
  | 0 => rfl
  | n + 1 => by rw [seqS_succ, flatS_snoc, flatS_seq k label n]; rfl
theorem texts_three (w : World) (a b c : ByteArray) (t : TypeId) : Texts (w.alloc (.cells #[.string a, .string b, .string c] t)) ⟨w.heap.size, 0, none⟩ [a, b, c] := by
  refine fun i v hv => ⟨by simp, ?_⟩
  rw [Addr.add_mid]
  rw [cell_of_row _ _ _ _ _ _ (heap_alloc_new w _)]
  match i, hv with
  | 0, hv => simp at hv; subst hv; rfl
  | 1, hv => simp at hv; subst hv; rfl
  | 2, hv => simp at hv; subst hv; rfl
  | n + 3, hv => simp at hv
theorem joinL_three (a b c : ByteArray) : joinL [a, b, c] = a.data.toList ++ b.data.toList ++ c.data.toList := by simp [joinL]
/-- The next tag out of the one ahead of it. -/
theorem tag_next (u : World) (k : List UInt8) (label : ByteArray) (j : Nat) (t : TypeId) (b : UInt8) (g : Nat) (hb : b = UInt8.ofNat (j + 1)) (hg : g = u.heap.size) (hL : Laid u) (hl : label.size ≤ 549755813888) :
    Calls Tryz.prog 116 #[.agg #[.string ⟨(mixL k 54).toArray⟩, .string ⟨(mixL k 92).toArray⟩], .slice (some ⟨g, 0, none⟩) 3 3] (u.alloc (.cells #[.string ⟨(tagL k label.data.toList j).toArray⟩, .string label, .string ⟨#[b]⟩] t))
      fun e w' => e = .returned (.string ⟨(tagL k label.data.toList (j + 1)).toArray⟩) ∧ Ext u w' := by
  subst hb hg
  have hj : joinL [⟨(tagL k label.data.toList j).toArray⟩, label, ⟨#[UInt8.ofNat (j + 1)]⟩] = tagL k label.data.toList j ++ label.data.toList ++ [UInt8.ofNat (j + 1)] := joinL_three _ _ _
  have hx : Ext u (u.alloc (.cells #[.string ⟨(tagL k label.data.toList j).toArray⟩, .string label, .string ⟨#[UInt8.ofNat (j + 1)]⟩] t)) := (Ext.refl u).alloc _
  have h := tag_keys _ (.slice (some ⟨u.heap.size, 0, none⟩) 3 3) [⟨(tagL k label.data.toList j).toArray⟩, label, ⟨#[UInt8.ofNat (j + 1)]⟩] k (hL.ext hx) (.inr ⟨_, _, rfl, texts_three u _ _ _ t, by simp⟩) (by
    have := tagL_le k label.data.toList j
    rw [hj]; simp only [List.length_append, List.length_singleton, size_list]; omega)
  rw [hj, ← tagL_succ] at h
  exact h.mono fun e w' he => ⟨he.1, hx.trans he.2⟩
theorem ext_grown {W W' : World} (h : Ext W W') : W.grownBy W' none := ⟨h.os, h.tape, h.output, h.size, fun k hk _ => h.block k hk⟩
/-- The byte of a number, as a text. -/
theorem one_text (x : Int) (b : UInt8) (hx : x = (b.toNat : Int)) (t : TypeId) (u : World) : (convert 43 9 (.slice (some ⟨u.heap.size, 0, none⟩) 1 1)).run Tryz.prog (u.alloc (.cells #[.int .u8 x] t)) = .ok (.string ⟨#[b]⟩) (u.alloc (.cells #[.int .u8 x] t)) := by
  subst hx
  have hr : Row (u.alloc (.cells #[.int .u8 (b.toNat : Int)] t)) u.heap.size t [b] := heap_alloc_new u _
  exact hr.text (P := Tryz.prog) 43 5 9 Tryz.underlying43 Tryz.underlying5 Tryz.underlying9 1 1 rfl

/-- What a round keeps: all below n₀, and the two blocks that the iterator reads. -/
def KpT (n₀ bk bl : Nat) (W W' : World) : Prop := Below n₀ W W' ∧ W'.heap[bk]? = W.heap[bk]? ∧ W'.heap[bl]? = W.heap[bl]?
theorem KpT.refl (n₀ bk bl : Nat) (W : World) : KpT n₀ bk bl W W := ⟨Below.refl _ _, rfl, rfl⟩
theorem KpT.trans {n₀ bk bl : Nat} {A B C : World} (h : KpT n₀ bk bl A B) (k : KpT n₀ bk bl B C) : KpT n₀ bk bl A C := ⟨h.1.trans k.1, k.2.1.trans h.2.1, k.2.2.trans h.2.2⟩
theorem KpT.of_ext {n₀ bk bl : Nat} {A B : World} (h : Ext A B) (hn : n₀ ≤ A.heap.size) (hk : bk < A.heap.size) (hl : bl < A.heap.size) : KpT n₀ bk bl A B := ⟨Below.mono h.below hn, h.block bk hk, h.block bl hl⟩
theorem KpT.put {n₀ bk bl : Nat} {w : World} (hn : n₀ ≤ w.heap.size) (hk : bk < w.heap.size) (hl : bl < w.heap.size) (W : World) (l : Nat) (o o' : Obj) (hwl : w.heap.size ≤ l) (h : W.heap[l]? = some o) (h1 : o.isCells = false) (h2 : o.isWalk = false) : KpT n₀ bk bl W (W.putObj l o') :=
  ⟨belowK_b hn W l o o' hwl h h1 h2, World.putObj_heap_other (by omega), World.putObj_heap_other (by omega)⟩
set_option maxRecDepth 100000 in
set_option maxHeartbeats 2000000 in
theorem tags_stops (n : Nat) (hn : 1 ≤ n) (bk bl n₀ : Nat) (k : List UInt8) (label : ByteArray) (w : World) (hw : n₀ ≤ w.heap.size) (h2 : 2 ≤ n₀) (hbk : bk < w.heap.size) (hbl : bl < w.heap.size) (hL : Laid w) (hl : label.size ≤ 549755813888)
    (hB : Blk w bk 161 [.string ⟨(mixL k 54).toArray⟩, .string ⟨(mixL k 92).toArray⟩]) (hC : w.cell? ⟨bl, 0, none⟩ = some (.string label)) :
    SeqStopsK Fence.wide n Tryz.prog 185 #[.pointer (some ⟨bk, 0, none⟩), .pointer (some ⟨bl, 0, none⟩)] (fun x : T32 => #[.string x.1]) (KpT n₀ bk bl)
      (fun xs => xs = seqS k label.data.toList 255) (fun pre => ∃ m, m ≤ 255 ∧ pre = seqS k label.data.toList m) 255 w := fun l J Jx W hW hJ hJx hY h0 => by
  have HY := Lib.hid hY; have HJ := Lib.hid hJ
  have HL := Lib.hid (hL.ext hW)
  have HB := Lib.hid (hB.ext hW)
  have HC := Lib.hid ((hW.cell (p := ⟨bl, 0, none⟩) hbl).trans hC)
  have HW := hW.size
  clear hL hB hC hW hY hJ hJx
  refine callsIn_of_wp Tryz.func185 rfl trivial ?_ rfl
  simp only [Tryz.ntmps185, List.size_toArray, List.length_cons, List.length_nil, Nat.reduceAdd, Nat.reduceSub, Array.replicate_succ, Array.replicate_zero, List.push_toArray, List.append_toArray, List.nil_append, List.cons_append]
  gi_wp2
  gi_loopw [6, 4] (fun i last wr => ∃ j : Nat, j ≤ 255 ∧ i = .int .i64 j ∧ last = .string ⟨(tagL k label.data.toList j).toArray⟩ ∧ J (seqS k label.data.toList j) wr ∧ KpT n₀ bk bl W wr) (fun i _ _ => 255 - (intOf i).toNat)
  case atStart => exact ⟨0, by omega, rfl, rfl, h0, KpT.refl _ _ _ _⟩
  case round =>
    obtain ⟨j, hj, rfl, rfl, hJr, hbr⟩ := hrel
    clear h0
    have HJr := Lib.hid hJr; have HBr := Lib.hid hbr
    clear hJr hbr
    by_cases hlt : j < 255
    · have hLr := Lib.hid (HL.out.below HBr.out.1 h2)
      have HS := Lib.hid (show n₀ ≤ wr.heap.size from by have := HBr.out.1.size; omega)
      have hb : Blk wr bk 161 [.string ⟨(mixL k 54).toArray⟩, .string ⟨(mixL k 92).toArray⟩] := HBr.out.2.1.trans HB.out
      have c0 := hb.cell 0 _ rfl
      have c1 := hb.cell 1 _ rfl
      have c2 := (World.cell?_of_block (a := ⟨bl, 0, none⟩) HBr.out.2.2).trans HC.out
      obtain ⟨b, eb⟩ : ∃ b, b = UInt8.ofNat (j + 1) := ⟨_, rfl⟩
      have hcv := fun t u => one_text ((j : Int) + 1) b (by rw [eb]; simp; omega) t u
      have HN := Lib.hid (fun u g (hg : g = u.heap.size) (hL : Laid u) => tag_next u k label j 9 b g eb hg hL hl)
      clear hb eb
      generalize (⟨(tagL k label.data.toList j).toArray⟩ : ByteArray) = T at *
      gi_wp2_with (refine ⟨trivial, ?_⟩; gi_at_call 116; refine (callsIn_wide.2 (HN.out _ _ (by simp) (hLr.out.ext ((Ext.refl wr).alloc _)))).mono ?_; rintro e w2 ⟨rfl, h2x⟩; have h3x := Ext.trans ((Ext.refl wr).alloc _) h2x; obtain ⟨fn, tmps, assign, body, hy, hR⟩ := HY.out (seqS k label.data.toList j) (tagS k label.data.toList j) w2 (HJ.out _ _ _ none HJr.out (ext_grown h3x) (fun r e => by cases e)) (by rw [seqS_length]; exact hlt); dsimp only [tagS] at hy)
      refine hR.mono ?_
      rintro e W3 (⟨rfl, hJ3, hk3⟩ | ⟨rfl, hJx3⟩)
      · gi_wp2
        go_roundw
        case rel => exact ⟨j + 1, hlt, by go_num, rfl, by rw [seqS_succ]; exact hJ3, (HBr.out.trans (KpT.of_ext h3x HS.out (by have := HBr.out.1.size; omega) (by have := HBr.out.1.size; omega))).trans hk3⟩
        case measure => simp [intOf]; omega
      · gi_wp2
        refine bodyPost_ret (results_none rfl _ _ _) rfl ?_
        exact ⟨⟨_, rfl⟩, .inr ⟨_, ⟨j + 1, hlt, (seqS_succ _ _ _).symm⟩, hJx3⟩⟩
    · obtain rfl : j = 255 := by omega
      have e255 : ((255 : Nat) : Int) = 255 := rfl
      rw [e255]
      clear e255
      gi_wp2
      go_end0
      exact ⟨⟨_, rfl⟩, .inl ⟨_, rfl, HJr.out⟩⟩
end Go.Proofs.YtcjdnifckngcfaaGreatDoor
end
