/- Contracts: the row of tags of a label, as its iterator hands them out. Contracts: which bytes are derived of a key by a label, by the program. Contracts: keys by epochs: an epoch's two keys: by the program. -/
import Derived.RangeFuncNested
import Derived.RangeFuncBound
import Derived.RangeFuncCalls
import Derived.RangeFuncLeaves
import Derived.RangeFuncFrom
import Derived.Shelf.Abstract
import Derived.Shelf.RegionOpen
import Derived.WalkKit
import Derived.OwnWalkIn
import Derived.TacticsInMore
import Derived.LoopNIn
import Derived.LoopIn
import Derived.Test.YtobhbppogeghnaaGreatDoorM09
import Derived.Shelf.Strings.BuilderK
import Derived.Test.YtobhbppogeghnaaGreatDoorM04
import Derived.Deep.RegionHeld3
section
namespace Go.Proofs.YtobhbppogeghnaaGreatDoor
open Go.RowKit Go.Shelf

attribute [local go_sem] Oper.semAt_some

/-- A text of 32 bytes. -/
abbrev T32 := { t : ByteArray // t.size = 32 }
def tagS (k label : List UInt8) (i : Nat) : T32 := ⟨⟨(tagL k label (i + 1)).toArray⟩, by rw [txt_size, tagL_length]⟩
/-- The first n tags. -/
def seqS (k label : List UInt8) (n : Nat) : List T32 := (List.range n).map (tagS k label)
theorem seqS_succ (k label : List UInt8) (n : Nat) : seqS k label (n + 1) = seqS k label n ++ [tagS k label n] := by simp [seqS, List.range_succ]
theorem seqS_length (k label : List UInt8) (n : Nat) : (seqS k label n).length = n := by simp [seqS]
/-- Texts, one behind the other. -/
def flatS (xs : List T32) : List UInt8 := xs.flatMap fun x => x.1.data.toList
theorem flatS_snoc (xs : List T32) (x : T32) : flatS (xs ++ [x]) = flatS xs ++ x.1.data.toList := by simp [flatS]
theorem flatS_length (xs : List T32) : (flatS xs).length = 32 * xs.length := by
  induction xs with
  | nil => rfl
  | cons x r ih =>
    have := x.2
    simp only [flatS, List.flatMap_cons, List.length_append, List.length_cons] at ih ⊢
    rw [ih, size_list, this]; omega
theorem flatS_seq (k label : List UInt8) : ∀ n, flatS (seqS k label n) = rowL k label n
  | 0 => rfl
  | n + 1 => by rw [seqS_succ, flatS_snoc, flatS_seq k label n]; rfl
theorem texts_three (w : World) (a b c : ByteArray) (t : TypeId) : Texts (w.alloc (.cells #[.string a, .string b, .string c] t)) ⟨w.heap.size, 0, none⟩ [a, b, c] := by
  refine fun i v hv => ⟨by simp, ?_⟩
  rw [Addr.add_mid]
  rw [cell_of_row _ _ _ _ _ _ (heap_alloc_new w _)]
  match i, hv with
  | 0, hv => simp at hv; subst hv; rfl
  | 1, hv => simp at hv; subst hv; rfl
  | 2, hv => simp at hv; subst hv; rfl
  | n + 3, hv => simp at hv
theorem joinL_three (a b c : ByteArray) : joinL [a, b, c] = a.data.toList ++ b.data.toList ++ c.data.toList := by simp [joinL]
/-- The next tag out of the one ahead of it. -/
theorem tag_next (u : World) (k : List UInt8) (label : ByteArray) (j : Nat) (t : TypeId) (b : UInt8) (g : Nat) (hb : b = UInt8.ofNat (j + 1)) (hg : g = u.heap.size) (hL : Laid u) (hl : label.size ≤ 549755813888) :
    Calls Tryz.prog 116 #[.agg #[.string ⟨(mixL k 54).toArray⟩, .string ⟨(mixL k 92).toArray⟩], .slice (some ⟨g, 0, none⟩) 3 3] (u.alloc (.cells #[.string ⟨(tagL k label.data.toList j).toArray⟩, .string label, .string ⟨#[b]⟩] t))
      fun e w' => e = .returned (.string ⟨(tagL k label.data.toList (j + 1)).toArray⟩) ∧ Ext u w' := by
  subst hb hg
  have hj : joinL [⟨(tagL k label.data.toList j).toArray⟩, label, ⟨#[UInt8.ofNat (j + 1)]⟩] = tagL k label.data.toList j ++ label.data.toList ++ [UInt8.ofNat (j + 1)] := joinL_three _ _ _
  have hx : Ext u (u.alloc (.cells #[.string ⟨(tagL k label.data.toList j).toArray⟩, .string label, .string ⟨#[UInt8.ofNat (j + 1)]⟩] t)) := (Ext.refl u).alloc _
  have h := tag_keys _ (.slice (some ⟨u.heap.size, 0, none⟩) 3 3) [⟨(tagL k label.data.toList j).toArray⟩, label, ⟨#[UInt8.ofNat (j + 1)]⟩] k (hL.ext hx) (.inr ⟨_, _, rfl, texts_three u _ _ _ t, by simp⟩) (by
    have := tagL_le k label.data.toList j
    rw [hj]; simp only [List.length_append, List.length_singleton, size_list]; omega)
  rw [hj, ← tagL_succ] at h
  exact h.mono fun e w' he => ⟨he.1, hx.trans he.2⟩
theorem ext_grown {W W' : World} (h : Ext W W') : W.grownBy W' none := ⟨h.os, h.tape, h.output, h.size, fun k hk _ => h.block k hk⟩
/-- The byte of a number, as a text. -/
theorem one_text (x : Int) (b : UInt8) (hx : x = (b.toNat : Int)) (t : TypeId) (u : World) : (convert 43 9 (.slice (some ⟨u.heap.size, 0, none⟩) 1 1)).run Tryz.prog (u.alloc (.cells #[.int .u8 x] t)) = .ok (.string ⟨#[b]⟩) (u.alloc (.cells #[.int .u8 x] t)) := by
  subst hx
  have hr : Row (u.alloc (.cells #[.int .u8 (b.toNat : Int)] t)) u.heap.size t [b] := heap_alloc_new u _
  exact hr.text (P := Tryz.prog) 43 5 9 Tryz.underlying43 Tryz.underlying5 Tryz.underlying9 1 1 rfl

/-- What a round keeps: all below n₀, and the two blocks that the iterator reads. -/
def KpT (n₀ bk bl : Nat) (W W' : World) : Prop := Below n₀ W W' ∧ W'.heap[bk]? = W.heap[bk]? ∧ W'.heap[bl]? = W.heap[bl]?
theorem KpT.refl (n₀ bk bl : Nat) (W : World) : KpT n₀ bk bl W W := ⟨Below.refl _ _, rfl, rfl⟩
theorem KpT.trans {n₀ bk bl : Nat} {A B C : World} (h : KpT n₀ bk bl A B) (k : KpT n₀ bk bl B C) : KpT n₀ bk bl A C := ⟨h.1.trans k.1, k.2.1.trans h.2.1, k.2.2.trans h.2.2⟩
theorem KpT.of_ext {n₀ bk bl : Nat} {A B : World} (h : Ext A B) (hn : n₀ ≤ A.heap.size) (hk : bk < A.heap.size) (hl : bl < A.heap.size) : KpT n₀ bk bl A B := ⟨Below.mono h.below hn, h.block bk hk, h.block bl hl⟩
theorem KpT.put {n₀ bk bl : Nat} {w : World} (hn : n₀ ≤ w.heap.size) (hk : bk < w.heap.size) (hl : bl < w.heap.size) (W : World) (l : Nat) (o o' : Obj) (hwl : w.heap.size ≤ l) (h : W.heap[l]? = some o) (h1 : o.isCells = false) (h2 : o.isWalk = false) : KpT n₀ bk bl W (W.putObj l o') :=
  ⟨belowK_b hn W l o o' hwl h h1 h2, World.putObj_heap_other (by omega), World.putObj_heap_other (by omega)⟩
set_option maxRecDepth 100000 in
set_option maxHeartbeats 2000000 in
theorem tags_stops (n : Nat) (hn : 1 ≤ n) (bk bl n₀ : Nat) (k : List UInt8) (label : ByteArray) (w : World) (hw : n₀ ≤ w.heap.size) (h2 : 2 ≤ n₀) (hbk : bk < w.heap.size) (hbl : bl < w.heap.size) (hL : Laid w) (hl : label.size ≤ 549755813888)
    (hB : Blk w bk 161 [.string ⟨(mixL k 54).toArray⟩, .string ⟨(mixL k 92).toArray⟩]) (hC : w.cell? ⟨bl, 0, none⟩ = some (.string label)) :
    SeqStopsK Fence.wide n Tryz.prog 185 #[.pointer (some ⟨bk, 0, none⟩), .pointer (some ⟨bl, 0, none⟩)] (fun x : T32 => #[.string x.1]) (KpT n₀ bk bl)
      (fun xs => xs = seqS k label.data.toList 255) (fun pre => ∃ m, m ≤ 255 ∧ pre = seqS k label.data.toList m) 255 w := fun l J Jx W hW hJ hJx hY h0 => by
  have HY := Lib.hid hY; have HJ := Lib.hid hJ
  have HL := Lib.hid (hL.ext hW)
  have HB := Lib.hid (hB.ext hW)
  have HC := Lib.hid ((hW.cell (p := ⟨bl, 0, none⟩) hbl).trans hC)
  have HW := hW.size
  clear hL hB hC hW hY hJ hJx
  refine callsIn_of_wp Tryz.func185 rfl trivial ?_ rfl
  simp only [Tryz.ntmps185, List.size_toArray, List.length_cons, List.length_nil, Nat.reduceAdd, Nat.reduceSub, Array.replicate_succ, Array.replicate_zero, List.push_toArray, List.append_toArray, List.nil_append, List.cons_append]
  gi_wp2
  gi_loopw [6, 4] (fun i last wr => ∃ j : Nat, j ≤ 255 ∧ i = .int .i64 j ∧ last = .string ⟨(tagL k label.data.toList j).toArray⟩ ∧ J (seqS k label.data.toList j) wr ∧ KpT n₀ bk bl W wr) (fun i _ _ => 255 - (intOf i).toNat)
  case atStart => exact ⟨0, by omega, rfl, rfl, h0, KpT.refl _ _ _ _⟩
  case round =>
    obtain ⟨j, hj, rfl, rfl, hJr, hbr⟩ := hrel
    clear h0
    have HJr := Lib.hid hJr; have HBr := Lib.hid hbr
    clear hJr hbr
    by_cases hlt : j < 255
    · have hLr := Lib.hid (HL.out.below HBr.out.1 h2)
      have HS := Lib.hid (show n₀ ≤ wr.heap.size from by have := HBr.out.1.size; omega)
      have hb : Blk wr bk 161 [.string ⟨(mixL k 54).toArray⟩, .string ⟨(mixL k 92).toArray⟩] := HBr.out.2.1.trans HB.out
      have c0 := hb.cell 0 _ rfl
      have c1 := hb.cell 1 _ rfl
      have c2 := (World.cell?_of_block (a := ⟨bl, 0, none⟩) HBr.out.2.2).trans HC.out
      obtain ⟨b, eb⟩ : ∃ b, b = UInt8.ofNat (j + 1) := ⟨_, rfl⟩
      have hcv := fun t u => one_text ((j : Int) + 1) b (by rw [eb]; simp; omega) t u
      have HN := Lib.hid (fun u g (hg : g = u.heap.size) (hL : Laid u) => tag_next u k label j 9 b g eb hg hL hl)
      clear hb eb
      generalize (⟨(tagL k label.data.toList j).toArray⟩ : ByteArray) = T at *
      gi_wp2_with (refine ⟨trivial, ?_⟩; gi_at_call 116; refine (callsIn_wide.2 (HN.out _ _ (by simp) (hLr.out.ext ((Ext.refl wr).alloc _)))).mono ?_; rintro e w2 ⟨rfl, h2x⟩; have h3x := Ext.trans ((Ext.refl wr).alloc _) h2x; obtain ⟨fn, tmps, assign, body, hy, hR⟩ := HY.out (seqS k label.data.toList j) (tagS k label.data.toList j) w2 (HJ.out _ _ _ none HJr.out (ext_grown h3x) (fun r e => by cases e)) (by rw [seqS_length]; exact hlt); dsimp only [tagS] at hy)
      refine hR.mono ?_
      rintro e W3 (⟨rfl, hJ3, hk3⟩ | ⟨rfl, hJx3⟩)
      · gi_wp2
        go_roundw
        case rel => exact ⟨j + 1, hlt, by go_num, rfl, by rw [seqS_succ]; exact hJ3, (HBr.out.trans (KpT.of_ext h3x HS.out (by have := HBr.out.1.size; omega) (by have := HBr.out.1.size; omega))).trans hk3⟩
        case measure => simp [intOf]; omega
      · gi_wp2
        refine bodyPost_ret (results_none rfl _ _ _) rfl ?_
        exact ⟨⟨_, rfl⟩, .inr ⟨_, ⟨j + 1, hlt, (seqS_succ _ _ _).symm⟩, hJx3⟩⟩
    · obtain rfl : j = 255 := by omega
      have e255 : ((255 : Nat) : Int) = 255 := rfl
      rw [e255]
      clear e255
      gi_wp2
      go_end0
      exact ⟨⟨_, rfl⟩, .inl ⟨_, rfl, HJr.out⟩⟩
end Go.Proofs.YtobhbppogeghnaaGreatDoor
end

section
namespace Go.Proofs.YtobhbppogeghnaaGreatDoor
open Go.RowKit Go.Shelf

attribute [local go_sem] Oper.semAt_some

theorem tags_any (k : List UInt8) (label : ByteArray) (w : World) :
    Calls Tryz.prog 157 #[.agg #[.string ⟨(mixL k 54).toArray⟩, .string ⟨(mixL k 92).toArray⟩], .string label] w
      fun e w' => e = .returned (.func (.func 185) #[] #[.pointer (some ⟨w.heap.size, 0, none⟩), .pointer (some ⟨w.heap.size + 1, 0, none⟩)]) ∧
        w' = (w.alloc (.cells #[.string ⟨(mixL k 54).toArray⟩, .string ⟨(mixL k 92).toArray⟩] 161)).alloc (.cells #[.string label] 9) := by
  go_enter Tryz.func157, Tryz.ntmps157
  go_wp2
  go_ret
  exact ⟨rfl, rfl⟩
theorem builder_grown {B b : Nat} {bs : List Value} {w w' : World} {row : Option Nat} (h : Lib.IsBuilderF 151 5 B b bs w) (hg : w.grownBy w' row) (hr : ∀ r, row = some r → ∃ o : Obj, w.heap[r]? = some o ∧ o.isCells = false) : Lib.IsBuilderF 151 5 B b bs w' := by
  have key : ∀ p, Lib.BuilderAtF 151 5 B b p bs w → Lib.BuilderAtF 151 5 B b p bs w' := by
    rintro p ⟨hB, v, hv, hown, hne⟩
    refine ⟨hB, v, (grownBy_keeps_cells hg hr hv rfl).trans hv, ⟨hown.1, ?_⟩, hne⟩
    rcases hown.2 with h0 | ⟨g, cap, cur, fz, e1, e2, e3, e4⟩
    · exact .inl h0
    · exact .inr ⟨g, cap, cur, fz, e1, e2, (grownBy_keeps_cells hg hr e3 rfl).trans e3, e4⟩
  exact h.imp (key _) (key _)
theorem len_any (B b : Nat) (bs : List Value) (w : World) (h : Lib.IsBuilderF 151 5 B b bs w) :
    Calls Tryz.prog 158 #[.pointer (some ⟨b, 0, none⟩)] w fun e w' => e = .returned (.int .i64 bs.length) ∧ w' = w := Any.Builder_Len_f { Tryz.lays105 with } B b bs w h
theorem write_kept (B b : Nat) (bs : List Value) (s : ByteArray) (w : World) (h : Lib.IsBuilderF 151 5 B b bs w) (hlen : bs.length + s.size ≤ 140737488355328) (hBw : B ≤ w.heap.size) :
    Calls Tryz.prog 110 #[.pointer (some ⟨b, 0, none⟩), .string s] w fun e w' => e = .returned (.tuple #[.int .i64 s.size, .nilIface]) ∧ (Lib.IsBuilderF 151 5 B b (bs ++ Lib.strCells s) w' ∧ Below B w w' ∧ Lib.OthersKept 5 (some b) w w') :=
  (Any.Builder_WriteString_k { Tryz.lays105 with } Tryz.Builder_Extra_105 B b bs s w h hlen hBw).mono fun _ _ h => ⟨h.1, .inr h.2.1, h.2.2.1, h.2.2.2⟩
theorem string_kept (B b : Nat) (l : List UInt8) (w : World) (h : Lib.IsBuilderF 151 5 B b (Lib.byteCells l) w) (hBw : B ≤ w.heap.size) :
    Calls Tryz.prog 111 #[.pointer (some ⟨b, 0, none⟩)] w fun e w' => e = .returned (.string ⟨l.toArray⟩) ∧ Below B w w' ∧ Lib.OthersKept 5 (some b) w w' :=
  (Any.Builder_String_any_k { Tryz.lays105 with } Tryz.Builder_Extra_105 B b l w h hBw).mono fun _ _ h => ⟨h.1, h.2.2.1, h.2.2.2⟩
theorem others_kept {b : Nat} {W W' : World} (h : Lib.OthersKept 5 (some b) W W') (hs : W.heap.size ≤ W'.heap.size) (hb : ∃ o, W.heap[b]? = some o ∧ o.isCells = true) : KeepsOthers W W' :=
  ⟨hs, fun k o hk ho => h k o hk (fun e => by
    obtain ⟨o', h1, h2⟩ := hb
    obtain rfl : k = b := Option.some.inj e
    rw [hk] at h1; cases h1; rw [ho] at h2; cases h2) (fun c fz e => by rw [e] at ho; cases ho)⟩
theorem builder_cells {B b : Nat} {bs : List Value} {w : World} (h : Lib.IsBuilderF 151 5 B b bs w) : ∃ o, w.heap[b]? = some o ∧ o.isCells = true := by
  rcases h with ⟨_, v, hv, _⟩ | ⟨_, v, hv, _⟩
  · exact ⟨_, hv, rfl⟩
  · exact ⟨_, hv, rfl⟩
/-- A piece of a text of 32 bytes, as it is put behind. -/
theorem piece (pre : List T32) (x : T32) (n c : Nat) (hc : c = min 32 (n - 32 * pre.length)) (hn : 32 * pre.length < n) :
    Lib.byteCells (flatS pre) ++ Lib.strCells (x.1.extract 0 c) = Lib.byteCells ((flatS (pre ++ [x])).take n) := by
  have hx : x.1.data.toList.length = 32 := by rw [size_list]; exact x.2
  have hl := flatS_length pre
  have e1 : (x.1.extract 0 c).data.toList = x.1.data.toList.take c := by rw [Lib.extract_data]; simp
  have e2 : Lib.strCells (x.1.extract 0 c) = Lib.byteCells (x.1.data.toList.take c) := by rw [← e1]; rfl
  have e3 : x.1.data.toList.take c = x.1.data.toList.take (n - 32 * pre.length) := by
    by_cases h : 32 ≤ n - 32 * pre.length
    · rw [List.take_of_length_le (by omega), List.take_of_length_le (by omega)]
    · have : c = n - 32 * pre.length := by omega
      rw [this]
  rw [e2, e3, ← Lib.byteCells_append, flatS_snoc, List.take_append, hl]
  rw [List.take_of_length_le (l := flatS pre) (by omega)]
set_option maxRecDepth 100000 in
set_option maxHeartbeats 2000000 in
theorem derive_yes (key label : ByteArray) (n : Nat) (w : World) (hL : Laid w) (hk : key.size ≤ 1099511627776) (hl : label.size ≤ 549755813888) (h1 : 1 ≤ n) (h2 : n ≤ 8160) :
    Calls Tryz.prog 133 #[.string key, .string label, .int .i64 (n : Int)] w fun e w' => e = .returned (.tuple #[.string ⟨(derL key.data.toList label.data.toList n).toArray⟩, .bool true]) ∧ Ext w w' := by
  have HK := Lib.hid (fun u (hu : Ext w u) => keysOf_any key u (hL.ext hu) hk)
  have HL := Lib.hid hL; have HZ := Lib.hid hL.size
  clear hL
  refine (callsIn_wide (n := 9)).1 ?_
  refine callsIn_of_wp_marks Tryz.func133 rfl trivial ?_ rfl
  simp only [Tryz.ntmps133, List.size_toArray, List.length_cons, List.length_nil, Nat.reduceAdd, Nat.reduceSub, Array.replicate_succ, Array.replicate_zero, List.push_toArray, List.append_toArray, List.nil_append, List.cons_append]
  gi_wp2_with (first
    | (refine ⟨trivial, ?_⟩; gi_at_call 115; refine (callsIn_wide.2 (HK.out _ (((Ext.refl w).alloc _).alloc _))).mono ?_; rintro e w1 ⟨rfl, h1x⟩)
    | (refine ⟨trivial, ?_⟩; gi_at_call 157; refine (callsIn_wide.2 (tags_any _ _ _)).mono ?_; rintro e w2 ⟨rfl, rfl⟩))
  have hb0 : Lib.IsBuilderF 151 5 (w.heap.size + 1) (w.heap.size + 1) [] ((w.alloc (.cells #[.int .i64 (n : Int)] 3)).alloc (.cells #[.pointer none, .slice none 0 0] 151)) := by
    have := fresh_builder (w.alloc (.cells #[.int .i64 (n : Int)] 3)) (w.heap.size + 1) (by simp)
    simpa using this
  have hn0 : Blk ((w.alloc (.cells #[.int .i64 (n : Int)] 3)).alloc (.cells #[.pointer none, .slice none 0 0] 151)) w.heap.size 3 [.int .i64 (n : Int)] := (Blk.new w _ _).alloc _
  have hx0 : Ext w ((w.alloc (.cells #[.int .i64 (n : Int)] 3)).alloc (.cells #[.pointer none, .slice none 0 0] 151)) := ((Ext.refl w).alloc _).alloc _
  have hz1 : w.heap.size + 2 ≤ w1.heap.size := by have := h1x.size; simp at this; omega
  obtain ⟨W0, hW0⟩ : ∃ W0, (w1.alloc (.cells #[.string ⟨(mixL key.data.toList 54).toArray⟩, .string ⟨(mixL key.data.toList 92).toArray⟩] 161)).alloc (.cells #[.string label] 9) = W0 := ⟨_, rfl⟩
  have hx1 : Ext w1 W0 := by rw [← hW0]; exact ((Ext.refl w1).alloc _).alloc _
  have hz0 : W0.heap.size = w1.heap.size + 2 := by rw [← hW0]; simp
  have hBk : Blk W0 w1.heap.size 161 [.string ⟨(mixL key.data.toList 54).toArray⟩, .string ⟨(mixL key.data.toList 92).toArray⟩] := by rw [← hW0]; exact (Blk.new w1 _ _).alloc _
  have hBl : Blk W0 (w1.heap.size + 1) 9 [.string label] := by
    rw [← hW0]
    have := Blk.new (w1.alloc (.cells #[.string ⟨(mixL key.data.toList 54).toArray⟩, .string ⟨(mixL key.data.toList 92).toArray⟩] 161)) [.string label] 9
    simpa using this
  have hb1 := builder_ext (builder_ext hb0 h1x) hx1
  have hn1 := (hn0.ext h1x).ext hx1
  have hx2 := (hx0.trans h1x).trans hx1
  rw [hW0]
  clear hW0 hb0 hn0 hx0 h1x hx1
  have h2w : 2 ≤ w.heap.size := HZ.out
  refine wpIn_rangeFunc_ownF rfl (by omega) (gf := 185) (lb := #[.pointer (some ⟨w1.heap.size, 0, none⟩), .pointer (some ⟨w1.heap.size + 1, 0, none⟩)]) rfl trivial (enters_of Tryz.func185 (by kernel_rfl) rfl)
    (tags_stops (9 - 1) (by omega) w1.heap.size (w1.heap.size + 1) (w.heap.size + 1) key.data.toList label W0 (by omega) (by omega) (by omega) (by omega) (HL.out.ext hx2) hl hBk (hBl.cell 0 _ rfl)) KpT.trans (KpT.put (by omega) (by omega) (by omega)) (Below.refl _ _) (fun _ => rfl)
    (fun pre W => (W.cell? ⟨w.heap.size, 0, none⟩ = some (.int .i64 (n : Int)) ∧ Lib.IsBuilderF 151 5 (w.heap.size + 1) (w.heap.size + 1) (Lib.byteCells (flatS pre)) W ∧ Blk W w1.heap.size 161 [.string ⟨(mixL key.data.toList 54).toArray⟩, .string ⟨(mixL key.data.toList 92).toArray⟩] ∧ Blk W (w1.heap.size + 1) 9 [.string label] ∧ 32 * pre.length < n) ∧ Below w.heap.size w W)
    (fun c pre W => (c = .exit 0 ∧ Lib.IsBuilderF 151 5 (w.heap.size + 1) (w.heap.size + 1) (Lib.byteCells ((flatS pre).take n)) W ∧ n ≤ 32 * pre.length) ∧ Below w.heap.size w W)
    (OwnFrom.and (Own.from (fun s A B row hs hg hr => ⟨cell_kept hs.1 hg hr, builder_grown hs.2.1 hg hr, (grownBy_keeps_cells hg hr hs.2.2.1 rfl).trans hs.2.2.1, (grownBy_keeps_cells hg hr hs.2.2.2.1 rfl).trans hs.2.2.2.1, hs.2.2.2.2⟩) _) (ownFrom_below (Nat.le_refl _) (by omega)))
    (fun c => OwnFrom.and (Own.from (fun s A B row hs hg hr => ⟨hs.1, builder_grown hs.2.1 hg hr, hs.2.2⟩) _) (ownFrom_below (Nat.le_refl _) (by omega)))
    ⟨⟨hn1.cell 0 _ rfl, hb1, hBk, hBl, by simp; omega⟩, hx2⟩
    (fun x => { tmps := #[.string key, .string label, .int .i64 (n : Int), undef, undef, .pointer (some ⟨w.heap.size, 0, none⟩), .string ⟨#[]⟩, .bool false, .pointer (some ⟨w.heap.size + 1, 0, none⟩), .string x.1, .int .i64 (n : Int), .bool (decide ((n : Int) < 1)), .bool (decide ((n : Int) < 1)), .int .i64 (n : Int), .bool (decide (8160 < (n : Int))), .bool (decide ((n : Int) < 1) || decide (8160 < (n : Int))), .string key,
      .agg #[.string ⟨(mixL key.data.toList 54).toArray⟩, .string ⟨(mixL key.data.toList 92).toArray⟩], .string label, .func (.func 185) #[] #[.pointer (some ⟨w1.heap.size, 0, none⟩), .pointer (some ⟨w1.heap.size + 1, 0, none⟩)], .string x.1, undef, undef, undef, undef, undef, undef, undef, undef, undef, undef, undef], defers := [] }) ?assign ?body ?done ?stop
  case assign =>
    intro l x W K hK
    gi_wp2
    exact hK
  case body =>
    rintro l pre x W ⟨⟨hc, hb, hk1, hk2, hlt⟩, hB⟩ _
    have hmx : Tryz.prog.follows .mixedOrders = true := by kernel_rfl
    obtain ⟨p, hp⟩ : ∃ p, p = 32 * pre.length := ⟨_, rfl⟩
    obtain ⟨c, hcc⟩ : ∃ c, c = min 32 (n - 32 * pre.length) := ⟨_, rfl⟩
    have hmin : ∀ (ts : Array TypeId) (t : TypeId) (u : World), (Builtin.min_ ts t #[.int .i64 32, .int .i64 ((n : Int) - (p : Int))]).run Tryz.prog u = .ok (.int .i64 (c : Int)) u := fun ts t u => by
      have := run_min_int2 (P := Tryz.prog) (w := u) ts t .i64 .i64 32 ((n : Int) - (p : Int))
      rw [this]
      congr 2
      omega
    have hx : x.1.size = 32 := x.2
    have hpn : p < n := by omega
    have hc32 : c ≤ 32 := by omega
    have hc33 : ¬ 32 < c := by omega
    have hc34 : (c : Int) ≤ 32 := by omega
    have hc35 : ¬ (32 : Int) < (c : Int) := by omega
    have hc36 : (0 : Int) ≤ (c : Int) := by omega
    have hc37 : ¬ (c : Int) < 0 := by omega
    have hbl : (Lib.byteCells (flatS pre)).length = p := by rw [Lib.byteCells_length, flatS_length, hp]
    have HLen := Lib.hid (fun u (hu : Lib.IsBuilderF 151 5 (w.heap.size + 1) (w.heap.size + 1) (Lib.byteCells (flatS pre)) u) => len_any (w.heap.size + 1) (w.heap.size + 1) (Lib.byteCells (flatS pre)) u hu)
    rw [hbl] at HLen
    have HW := Lib.hid (fun u (hu : Lib.IsBuilderF 151 5 (w.heap.size + 1) (w.heap.size + 1) (Lib.byteCells (flatS pre)) u) (hz : w.heap.size + 1 ≤ u.heap.size) => write_kept (w.heap.size + 1) (w.heap.size + 1) (Lib.byteCells (flatS pre)) (x.1.extract 0 c) u hu (by rw [hbl, ByteArray.size_extract]; omega) hz)
    rw [piece pre x n c hcc (by omega)] at HW
    have hzW : w.heap.size + 1 ≤ W.heap.size := by have := (Blk.lt hk1); omega
    have Hb := Lib.hid hb; have Hk1 := Lib.hid hk1; have Hk2 := Lib.hid hk2; have HB := Lib.hid hB; have Hlt := Lib.hid hlt; have Hp := Lib.hid hp; have Hcc := Lib.hid hcc; have HzW := Lib.hid hzW
    clear hb hk1 hk2 hB hlt hp hcc hbl hzW h2w hx2 hBl hBk hb1 hn1
    generalize x.1 = X at *
    have hsl : ∀ u : World, (Instr.slice 9 (.string X) none (some (.int .i64 (c : Int))) none).run Tryz.prog u = .ok (.string (X.extract 0 c)) u := fun u => by
      have hj : (0 : Int) ≤ (c : Int) ∧ (c : Int) ≤ (X.size : Int) := by omega
      simp [Instr.slice, Instr.sliceBounds, Instr.sliceBound, asIntOf, run_underlying Tryz.underlying9, hj]
      intro hgt
      omega
    have hwr : wrap64 ((n : Int) - (p : Int)) = (n : Int) - (p : Int) := by unfold wrap64; omega
    have hwr2 : IntKind.i64.wrap ((n : Int) - (p : Int)) = (n : Int) - (p : Int) := IntWalk.i64_in _ ⟨by omega, by omega⟩
    gi_wp2
    gi_region_with_o (first
      | (refine ⟨trivial, ?_⟩; gi_at_call 158; refine (CallsIn.inRound l (callsIn_wide.2 (HLen.out _ (by exact Hb.out)))).mono ?_; rintro e w3 ⟨rfl, rfl⟩)
      | (refine ⟨trivial, ?_⟩; gi_at_call 110; refine (CallsIn.inRound l (callsIn_wide.2 (HW.out _ (by exact Hb.out) (by exact HzW.out)))).mono ?_; rintro e w4 ⟨rfl, h4, b4, k4⟩))
    all_goals
      have hc4 : w4.cell? ⟨w.heap.size, 0, none⟩ = some (.int .i64 (n : Int)) := (b4.cell (p := ⟨w.heap.size, 0, none⟩) (Nat.lt_succ_self _)).trans hc
      have b5 : Below (w.heap.size + 1) W w4 := ⟨b4.os, b4.tape, b4.output, b4.size, b4.block⟩
      have hs4 : W.heap.size ≤ w4.heap.size := b4.size
      have hk4 : KeepsOthers W w4.drew := (others_kept (W := W) k4 hs4 (builder_cells Hb.out)).trans (KeepsOthers.drew w4)
      have hm1 : w4.heap[w1.heap.size]? = W.heap[w1.heap.size]? := (k4 _ _ Hk1.out (by intro e; have := Option.some.inj e; omega) (by intro c fz e; have := (Obj.cells.inj e).2.1; exact absurd this (by decide))).trans Hk1.out.symm
      have hm2 : w4.heap[w1.heap.size + 1]? = W.heap[w1.heap.size + 1]? := (k4 _ _ Hk2.out (by intro e; have := Option.some.inj e; omega) (by intro c fz e; have := (Obj.cells.inj e).2.1; exact absurd this (by decide))).trans Hk2.out.symm
      have hB4 : Below w.heap.size w w4.drew := (HB.out.trans (Below.mono b5 (Nat.le_succ _))).drew
      have hK4 : KpT (w.heap.size + 1) w1.heap.size (w1.heap.size + 1) W w4.drew := ⟨⟨b4.os, b4.tape, b4.output, b4.size, b4.block⟩, hm1, hm2⟩
      have hn1 : Blk w4.drew w1.heap.size 161 _ := hm1.trans Hk1.out
      have hn2 : Blk w4.drew (w1.heap.size + 1) 9 _ := hm2.trans Hk2.out
      have hl5 : (flatS (pre ++ [x])).length = p + 32 := by rw [flatS_length, List.length_append, List.length_singleton, Hp.out]; omega
      have hln := len_any (w.heap.size + 1) (w.heap.size + 1) (Lib.byteCells ((flatS (pre ++ [x])).take n)) w4.drew h4
      rw [Lib.byteCells_length, List.length_take, hl5] at hln
      have hlen5 : 32 * (pre ++ [x]).length = p + 32 := by rw [List.length_append, List.length_singleton, Hp.out]; omega
      have h4b : Lib.IsBuilderF 151 5 (w.heap.size + 1) (w.heap.size + 1) (Lib.byteCells ((flatS (pre ++ [x])).take n)) w4.drew := h4
      have HN := Lib.hid hln; have H1 := Lib.hid hk4; have H2 := Lib.hid hK4; have H3 := Lib.hid hn1; have H4 := Lib.hid hn2; have H5 := Lib.hid hl5; have H6 := Lib.hid hB4; have H7 := Lib.hid h4b; have H8 := Lib.hid hlen5
      clear b5 hs4 hk4 hm1 hm2 hB4 hK4 hn1 hn2 hl5 hln h4 b4 k4 hlen5 h4b
      by_cases hq : n ≤ p + 32
      · have HN2 := HN.out
        rw [Nat.min_eq_left hq] at HN2
        have HN3 := Lib.hid HN2
        clear HN2
        gi_wp2
        gi_region_with_o (refine ⟨trivial, ?_⟩; gi_at_call 158; refine (CallsIn.inRound l (callsIn_wide.2 HN3.out)).mono ?_; rintro e w6 ⟨rfl, rfl⟩)
        all_goals gi_wp2
        all_goals exact ⟨H1.out, ⟨rfl, H7.out, by rw [H8.out]; exact hq⟩, H6.out⟩
      · have HN2 := HN.out
        have e5 : (flatS (pre ++ [x])).take n = flatS (pre ++ [x]) := List.take_of_length_le (by rw [H5.out]; omega)
        have H7b := H7.out
        rw [e5] at H7b
        rw [Nat.min_eq_right (by omega)] at HN2
        have HN3 := Lib.hid HN2
        have hne : ¬ (p : Int) + 32 = (n : Int) := by omega
        have HB7 := Lib.hid H7b
        clear HN2 H7b e5
        gi_wp2
        gi_region_with_o (refine ⟨trivial, ?_⟩; gi_at_call 158; refine (CallsIn.inRound l (callsIn_wide.2 HN3.out)).mono ?_; rintro e w6 ⟨rfl, rfl⟩)
        all_goals gi_wp2
        all_goals exact ⟨H1.out, H2.out, ⟨hc4, HB7.out, H3.out, H4.out, by rw [H8.out]; omega⟩, H6.out⟩
  case done =>
    rintro D ys W hD rfl ⟨⟨_, _, _, _, hlt⟩, _⟩ _
    rw [seqS_length] at hlt
    omega
  case stop =>
    rintro D c pre W hD ⟨m, hm, rfl⟩ ⟨⟨rfl, hb, hle⟩, hB⟩ hK
    rw [seqS_length] at hle
    rw [flatS_seq, ← derL_of _ _ _ _ hle hm] at hb
    gi_wp2_with (refine ⟨trivial, ?_⟩; gi_at_call 111; refine (callsIn_wide.2 (string_kept (w.heap.size + 1) (w.heap.size + 1) _ W hb (by have := heap_lt hK; omega))).mono ?_; rintro e w5 ⟨rfl, h5, k5⟩)
    have hK5 := k5 D _ hK (by intro e; have := Option.some.inj e; omega) (fun c fz e => by cases e)
    refine ⟨by simp, .inl ⟨_, _, rfl, run_takeDeferred hK5, ?_⟩⟩
    refine ⟨_, results_tmp2 rfl _ _ _, rfl, ?_⟩
    exact (hB.trans (Below.mono h5 (by omega))).trans (belowK_b (w := w) (Nat.le_refl _) _ D _ _ (by omega) hK5 rfl rfl)
end Go.Proofs.YtobhbppogeghnaaGreatDoor
end

section
namespace Go.Proofs.YtobhbppogeghnaaGreatDoor
open Go.RowKit

def cipB : ByteArray := ⟨#[99, 105, 112, 104, 101, 114]⟩
def tagB : ByteArray := ⟨#[116, 97, 103]⟩
/-- What an epoch's key makes of a label. -/
def kd (s label : ByteArray) (n : Nat) : ByteArray := ⟨(derL s.data.toList label.data.toList n).toArray⟩
theorem derived_any (w : World) (s label : ByteArray) (n : Nat) (hL : Laid w) (hs : s.size = 32) (hl : label.size ≤ 1000) (h1 : 1 ≤ n) (h2 : n ≤ 8160) :
    Calls Tryz.prog 112 #[.agg #[.string s], .string label, .int .i64 (n : Int)] w fun e w' => e = .returned (.string (kd s label n)) ∧ Ext w w' := by
  obtain ⟨W0, hW0⟩ : ∃ W0, w.alloc (.cells #[.string s] 108) = W0 := ⟨_, rfl⟩
  have hx0 : Ext w W0 := by rw [← hW0]; exact (Ext.refl w).alloc _
  have hB0 : Blk W0 w.heap.size 108 [.string s] := by rw [← hW0]; exact Blk.new w _ _
  have c0 := hB0.cell 0 _ rfl
  have HD := Lib.hid (derive_yes s label n W0 (hL.ext hx0) (by omega) (by omega) h1 h2)
  have HX := Lib.hid hx0
  clear hL hx0 hB0
  unfold kd
  generalize (⟨(derL s.data.toList label.data.toList n).toArray⟩ : ByteArray) = D at *
  go_enter Tryz.func112, Tryz.ntmps112
  go_wp2_with (go_at_call 133; refine (HD.out).mono ?_; rintro e w1 ⟨rfl, x1⟩)
  go_ret
  exact ⟨rfl, HX.out.trans x1⟩
theorem keys_no (w : World) (r b : Nat) (L : List (Nat × ByteArray)) (h : IsK w r b L) (e : Nat) (h32 : e < 4294967296) (he : e ∉ eps L) :
    Calls Tryz.prog 77 #[.pointer (some ⟨r, 0, none⟩), .int .u32 (e : Int)] w fun x w' => x = .returned (.tuple #[.string ⟨#[]⟩, .string ⟨#[]⟩, .bool false]) ∧ Ext w w' := by
  have HH := Lib.hid (has_no w r b L e h h32 he)
  have hc := h.cell
  clear h he
  go_enter Tryz.func77, Tryz.ntmps77
  go_wp2_with (first
    | (go_at_call 95; refine (HH.out).mono ?_; rintro e w3 ⟨rfl, x3⟩)
    | (go_at_call 84; refine (thereK_yes _ r b hc).mono ?_; rintro e w2 ⟨rfl, rfl⟩))
  go_ret3
  exact ⟨rfl, x3⟩
set_option maxRecDepth 100000 in
set_option maxHeartbeats 2000000 in
theorem keys_yes (w : World) (r b : Nat) (L : List (Nat × ByteArray)) (hL : Laid w) (h : IsK w r b L) (e : Nat) (s : ByteArray) (he : (e, s) ∈ L) :
    Calls Tryz.prog 77 #[.pointer (some ⟨r, 0, none⟩), .int .u32 (e : Int)] w fun x w' => x = .returned (.tuple #[.string (kd s cipB 16), .string (kd s tagB 32), .bool true]) ∧ Ext w w' := by
  have hin : e ∈ eps L := List.mem_map.2 ⟨_, he, rfl⟩
  have h32 := (h.good.eps_each e hin).2
  have hs := (h.good.each _ he).2.2
  have HH := Lib.hid (has_yes w r b L e h hin)
  have HK := Lib.hid h
  have HLk := Lib.hid (fun u (hu : IsM u b L) => hu.look false h32 he)
  have HD1 : Hid (∀ u, Ext w u → Calls Tryz.prog 112 #[.agg #[.string s], .string ⟨#[99, 105, 112, 104, 101, 114]⟩, .int .i64 16] u fun x w' => x = .returned (.string (kd s cipB 16)) ∧ Ext u w') := Lib.hid (fun u hu => derived_any u s cipB 16 (hL.ext hu) hs (by decide) (by omega) (by omega))
  have HD2 : Hid (∀ u, Ext w u → Calls Tryz.prog 112 #[.agg #[.string s], .string ⟨#[116, 97, 103]⟩, .int .i64 32] u fun x w' => x = .returned (.string (kd s tagB 32)) ∧ Ext u w') := Lib.hid (fun u hu => derived_any u s tagB 32 (hL.ext hu) hs (by decide) (by omega) (by omega))
  have hc := h.cell
  clear h he hL hs hin
  generalize kd s cipB 16 = D1 at *
  generalize kd s tagB 32 = D2 at *
  go_enter Tryz.func77, Tryz.ntmps77
  go_wp2_with (first
    | (go_at_call 95; refine (HH.out).mono ?_; rintro e w3 ⟨rfl, x3⟩; have c3 := (HK.out.ext x3).cell; have hlk := HLk.out _ (HK.out.ext x3).map; simp only [Bool.false_eq_true, if_false] at hlk)
    | (go_at_call 84; refine (thereK_yes _ r b hc).mono ?_; rintro e w2 ⟨rfl, rfl⟩))
  have x3b : Ext w (w3.alloc (.cells #[.string s] 108)) := x3.alloc _
  have kb : (w3.alloc (.cells #[.string s] 108)).cell? ⟨w3.heap.size, 0, none⟩ = some (.string s) := (Blk.new w3 [.string s] 108).cell 0 _ rfl
  have HBn := Lib.hid (Blk.new w3 [.string s] 108)
  generalize hW : w3.alloc (.cells #[.string s] 108) = W at *
  have k1 := (HBn.out.drew).cell 0 _ rfl
  have x0 : Ext W W.drew := (Ext.refl W).drew
  have HXb := Lib.hid x3b
  have HKeep := Lib.hid (fun u (hu : Ext W u) => (HBn.out.ext hu).cell 0 _ rfl)
  clear hW hlk c3 x3 x3b kb
  go_region_held3 (fun u => u.cell? ⟨w3.heap.size, 0, none⟩ = some (.string s) ∧ Ext W u) (first | exact ⟨k1, x0⟩ | exact ⟨HKeep.out _ (by assumption), by assumption⟩ | go_keep) (first
    | (go_at_call 112; (with_reducible refine (HD1.out _ (HXb.out.trans (by assumption))).mono ?_); rintro e w4 ⟨rfl, h4⟩; have x4 := Ext.trans (a := W) (by assumption) h4)
    | (go_at_call 112; (with_reducible refine (HD2.out _ (HXb.out.trans (by assumption))).mono ?_); rintro e w5 ⟨rfl, h5⟩; have x5 := Ext.trans (a := W) (by assumption) h5))
  all_goals
    go_wp2
    go_ret3
    exact ⟨rfl, HXb.out.trans (by assumption)⟩
end Go.Proofs.YtobhbppogeghnaaGreatDoor
end
