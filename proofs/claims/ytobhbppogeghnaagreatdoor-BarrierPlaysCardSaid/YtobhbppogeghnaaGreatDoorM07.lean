/- A Hash in memory: what it keeps of the bytes that came. Contracts of the library's builder of strings, at this translation. A builder, to which texts are written. Contracts: the state's bytes, by the program: through a builder of the library's. Texts with their tail, block by block: plain. Contracts: the end of the padded text, and the sum out of what is kept, by the program. Contracts: the sum of all that came till now, by the program. Plain: a text's bytes copied into a block. Plain words: bytes of a text copied into what a Hash keeps. -/
import Derived.Test.YtobhbppogeghnaaGreatDoorM02
import Derived.Test.YtobhbppogeghnaaGreatDoorM06
import Derived.Shelf.Strings.Builder1
import Derived.Shelf.Strings.BuilderF
import Derived.Test.YtobhbppogeghnaaGreatDoorProg
import Derived.Test.YtobhbppogeghnaaGreatDoorM01
import Derived.Test.YtobhbppogeghnaaGreatDoorShelf
import Derived.Test.YtobhbppogeghnaaGreatDoorM05
import Derived.Deep.RegionWith
import Derived.Deep.RegionHeld3
import Derived.Deep.DeepCutAuto
import Derived.Lib.SlBuf
section
namespace Go.Proofs.YtobhbppogeghnaaGreatDoor
open Go.RowKit

/-- The cells of a Hash. -/
def hashPost (buf : List UInt8) (n : Nat) : List Value := buf.map cellOf ++ [.int .u64 (n : Int)]
def hashCells (st : St) (buf : List UInt8) (n : Nat) : List Value := mid [.bool true] st.list (hashPost buf n)
/-- Block b is a Hash to which m came. -/
structure IsHash (w : World) (b : Nat) (m : List UInt8) : Prop where
  small : m.length < 1152921504606846976
  blk : ∃ buf : List UInt8, buf.length = 64 ∧ buf.take (m.length % 64) = restOf m ∧ Blk w b 219 (hashCells (stOf m) buf m.length)
section
variable {w w' : World} {b : Nat} {m : List UInt8} {st : St} {buf : List UInt8} {n : Nat}
theorem IsHash.lt (h : IsHash w b m) : b < w.heap.size := by obtain ⟨_, _, _, hb⟩ := h.blk; exact hb.lt
theorem IsHash.below {B : Nat} (h : IsHash w b m) (hb : Below B w w') (hB : b < B) : IsHash w' b m := by
  obtain ⟨buf, h1, h2, h3⟩ := h.blk; exact ⟨h.small, buf, h1, h2, h3.below hb hB⟩
theorem IsHash.ext (h : IsHash w b m) (hb : Ext w w') : IsHash w' b m := h.below hb h.lt
theorem IsHash.alloc (h : IsHash w b m) (o : Obj) : IsHash (w.alloc o) b m := h.ext ((Ext.refl w).alloc o)
theorem IsHash.drew (h : IsHash w b m) : IsHash w.drew b m := h.ext (Ext.refl w).drew
theorem hash_made (h : Blk w b 219 (hashCells st buf n)) : w.cell? ⟨b, 0, none⟩ = some (.bool true) := h.cell 0 _ rfl
theorem hash_byte (h : Blk w b 219 (hashCells st buf n)) (i : Nat) (hi : i < buf.length) : w.cell? ⟨b, 9 + i, none⟩ = some (.int .u8 ((buf.map fun c => (c.toNat : Int)).getD i 0)) := by
  apply h.cell
  unfold hashCells mid hashPost
  rw [List.getElem?_append_right (by simp; omega), List.getElem?_append_right (by simp [St.list]; try omega), List.getElem?_append_left (by simp [St.list]; omega)]
  have e : 9 + i - [Value.bool true].length - (st.list.map cell32).length = i := by simp [St.list]; try omega
  rw [e]
  simp [List.getElem?_eq_getElem hi, cellOf]
theorem hash_count (h : Blk w b 219 (hashCells st buf n)) (hb : buf.length = 64) : w.cell? ⟨b, 73, none⟩ = some (.int .u64 (n : Int)) := by
  apply h.cell
  unfold hashCells mid hashPost
  rw [List.getElem?_append_right (by simp), List.getElem?_append_right (by simp [St.list]), List.getElem?_append_right (by simp [St.list, hb])]
  simp [St.list, hb]
/-- The first k bytes of what is kept, as a text. -/
theorem hash_text (h : Blk w b 219 (hashCells st buf n)) (k c : Nat) (hk : k ≤ buf.length) :
    (convert 43 9 (.slice (some ⟨b, 9, none⟩) k c)).run Tryz.prog w = .ok (.string ⟨(buf.take k).toArray⟩) w := by
  have hc := run_convert_bytes_arg (P := Tryz.prog) w 43 5 Tryz.underlying43 Tryz.underlying5 b 9 k c ((buf.take k).map fun c => (c.toNat : Int)) (by simp; omega) (by
    intro i hi
    rw [hash_byte h i (by omega)]
    have hi2 : i < buf.length := by omega
    simp [List.getD, hi, List.getElem?_eq_getElem hi2]) 9 Tryz.underlying9
  rw [hc]
  have e : strOfNums ((buf.take k).map fun c => (c.toNat : Int)) = ⟨(buf.take k).toArray⟩ := by
    unfold strOfNums
    refine congrArg (fun l : List UInt8 => (⟨l.toArray⟩ : ByteArray)) ?_
    rw [List.map_map]
    conv => rhs; rw [← List.map_id (buf.take k)]
    apply List.map_congr_left
    intro b _
    simp
  rw [e]
end
end Go.Proofs.YtobhbppogeghnaaGreatDoor
end

section
namespace Go.Proofs.YtobhbppogeghnaaGreatDoor
open Go.RowKit

def renS : Go.Shelf.Ren := ⟨fun | 169 => 111 | n => n, fun | 0 => 0 | 3 => 3 | 5 => 5 | 9 => 9 | 37 => 43 | 70 => 149 | 72 => 151 | 127 => 168 | n => n, fun n => n⟩
theorem laysS : Go.Proofs.Lays.n169 Tryz.prog renS := {
  mixed := by kernel_rfl
  f169 := Tryz.func111.trans (congrArg some (by kernel_rfl))
  t0 := Tryz.underlying0
  a0 := Tryz.isAgg0
  z0 := Tryz.sizeOf0
  v0 := Tryz.zeroValue0
  t3 := Tryz.underlying3
  a3 := Tryz.isAgg3
  z3 := Tryz.sizeOf3
  v3 := Tryz.zeroValue3
  t9 := Tryz.underlying9
  a9 := Tryz.isAgg9
  z9 := Tryz.sizeOf9
  v9 := Tryz.zeroValue9
  t37 := Tryz.underlying43
  a37 := Tryz.isAgg43
  z37 := Tryz.sizeOf43
  v37 := Tryz.zeroValue43
  t70 := Tryz.underlying149
  a70 := Tryz.isAgg149
  z70 := Tryz.sizeOf149
  v70 := Tryz.zeroValue149
  t72 := Tryz.underlying151
  a72 := Tryz.isAgg151
  z72 := Tryz.sizeOf151
  v72 := Tryz.zeroValue151
  t127 := Tryz.underlying168
  a127 := Tryz.isAgg168
  z127 := Tryz.sizeOf168
  v127 := Tryz.zeroValue168 }
theorem extraS : Builder.Extra Tryz.prog renS := {
  sizeBuilder := by kernel_rfl
  liesBuilder := by kernel_rfl
  t5 := Tryz.underlying5
  a5 := Tryz.isAgg5
  z5 := Tryz.sizeOf5
  v5 := Tryz.zeroValue5
  infoByte := by kernel_rfl
  cellsByte := by kernel_rfl
  sizeByte := by kernel_rfl
  neB5 := by decide }
/-- Block b is a builder that holds these bytes. -/
abbrev IsB (w : World) (B b : Nat) (l : List UInt8) : Prop := Lib.IsBuilderF 151 5 B b (Lib.byteCells l) w
theorem IsB.new (w : World) (B : Nat) (hB : B ≤ w.heap.size) : IsB (w.alloc (.cells #[.pointer none, .slice none 0 0] 151)) B w.heap.size [] :=
  .inl ⟨hB, _, heap_alloc_new w _, World.ownsRowF_of (World.ownsRow_nil _ _ _ _), by simp [Value.ownBlock]⟩
theorem IsB.ext {B b : Nat} {l : List UInt8} {w w' : World} (h : IsB w B b l) (hx : Ext w w') : IsB w' B b l := by
  have key : ∀ p, Lib.BuilderAtF 151 5 B b p (Lib.byteCells l) w → Lib.BuilderAtF 151 5 B b p (Lib.byteCells l) w' := by
    rintro p ⟨hB, v, hv, hown, hne⟩
    refine ⟨hB, v, (hx.below.block b (heap_lt hv)).trans hv, ⟨hown.1, ?_⟩, hne⟩
    rcases hown.2 with h0 | ⟨g, cap, cur, fz, e1, e2, e3, e4⟩
    · exact .inl h0
    · exact .inr ⟨g, cap, cur, fz, e1, e2, (hx.below.block g (heap_lt e3)).trans e3, e4⟩
  exact h.imp (key _) (key _)
theorem string_b (B b : Nat) (l : List UInt8) (w : World) (h : IsB w B b l) (hBw : B ≤ w.heap.size) :
    Calls Tryz.prog 111 #[.pointer (some ⟨b, 0, none⟩)] w fun e w' => e = .returned (.string ⟨l.toArray⟩) ∧ Below B w w' :=
  (Any.Builder_String_any_f laysS extraS B b l w h hBw).mono fun _ _ h => ⟨h.1, h.2.2⟩
end Go.Proofs.YtobhbppogeghnaaGreatDoor
end

section
namespace Go.Proofs.YtobhbppogeghnaaGreatDoor
open Go.RowKit
def renW : Go.Shelf.Ren := ⟨fun | 166 => 110 | 240 => 132 | 276 => 156 | n => n, fun | 0 => 0 | 3 => 3 | 4 => 4 | 5 => 5 | 9 => 9 | 20 => 20 | 37 => 43 | 70 => 149 | 72 => 151 | 75 => 153 | 80 => 53 | 164 => 200 | n => n, fun n => n⟩
theorem laysW : Go.Proofs.Lays.n166 Tryz.prog renW := {
  mixed := by kernel_rfl
  f166 := Tryz.func110.trans (congrArg some (by kernel_rfl))
  f240 := Tryz.func132.trans (congrArg some (by kernel_rfl))
  f276 := Tryz.func156.trans (congrArg some (by kernel_rfl))
  t0 := Tryz.underlying0
  a0 := Tryz.isAgg0
  z0 := Tryz.sizeOf0
  v0 := Tryz.zeroValue0
  t3 := Tryz.underlying3
  a3 := Tryz.isAgg3
  z3 := Tryz.sizeOf3
  v3 := Tryz.zeroValue3
  t4 := Tryz.underlying4
  a4 := Tryz.isAgg4
  z4 := Tryz.sizeOf4
  v4 := Tryz.zeroValue4
  t9 := Tryz.underlying9
  a9 := Tryz.isAgg9
  z9 := Tryz.sizeOf9
  v9 := Tryz.zeroValue9
  t20 := Tryz.underlying20
  a20 := Tryz.isAgg20
  z20 := Tryz.sizeOf20
  v20 := Tryz.zeroValue20
  t37 := Tryz.underlying43
  a37 := Tryz.isAgg43
  z37 := Tryz.sizeOf43
  v37 := Tryz.zeroValue43
  t70 := Tryz.underlying149
  a70 := Tryz.isAgg149
  z70 := Tryz.sizeOf149
  v70 := Tryz.zeroValue149
  t72 := Tryz.underlying151
  a72 := Tryz.isAgg151
  z72 := Tryz.sizeOf151
  v72 := Tryz.zeroValue151
  t75 := Tryz.underlying153
  a75 := Tryz.isAgg153
  z75 := Tryz.sizeOf153
  v75 := Tryz.zeroValue153
  t164 := Tryz.underlying200
  a164 := Tryz.isAgg200
  z164 := Tryz.sizeOf200
  v164 := Tryz.zeroValue200 }
theorem extraW : Builder.Extra Tryz.prog renW := {
  sizeBuilder := by kernel_rfl
  liesBuilder := by kernel_rfl
  t5 := Tryz.underlying5
  a5 := Tryz.isAgg5
  z5 := Tryz.sizeOf5
  v5 := Tryz.zeroValue5
  infoByte := by kernel_rfl
  cellsByte := by kernel_rfl
  sizeByte := by kernel_rfl
  neB5 := by decide }
theorem write_b (B b : Nat) (l m : List UInt8) (w : World) (h : IsB w B b l) (hlen : l.length + m.length ≤ 140737488355328) (hBw : B ≤ w.heap.size) :
    Calls Tryz.prog 110 #[.pointer (some ⟨b, 0, none⟩), .string ⟨m.toArray⟩] w fun e w' => e = .returned (.tuple #[.int .i64 (m.length : Int), .nilIface]) ∧ IsB w' B b (l ++ m) ∧ Below B w w' :=
  (Any.Builder_WriteString_f laysW extraW B b (Lib.byteCells l) ⟨m.toArray⟩ w h (by rw [Lib.byteCells_length]; simpa [ByteArray.size] using hlen) hBw).mono fun _ _ h => ⟨h.1, .inr (by rw [Lib.byteCells_append]; exact h.2.1), h.2.2⟩
end Go.Proofs.YtobhbppogeghnaaGreatDoor
end

section
namespace Go.Proofs.YtobhbppogeghnaaGreatDoor
open Go.RowKit

theorem write_any (B b : Nat) (bs : List Value) (s : ByteArray) (w : World) (h : Lib.IsBuilderF 151 5 B b bs w) (hlen : bs.length + s.size ≤ 140737488355328) (hBw : B ≤ w.heap.size) :
    Calls Tryz.prog 110 #[.pointer (some ⟨b, 0, none⟩), .string s] w fun e w' => e = .returned (.tuple #[.int .i64 s.size, .nilIface]) ∧ (Lib.IsBuilderF 151 5 B b (bs ++ Lib.strCells s) w' ∧ Below B w w') :=
  (Any.Builder_WriteString_f { Tryz.lays105 with } Tryz.Builder_Extra_105 B b bs s w h hlen hBw).mono fun _ _ h => ⟨h.1, .inr h.2.1, h.2.2⟩
/-- The bytes of the first n numbers. -/
def cat (l : List Nat) (n : Nat) : List UInt8 := (l.take n).flatMap (be 4)
theorem cat_succ (l : List Nat) (n : Nat) (h : n < l.length) : cat l (n + 1) = cat l n ++ be 4 (l.getD n 0) := by
  unfold cat
  rw [List.take_succ_eq_append_getElem h, List.flatMap_append]
  congr 1
  simp [List.getElem?_eq_getElem h]
theorem cat_length (l : List Nat) (n : Nat) : (cat l n).length ≤ 4 * n := by
  unfold cat
  induction n generalizing l with
  | zero => simp
  | succ n ih =>
    cases l with
    | nil => simp
    | cons x r => simp only [List.take_succ_cons, List.flatMap_cons, List.length_append, be_length]; have := ih r; omega
theorem cat_all (s : St) : cat s.list 8 = txt s := by
  unfold cat txt St.list
  simp [List.flatMap_cons, List.append_assoc]
theorem fresh_builder (w : World) (B : Nat) (hB : B ≤ w.heap.size) : Lib.IsBuilderF 151 5 B w.heap.size [] (w.alloc (.cells #[.pointer none, .slice none 0 0] 151)) :=
  .inl ⟨hB, _, heap_alloc_new w _, World.ownsRowF_of (World.ownsRow_nil _ _ _ _), by simp [Value.ownBlock]⟩

theorem builder_ext {B b : Nat} {bs : List Value} {w w' : World} (h : Lib.IsBuilderF 151 5 B b bs w) (hx : Ext w w') : Lib.IsBuilderF 151 5 B b bs w' := by
  have key : ∀ p, Lib.BuilderAtF 151 5 B b p bs w → Lib.BuilderAtF 151 5 B b p bs w' := by
    rintro p ⟨hB, v, hv, hown, hne⟩
    refine ⟨hB, v, (hx.below.block b (heap_lt hv)).trans hv, ⟨hown.1, ?_⟩, hne⟩
    rcases hown.2 with h0 | ⟨g, cap, cur, fz, e1, e2, e3, e4⟩
    · exact .inl h0
    · exact .inr ⟨g, cap, cur, fz, e1, e2, (hx.below.block g (heap_lt e3)).trans e3, e4⟩
  exact h.imp (key _) (key _)

set_option maxRecDepth 100000 in
set_option maxHeartbeats 1000000 in
theorem text_any (s : St) (w : World) :
    Calls Tryz.prog 168 #[.agg #[.int .u32 (s.a : Int), .int .u32 (s.b : Int), .int .u32 (s.c : Int), .int .u32 (s.d : Int), .int .u32 (s.e : Int), .int .u32 (s.f : Int), .int .u32 (s.g : Int), .int .u32 (s.h : Int)]] w fun e w' => e = .returned (.string ⟨(txt s).toArray⟩) ∧ Ext w w' := by
  have HI := Lib.hid (index8s 216 Tryz.underlying216 s.a s.b s.c s.d s.e s.f s.g s.h)
  have HC := Lib.hid (cat_all s)
  obtain ⟨a, b, c, d, ee, f, g, h⟩ := s
  simp only at HI
  go_enter Tryz.func168, Tryz.ntmps168
  go_wp2_with fail
  go_loopw [7] (fun i wr => ∃ n : Nat, n ≤ 8 ∧ i = .int .i64 n ∧ Lib.IsBuilderF 151 5 w.heap.size (w.heap.size + 1) (Lib.byteCells (cat (St.list ⟨a, b, c, d, ee, f, g, h⟩) n)) wr ∧ Ext w wr) (fun i _ => 8 - (intOf i).toNat)
  case atStart => exact ⟨0, by omega, rfl, by simpa [cat, Lib.byteCells] using fresh_builder (w.alloc _) w.heap.size (by simp), ((Ext.refl w).alloc _).alloc _⟩
  case round =>
    obtain ⟨n, hn, rfl, hbuf, hext⟩ := hrel
    by_cases hlt : n < 8
    · have hl := cat_length (St.list ⟨a, b, c, d, ee, f, g, h⟩) n
      have hs := cat_succ (St.list ⟨a, b, c, d, ee, f, g, h⟩) n hlt
      have hst : ∀ u, Lib.IsBuilderF 151 5 w.heap.size (w.heap.size + 1) (Lib.byteCells (cat (St.list ⟨a, b, c, d, ee, f, g, h⟩) n) ++ Lib.strCells ⟨(be 4 ((St.list ⟨a, b, c, d, ee, f, g, h⟩).getD n 0)).toArray⟩) u →
          Lib.IsBuilderF 151 5 w.heap.size (w.heap.size + 1) (Lib.byteCells (cat (St.list ⟨a, b, c, d, ee, f, g, h⟩) (n + 1))) u := fun u hu => by rw [hs, Lib.byteCells_append]; exact hu
      have H5 := Lib.hid hst
      have hsz := hext.size
      have H1 := Lib.hid hl; have H3 := Lib.hid hext; have H4 := Lib.hid hbuf
      clear hl hs hst hext hbuf
      obtain ⟨x0, x1, x2, x3, x4, x5, x6, x7⟩ := HI.out
      rcases (show n = 0 ∨ n = 1 ∨ n = 2 ∨ n = 3 ∨ n = 4 ∨ n = 5 ∨ n = 6 ∨ n = 7 by omega) with rfl | rfl | rfl | rfl | rfl | rfl | rfl | rfl
      all_goals
        go_wp2_with (first
          | (go_at_call 79; refine (Put32_any _ _).mono ?_; rintro e w1 ⟨rfl, h1⟩)
          | (go_at_call 110; refine (write_any w.heap.size (w.heap.size + 1) _ _ w1 (builder_ext H4.out h1) (by rw [Lib.byteCells_length]; have := H1.out; simp [ByteArray.size, be_length]; omega) (Nat.le_trans hsz h1.size)).mono ?_; rintro e w2 ⟨rfl, h2, h3⟩))
        go_roundw
        case rel => exact ⟨_, by omega, by go_num, H5.out _ h2, (H3.out.trans h1).trans3 h3⟩
        case measure => simp [intOf]
    · obtain rfl : n = 8 := by omega
      have e8 : ((8 : Nat) : Int) = 8 := rfl
      rw [e8]
      clear e8
      rw [HC.out] at hbuf
      go_wp2_with (go_at_call 111; refine (Any.Builder_String_any_f { Tryz.lays105 with } Tryz.Builder_Extra_105 w.heap.size (w.heap.size + 1) _ _ hbuf hext.size).mono ?_; rintro e w2 ⟨rfl, h2, h3⟩)
      go_ret
      exact ⟨rfl, hext.trans3 h3⟩
end Go.Proofs.YtobhbppogeghnaaGreatDoor
end

section
namespace Go.Proofs.YtobhbppogeghnaaGreatDoor
open Go.RowKit

theorem pad_step (n j : Nat) (hj : j < zeros n) : (n + 1 + j) % 64 ≠ 56 := by unfold zeros at hj; omega
theorem pad_end (n : Nat) : (n + 1 + zeros n) % 64 = 56 := by unfold zeros; omega
theorem zeros_le (n : Nat) : zeros n ≤ 63 := by unfold zeros; omega
/-- The padded text, block by block. -/
def pad (m : List UInt8) : List UInt8 := m ++ tailOf m.length
theorem pad_length (m : List UInt8) : (pad m).length = m.length + zeros m.length + 9 := by simp [pad, tailOf_length]; omega
/-- The text while bytes 0 come behind it. -/
def PD (s : ByteArray) (j : Nat) : ByteArray := ⟨(s.data.toList ++ (128 :: List.replicate j 0)).toArray⟩
theorem PD_size (s : ByteArray) (j : Nat) : (PD s j).size = s.size + 1 + j := by unfold PD; rw [txt_size]; simp; omega
theorem PD_zero (s : ByteArray) : s ++ ⟨#[128]⟩ = PD s 0 := by
  apply ByteArray.ext
  rw [ByteArray.data_append]
  apply Array.toList_inj.1
  simp [PD]
theorem PD_succ (s : ByteArray) (j : Nat) : PD s j ++ ⟨#[0]⟩ = PD s (j + 1) := by
  apply ByteArray.ext
  rw [ByteArray.data_append]
  simp [PD, List.replicate_succ']
def PAD (s : ByteArray) : ByteArray := ⟨(pad s.data.toList).toArray⟩
theorem PAD_eq (s : ByteArray) : PD s (zeros s.size) ++ ⟨(be 8 (8 * s.size)).toArray⟩ = PAD s := by
  have e : s.data.toList.length = s.size := size_list s
  unfold PD PAD pad tailOf
  rw [str_append, e]
  simp
theorem PAD_size (s : ByteArray) : (PAD s).size = s.size + zeros s.size + 9 := by unfold PAD; rw [txt_size, pad_length, size_list]
def strLen : Value → Nat | .string s => s.size | _ => 0
def RP (s : ByteArray) (p : Value) : Prop := ∃ j : Nat, j ≤ zeros s.size ∧ p = .string (PD s j)
theorem pad_folds (m : List UInt8) (k : Nat) : folds (k + 1) m init = stp ((m.drop (64 * k)).take 64) (folds k m init) := by
  rw [folds_add, folds_succ, folds_zero]
theorem list_lt {st : St} (h : st.Ok) (x : Nat) (hx : x ∈ st.list) : x < 4294967296 := by
  simp only [St.list, List.mem_cons, List.not_mem_nil, or_false] at hx
  rcases hx with rfl | rfl | rfl | rfl | rfl | rfl | rfl | rfl
  all_goals first | exact h.a | exact h.b | exact h.c | exact h.d | exact h.e | exact h.f | exact h.g | exact h.h
theorem list_slot (st : St) : st.list.length = 8 := rfl
end Go.Proofs.YtobhbppogeghnaaGreatDoor
end

section
namespace Go.Proofs.YtobhbppogeghnaaGreatDoor
open Go.RowKit

theorem repeatL_zeros (c : Nat) : Lib.repeatL [0] c = List.replicate c 0 := by
  induction c with
  | zero => rfl
  | succ n ih => rw [Lib.repeatL, ih, List.replicate_succ]; rfl
theorem repeat_any (c : Nat) (hc : c ≤ 63) (w : World) :
    Calls Tryz.prog 163 #[.string ⟨#[0]⟩, .int .i64 (c : Int)] w fun e w' => e = .returned (.string ⟨(List.replicate c 0).toArray⟩) ∧ Ext w w' := by
  have h := Tryz.strings_Repeat ⟨#[0]⟩ c w (by omega) (by show 1 * c ≤ _; omega)
  have e : (⟨#[0]⟩ : ByteArray).data.toList = [0] := rfl
  rw [e, repeatL_zeros] at h
  exact h
theorem restLen_any (w : World) (b : Nat) (m : List UInt8) (h : IsHash w b m) :
    Calls Tryz.prog 165 #[.pointer (some ⟨b, 0, none⟩)] w fun e w' => e = .returned (.int .i64 ((m.length % 64 : Nat) : Int)) ∧ w = w' := by
  obtain ⟨buf, h1, h2, h3⟩ := h.blk
  have hc := hash_count h3 h1
  have hs := h.small
  clear h1 h2 h3 h
  generalize m.length = n at *
  go_enter Tryz.func165, Tryz.ntmps165
  go_wp2
  go_ret
  exact ⟨by simp, rfl⟩
theorem there_any (w : World) (b : Nat) (m : List UInt8) (h : IsHash w b m) :
    Calls Tryz.prog 164 #[.pointer (some ⟨b, 0, none⟩)] w fun e w' => e = .returned (.bool true) ∧ w = w' := by
  obtain ⟨buf, h1, h2, h3⟩ := h.blk
  have hc := hash_made h3
  clear h1 h2 h3 h
  go_enter Tryz.func164, Tryz.ntmps164
  go_wp2
  go_ret
  exact ⟨rfl, rfl⟩
theorem put8_any (n : Nat) (w : World) : Calls Tryz.prog 117 #[.int .u64 (8 * (n : Int))] w fun e w' => e = .returned (.string ⟨(be 8 (8 * n)).toArray⟩) ∧ Ext w w' := by
  have := Put64_any (8 * n) w
  have e : ((8 * n : Nat) : Int) = 8 * (n : Int) := by omega
  rw [e] at this
  exact this
set_option maxRecDepth 100000 in
set_option maxHeartbeats 1000000 in
theorem last_any (w : World) (b : Nat) (m : List UInt8) (h : IsHash w b m) :
    Calls Tryz.prog 167 #[.pointer (some ⟨b, 0, none⟩)] w fun e w' => e = .returned (.string ⟨(restOf m ++ tailOf m.length).toArray⟩) ∧ Ext w w' := by
  have HR := Lib.hid (restLen_any w b m h)
  obtain ⟨buf, h1, h2, h3⟩ := h.blk
  have hs := h.small
  have hbl := h3.lt
  have hcount := fun u (hx : Ext w u) => hash_count (h3.ext hx) h1
  have htext := fun u (hx : Ext w u) => hash_text (h3.ext hx) (m.length % 64) 64 (by omega)
  rw [h2] at htext
  have hz := zeros_le m.length
  have hrl := restOf_length m
  have he : (⟨(restOf m).toArray⟩ : ByteArray) ++ ⟨#[128]⟩ ++ ⟨(List.replicate (zeros m.length) 0).toArray⟩ ++ ⟨(be 8 (8 * m.length)).toArray⟩ = ⟨(restOf m ++ tailOf m.length).toArray⟩ := by
    have e128 : (⟨#[128]⟩ : ByteArray) = ⟨([128] : List UInt8).toArray⟩ := rfl
    rw [e128, str_append, str_append, str_append]
    simp [tailOf]
  obtain ⟨r, hr⟩ : ∃ r, r = m.length % 64 := ⟨_, rfl⟩
  have hzi : (63 : Int) - ((r : Int) + 8) % 64 = (zeros m.length : Int) := by unfold zeros; omega
  have hr64 : r < 64 := by omega
  rw [← hr] at HR htext hrl
  have HE := Lib.hid he; have HC := Lib.hid hcount; have HT := Lib.hid htext; have HRL := Lib.hid hrl
  clear he hcount htext hrl h1 h2 h3 h hr
  generalize restOf m = R at *
  generalize hZ : zeros m.length = z at *
  generalize m.length = n at *
  clear hZ
  have HB8 := Lib.hid (be_length 8 (8 * n))
  go_enter Tryz.func167, Tryz.ntmps167
  go_wp2_with (go_at_call 165; refine (HR.out).mono ?_; rintro e w1 ⟨rfl, rfl⟩)
  have hr1 : (r : Int) ≤ 64 := by omega
  have hr2 : r ≤ 64 := by omega
  have hw8 : IntKind.u64.wrap (8 * (n : Int)) = 8 * (n : Int) := IntWalk.u64_in _ ⟨by omega, by omega⟩
  have hl1 := HRL.out
  have hl2 := HB8.out
  have c0 := HC.out w.drew (Ext.refl w).drew
  have t0 := HT.out w.drew (Ext.refl w).drew
  have x0 := (Ext.refl w).drew
  have hb1 : ¬ 9223372036854775807 < r + 1 := by omega
  have hb2 : ¬ 9223372036854775807 < r + 1 + z := by omega
  have hb3 : ¬ 9223372036854775807 < r + 1 + z + 8 := by omega
  go_region_held3 (fun u => u.cell? ⟨b, 73, none⟩ = some (.int .u64 (n : Int)) ∧ (convert 43 9 (.slice (some ⟨b, 9, none⟩) r 64)).run Tryz.prog u = .ok (.string ⟨R.toArray⟩) u ∧ Ext w u) (first | exact ⟨c0, t0, x0⟩ | exact ⟨HC.out _ (by assumption), HT.out _ (by assumption), by assumption⟩ | go_keep) (first
    | (go_at_call 163; refine (repeat_any z hz _).mono ?_; rintro e w4 ⟨rfl, h4⟩; have x4 := Ext.trans (a := w) (by assumption) h4)
    | (go_at_call 117; refine (put8_any n _).mono ?_; rintro e w5 ⟨rfl, h5⟩; have x5 := Ext.trans (a := w) (by assumption) h5))
  all_goals
    have hx : Ext w _ := x5
    go_wp2
    go_ret
    exact ⟨by rw [← HE.out]; simp, hx⟩
end Go.Proofs.YtobhbppogeghnaaGreatDoor
end

section
namespace Go.Proofs.YtobhbppogeghnaaGreatDoor
open Go.RowKit

theorem hash_state {w : World} {b : Nat} {st : St} {buf : List UInt8} {n : Nat} (h : Blk w b 219 (hashCells st buf n)) :
    w.cell? ⟨b, 1, none⟩ = some (.int .u32 (st.a : Nat)) ∧ w.cell? ⟨b, 2, none⟩ = some (.int .u32 (st.b : Nat)) ∧ w.cell? ⟨b, 3, none⟩ = some (.int .u32 (st.c : Nat)) ∧ w.cell? ⟨b, 4, none⟩ = some (.int .u32 (st.d : Nat)) ∧
    w.cell? ⟨b, 5, none⟩ = some (.int .u32 (st.e : Nat)) ∧ w.cell? ⟨b, 6, none⟩ = some (.int .u32 (st.f : Nat)) ∧ w.cell? ⟨b, 7, none⟩ = some (.int .u32 (st.g : Nat)) ∧ w.cell? ⟨b, 8, none⟩ = some (.int .u32 (st.h : Nat)) :=
  mid8 (off := 1) h rfl
theorem blk_state {w : World} {b : Nat} {T : TypeId} {st : St} (h : Blk w b T (mid [] st.list [])) :
    w.cell? ⟨b, 0, none⟩ = some (.int .u32 (st.a : Nat)) ∧ w.cell? ⟨b, 1, none⟩ = some (.int .u32 (st.b : Nat)) ∧ w.cell? ⟨b, 2, none⟩ = some (.int .u32 (st.c : Nat)) ∧ w.cell? ⟨b, 3, none⟩ = some (.int .u32 (st.d : Nat)) ∧
    w.cell? ⟨b, 4, none⟩ = some (.int .u32 (st.e : Nat)) ∧ w.cell? ⟨b, 5, none⟩ = some (.int .u32 (st.f : Nat)) ∧ w.cell? ⟨b, 6, none⟩ = some (.int .u32 (st.g : Nat)) ∧ w.cell? ⟨b, 7, none⟩ = some (.int .u32 (st.h : Nat)) :=
  mid8 (off := 0) h rfl
theorem take64 (q : ByteArray) : (q.extract 0 64).data.toList = q.data.toList.take 64 := by simp
set_option maxRecDepth 100000 in
set_option maxHeartbeats 1000000 in
theorem Sum_any (w : World) (b : Nat) (m : List UInt8) (hL : Laid w) (h : IsHash w b m) :
    Calls Tryz.prog 143 #[.pointer (some ⟨b, 0, none⟩)] w fun e w' => e = .returned (.string ⟨(shaL m).toArray⟩) ∧ Ext w w' := by
  have HT := Lib.hid (there_any w b m h)
  have HLa := Lib.hid (fun u (hx : Ext w u) => last_any u b m (h.ext hx))
  have HK := Lib.hid (shaL_kept m)
  obtain ⟨buf, _, _, h3⟩ := h.blk
  have hbl := h3.lt
  obtain ⟨k0, k1, k2, k3, k4, k5, k6, k7⟩ := hash_state h3
  have ok := stOf_ok m
  have hz : (m.length % 64 + zeros m.length + 9) % 64 = 0 := by unfold zeros; omega
  have hlen : (restOf m ++ tailOf m.length).length = m.length % 64 + zeros m.length + 9 := by rw [List.length_append, restOf_length, tailOf_length]; omega
  have hz63 := zeros_le m.length
  have HLd := Lib.hid hL
  clear h3 h hL
  generalize stOf m = st at *
  generalize restOf m ++ tailOf m.length = L at *
  generalize m.length % 64 + zeros m.length + 9 = n at *
  obtain ⟨N, hN⟩ : ∃ N, N = n / 64 := ⟨_, rfl⟩
  rw [← hN] at HK
  have hn : n = 64 * N := by omega
  have HO := Lib.hid ok; have HLen := Lib.hid (hlen.trans hn)
  clear ok hlen hz hN hn hz63
  go_enter Tryz.func143, Tryz.ntmps143
  go_wp2_with (first
    | (go_at_call 164; refine (HT.out).mono ?_; rintro e w1 ⟨rfl, rfl⟩)
    | (go_at_call 167; refine (HLa.out _ ((Ext.refl w).alloc _)).mono ?_; rintro e w1 ⟨rfl, h1⟩))
  have hB0 : Blk w1 w.heap.size 216 (mid [] st.list []) := Blk.ext (show Blk (w.alloc _) w.heap.size 216 (mid [] st.list []) from Blk.new w _ _) h1
  have hx1 : Ext w w1 := Below.trans ((Ext.refl w).alloc _) (Below.mono h1.below (by simp))
  have HB0 := Lib.hid hB0
  clear h1 hB0 k0 k1 k2 k3 k4 k5 k6 k7
  go_loopw [4] (fun p wr => ∃ (k : Nat) (q : ByteArray), k ≤ N ∧ p = .string q ∧ q.data.toList = L.drop (64 * k) ∧ Blk wr w.heap.size 216 (mid [] (folds k L st).list []) ∧ Ext w wr) (fun p _ => strLen p)
  case atStart => exact ⟨0, _, Nat.zero_le _, rfl, by simp, HB0.out, hx1⟩
  case round =>
    clear hx1
    obtain ⟨k, q, hk, rfl, hq, hB, hext⟩ := hrel
    have hqs : q.size = 64 * N - 64 * k := by rw [← size_list, hq, List.length_drop, HLen.out]
    have HQ := Lib.hid hq; have HBk := Lib.hid hB
    have hsucc : folds (k + 1) L st = stp ((L.drop (64 * k)).take 64) (folds k L st) := by rw [folds_add, folds_succ, folds_zero]
    have HSu := Lib.hid hsucc
    have hfo := Lib.hid (folds_ok k L HO.out)
    clear hq hB hsucc
    by_cases hlt : k < N
    · have h64 : 64 ≤ q.size := by omega
      have HQS := Lib.hid hqs; clear hqs
      have hes : (q.extract 0 64).size = 64 := by rw [ByteArray.size_extract]; omega
      have hed : (q.extract 0 64).data.toList = (L.drop (64 * k)).take 64 := by rw [take64, HQ.out]
      have C := take_any (folds k L st) hfo.out (q.extract 0 64) hes w.heap.size 0 216 [] [] wr (HLd.out.ext hext) rfl HBk.out
      rw [hed, ← HSu.out] at C
      have HC := Lib.hid C; clear C hes hed
      go_wp2_with (go_at_call 166; refine (HC.out).mono ?_; rintro e w2 ⟨rfl, h2, hB2⟩)
      go_roundw
      case rel => exact ⟨k + 1, _, hlt, rfl, by rw [Lib.extract_data, HQ.out, List.drop_drop, List.take_of_length_le (by rw [List.length_drop, HLen.out]; have := HQS.out; omega)]; congr 1, hB2, hext.trans3 h2⟩
      case measure => simp only [strLen]; rw [ByteArray.size_extract]; omega
    · obtain rfl : k = N := by omega
      have hq0 : q.size = 0 := by omega
      clear hqs
      obtain ⟨k0, k1, k2, k3, k4, k5, k6, k7⟩ := blk_state HBk.out
      have hF := HK.out
      generalize folds k L st = S at *
      have HF := Lib.hid hF; clear hF
      go_wp2_with (go_at_call 168; refine (text_any S _).mono ?_; rintro e w3 ⟨rfl, h3⟩)
      go_ret
      exact ⟨by rw [HF.out]; rfl, hext.trans h3⟩
end Go.Proofs.YtobhbppogeghnaaGreatDoor
end

section
namespace Go.Proofs.YtobhbppogeghnaaGreatDoor
open Go.RowKit

theorem infoB : (Tryz.prog.info? 5).map (·.size) = some 1 := by kernel_rfl
theorem run_copy_text (w : World) (ty : TypeId) (g o dLen dCap : Nat) (s : ByteArray) (cs : List Value) (T : TypeId) (hg : Blk w g T cs) (hfit : o + dLen ≤ cs.length) (k : Nat) (hk : k = min s.size dLen) :
    (Builtin.copy_ #[43, 9] ty #[.slice (some ⟨g, o, none⟩) dLen dCap, .string s]).run Tryz.prog w =
      .ok (goInt k) (w.setRow g (cs.take o ++ (s.data.toList.take k).map cellOf ++ cs.drop (o + k)).toArray) := by
  have hmin : Nat.min s.size dLen = k := hk.symm
  have hk1 : k ≤ s.size := by rw [hk]; exact Nat.min_le_left _ _
  have hk2 : k ≤ dLen := by rw [hk]; exact Nat.min_le_right _ _
  have hlen : ((s.data.toList.take k).map cellOf).length = k := by rw [List.length_map, List.length_take, size_list]; omega
  have hst := run_storeCells_at Tryz.prog g o T ((s.data.toList.take k).map cellOf) 0 cs.toArray w hg (by rw [hlen]; simp; omega) (by
    intro v hv
    simp only [List.mem_map] at hv
    obtain ⟨b, _, rfl⟩ := hv
    rfl)
  rw [hlen] at hst
  simp only [Nat.add_zero] at hst
  have htk : List.take k (List.map (fun b : UInt8 => Value.int IntKind.u8 (b.toNat : Int)) s.data.toList) = (s.data.toList.take k).map cellOf := by rw [← List.map_take]; rfl
  have hu := Tryz.underlying43
  cases hq : Tryz.prog.info? 5 with
  | none => have := infoB; simp [hq] at this
  | some i =>
    simp [Builtin.copy_, run_underlying hu, Builtin.lenOf, Builtin.firstCells, sizeOf, typeInfo, hq, hmin]
    rw [htk, hst]
    simp [Result.andThen]
/-- A text of as many bytes over all of a block. -/
theorem copy_all (w : World) (ty : TypeId) (g n : Nat) (s : ByteArray) (l : List UInt8) (T : TypeId) (hg : Row w g T l) (hl : l.length = n) (hs : s.size = n) :
    (Builtin.copy_ #[43, 9] ty #[.slice (some ⟨g, 0, none⟩) n n, .string s]).run Tryz.prog w = .ok (.int .i64 (n : Int)) (w.setRow g (s.data.toList.map cellOf).toArray) := by
  have h := run_copy_text w ty g 0 n n s _ T hg.blk (by simp [hl]) n (by omega)
  have e : s.data.toList.take n = s.data.toList := List.take_of_length_le (by rw [size_list]; omega)
  have e2 : (l.map cellOf).drop (0 + n) = [] := List.drop_of_length_le (by simp [hl])
  rw [h, e, e2, List.take_zero, List.nil_append, List.append_nil]
  rfl
end Go.Proofs.YtobhbppogeghnaaGreatDoor
end

section
namespace Go.Proofs.YtobhbppogeghnaaGreatDoor
open Go.RowKit

section
variable {w : World} {b : Nat} {st : St} {buf : List UInt8} {n : Nat}
theorem hash_length (st : St) (buf : List UInt8) (n : Nat) (hb : buf.length = 64) : (hashCells st buf n).length = 74 := by simp [hashCells, mid, hashPost, St.list, hb]
/-- The count told anew. -/
theorem hash_counted (h : Blk w b 219 (hashCells st buf n)) (hb : buf.length = 64) (x : Int) (n' : Nat) (hx : x = (n' : Int)) : Blk (w.setCell ⟨b, 73, none⟩ (.int .u64 x)) b 219 (hashCells st buf n') := by
  have := h.set_ 73 (.int .u64 x)
  subst hx
  have e : (hashCells st buf n).set 73 (.int .u64 (n' : Int)) = hashCells st buf n' := by
    unfold hashCells mid hashPost
    rw [List.set_append_right _ _ (by simp), List.set_append_right _ _ (by simp [St.list]), List.set_append_right _ _ (by simp [St.list, hb])]
    simp [St.list, hb]
  rw [e] at this
  exact this
/-- Bytes k of l laid from place i on. -/
def laidIn (buf l : List UInt8) (i k : Nat) : List UInt8 := buf.take i ++ l.take k ++ buf.drop (i + k)
theorem laidIn_length {buf l : List UInt8} {i k : Nat} (hb : buf.length = 64) (hl : k ≤ l.length) (hi : i + k ≤ 64) : (laidIn buf l i k).length = 64 := by simp [laidIn, hb]; omega
theorem hash_laid (st : St) (buf l : List UInt8) (n i k : Nat) (hb : buf.length = 64) (hi : i + k ≤ 64) :
    (hashCells st buf n).take (9 + i) ++ (l.take k).map cellOf ++ (hashCells st buf n).drop (9 + i + k) = hashCells st (laidIn buf l i k) n := by
  have e : hashCells st buf n = (Value.bool true :: st.list.map cell32) ++ (buf.map cellOf ++ [.int .u64 (n : Int)]) := by simp [hashCells, mid, hashPost]
  have e2 : hashCells st (laidIn buf l i k) n = (Value.bool true :: st.list.map cell32) ++ ((laidIn buf l i k).map cellOf ++ [.int .u64 (n : Int)]) := by simp [hashCells, mid, hashPost]
  have hl : (Value.bool true :: st.list.map cell32).length = 9 := by simp [St.list]
  rw [e, e2]
  generalize (Value.bool true :: st.list.map cell32) = H at *
  have e3 : 9 + i = H.length + i := by omega
  have e4 : H.length + i + k = H.length + (i + k) := by omega
  rw [e3, List.take_length_add_append, e4, List.drop_length_add_append, List.take_append_of_le_length (by simp; omega), List.drop_append_of_le_length (by simp; omega)]
  simp [laidIn, List.map_append, List.map_take, List.map_drop]
theorem hash_copied (h : Blk w b 219 (hashCells st buf n)) (hb : buf.length = 64) (ty : TypeId) (s : ByteArray) (i dCap k : Nat) (hi : i ≤ 64) (hk : k = min s.size (64 - i)) :
    (Builtin.copy_ #[43, 9] ty #[.slice (some ⟨b, 9 + i, none⟩) (64 - i) dCap, .string s]).run Tryz.prog w = .ok (goInt k) (w.setRow b (hashCells st (laidIn buf s.data.toList i k) n).toArray) := by
  rw [run_copy_text w ty b (9 + i) (64 - i) dCap s _ _ h (by rw [hash_length _ _ _ hb]; omega) k hk, hash_laid st buf s.data.toList n i k hb (by omega)]
theorem hash_row (h : Blk w b 219 (hashCells st buf n)) (cs : List Value) : Blk (w.setRow b cs.toArray) b 219 cs := setRow_heap _ _ _ _ _ _ h
end
end Go.Proofs.YtobhbppogeghnaaGreatDoor
end
