/- A Hash in memory: what it keeps of the bytes that came. Contracts of the library's builder of strings, at this translation. A builder, to which texts are written. -/
import Derived.Test.YteddogalmdgjlaaDoorTake
import Derived.Test.YteddogalmdgjlaaDoorM20
import Derived.Shelf.Strings.Builder1
import Derived.Shelf.Strings.BuilderF
import Derived.Test.YteddogalmdgjlaaDoorProg
import Derived.Test.YteddogalmdgjlaaDoorM03
section
namespace Go.Proofs.YteddogalmdgjlaaDoor
open Go.RowKit

/-- The cells of a Hash. -/
def hashPost (buf : List UInt8) (n : Nat) : List Value := buf.map cellOf ++ [.int .u64 (n : Int)]
def hashCells (st : St) (buf : List UInt8) (n : Nat) : List Value := mid [.bool true] st.list (hashPost buf n)
/-- Block b is a Hash to which m came. -/
structure IsHash (w : World) (b : Nat) (m : List UInt8) : Prop where
  small : m.length < 1152921504606846976
  blk : ∃ buf : List UInt8, buf.length = 64 ∧ buf.take (m.length % 64) = restOf m ∧ Blk w b 139 (hashCells (stOf m) buf m.length)
section
variable {w w' : World} {b : Nat} {m : List UInt8} {st : St} {buf : List UInt8} {n : Nat}
theorem IsHash.lt (h : IsHash w b m) : b < w.heap.size := by obtain ⟨_, _, _, hb⟩ := h.blk; exact hb.lt
theorem IsHash.below {B : Nat} (h : IsHash w b m) (hb : Below B w w') (hB : b < B) : IsHash w' b m := by
  obtain ⟨buf, h1, h2, h3⟩ := h.blk; exact ⟨h.small, buf, h1, h2, h3.below hb hB⟩
theorem IsHash.ext (h : IsHash w b m) (hb : Ext w w') : IsHash w' b m := h.below hb h.lt
theorem IsHash.alloc (h : IsHash w b m) (o : Obj) : IsHash (w.alloc o) b m := h.ext ((Ext.refl w).alloc o)
theorem IsHash.drew (h : IsHash w b m) : IsHash w.drew b m := h.ext (Ext.refl w).drew
theorem hash_made (h : Blk w b 139 (hashCells st buf n)) : w.cell? ⟨b, 0, none⟩ = some (.bool true) := h.cell 0 _ rfl
theorem hash_byte (h : Blk w b 139 (hashCells st buf n)) (i : Nat) (hi : i < buf.length) : w.cell? ⟨b, 9 + i, none⟩ = some (.int .u8 ((buf.map fun c => (c.toNat : Int)).getD i 0)) := by
  apply h.cell
  unfold hashCells mid hashPost
  rw [List.getElem?_append_right (by simp; omega), List.getElem?_append_right (by simp [St.list]; try omega), List.getElem?_append_left (by simp [St.list]; omega)]
  have e : 9 + i - [Value.bool true].length - (st.list.map cell32).length = i := by simp [St.list]; try omega
  rw [e]
  simp [List.getElem?_eq_getElem hi, cellOf]
theorem hash_count (h : Blk w b 139 (hashCells st buf n)) (hb : buf.length = 64) : w.cell? ⟨b, 73, none⟩ = some (.int .u64 (n : Int)) := by
  apply h.cell
  unfold hashCells mid hashPost
  rw [List.getElem?_append_right (by simp), List.getElem?_append_right (by simp [St.list]), List.getElem?_append_right (by simp [St.list, hb])]
  simp [St.list, hb]
/-- The first k bytes of what is kept, as a text. -/
theorem hash_text (h : Blk w b 139 (hashCells st buf n)) (k c : Nat) (hk : k ≤ buf.length) :
    (convert 35 9 (.slice (some ⟨b, 9, none⟩) k c)).run Tryd.prog w = .ok (.string ⟨(buf.take k).toArray⟩) w := by
  have hc := run_convert_bytes_arg (P := Tryd.prog) w 35 5 Tryd.underlying35 Tryd.underlying5 b 9 k c ((buf.take k).map fun c => (c.toNat : Int)) (by simp; omega) (by
    intro i hi
    rw [hash_byte h i (by omega)]
    have hi2 : i < buf.length := by omega
    simp [List.getD, hi, List.getElem?_eq_getElem hi2]) 9 Tryd.underlying9
  rw [hc]
  have e : strOfNums ((buf.take k).map fun c => (c.toNat : Int)) = ⟨(buf.take k).toArray⟩ := by
    unfold strOfNums
    refine congrArg (fun l : List UInt8 => (⟨l.toArray⟩ : ByteArray)) ?_
    rw [List.map_map]
    conv => rhs; rw [← List.map_id (buf.take k)]
    apply List.map_congr_left
    intro b _
    simp
  rw [e]
end
end Go.Proofs.YteddogalmdgjlaaDoor
end

section
namespace Go.Proofs.YteddogalmdgjlaaDoor
open Go.RowKit

def renS : Go.Shelf.Ren := ⟨fun | 169 => 35 | n => n, fun | 0 => 0 | 3 => 3 | 5 => 5 | 9 => 9 | 37 => 35 | 70 => 71 | 72 => 73 | 127 => 89 | n => n, fun n => n⟩
theorem laysS : Go.Proofs.Lays.n169 Tryd.prog renS := {
  mixed := by kernel_rfl
  f169 := Tryd.func35.trans (congrArg some (by kernel_rfl))
  t0 := Tryd.underlying0
  a0 := Tryd.isAgg0
  z0 := Tryd.sizeOf0
  v0 := Tryd.zeroValue0
  t3 := Tryd.underlying3
  a3 := Tryd.isAgg3
  z3 := Tryd.sizeOf3
  v3 := Tryd.zeroValue3
  t9 := Tryd.underlying9
  a9 := Tryd.isAgg9
  z9 := Tryd.sizeOf9
  v9 := Tryd.zeroValue9
  t37 := Tryd.underlying35
  a37 := Tryd.isAgg35
  z37 := Tryd.sizeOf35
  v37 := Tryd.zeroValue35
  t70 := Tryd.underlying71
  a70 := Tryd.isAgg71
  z70 := Tryd.sizeOf71
  v70 := Tryd.zeroValue71
  t72 := Tryd.underlying73
  a72 := Tryd.isAgg73
  z72 := Tryd.sizeOf73
  v72 := Tryd.zeroValue73
  t127 := Tryd.underlying89
  a127 := Tryd.isAgg89
  z127 := Tryd.sizeOf89
  v127 := Tryd.zeroValue89 }
theorem extraS : Builder.Extra Tryd.prog renS := {
  sizeBuilder := by kernel_rfl
  liesBuilder := by kernel_rfl
  t5 := Tryd.underlying5
  a5 := Tryd.isAgg5
  z5 := Tryd.sizeOf5
  v5 := Tryd.zeroValue5
  infoByte := by kernel_rfl
  cellsByte := by kernel_rfl
  sizeByte := by kernel_rfl
  neB5 := by decide }
/-- Block b is a builder that holds these bytes. -/
abbrev IsB (w : World) (B b : Nat) (l : List UInt8) : Prop := Lib.IsBuilderF 73 5 B b (Lib.byteCells l) w
theorem IsB.new (w : World) (B : Nat) (hB : B ≤ w.heap.size) : IsB (w.alloc (.cells #[.pointer none, .slice none 0 0] 73)) B w.heap.size [] :=
  .inl ⟨hB, _, heap_alloc_new w _, World.ownsRowF_of (World.ownsRow_nil _ _ _ _), by simp [Value.ownBlock]⟩
theorem IsB.ext {B b : Nat} {l : List UInt8} {w w' : World} (h : IsB w B b l) (hx : Ext w w') : IsB w' B b l := by
  have key : ∀ p, Lib.BuilderAtF 73 5 B b p (Lib.byteCells l) w → Lib.BuilderAtF 73 5 B b p (Lib.byteCells l) w' := by
    rintro p ⟨hB, v, hv, hown, hne⟩
    refine ⟨hB, v, (hx.below.block b (heap_lt hv)).trans hv, ⟨hown.1, ?_⟩, hne⟩
    rcases hown.2 with h0 | ⟨g, cap, cur, fz, e1, e2, e3, e4⟩
    · exact .inl h0
    · exact .inr ⟨g, cap, cur, fz, e1, e2, (hx.below.block g (heap_lt e3)).trans e3, e4⟩
  exact h.imp (key _) (key _)
theorem string_b (B b : Nat) (l : List UInt8) (w : World) (h : IsB w B b l) (hBw : B ≤ w.heap.size) :
    Calls Tryd.prog 35 #[.pointer (some ⟨b, 0, none⟩)] w fun e w' => e = .returned (.string ⟨l.toArray⟩) ∧ Below B w w' :=
  (Any.Builder_String_any_f laysS extraS B b l w h hBw).mono fun _ _ h => ⟨h.1, h.2.2⟩
end Go.Proofs.YteddogalmdgjlaaDoor
end

section
namespace Go.Proofs.YteddogalmdgjlaaDoor
open Go.RowKit
def renW : Go.Shelf.Ren := ⟨fun | 166 => 33 | 240 => 42 | 276 => 50 | n => n, fun | 0 => 0 | 3 => 3 | 4 => 4 | 5 => 5 | 9 => 9 | 20 => 20 | 37 => 35 | 70 => 71 | 72 => 73 | 75 => 75 | 80 => 36 | 164 => 95 | n => n, fun n => n⟩
theorem laysW : Go.Proofs.Lays.n166 Tryd.prog renW := {
  mixed := by kernel_rfl
  f166 := Tryd.func33.trans (congrArg some (by kernel_rfl))
  f240 := Tryd.func42.trans (congrArg some (by kernel_rfl))
  f276 := Tryd.func50.trans (congrArg some (by kernel_rfl))
  t0 := Tryd.underlying0
  a0 := Tryd.isAgg0
  z0 := Tryd.sizeOf0
  v0 := Tryd.zeroValue0
  t3 := Tryd.underlying3
  a3 := Tryd.isAgg3
  z3 := Tryd.sizeOf3
  v3 := Tryd.zeroValue3
  t4 := Tryd.underlying4
  a4 := Tryd.isAgg4
  z4 := Tryd.sizeOf4
  v4 := Tryd.zeroValue4
  t9 := Tryd.underlying9
  a9 := Tryd.isAgg9
  z9 := Tryd.sizeOf9
  v9 := Tryd.zeroValue9
  t20 := Tryd.underlying20
  a20 := Tryd.isAgg20
  z20 := Tryd.sizeOf20
  v20 := Tryd.zeroValue20
  t37 := Tryd.underlying35
  a37 := Tryd.isAgg35
  z37 := Tryd.sizeOf35
  v37 := Tryd.zeroValue35
  t70 := Tryd.underlying71
  a70 := Tryd.isAgg71
  z70 := Tryd.sizeOf71
  v70 := Tryd.zeroValue71
  t72 := Tryd.underlying73
  a72 := Tryd.isAgg73
  z72 := Tryd.sizeOf73
  v72 := Tryd.zeroValue73
  t75 := Tryd.underlying75
  a75 := Tryd.isAgg75
  z75 := Tryd.sizeOf75
  v75 := Tryd.zeroValue75
  t164 := Tryd.underlying95
  a164 := Tryd.isAgg95
  z164 := Tryd.sizeOf95
  v164 := Tryd.zeroValue95 }
theorem extraW : Builder.Extra Tryd.prog renW := {
  sizeBuilder := by kernel_rfl
  liesBuilder := by kernel_rfl
  t5 := Tryd.underlying5
  a5 := Tryd.isAgg5
  z5 := Tryd.sizeOf5
  v5 := Tryd.zeroValue5
  infoByte := by kernel_rfl
  cellsByte := by kernel_rfl
  sizeByte := by kernel_rfl
  neB5 := by decide }
theorem write_b (B b : Nat) (l m : List UInt8) (w : World) (h : IsB w B b l) (hlen : l.length + m.length ≤ 140737488355328) (hBw : B ≤ w.heap.size) :
    Calls Tryd.prog 33 #[.pointer (some ⟨b, 0, none⟩), .string ⟨m.toArray⟩] w fun e w' => e = .returned (.tuple #[.int .i64 (m.length : Int), .nilIface]) ∧ IsB w' B b (l ++ m) ∧ Below B w w' :=
  (Any.Builder_WriteString_f laysW extraW B b (Lib.byteCells l) ⟨m.toArray⟩ w h (by rw [Lib.byteCells_length]; simpa [ByteArray.size] using hlen) hBw).mono fun _ _ h => ⟨h.1, .inr (by rw [Lib.byteCells_append]; exact h.2.1), h.2.2⟩
end Go.Proofs.YteddogalmdgjlaaDoor
end
