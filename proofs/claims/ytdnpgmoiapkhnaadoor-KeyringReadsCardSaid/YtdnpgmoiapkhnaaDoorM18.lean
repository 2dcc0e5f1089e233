/- Plain words of HMAC, and of keys out of a key, over rows of bytes: no function of the program is named here. Contracts: numbers of 32 bits written as bytes, by the program. Contracts: numbers written as bytes, by the program and by the document's answer. A Hash in memory: what it keeps of the bytes that came. Contracts of the library's builder of strings, at this translation. A builder, to which texts are written. -/
import Derived.Test.YtdnpgmoiapkhnaaDoorM01
import Derived.Test.YtdnpgmoiapkhnaaDoorM17
import Derived.Test.YtdnpgmoiapkhnaaDoorProg
import Derived.Test.YtdnpgmoiapkhnaaDoorM04
import Derived.WalkSpells
import Derived.Shelf.Strings.Builder1
import Derived.Shelf.Strings.BuilderF
import Derived.Test.YtdnpgmoiapkhnaaDoorM02
section
namespace Go.Proofs.YtdnpgmoiapkhnaaDoor
open Go.RowKit

/-- A key; of one of more than 64 bytes its sum. -/
def keyL (k : List UInt8) : List UInt8 := if 64 < k.length then shaL k else k
def blockL (k : List UInt8) : List UInt8 := keyL k ++ List.replicate (64 - (keyL k).length) 0
def mixL (k : List UInt8) (c : UInt8) : List UInt8 := xorL (blockL k) (List.replicate 64 c)
/-- The tag of a text. -/
def macL (k m : List UInt8) : List UInt8 := shaL (mixL k 92 ++ shaL (mixL k 54 ++ m))
theorem keyL_le (k : List UInt8) : (keyL k).length ≤ 64 := by
  unfold keyL
  by_cases h : 64 < k.length
  · rw [if_pos h, shaL_length]; omega
  · rw [if_neg h]; omega
theorem blockL_length (k : List UInt8) : (blockL k).length = 64 := by
  have := keyL_le k
  unfold blockL
  rw [List.length_append, List.length_replicate]; omega
theorem mixL_length (k : List UInt8) (c : UInt8) : (mixL k c).length = 64 := by
  unfold mixL xorL
  rw [List.length_zipWith, blockL_length, List.length_replicate]; rfl
theorem macL_eq (k m : List UInt8) : macL k m = shaL (mixL k 92 ++ shaL (mixL k 54 ++ m)) := rfl
theorem macL_length (k m : List UInt8) : (macL k m).length = 32 := shaL_length _
/-- A key of more than 64 bytes is as good as its sum. -/
theorem macL_sum (k m : List UInt8) (h : 64 < k.length) : macL k m = macL (shaL k) m := by
  have e : blockL k = blockL (shaL k) := by
    have e2 : keyL k = keyL (shaL k) := by
      unfold keyL
      rw [if_pos h, if_neg (by rw [shaL_length]; omega)]
    unfold blockL
    rw [e2]
  unfold macL mixL
  rw [e]
/-- Bytes 0 behind a key of fewer make no difference. -/
theorem macL_zeros (k m : List UInt8) (n : Nat) (h : k.length + n ≤ 64) : macL k m = macL (k ++ List.replicate n 0) m := by
  have e : blockL k = blockL (k ++ List.replicate n 0) := by
    have e1 : keyL k = k := by unfold keyL; rw [if_neg (by omega)]
    have e2 : keyL (k ++ List.replicate n 0) = k ++ List.replicate n 0 := by unfold keyL; rw [if_neg (by simp; omega)]
    unfold blockL
    rw [e1, e2, List.append_assoc, List.replicate_append_replicate, List.length_append, List.length_replicate]
    congr 2
    omega
  unfold macL mixL
  rw [e]

/-- The tag of a label by number; nothing ahead of the first. -/
def tagL (k label : List UInt8) : Nat → List UInt8
  | 0 => []
  | i + 1 => macL k (tagL k label i ++ label ++ [UInt8.ofNat (i + 1)])
theorem tagL_succ (k label : List UInt8) (i : Nat) : tagL k label (i + 1) = macL k (tagL k label i ++ label ++ [UInt8.ofNat (i + 1)]) := rfl
theorem tagL_length (k label : List UInt8) (i : Nat) : (tagL k label (i + 1)).length = 32 := macL_length _ _
theorem tagL_le (k label : List UInt8) (i : Nat) : (tagL k label i).length ≤ 32 := by
  cases i with
  | zero => simp [tagL]
  | succ i => rw [tagL_length]; omega
/-- The first n tags, one behind the other. -/
def rowL (k label : List UInt8) : Nat → List UInt8
  | 0 => []
  | n + 1 => rowL k label n ++ tagL k label (n + 1)
theorem rowL_succ (k label : List UInt8) (n : Nat) : rowL k label (n + 1) = rowL k label n ++ tagL k label (n + 1) := rfl
theorem rowL_length (k label : List UInt8) : ∀ n, (rowL k label n).length = 32 * n
  | 0 => rfl
  | n + 1 => by rw [rowL_succ, List.length_append, rowL_length k label n, tagL_length]; omega
theorem rowL_take (k label : List UInt8) (m : Nat) : ∀ d, (rowL k label (m + d)).take (32 * m) = rowL k label m
  | 0 => by rw [List.take_of_length_le (by rw [rowL_length]; simp)]; rfl
  | d + 1 => by
    rw [← Nat.add_assoc, rowL_succ, List.take_append_of_le_length (by rw [rowL_length]; omega)]
    exact rowL_take k label m d
/-- What is derived: the first n bytes of all 255 tags. -/
def derL (k label : List UInt8) (n : Nat) : List UInt8 := (rowL k label 255).take n
theorem derL_length (k label : List UInt8) (n : Nat) (h : n ≤ 8160) : (derL k label n).length = n := by
  unfold derL
  rw [List.length_take, rowL_length]; omega
theorem derL_take (k label : List UInt8) (m n : Nat) (h : m ≤ n) : (derL k label n).take m = derL k label m := by
  unfold derL
  rw [List.take_take, Nat.min_eq_left h]
theorem derL_of (k label : List UInt8) (n m : Nat) (h : n ≤ 32 * m) (hm : m ≤ 255) : derL k label n = (rowL k label m).take n := by
  obtain ⟨d, hd⟩ : ∃ d, d + m = 255 := ⟨255 - m, by omega⟩
  have e := rowL_take k label m d
  unfold derL
  have e2 : (255 : Nat) = m + d := by omega
  rw [e2, ← e, List.take_take, Nat.min_eq_left h]
attribute [irreducible] macL
end Go.Proofs.YtdnpgmoiapkhnaaDoor
end

section
namespace Go.Proofs.YtdnpgmoiapkhnaaDoor
open Go.RowKit

theorem put32_any (n : Nat) (k : Nat) (hk : k ≤ 4) (w : World) :
    Calls Tryd.prog 59 #[.int .u32 (n : Int), .int .i64 (k : Int)] w fun e w' => e = .returned (.string ⟨(be k n).toArray⟩) ∧ Ext w w' := by
  have hmk := make_bytes k (by omega)
  go_enter Tryd.func59, Tryd.ntmps59
  go_wp2
  go_loopw [10] (fun i wr => ∃ j : Nat, j ≤ k ∧ i = .int .i64 j ∧ Row wr w.heap.size 5 (List.replicate (k - j) 0 ++ be j n) ∧ Ext w wr) (fun i _ => k - (intOf i).toNat)
  case atStart => exact ⟨0, Nat.zero_le _, rfl, by simpa [be] using Row.made w 5 k, (Ext.refl w).alloc _⟩
  case round =>
    obtain ⟨j, hj, rfl, hrow, hext⟩ := hrel
    by_cases hlt : j < k
    · have hc := put_cell hlt hrow
      have hf := hrow.frozen (k - 1 - j)
      go_wp2
      go_roundw
      case rel => exact ⟨j + 1, by omega, by go_num, put_step hlt hrow, hext.setCell (Nat.le_refl _) _⟩
      case measure => simp [intOf]; omega
    · obtain rfl : j = k := by omega
      have ht := hrow.text (P := Tryd.prog) 35 5 9 Tryd.underlying35 Tryd.underlying5 Tryd.underlying9 j j (by simp [be_length])
      clear hrow
      go_wp2
      go_ret
      exact ⟨by simp, hext⟩

theorem Put32_any (n : Nat) (w : World) :
    Calls Tryd.prog 40 #[.int .u32 (n : Int)] w fun e w' => e = .returned (.string ⟨(be 4 n).toArray⟩) ∧ Ext w w' := by
  go_enter Tryd.func40, Tryd.ntmps40
  go_wp2_with (go_at_call 59; refine (put32_any n 4 (by omega) _).mono ?_; rintro e w1 ⟨rfl, h1⟩)
  go_ret
  exact ⟨rfl, h1⟩
end Go.Proofs.YtdnpgmoiapkhnaaDoor
end

section
namespace Go.Proofs.YtdnpgmoiapkhnaaDoor
open Go.RowKit

theorem put64_any (n : Nat) (k : Nat) (hk : k ≤ 8) (w : World) :
    Calls Tryd.prog 83 #[.int .u64 (n : Int), .int .i64 (k : Int)] w fun e w' => e = .returned (.string ⟨(be k n).toArray⟩) ∧ Ext w w' := by
  have hmk := make_bytes k (by omega)
  go_enter Tryd.func83, Tryd.ntmps83
  go_wp2
  go_loopw [10] (fun i wr => ∃ j : Nat, j ≤ k ∧ i = .int .i64 j ∧ Row wr w.heap.size 5 (List.replicate (k - j) 0 ++ be j n) ∧ Ext w wr) (fun i _ => k - (intOf i).toNat)
  case atStart => exact ⟨0, Nat.zero_le _, rfl, by simpa [be] using Row.made w 5 k, (Ext.refl w).alloc _⟩
  case round =>
    obtain ⟨j, hj, rfl, hrow, hext⟩ := hrel
    by_cases hlt : j < k
    · have hc := put_cell hlt hrow
      have hf := hrow.frozen (k - 1 - j)
      go_wp2
      go_roundw
      case rel => exact ⟨j + 1, by omega, by go_num, put_step hlt hrow, hext.setCell (Nat.le_refl _) _⟩
      case measure => simp [intOf]; omega
    · obtain rfl : j = k := by omega
      have ht := hrow.text (P := Tryd.prog) 35 5 9 Tryd.underlying35 Tryd.underlying5 Tryd.underlying9 j j (by simp [be_length])
      clear hrow
      go_wp2
      go_ret
      exact ⟨by simp, hext⟩
theorem Put64_any (n : Nat) (w : World) :
    Calls Tryd.prog 62 #[.int .u64 (n : Int)] w fun e w' => e = .returned (.string ⟨(be 8 n).toArray⟩) ∧ Ext w w' := by
  go_enter Tryd.func62, Tryd.ntmps62
  go_wp2_with (go_at_call 83; refine (put64_any n 8 (by omega) _).mono ?_; rintro e w1 ⟨rfl, h1⟩)
  go_ret
  exact ⟨rfl, h1⟩
end Go.Proofs.YtdnpgmoiapkhnaaDoor
end

section
namespace Go.Proofs.YtdnpgmoiapkhnaaDoor
open Go.RowKit

/-- The cells of a Hash. -/
def hashPost (buf : List UInt8) (n : Nat) : List Value := buf.map cellOf ++ [.int .u64 (n : Int)]
def hashCells (st : St) (buf : List UInt8) (n : Nat) : List Value := mid [.bool true] st.list (hashPost buf n)
/-- Block b is a Hash to which m came. -/
structure IsHash (w : World) (b : Nat) (m : List UInt8) : Prop where
  small : m.length < 1152921504606846976
  blk : ∃ buf : List UInt8, buf.length = 64 ∧ buf.take (m.length % 64) = restOf m ∧ Blk w b 156 (hashCells (stOf m) buf m.length)
section
variable {w w' : World} {b : Nat} {m : List UInt8} {st : St} {buf : List UInt8} {n : Nat}
theorem IsHash.lt (h : IsHash w b m) : b < w.heap.size := by obtain ⟨_, _, _, hb⟩ := h.blk; exact hb.lt
theorem IsHash.below {B : Nat} (h : IsHash w b m) (hb : Below B w w') (hB : b < B) : IsHash w' b m := by
  obtain ⟨buf, h1, h2, h3⟩ := h.blk; exact ⟨h.small, buf, h1, h2, h3.below hb hB⟩
theorem IsHash.ext (h : IsHash w b m) (hb : Ext w w') : IsHash w' b m := h.below hb h.lt
theorem IsHash.alloc (h : IsHash w b m) (o : Obj) : IsHash (w.alloc o) b m := h.ext ((Ext.refl w).alloc o)
theorem IsHash.drew (h : IsHash w b m) : IsHash w.drew b m := h.ext (Ext.refl w).drew
theorem hash_made (h : Blk w b 156 (hashCells st buf n)) : w.cell? ⟨b, 0, none⟩ = some (.bool true) := h.cell 0 _ rfl
theorem hash_byte (h : Blk w b 156 (hashCells st buf n)) (i : Nat) (hi : i < buf.length) : w.cell? ⟨b, 9 + i, none⟩ = some (.int .u8 ((buf.map fun c => (c.toNat : Int)).getD i 0)) := by
  apply h.cell
  unfold hashCells mid hashPost
  rw [List.getElem?_append_right (by simp; omega), List.getElem?_append_right (by simp [St.list]; try omega), List.getElem?_append_left (by simp [St.list]; omega)]
  have e : 9 + i - [Value.bool true].length - (st.list.map cell32).length = i := by simp [St.list]; try omega
  rw [e]
  simp [List.getElem?_eq_getElem hi, cellOf]
theorem hash_count (h : Blk w b 156 (hashCells st buf n)) (hb : buf.length = 64) : w.cell? ⟨b, 73, none⟩ = some (.int .u64 (n : Int)) := by
  apply h.cell
  unfold hashCells mid hashPost
  rw [List.getElem?_append_right (by simp), List.getElem?_append_right (by simp [St.list]), List.getElem?_append_right (by simp [St.list, hb])]
  simp [St.list, hb]
/-- The first k bytes of what is kept, as a text. -/
theorem hash_text (h : Blk w b 156 (hashCells st buf n)) (k c : Nat) (hk : k ≤ buf.length) :
    (convert 35 9 (.slice (some ⟨b, 9, none⟩) k c)).run Tryd.prog w = .ok (.string ⟨(buf.take k).toArray⟩) w := by
  have hc := run_convert_bytes_arg (P := Tryd.prog) w 35 5 Tryd.underlying35 Tryd.underlying5 b 9 k c ((buf.take k).map fun c => (c.toNat : Int)) (by simp; omega) (by
    intro i hi
    rw [hash_byte h i (by omega)]
    have hi2 : i < buf.length := by omega
    simp [List.getD, hi, List.getElem?_eq_getElem hi2]) 9 Tryd.underlying9
  rw [hc]
  have e : strOfNums ((buf.take k).map fun c => (c.toNat : Int)) = ⟨(buf.take k).toArray⟩ := by
    unfold strOfNums
    refine congrArg (fun l : List UInt8 => (⟨l.toArray⟩ : ByteArray)) ?_
    rw [List.map_map]
    conv => rhs; rw [← List.map_id (buf.take k)]
    apply List.map_congr_left
    intro b _
    simp
  rw [e]
end
end Go.Proofs.YtdnpgmoiapkhnaaDoor
end

section
namespace Go.Proofs.YtdnpgmoiapkhnaaDoor
open Go.RowKit

def renS : Go.Shelf.Ren := ⟨fun | 169 => 56 | n => n, fun | 0 => 0 | 3 => 3 | 5 => 5 | 9 => 9 | 37 => 35 | 70 => 95 | 72 => 97 | 127 => 119 | n => n, fun n => n⟩
theorem laysS : Go.Proofs.Lays.n169 Tryd.prog renS := {
  mixed := by kernel_rfl
  f169 := Tryd.func56.trans (congrArg some (by kernel_rfl))
  t0 := Tryd.underlying0
  a0 := Tryd.isAgg0
  z0 := Tryd.sizeOf0
  v0 := Tryd.zeroValue0
  t3 := Tryd.underlying3
  a3 := Tryd.isAgg3
  z3 := Tryd.sizeOf3
  v3 := Tryd.zeroValue3
  t9 := Tryd.underlying9
  a9 := Tryd.isAgg9
  z9 := Tryd.sizeOf9
  v9 := Tryd.zeroValue9
  t37 := Tryd.underlying35
  a37 := Tryd.isAgg35
  z37 := Tryd.sizeOf35
  v37 := Tryd.zeroValue35
  t70 := Tryd.underlying95
  a70 := Tryd.isAgg95
  z70 := Tryd.sizeOf95
  v70 := Tryd.zeroValue95
  t72 := Tryd.underlying97
  a72 := Tryd.isAgg97
  z72 := Tryd.sizeOf97
  v72 := Tryd.zeroValue97
  t127 := Tryd.underlying119
  a127 := Tryd.isAgg119
  z127 := Tryd.sizeOf119
  v127 := Tryd.zeroValue119 }
theorem extraS : Builder.Extra Tryd.prog renS := {
  sizeBuilder := by kernel_rfl
  liesBuilder := by kernel_rfl
  t5 := Tryd.underlying5
  a5 := Tryd.isAgg5
  z5 := Tryd.sizeOf5
  v5 := Tryd.zeroValue5
  infoByte := by kernel_rfl
  cellsByte := by kernel_rfl
  sizeByte := by kernel_rfl
  neB5 := by decide }
/-- Block b is a builder that holds these bytes. -/
abbrev IsB (w : World) (B b : Nat) (l : List UInt8) : Prop := Lib.IsBuilderF 97 5 B b (Lib.byteCells l) w
theorem IsB.new (w : World) (B : Nat) (hB : B ≤ w.heap.size) : IsB (w.alloc (.cells #[.pointer none, .slice none 0 0] 97)) B w.heap.size [] :=
  .inl ⟨hB, _, heap_alloc_new w _, World.ownsRowF_of (World.ownsRow_nil _ _ _ _), by simp [Value.ownBlock]⟩
theorem IsB.ext {B b : Nat} {l : List UInt8} {w w' : World} (h : IsB w B b l) (hx : Ext w w') : IsB w' B b l := by
  have key : ∀ p, Lib.BuilderAtF 97 5 B b p (Lib.byteCells l) w → Lib.BuilderAtF 97 5 B b p (Lib.byteCells l) w' := by
    rintro p ⟨hB, v, hv, hown, hne⟩
    refine ⟨hB, v, (hx.below.block b (heap_lt hv)).trans hv, ⟨hown.1, ?_⟩, hne⟩
    rcases hown.2 with h0 | ⟨g, cap, cur, fz, e1, e2, e3, e4⟩
    · exact .inl h0
    · exact .inr ⟨g, cap, cur, fz, e1, e2, (hx.below.block g (heap_lt e3)).trans e3, e4⟩
  exact h.imp (key _) (key _)
theorem string_b (B b : Nat) (l : List UInt8) (w : World) (h : IsB w B b l) (hBw : B ≤ w.heap.size) :
    Calls Tryd.prog 56 #[.pointer (some ⟨b, 0, none⟩)] w fun e w' => e = .returned (.string ⟨l.toArray⟩) ∧ Below B w w' :=
  (Any.Builder_String_any_f laysS extraS B b l w h hBw).mono fun _ _ h => ⟨h.1, h.2.2⟩
end Go.Proofs.YtdnpgmoiapkhnaaDoor
end

section
namespace Go.Proofs.YtdnpgmoiapkhnaaDoor
open Go.RowKit
def renW : Go.Shelf.Ren := ⟨fun | 166 => 55 | 240 => 72 | 276 => 90 | n => n, fun | 0 => 0 | 3 => 3 | 4 => 4 | 5 => 5 | 9 => 9 | 20 => 20 | 37 => 35 | 70 => 95 | 72 => 97 | 75 => 99 | 80 => 36 | 164 => 138 | n => n, fun n => n⟩
theorem laysW : Go.Proofs.Lays.n166 Tryd.prog renW := {
  mixed := by kernel_rfl
  f166 := Tryd.func55.trans (congrArg some (by kernel_rfl))
  f240 := Tryd.func72.trans (congrArg some (by kernel_rfl))
  f276 := Tryd.func90.trans (congrArg some (by kernel_rfl))
  t0 := Tryd.underlying0
  a0 := Tryd.isAgg0
  z0 := Tryd.sizeOf0
  v0 := Tryd.zeroValue0
  t3 := Tryd.underlying3
  a3 := Tryd.isAgg3
  z3 := Tryd.sizeOf3
  v3 := Tryd.zeroValue3
  t4 := Tryd.underlying4
  a4 := Tryd.isAgg4
  z4 := Tryd.sizeOf4
  v4 := Tryd.zeroValue4
  t9 := Tryd.underlying9
  a9 := Tryd.isAgg9
  z9 := Tryd.sizeOf9
  v9 := Tryd.zeroValue9
  t20 := Tryd.underlying20
  a20 := Tryd.isAgg20
  z20 := Tryd.sizeOf20
  v20 := Tryd.zeroValue20
  t37 := Tryd.underlying35
  a37 := Tryd.isAgg35
  z37 := Tryd.sizeOf35
  v37 := Tryd.zeroValue35
  t70 := Tryd.underlying95
  a70 := Tryd.isAgg95
  z70 := Tryd.sizeOf95
  v70 := Tryd.zeroValue95
  t72 := Tryd.underlying97
  a72 := Tryd.isAgg97
  z72 := Tryd.sizeOf97
  v72 := Tryd.zeroValue97
  t75 := Tryd.underlying99
  a75 := Tryd.isAgg99
  z75 := Tryd.sizeOf99
  v75 := Tryd.zeroValue99
  t164 := Tryd.underlying138
  a164 := Tryd.isAgg138
  z164 := Tryd.sizeOf138
  v164 := Tryd.zeroValue138 }
theorem extraW : Builder.Extra Tryd.prog renW := {
  sizeBuilder := by kernel_rfl
  liesBuilder := by kernel_rfl
  t5 := Tryd.underlying5
  a5 := Tryd.isAgg5
  z5 := Tryd.sizeOf5
  v5 := Tryd.zeroValue5
  infoByte := by kernel_rfl
  cellsByte := by kernel_rfl
  sizeByte := by kernel_rfl
  neB5 := by decide }
theorem write_b (B b : Nat) (l m : List UInt8) (w : World) (h : IsB w B b l) (hlen : l.length + m.length ≤ 140737488355328) (hBw : B ≤ w.heap.size) :
    Calls Tryd.prog 55 #[.pointer (some ⟨b, 0, none⟩), .string ⟨m.toArray⟩] w fun e w' => e = .returned (.tuple #[.int .i64 (m.length : Int), .nilIface]) ∧ IsB w' B b (l ++ m) ∧ Below B w w' :=
  (Any.Builder_WriteString_f laysW extraW B b (Lib.byteCells l) ⟨m.toArray⟩ w h (by rw [Lib.byteCells_length]; simpa [ByteArray.size] using hlen) hBw).mono fun _ _ h => ⟨h.1, .inr (by rw [Lib.byteCells_append]; exact h.2.1), h.2.2⟩
end Go.Proofs.YtdnpgmoiapkhnaaDoor
end
