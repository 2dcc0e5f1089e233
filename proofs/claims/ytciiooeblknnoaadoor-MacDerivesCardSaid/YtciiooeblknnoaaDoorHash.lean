/- A Hash in memory: what it keeps of the bytes that came. -/
import Derived.Test.YtciiooeblknnoaaDoorTake
import Derived.Test.YtciiooeblknnoaaDoorPut
namespace Go.Proofs.YtciiooeblknnoaaDoor
open Go.RowKit

/-- The cells of a Hash. -/
def hashPost (buf : List UInt8) (n : Nat) : List Value := buf.map cellOf ++ [.int .u64 (n : Int)]
def hashCells (st : St) (buf : List UInt8) (n : Nat) : List Value := mid [.bool true] st.list (hashPost buf n)
/-- Block b is a Hash to which m came. -/
structure IsHash (w : World) (b : Nat) (m : List UInt8) : Prop where
  small : m.length < 1152921504606846976
  blk : ∃ buf : List UInt8, buf.length = 64 ∧ buf.take (m.length % 64) = restOf m ∧ Blk w b 77 (hashCells (stOf m) buf m.length)
section
variable {w w' : World} {b : Nat} {m : List UInt8} {st : St} {buf : List UInt8} {n : Nat}
theorem IsHash.lt (h : IsHash w b m) : b < w.heap.size := by obtain ⟨_, _, _, hb⟩ := h.blk; exact hb.lt
theorem IsHash.below {B : Nat} (h : IsHash w b m) (hb : Below B w w') (hB : b < B) : IsHash w' b m := by
  obtain ⟨buf, h1, h2, h3⟩ := h.blk; exact ⟨h.small, buf, h1, h2, h3.below hb hB⟩
theorem IsHash.ext (h : IsHash w b m) (hb : Ext w w') : IsHash w' b m := h.below hb h.lt
theorem IsHash.alloc (h : IsHash w b m) (o : Obj) : IsHash (w.alloc o) b m := h.ext ((Ext.refl w).alloc o)
theorem IsHash.drew (h : IsHash w b m) : IsHash w.drew b m := h.ext (Ext.refl w).drew
theorem hash_made (h : Blk w b 77 (hashCells st buf n)) : w.cell? ⟨b, 0, none⟩ = some (.bool true) := h.cell 0 _ rfl
theorem hash_byte (h : Blk w b 77 (hashCells st buf n)) (i : Nat) (hi : i < buf.length) : w.cell? ⟨b, 9 + i, none⟩ = some (.int .u8 ((buf.map fun c => (c.toNat : Int)).getD i 0)) := by
  apply h.cell
  unfold hashCells mid hashPost
  rw [List.getElem?_append_right (by simp; omega), List.getElem?_append_right (by simp [St.list]; try omega), List.getElem?_append_left (by simp [St.list]; omega)]
  have e : 9 + i - [Value.bool true].length - (st.list.map cell32).length = i := by simp [St.list]; try omega
  rw [e]
  simp [List.getElem?_eq_getElem hi, cellOf]
theorem hash_count (h : Blk w b 77 (hashCells st buf n)) (hb : buf.length = 64) : w.cell? ⟨b, 73, none⟩ = some (.int .u64 (n : Int)) := by
  apply h.cell
  unfold hashCells mid hashPost
  rw [List.getElem?_append_right (by simp), List.getElem?_append_right (by simp [St.list]), List.getElem?_append_right (by simp [St.list, hb])]
  simp [St.list, hb]
/-- The first k bytes of what is kept, as a text. -/
theorem hash_text (h : Blk w b 77 (hashCells st buf n)) (k c : Nat) (hk : k ≤ buf.length) :
    (convert 29 9 (.slice (some ⟨b, 9, none⟩) k c)).run Tryd.prog w = .ok (.string ⟨(buf.take k).toArray⟩) w := by
  have hc := run_convert_bytes_arg (P := Tryd.prog) w 29 5 Tryd.underlying29 Tryd.underlying5 b 9 k c ((buf.take k).map fun c => (c.toNat : Int)) (by simp; omega) (by
    intro i hi
    rw [hash_byte h i (by omega)]
    have hi2 : i < buf.length := by omega
    simp [List.getD, hi, List.getElem?_eq_getElem hi2]) 9 Tryd.underlying9
  rw [hc]
  have e : strOfNums ((buf.take k).map fun c => (c.toNat : Int)) = ⟨(buf.take k).toArray⟩ := by
    unfold strOfNums
    congr 2
    rw [List.map_map]
    conv => rhs; rw [← List.map_id (buf.take k)]
    apply List.map_congr_left
    intro b _
    simp
  rw [e]
end
end Go.Proofs.YtciiooeblknnoaaDoor
