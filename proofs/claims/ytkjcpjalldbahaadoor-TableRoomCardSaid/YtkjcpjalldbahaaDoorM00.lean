/- Plain words of bytes, and of a block of bytes in memory: no function of the program is named here. Plain: a block that is there. Plain: slices of texts that came in. Plain: make([]byte, n). -/
import Derived.WalkKit
import Derived.Handy
import Derived.Below
import Derived.Laws.BytesArg
import Derived.Laws.Rows
import Derived.Laws.OwnMore
import Derived.Lib.Hide
import Derived.Deep.Draws
import Derived.Test.YtkjcpjalldbahaaDoorProg
import Derived.WalkSpells
section
namespace Go.Proofs.YtkjcpjalldbahaaDoor
open Go.RowKit

/-! ### Worlds that have grown -/
/-- Behind a call: what was there is as it was; there may be new blocks. -/
def Ext (w w' : World) : Prop := Below w.heap.size w w'
theorem Ext.refl (w : World) : Ext w w := Below.refl _ _
theorem Ext.trans {a b c : World} (h : Ext a b) (k : Ext b c) : Ext a c := Below.trans h (Below.mono k h.size)
theorem Ext.below {a b : World} (h : Ext a b) : Below a.heap.size a b := h
theorem Ext.drew {a b : World} (h : Ext a b) : Ext a b.drew := Below.drew h
theorem Ext.drewN {a b : World} (h : Ext a b) (n : Nat) : Ext a (b.drewN n) := ⟨h.os, h.tape, h.output, h.size, h.block⟩
theorem Ext.alloc {a b : World} (h : Ext a b) (o : Obj) : Ext a (b.alloc o) := Below.alloc h h.size o
theorem Ext.setCell {a b : World} (h : Ext a b) {p : Addr} (hp : a.heap.size ≤ p.block) (u : Value) : Ext a (b.setCell p u) := Below.setCell h hp u

/-! ### A block of bytes -/
/-- One byte in memory. -/
def cellOf (b : UInt8) : Value := .int .u8 (b.toNat : Int)
/-- Block g holds just these bytes. -/
def Row (w : World) (g : Nat) (t : TypeId) (l : List UInt8) : Prop := w.heap[g]? = some (.cells (l.map cellOf).toArray t (0, 0))

section
variable {w w' : World} {g : Nat} {t : TypeId} {l : List UInt8}
theorem Row.lt (h : Row w g t l) : g < w.heap.size := by
  rcases Nat.lt_or_ge g w.heap.size with hlt | hge
  · exact hlt
  · unfold Row at h; rw [Array.getElem?_eq_none hge] at h; cases h
theorem Row.cell (h : Row w g t l) (i : Nat) (b : UInt8) (hb : l[i]? = some b) : w.cell? ⟨g, i, none⟩ = some (.int .u8 (b.toNat : Int)) := by
  rw [cell_of_row w g i _ t (0, 0) h]; simp [hb, cellOf]
theorem Row.frozen (h : Row w g t l) (i : Nat) : w.frozen? ⟨g, i, none⟩ = false := by
  unfold Row at h
  simp [World.frozen?, h]
theorem Row.made (w : World) (t : TypeId) (n : Nat) : Row (w.alloc (.cells (madeCells #[.int .u8 0] n) t)) w.heap.size t (List.replicate n 0) := by
  have e : madeCells #[.int .u8 0] n = ((List.replicate n (0 : UInt8)).map cellOf).toArray := by
    apply Array.toList_inj.1
    rw [toList_madeCells_one]
    simp [cellOf]
  unfold Row
  rw [e]
  exact heap_alloc_new w _
theorem Row.drew (h : Row w g t l) : Row w.drew g t l := h
theorem Row.drewN (h : Row w g t l) (n : Nat) : Row (w.drewN n) g t l := h
theorem Row.alloc (h : Row w g t l) (o : Obj) : Row (w.alloc o) g t l := (Below.heap_alloc w o g h.lt).trans h
theorem Row.set_ (h : Row w g t l) (i : Nat) (x : Int) (h0 : 0 ≤ x) (h1 : x < 256) : Row (w.setCell ⟨g, i, none⟩ (.int .u8 x)) g t (l.set i (UInt8.ofNat x.toNat)) := by
  unfold Row at h ⊢
  have e : Value.int .u8 x = cellOf (UInt8.ofNat x.toNat) := by
    unfold cellOf
    congr 1
    have : x.toNat < 256 := by omega
    simp [Nat.mod_eq_of_lt this]
    omega
  simp [World.setCell, Array.getElem?_modify, h, e, List.map_set]
theorem Row.below {B : Nat} (h : Row w g t l) (hb : Below B w w') (hg : g < B) : Row w' g t l := (hb.block g hg).trans h
theorem Row.ext (h : Row w g t l) (hb : Ext w w') : Row w' g t l := h.below hb h.lt
/-- The text of a block. -/
theorem Row.text {P : Program} (h : Row w g t l) (src e dst : TypeId) (hs : P.underlying src = some (.slice e)) (he : P.underlying e = some (.int .u8)) (hd : P.underlying dst = some .string) (n c : Nat) (hn : l.length = n) :
    (convert src dst (.slice (some ⟨g, 0, none⟩) n c)).run P w = .ok (.string ⟨l.toArray⟩) w := by
  have hc := run_convert_bytes_arg (P := P) w src e hs he g 0 n c (l.map fun b => (b.toNat : Int)) (by simpa using hn) (by
    intro i hi
    have hl : i < l.length := by omega
    have := h.cell i l[i] (List.getElem?_eq_getElem hl)
    simpa [List.getD, List.getElem?_eq_getElem hl] using this) dst hd
  rw [hc]
  have e : strOfNums (l.map fun b => (b.toNat : Int)) = ⟨l.toArray⟩ := by
    unfold strOfNums
    congr 2
    rw [List.map_map]
    conv => rhs; rw [← List.map_id l]
    apply List.map_congr_left
    intro b _
    simp
  rw [e]
end

/-! ### Numbers' bytes -/
/-- The k lowest bytes of n, the highest first. -/
def be : Nat → Nat → List UInt8
  | 0, _ => []
  | k + 1, n => UInt8.ofNat (n / 256 ^ k) :: be k n
theorem be_length (k n : Nat) : (be k n).length = k := by
  induction k with
  | zero => rfl
  | succ k ih => simp [be, ih]
/-- The number whose bytes these are. -/
def num (l : List UInt8) : Nat := l.foldl (fun n b => n * 256 + b.toNat) 0
theorem num_snoc (l : List UInt8) (b : UInt8) : num (l ++ [b]) = num l * 256 + b.toNat := by simp [num]
theorem num_lt : ∀ (k : Nat) (l : List UInt8), l.length = k → num l < 256 ^ k
  | 0, l, h => by
    rw [List.length_eq_zero_iff.1 h]; decide
  | k + 1, l, h => by
    have hne : l ≠ [] := by intro e; rw [e] at h; simp at h
    have e := List.dropLast_concat_getLast hne
    have ih := num_lt k l.dropLast (by simp [h])
    rw [← e, num_snoc, Nat.pow_succ]
    have := (l.getLast hne).toNat_lt
    omega

/-- A byte more, one place ahead of the last: the next byte of a number. -/
theorem set_zero (z j : Nat) (l : List UInt8) (b : UInt8) (hz : j < z) : (List.replicate (z - j) 0 ++ l).set (z - 1 - j) b = List.replicate (z - (j + 1)) 0 ++ b :: l := by
  have e : z - j = (z - (j + 1)) + 1 := by omega
  have e2 : z - 1 - j = z - (j + 1) := by omega
  rw [e2, e, List.replicate_succ', List.append_assoc, List.set_append_right _ _ (by simp)]
  simp
theorem byte_shift (n j : Nat) : UInt8.ofNat ((n : Int) / 2 ^ (8 * j) % 256).toNat = UInt8.ofNat (n / 256 ^ j) := by
  have e : ((n : Int) / 2 ^ (8 * j) % 256) = ((n / 256 ^ j % 256 : Nat) : Int) := by
    have e2 : (2 : Int) ^ (8 * j) = 256 ^ j := by rw [Int.pow_mul]; rfl
    rw [e2]
    simp
  rw [e, Int.toNat_natCast]
  apply UInt8.toNat_inj.1
  simp
theorem shift_range (n j : Nat) : 0 ≤ (n : Int) / 2 ^ (8 * j) % 256 ∧ (n : Int) / 2 ^ (8 * j) % 256 < 256 := ⟨Int.emod_nonneg _ (by decide), Int.emod_lt_of_pos _ (by decide)⟩
theorem put_step {w : World} {g : Nat} {t : TypeId} {n k j : Nat} (hlt : j < k) (h : Row w g t (List.replicate (k - j) 0 ++ be j n)) :
    Row (w.setCell ⟨g, k - 1 - j, none⟩ (.int .u8 ((n : Int) / 2 ^ (8 * j) % 256))) g t (List.replicate (k - (j + 1)) 0 ++ be (j + 1) n) := by
  have := h.set_ (k - 1 - j) _ (shift_range n j).1 (shift_range n j).2
  rw [set_zero _ _ _ _ hlt, byte_shift] at this
  exact this
theorem put_cell {w : World} {g : Nat} {t : TypeId} {n k j : Nat} (hlt : j < k) (h : Row w g t (List.replicate (k - j) 0 ++ be j n)) :
    w.cell? ⟨g, k - 1 - j, none⟩ = some (.int .u8 0) :=
  h.cell _ 0 (by rw [List.getElem?_append_left (by simp; omega), List.getElem?_replicate, if_pos (by omega)])
theorem int_eq {k : IntKind} {a b : Int} (h : a = b) : Value.int k a = Value.int k b := by rw [h]
theorem u64_nat {x : Nat} (h : x < 2 ^ 64) : IntKind.u64.wrap (x : Int) = (x : Int) := IntWalk.u64_in _ ⟨by omega, by omega⟩
/-- The same by division, round by round. -/
theorem div_step (n j : Nat) : n / 256 ^ j / 256 = n / 256 ^ (j + 1) := by rw [Nat.div_div_eq_div_mul, Nat.pow_succ]
theorem quo_step {w : World} {g : Nat} {t : TypeId} {n k j m : Nat} (hm : m = n / 256 ^ j) (hlt : j < k) (h : Row w g t (List.replicate (k - j) 0 ++ be j n)) :
    Row (w.setCell ⟨g, k - 1 - j, none⟩ (.int .u8 ((m : Int) % 256))) g t (List.replicate (k - (j + 1)) 0 ++ be (j + 1) n) := by
  have := put_step hlt h
  have e : ((n : Int) / 2 ^ (8 * j) % 256) = ((m : Int) % 256) := by
    have e2 : (2 : Int) ^ (8 * j) = 256 ^ j := by rw [Int.pow_mul]; rfl
    rw [e2, hm]; simp
  rw [e] at this
  exact this

/-! ### A block that is filled from its front -/
section
variable {w : World} {g : Nat} {t : TypeId} {l : List UInt8} {n j : Nat}
theorem fill_cell (h : Row w g t (l.take j ++ List.replicate (n - j) 0)) (hl : l.length = n) (hlt : j < n) : w.cell? ⟨g, j, none⟩ = some (.int .u8 0) :=
  h.cell j 0 (by rw [List.getElem?_append_right (by simp; omega), List.length_take, hl, Nat.min_eq_left (by omega), Nat.sub_self, List.getElem?_replicate, if_pos (by omega)])
theorem fill_step (h : Row w g t (l.take j ++ List.replicate (n - j) 0)) (hl : l.length = n) (hlt : j < n) (x : Int) (b : UInt8) (hb : l[j]? = some b) (hx : x = (b.toNat : Int)) :
    Row (w.setCell ⟨g, j, none⟩ (.int .u8 x)) g t (l.take (j + 1) ++ List.replicate (n - (j + 1)) 0) := by
  have hb2 := b.toNat_lt
  have := h.set_ j x (by omega) (by omega)
  have e : (l.take j ++ List.replicate (n - j) 0).set j (UInt8.ofNat x.toNat) = l.take (j + 1) ++ List.replicate (n - (j + 1)) 0 := by
    have e1 : UInt8.ofNat x.toNat = b := by rw [hx]; simp
    have e2 : n - j = (n - (j + 1)) + 1 := by omega
    have hj : j < l.length := by omega
    have e3 : l.take (j + 1) = l.take j ++ [b] := by
      rw [List.take_succ_eq_append_getElem hj]
      rw [List.getElem?_eq_getElem hj] at hb
      simp at hb
      rw [hb]
    rw [e1, e3, List.set_append_right _ _ (by simp; omega), List.length_take, Nat.min_eq_left (by omega), Nat.sub_self, e2, List.replicate_succ]
    simp
  rw [e] at this
  exact this
theorem fill_done (h : Row w g t (l.take n ++ List.replicate (n - n) 0)) (hl : l.length = n) : Row w g t l := by
  rw [List.take_of_length_le (by omega)] at h
  simpa using h
end
theorem byte_at (s : ByteArray) (j : Nat) (h : j < s.size) : s.data.toList[j]? = some s[j] := by
  have hl : j < s.data.toList.length := by rw [Array.length_toList]; exact h
  rw [List.getElem?_eq_getElem hl]
  rfl
theorem size_list (s : ByteArray) : s.data.toList.length = s.size := by rw [Array.length_toList]; rfl
end Go.Proofs.YtkjcpjalldbahaaDoor
end

section
namespace Go.Proofs.YtkjcpjalldbahaaDoor
open Go.RowKit

theorem heap_lt {w : World} {g : Nat} {o : Obj} (h : w.heap[g]? = some o) : g < w.heap.size := by
  rcases Nat.lt_or_ge g w.heap.size with hlt | hge
  · exact hlt
  · rw [Array.getElem?_eq_none hge] at h; cases h
end Go.Proofs.YtkjcpjalldbahaaDoor
end

section
namespace Go.Proofs.YtkjcpjalldbahaaDoor
open Go.RowKit

/-- The cells from a on are these texts. -/
def Texts (w : World) (a : Addr) (l : List ByteArray) : Prop := ∀ i s, l[i]? = some s → a.block < w.heap.size ∧ w.cell? (a.add i) = some (.string s)
theorem add_block (a : Addr) (i : Nat) : (a.add i).block = a.block := by unfold Addr.add; split <;> rfl
theorem Texts.ext {w w' : World} {a : Addr} {l : List ByteArray} (h : Texts w a l) (hx : Ext w w') : Texts w' a l := fun i s hs =>
  ⟨Nat.lt_of_lt_of_le (h i s hs).1 hx.below.size, by rw [hx.below.cell (p := a.add i) (by rw [add_block]; exact (h i s hs).1)]; exact (h i s hs).2⟩
/-- The value is a row of texts, or nil. -/
def TextsV (w : World) (v : Value) (l : List ByteArray) : Prop := (v = .slice none 0 0 ∧ l = []) ∨ ∃ a c, v = .slice (some a) l.length c ∧ Texts w a l ∧ l.length ≤ 140737488355328
theorem TextsV.ext {w w' : World} {v : Value} {l : List ByteArray} (h : TextsV w v l) (hx : Ext w w') : TextsV w' v l := by
  rcases h with h | ⟨a, c, h1, h2, h3⟩
  · exact .inl h
  · exact .inr ⟨a, c, h1, h2.ext hx, h3⟩
end Go.Proofs.YtkjcpjalldbahaaDoor
end

section
namespace Go.Proofs.YtkjcpjalldbahaaDoor
open Go.RowKit

theorem info5 : (Tryd.prog.info? 5).map (fun i => (i.zero, i.size, i.bytes)) = some (some (.int .u8 0), 1, 1) := by kernel_rfl

/-- make([]byte, n): a new block of n zeros. -/
theorem make_bytes (n : Nat) (hn : n ≤ 281474976710656) : ∀ u : World, (Instr.makeSlice 109 (.int .i64 (n : Int)) (.int .i64 (n : Int))).run Tryd.prog u =
      .ok (.slice (some ⟨u.heap.size, 0, none⟩) n n) (u.alloc (.cells (madeCells #[.int .u8 0] n) 5)) := fun u => by
  obtain ⟨i0, hi, hz0, hz1, hz2⟩ := info_parts info5
  have h := run_make (P := Tryd.prog) u 109 5 i0 (.int .u8 0) Tryd.underlying109 hi hz0 .i64 .i64 (n : Int) (n : Int) (by omega) (Int.le_refl _) (by rw [hz2]; omega) (by omega)
  simpa [hz1, Value.cells] using h
end Go.Proofs.YtkjcpjalldbahaaDoor
end
