/- Plain words of bytes, and of a block of bytes in memory: no function of the program is named here. Plain: a block that is there. Plain: blocks of cells that are known whole. -/
import Derived.WalkKit
import Derived.Handy
import Derived.Below
import Derived.Laws.BytesArg
import Derived.Laws.Rows
import Derived.Laws.OwnMore
import Derived.Lib.Hide
import Derived.Deep.Draws
import Derived.Deep.MidRow
import Derived.WalkSpells
section
namespace Go.Proofs.YtkjcpjalldbahaaGreatDoor
open Go.RowKit

/-! ### Worlds that have grown -/
/-- Behind a call: what was there is as it was; there may be new blocks. -/
def Ext (w w' : World) : Prop := Below w.heap.size w w'
theorem Ext.refl (w : World) : Ext w w := Below.refl _ _
theorem Ext.trans {a b c : World} (h : Ext a b) (k : Ext b c) : Ext a c := Below.trans h (Below.mono k h.size)
theorem Ext.below {a b : World} (h : Ext a b) : Below a.heap.size a b := h
theorem Ext.drew {a b : World} (h : Ext a b) : Ext a b.drew := Below.drew h
theorem Ext.drewN {a b : World} (h : Ext a b) (n : Nat) : Ext a (b.drewN n) := ⟨h.os, h.tape, h.output, h.size, h.block⟩
theorem Ext.alloc {a b : World} (h : Ext a b) (o : Obj) : Ext a (b.alloc o) := Below.alloc h h.size o
theorem Ext.setCell {a b : World} (h : Ext a b) {p : Addr} (hp : a.heap.size ≤ p.block) (u : Value) : Ext a (b.setCell p u) := Below.setCell h hp u

/-! ### A block of bytes -/
/-- One byte in memory. -/
def cellOf (b : UInt8) : Value := .int .u8 (b.toNat : Int)
/-- Block g holds just these bytes. -/
def Row (w : World) (g : Nat) (t : TypeId) (l : List UInt8) : Prop := w.heap[g]? = some (.cells (l.map cellOf).toArray t (0, 0))

section
variable {w w' : World} {g : Nat} {t : TypeId} {l : List UInt8}
theorem Row.lt (h : Row w g t l) : g < w.heap.size := by
  rcases Nat.lt_or_ge g w.heap.size with hlt | hge
  · exact hlt
  · unfold Row at h; rw [Array.getElem?_eq_none hge] at h; cases h
theorem Row.cell (h : Row w g t l) (i : Nat) (b : UInt8) (hb : l[i]? = some b) : w.cell? ⟨g, i, none⟩ = some (.int .u8 (b.toNat : Int)) := by
  rw [cell_of_row w g i _ t (0, 0) h]; simp [hb, cellOf]
theorem Row.frozen (h : Row w g t l) (i : Nat) : w.frozen? ⟨g, i, none⟩ = false := by
  unfold Row at h
  simp [World.frozen?, h]
theorem Row.made (w : World) (t : TypeId) (n : Nat) : Row (w.alloc (.cells (madeCells #[.int .u8 0] n) t)) w.heap.size t (List.replicate n 0) := by
  have e : madeCells #[.int .u8 0] n = ((List.replicate n (0 : UInt8)).map cellOf).toArray := by
    apply Array.toList_inj.1
    rw [toList_madeCells_one]
    simp [cellOf]
  unfold Row
  rw [e]
  exact heap_alloc_new w _
theorem Row.drew (h : Row w g t l) : Row w.drew g t l := h
theorem Row.drewN (h : Row w g t l) (n : Nat) : Row (w.drewN n) g t l := h
theorem Row.alloc (h : Row w g t l) (o : Obj) : Row (w.alloc o) g t l := (Below.heap_alloc w o g h.lt).trans h
theorem Row.set_ (h : Row w g t l) (i : Nat) (x : Int) (h0 : 0 ≤ x) (h1 : x < 256) : Row (w.setCell ⟨g, i, none⟩ (.int .u8 x)) g t (l.set i (UInt8.ofNat x.toNat)) := by
  unfold Row at h ⊢
  have e : Value.int .u8 x = cellOf (UInt8.ofNat x.toNat) := by
    unfold cellOf
    congr 1
    have : x.toNat < 256 := by omega
    simp [Nat.mod_eq_of_lt this]
    omega
  simp [World.setCell, Array.getElem?_modify, h, e, List.map_set]
theorem Row.below {B : Nat} (h : Row w g t l) (hb : Below B w w') (hg : g < B) : Row w' g t l := (hb.block g hg).trans h
theorem Row.ext (h : Row w g t l) (hb : Ext w w') : Row w' g t l := h.below hb h.lt
/-- The text of a block. -/
theorem Row.text {P : Program} (h : Row w g t l) (src e dst : TypeId) (hs : P.underlying src = some (.slice e)) (he : P.underlying e = some (.int .u8)) (hd : P.underlying dst = some .string) (n c : Nat) (hn : l.length = n) :
    (convert src dst (.slice (some ⟨g, 0, none⟩) n c)).run P w = .ok (.string ⟨l.toArray⟩) w := by
  have hc := run_convert_bytes_arg (P := P) w src e hs he g 0 n c (l.map fun b => (b.toNat : Int)) (by simpa using hn) (by
    intro i hi
    have hl : i < l.length := by omega
    have := h.cell i l[i] (List.getElem?_eq_getElem hl)
    simpa [List.getD, List.getElem?_eq_getElem hl] using this) dst hd
  rw [hc]
  have e : strOfNums (l.map fun b => (b.toNat : Int)) = ⟨l.toArray⟩ := by
    unfold strOfNums
    congr 2
    rw [List.map_map]
    conv => rhs; rw [← List.map_id l]
    apply List.map_congr_left
    intro b _
    simp
  rw [e]
end

/-! ### Numbers' bytes -/
/-- The k lowest bytes of n, the highest first. -/
def be : Nat → Nat → List UInt8
  | 0, _ => []
  | k + 1, n => UInt8.ofNat (n / 256 ^ k) :: be k n
theorem be_length (k n : Nat) : (be k n).length = k := by
  induction k with
  | zero => rfl
  | succ k ih => simp [be, ih]
/-- The number whose bytes these are. -/
def num (l : List UInt8) : Nat := l.foldl (fun n b => n * 256 + b.toNat) 0
theorem num_snoc (l : List UInt8) (b : UInt8) : num (l ++ [b]) = num l * 256 + b.toNat := by simp [num]
theorem num_lt : ∀ (k : Nat) (l : List UInt8), l.length = k → num l < 256 ^ k
  | 0, l, h => by
    rw [List.length_eq_zero_iff.1 h]; decide
  | k + 1, l, h => by
    have hne : l ≠ [] := by intro e; rw [e] at h; simp at h
    have e := List.dropLast_concat_getLast hne
    have ih := num_lt k l.dropLast (by simp [h])
    rw [← e, num_snoc, Nat.pow_succ]
    have := (l.getLast hne).toNat_lt
    omega

/-- A byte more, one place ahead of the last: the next byte of a number. -/
theorem set_zero (z j : Nat) (l : List UInt8) (b : UInt8) (hz : j < z) : (List.replicate (z - j) 0 ++ l).set (z - 1 - j) b = List.replicate (z - (j + 1)) 0 ++ b :: l := by
  have e : z - j = (z - (j + 1)) + 1 := by omega
  have e2 : z - 1 - j = z - (j + 1) := by omega
  rw [e2, e, List.replicate_succ', List.append_assoc, List.set_append_right _ _ (by simp)]
  simp
theorem byte_shift (n j : Nat) : UInt8.ofNat ((n : Int) / 2 ^ (8 * j) % 256).toNat = UInt8.ofNat (n / 256 ^ j) := by
  have e : ((n : Int) / 2 ^ (8 * j) % 256) = ((n / 256 ^ j % 256 : Nat) : Int) := by
    have e2 : (2 : Int) ^ (8 * j) = 256 ^ j := by rw [Int.pow_mul]; rfl
    rw [e2]
    simp
  rw [e, Int.toNat_natCast]
  apply UInt8.toNat_inj.1
  simp
theorem shift_range (n j : Nat) : 0 ≤ (n : Int) / 2 ^ (8 * j) % 256 ∧ (n : Int) / 2 ^ (8 * j) % 256 < 256 := ⟨Int.emod_nonneg _ (by decide), Int.emod_lt_of_pos _ (by decide)⟩
theorem put_step {w : World} {g : Nat} {t : TypeId} {n k j : Nat} (hlt : j < k) (h : Row w g t (List.replicate (k - j) 0 ++ be j n)) :
    Row (w.setCell ⟨g, k - 1 - j, none⟩ (.int .u8 ((n : Int) / 2 ^ (8 * j) % 256))) g t (List.replicate (k - (j + 1)) 0 ++ be (j + 1) n) := by
  have := h.set_ (k - 1 - j) _ (shift_range n j).1 (shift_range n j).2
  rw [set_zero _ _ _ _ hlt, byte_shift] at this
  exact this
theorem put_cell {w : World} {g : Nat} {t : TypeId} {n k j : Nat} (hlt : j < k) (h : Row w g t (List.replicate (k - j) 0 ++ be j n)) :
    w.cell? ⟨g, k - 1 - j, none⟩ = some (.int .u8 0) :=
  h.cell _ 0 (by rw [List.getElem?_append_left (by simp; omega), List.getElem?_replicate, if_pos (by omega)])
theorem int_eq {k : IntKind} {a b : Int} (h : a = b) : Value.int k a = Value.int k b := by rw [h]
theorem u64_nat {x : Nat} (h : x < 2 ^ 64) : IntKind.u64.wrap (x : Int) = (x : Int) := IntWalk.u64_in _ ⟨by omega, by omega⟩
/-- The same by division, round by round. -/
theorem div_step (n j : Nat) : n / 256 ^ j / 256 = n / 256 ^ (j + 1) := by rw [Nat.div_div_eq_div_mul, Nat.pow_succ]
theorem quo_step {w : World} {g : Nat} {t : TypeId} {n k j m : Nat} (hm : m = n / 256 ^ j) (hlt : j < k) (h : Row w g t (List.replicate (k - j) 0 ++ be j n)) :
    Row (w.setCell ⟨g, k - 1 - j, none⟩ (.int .u8 ((m : Int) % 256))) g t (List.replicate (k - (j + 1)) 0 ++ be (j + 1) n) := by
  have := put_step hlt h
  have e : ((n : Int) / 2 ^ (8 * j) % 256) = ((m : Int) % 256) := by
    have e2 : (2 : Int) ^ (8 * j) = 256 ^ j := by rw [Int.pow_mul]; rfl
    rw [e2, hm]; simp
  rw [e] at this
  exact this

/-! ### A block that is filled from its front -/
section
variable {w : World} {g : Nat} {t : TypeId} {l : List UInt8} {n j : Nat}
theorem fill_cell (h : Row w g t (l.take j ++ List.replicate (n - j) 0)) (hl : l.length = n) (hlt : j < n) : w.cell? ⟨g, j, none⟩ = some (.int .u8 0) :=
  h.cell j 0 (by rw [List.getElem?_append_right (by simp; omega), List.length_take, hl, Nat.min_eq_left (by omega), Nat.sub_self, List.getElem?_replicate, if_pos (by omega)])
theorem fill_step (h : Row w g t (l.take j ++ List.replicate (n - j) 0)) (hl : l.length = n) (hlt : j < n) (x : Int) (b : UInt8) (hb : l[j]? = some b) (hx : x = (b.toNat : Int)) :
    Row (w.setCell ⟨g, j, none⟩ (.int .u8 x)) g t (l.take (j + 1) ++ List.replicate (n - (j + 1)) 0) := by
  have hb2 := b.toNat_lt
  have := h.set_ j x (by omega) (by omega)
  have e : (l.take j ++ List.replicate (n - j) 0).set j (UInt8.ofNat x.toNat) = l.take (j + 1) ++ List.replicate (n - (j + 1)) 0 := by
    have e1 : UInt8.ofNat x.toNat = b := by rw [hx]; simp
    have e2 : n - j = (n - (j + 1)) + 1 := by omega
    have hj : j < l.length := by omega
    have e3 : l.take (j + 1) = l.take j ++ [b] := by
      rw [List.take_succ_eq_append_getElem hj]
      rw [List.getElem?_eq_getElem hj] at hb
      simp at hb
      rw [hb]
    rw [e1, e3, List.set_append_right _ _ (by simp; omega), List.length_take, Nat.min_eq_left (by omega), Nat.sub_self, e2, List.replicate_succ]
    simp
  rw [e] at this
  exact this
theorem fill_done (h : Row w g t (l.take n ++ List.replicate (n - n) 0)) (hl : l.length = n) : Row w g t l := by
  rw [List.take_of_length_le (by omega)] at h
  simpa using h
end
theorem byte_at (s : ByteArray) (j : Nat) (h : j < s.size) : s.data.toList[j]? = some s[j] := by
  have hl : j < s.data.toList.length := by rw [Array.length_toList]; exact h
  rw [List.getElem?_eq_getElem hl]
  rfl
theorem size_list (s : ByteArray) : s.data.toList.length = s.size := by rw [Array.length_toList]; rfl
end Go.Proofs.YtkjcpjalldbahaaGreatDoor
end

section
namespace Go.Proofs.YtkjcpjalldbahaaGreatDoor
open Go.RowKit

theorem heap_lt {w : World} {g : Nat} {o : Obj} (h : w.heap[g]? = some o) : g < w.heap.size := by
  rcases Nat.lt_or_ge g w.heap.size with hlt | hge
  · exact hlt
  · rw [Array.getElem?_eq_none hge] at h; cases h
end Go.Proofs.YtkjcpjalldbahaaGreatDoor
end

section
namespace Go.Proofs.YtkjcpjalldbahaaGreatDoor
open Go.RowKit

/-- Block b holds these cells. -/
def Blk (w : World) (b : Nat) (T : TypeId) (cs : List Value) : Prop := w.heap[b]? = some (.cells cs.toArray T (0, 0))
section
variable {w w' : World} {b : Nat} {T : TypeId} {cs : List Value}
theorem Blk.lt (h : Blk w b T cs) : b < w.heap.size := heap_lt h
theorem Blk.cell (h : Blk w b T cs) (i : Nat) (v : Value) (hv : cs[i]? = some v) : w.cell? ⟨b, i, none⟩ = some v := by
  rw [cell_of_row w b i _ T (0, 0) h]; simpa using hv
theorem Blk.frozen (h : Blk w b T cs) (i : Nat) : w.frozen? ⟨b, i, none⟩ = false := by
  unfold Blk at h
  simp [World.frozen?, h]
theorem Blk.set_ (h : Blk w b T cs) (i : Nat) (v : Value) : Blk (w.setCell ⟨b, i, none⟩ v) b T (cs.set i v) := by
  unfold Blk at h ⊢
  simp [World.setCell, Array.getElem?_modify, h]
theorem Blk.other (h : Blk w b T cs) {g : Nat} (hb : b ≠ g) (o : Nat) (u : Value) : Blk (w.setCell ⟨g, o, none⟩ u) b T cs := by
  unfold Blk at h ⊢
  simp [World.setCell, Array.getElem?_modify, h, Ne.symm hb]
theorem Blk.below {B : Nat} (h : Blk w b T cs) (hb : Below B w w') (hg : b < B) : Blk w' b T cs := (hb.block b hg).trans h
theorem Blk.ext (h : Blk w b T cs) (hb : Ext w w') : Blk w' b T cs := h.below hb h.lt
theorem Blk.alloc (h : Blk w b T cs) (o : Obj) : Blk (w.alloc o) b T cs := (Below.heap_alloc w o b h.lt).trans h
theorem Blk.drew (h : Blk w b T cs) : Blk w.drew b T cs := h
theorem Blk.new (w : World) (cs : List Value) (T : TypeId) : Blk (w.alloc (.cells cs.toArray T)) w.heap.size T cs := heap_alloc_new w _
theorem Blk.range (h : Blk w b T cs) (o : Nat) (l : List Value) (hl : ∀ j v, l[j]? = some v → cs[o + j]? = some v) : w.rangeAt b o l := fun j v hv => h.cell _ _ (hl j v hv)
theorem Blk.there (h : Blk w b T cs) (o n : Nat) (hn : o + n ≤ cs.length) : w.there b o n := fun j hj =>
  ⟨by rw [h.cell (o + j) cs[o + j] (List.getElem?_eq_getElem (by omega))]; rfl, h.frozen _⟩
theorem Blk.setCells : ∀ (vs : List Value) (o : Nat) (cs : List Value) {w : World}, Blk w b T cs → o + vs.length ≤ cs.length → Blk (w.setCells b o vs) b T (cs.take o ++ (vs ++ cs.drop (o + vs.length)))
  | [], o, cs, w, h, _ => by simpa [World.setCells] using h
  | v :: r, o, cs, w, h, hl => by
    rw [World.setCells]
    have h2 := Blk.setCells r (o + 1) _ (h.set_ o v) (by simp at hl ⊢; omega)
    have hlt : o < cs.length := by simp at hl; omega
    have e : (cs.set o v).take (o + 1) = cs.take o ++ [v] := by
      rw [List.take_succ_eq_append_getElem (by simpa using hlt), List.take_set_of_le (Nat.le_refl _)]
      simp
    have e2 : (cs.set o v).drop (o + 1 + r.length) = cs.drop (o + (v :: r).length) := by
      rw [List.drop_set_of_lt (by omega)]
      congr 1
      simp; omega
    rw [e, e2] at h2
    simpa using h2
theorem Row.blk {l : List UInt8} (h : Row w b T l) : Blk w b T (l.map cellOf) := h
theorem Blk.row {l : List UInt8} (h : Blk w b T (l.map cellOf)) : Row w b T l := h
theorem Row.other {l : List UInt8} (h : Row w b T l) {g : Nat} (hb : b ≠ g) (o : Nat) (u : Value) : Row (w.setCell ⟨g, o, none⟩ u) b T l := Blk.other h hb o u
/-- Cells of bytes behind others. -/
theorem bytes_at {pre : List Value} {l : List UInt8} {post : List Value} (o i : Nat) (x : UInt8) (ho : pre.length = o) (hx : l[i]? = some x) : (pre ++ (l.map cellOf ++ post))[o + i]? = some (.int .u8 (x.toNat : Int)) := by
  have hi : i < l.length := (List.getElem?_eq_some_iff.1 hx).1
  rw [List.getElem?_append_right (by omega), ho, Nat.add_sub_cancel_left, List.getElem?_append_left (by simpa using hi)]
  simp [hx, cellOf]
end
theorem cells8_one (l : List UInt8) : ((l.map cellOf).toArray).all (·.oneCell') = true := by
  rw [Array.all_eq_true_iff_forall_mem]
  intro v hv
  simp only [List.mem_toArray, List.mem_map] at hv
  obtain ⟨n, _, rfl⟩ := hv
  rfl
theorem below_setCells {B : Nat} {a : World} {g : Nat} (hg : B ≤ g) : ∀ (vs : List Value) (o : Nat) {b : World}, Below B a b → Below B a (b.setCells g o vs)
  | [], _, _, h => h
  | v :: r, o, _, h => below_setCells hg r (o + 1) (h.setCell (p := ⟨g, o, none⟩) hg v)
/-- A whole block written. -/
theorem below_setRow {B : Nat} {a b : World} (h : Below B a b) {g : Nat} (hg : B ≤ g) (cs : Array Value) : Below B a (b.setRow g cs) :=
  h.trans ⟨rfl, rfl, rfl, by simp, fun k hk => setRow_other _ _ _ _ (by omega)⟩
theorem Ext.setRow {a b : World} (h : Ext a b) {g : Nat} (hg : a.heap.size ≤ g) (cs : Array Value) : Ext a (b.setRow g cs) := below_setRow h hg cs
theorem Ext.setCells {a b : World} (h : Ext a b) {g : Nat} (hg : a.heap.size ≤ g) (vs : List Value) (o : Nat) : Ext a (b.setCells g o vs) := below_setCells hg vs o h
theorem Ext.trans3 {a b c : World} (h : Ext a b) (k : Below a.heap.size b c) : Ext a c := Below.trans h k
end Go.Proofs.YtkjcpjalldbahaaGreatDoor
end
