/- Plain words of bytes, and of a block of bytes in memory: no function of the program is named here. Contracts: numbers turned, by the program. Plain words of SHA-256, over numbers and rows of bytes: no function of the program is named here. Plain: a block that is there. -/
import Derived.WalkKit
import Derived.Handy
import Derived.Below
import Derived.Laws.BytesArg
import Derived.Laws.Rows
import Derived.Laws.OwnMore
import Derived.Lib.Hide
import Derived.Deep.Draws
import Derived.Test.YtobhbppogeghnaaGreatDoorProg
import Derived.WalkSpells
import Derived.Laws.BitsAllLaws
section
namespace Go.Proofs.YtobhbppogeghnaaGreatDoor
open Go.RowKit

/-! ### Worlds that have grown -/
/-- Behind a call: what was there is as it was; there may be new blocks. -/
def Ext (w w' : World) : Prop := Below w.heap.size w w'
theorem Ext.refl (w : World) : Ext w w := Below.refl _ _
theorem Ext.trans {a b c : World} (h : Ext a b) (k : Ext b c) : Ext a c := Below.trans h (Below.mono k h.size)
theorem Ext.below {a b : World} (h : Ext a b) : Below a.heap.size a b := h
theorem Ext.drew {a b : World} (h : Ext a b) : Ext a b.drew := Below.drew h
theorem Ext.drewN {a b : World} (h : Ext a b) (n : Nat) : Ext a (b.drewN n) := ⟨h.os, h.tape, h.output, h.size, h.block⟩
theorem Ext.alloc {a b : World} (h : Ext a b) (o : Obj) : Ext a (b.alloc o) := Below.alloc h h.size o
theorem Ext.setCell {a b : World} (h : Ext a b) {p : Addr} (hp : a.heap.size ≤ p.block) (u : Value) : Ext a (b.setCell p u) := Below.setCell h hp u

/-! ### A block of bytes -/
/-- One byte in memory. -/
def cellOf (b : UInt8) : Value := .int .u8 (b.toNat : Int)
/-- Block g holds just these bytes. -/
def Row (w : World) (g : Nat) (t : TypeId) (l : List UInt8) : Prop := w.heap[g]? = some (.cells (l.map cellOf).toArray t (0, 0))

section
variable {w w' : World} {g : Nat} {t : TypeId} {l : List UInt8}
theorem Row.lt (h : Row w g t l) : g < w.heap.size := by
  rcases Nat.lt_or_ge g w.heap.size with hlt | hge
  · exact hlt
  · unfold Row at h; rw [Array.getElem?_eq_none hge] at h; cases h
theorem Row.cell (h : Row w g t l) (i : Nat) (b : UInt8) (hb : l[i]? = some b) : w.cell? ⟨g, i, none⟩ = some (.int .u8 (b.toNat : Int)) := by
  rw [cell_of_row w g i _ t (0, 0) h]; simp [hb, cellOf]
theorem Row.frozen (h : Row w g t l) (i : Nat) : w.frozen? ⟨g, i, none⟩ = false := by
  unfold Row at h
  simp [World.frozen?, h]
theorem Row.made (w : World) (t : TypeId) (n : Nat) : Row (w.alloc (.cells (madeCells #[.int .u8 0] n) t)) w.heap.size t (List.replicate n 0) := by
  have e : madeCells #[.int .u8 0] n = ((List.replicate n (0 : UInt8)).map cellOf).toArray := by
    apply Array.toList_inj.1
    rw [toList_madeCells_one]
    simp [cellOf]
  unfold Row
  rw [e]
  exact heap_alloc_new w _
theorem Row.drew (h : Row w g t l) : Row w.drew g t l := h
theorem Row.drewN (h : Row w g t l) (n : Nat) : Row (w.drewN n) g t l := h
theorem Row.alloc (h : Row w g t l) (o : Obj) : Row (w.alloc o) g t l := (Below.heap_alloc w o g h.lt).trans h
theorem Row.set_ (h : Row w g t l) (i : Nat) (x : Int) (h0 : 0 ≤ x) (h1 : x < 256) : Row (w.setCell ⟨g, i, none⟩ (.int .u8 x)) g t (l.set i (UInt8.ofNat x.toNat)) := by
  unfold Row at h ⊢
  have e : Value.int .u8 x = cellOf (UInt8.ofNat x.toNat) := by
    unfold cellOf
    congr 1
    have : x.toNat < 256 := by omega
    simp [Nat.mod_eq_of_lt this]
    omega
  simp [World.setCell, Array.getElem?_modify, h, e, List.map_set]
theorem Row.below {B : Nat} (h : Row w g t l) (hb : Below B w w') (hg : g < B) : Row w' g t l := (hb.block g hg).trans h
theorem Row.ext (h : Row w g t l) (hb : Ext w w') : Row w' g t l := h.below hb h.lt
/-- The text of a block. -/
theorem Row.text {P : Program} (h : Row w g t l) (src e dst : TypeId) (hs : P.underlying src = some (.slice e)) (he : P.underlying e = some (.int .u8)) (hd : P.underlying dst = some .string) (n c : Nat) (hn : l.length = n) :
    (convert src dst (.slice (some ⟨g, 0, none⟩) n c)).run P w = .ok (.string ⟨l.toArray⟩) w := by
  have hc := run_convert_bytes_arg (P := P) w src e hs he g 0 n c (l.map fun b => (b.toNat : Int)) (by simpa using hn) (by
    intro i hi
    have hl : i < l.length := by omega
    have := h.cell i l[i] (List.getElem?_eq_getElem hl)
    simpa [List.getD, List.getElem?_eq_getElem hl] using this) dst hd
  rw [hc]
  have e : strOfNums (l.map fun b => (b.toNat : Int)) = ⟨l.toArray⟩ := by
    unfold strOfNums
    congr 2
    rw [List.map_map]
    conv => rhs; rw [← List.map_id l]
    apply List.map_congr_left
    intro b _
    simp
  rw [e]
end

/-! ### Numbers' bytes -/
/-- The k lowest bytes of n, the highest first. -/
def be : Nat → Nat → List UInt8
  | 0, _ => []
  | k + 1, n => UInt8.ofNat (n / 256 ^ k) :: be k n
theorem be_length (k n : Nat) : (be k n).length = k := by
  induction k with
  | zero => rfl
  | succ k ih => simp [be, ih]
/-- The number whose bytes these are. -/
def num (l : List UInt8) : Nat := l.foldl (fun n b => n * 256 + b.toNat) 0
theorem num_snoc (l : List UInt8) (b : UInt8) : num (l ++ [b]) = num l * 256 + b.toNat := by simp [num]
theorem num_lt : ∀ (k : Nat) (l : List UInt8), l.length = k → num l < 256 ^ k
  | 0, l, h => by
    rw [List.length_eq_zero_iff.1 h]; decide
  | k + 1, l, h => by
    have hne : l ≠ [] := by intro e; rw [e] at h; simp at h
    have e := List.dropLast_concat_getLast hne
    have ih := num_lt k l.dropLast (by simp [h])
    rw [← e, num_snoc, Nat.pow_succ]
    have := (l.getLast hne).toNat_lt
    omega

/-- A byte more, one place ahead of the last: the next byte of a number. -/
theorem set_zero (z j : Nat) (l : List UInt8) (b : UInt8) (hz : j < z) : (List.replicate (z - j) 0 ++ l).set (z - 1 - j) b = List.replicate (z - (j + 1)) 0 ++ b :: l := by
  have e : z - j = (z - (j + 1)) + 1 := by omega
  have e2 : z - 1 - j = z - (j + 1) := by omega
  rw [e2, e, List.replicate_succ', List.append_assoc, List.set_append_right _ _ (by simp)]
  simp
theorem byte_shift (n j : Nat) : UInt8.ofNat ((n : Int) / 2 ^ (8 * j) % 256).toNat = UInt8.ofNat (n / 256 ^ j) := by
  have e : ((n : Int) / 2 ^ (8 * j) % 256) = ((n / 256 ^ j % 256 : Nat) : Int) := by
    have e2 : (2 : Int) ^ (8 * j) = 256 ^ j := by rw [Int.pow_mul]; rfl
    rw [e2]
    simp
  rw [e, Int.toNat_natCast]
  apply UInt8.toNat_inj.1
  simp
theorem shift_range (n j : Nat) : 0 ≤ (n : Int) / 2 ^ (8 * j) % 256 ∧ (n : Int) / 2 ^ (8 * j) % 256 < 256 := ⟨Int.emod_nonneg _ (by decide), Int.emod_lt_of_pos _ (by decide)⟩
theorem put_step {w : World} {g : Nat} {t : TypeId} {n k j : Nat} (hlt : j < k) (h : Row w g t (List.replicate (k - j) 0 ++ be j n)) :
    Row (w.setCell ⟨g, k - 1 - j, none⟩ (.int .u8 ((n : Int) / 2 ^ (8 * j) % 256))) g t (List.replicate (k - (j + 1)) 0 ++ be (j + 1) n) := by
  have := h.set_ (k - 1 - j) _ (shift_range n j).1 (shift_range n j).2
  rw [set_zero _ _ _ _ hlt, byte_shift] at this
  exact this
theorem put_cell {w : World} {g : Nat} {t : TypeId} {n k j : Nat} (hlt : j < k) (h : Row w g t (List.replicate (k - j) 0 ++ be j n)) :
    w.cell? ⟨g, k - 1 - j, none⟩ = some (.int .u8 0) :=
  h.cell _ 0 (by rw [List.getElem?_append_left (by simp; omega), List.getElem?_replicate, if_pos (by omega)])
theorem int_eq {k : IntKind} {a b : Int} (h : a = b) : Value.int k a = Value.int k b := by rw [h]
theorem u64_nat {x : Nat} (h : x < 2 ^ 64) : IntKind.u64.wrap (x : Int) = (x : Int) := IntWalk.u64_in _ ⟨by omega, by omega⟩
/-- The same by division, round by round. -/
theorem div_step (n j : Nat) : n / 256 ^ j / 256 = n / 256 ^ (j + 1) := by rw [Nat.div_div_eq_div_mul, Nat.pow_succ]
theorem quo_step {w : World} {g : Nat} {t : TypeId} {n k j m : Nat} (hm : m = n / 256 ^ j) (hlt : j < k) (h : Row w g t (List.replicate (k - j) 0 ++ be j n)) :
    Row (w.setCell ⟨g, k - 1 - j, none⟩ (.int .u8 ((m : Int) % 256))) g t (List.replicate (k - (j + 1)) 0 ++ be (j + 1) n) := by
  have := put_step hlt h
  have e : ((n : Int) / 2 ^ (8 * j) % 256) = ((m : Int) % 256) := by
    have e2 : (2 : Int) ^ (8 * j) = 256 ^ j := by rw [Int.pow_mul]; rfl
    rw [e2, hm]; simp
  rw [e] at this
  exact this

/-! ### A block that is filled from its front -/
section
variable {w : World} {g : Nat} {t : TypeId} {l : List UInt8} {n j : Nat}
theorem fill_cell (h : Row w g t (l.take j ++ List.replicate (n - j) 0)) (hl : l.length = n) (hlt : j < n) : w.cell? ⟨g, j, none⟩ = some (.int .u8 0) :=
  h.cell j 0 (by rw [List.getElem?_append_right (by simp; omega), List.length_take, hl, Nat.min_eq_left (by omega), Nat.sub_self, List.getElem?_replicate, if_pos (by omega)])
theorem fill_step (h : Row w g t (l.take j ++ List.replicate (n - j) 0)) (hl : l.length = n) (hlt : j < n) (x : Int) (b : UInt8) (hb : l[j]? = some b) (hx : x = (b.toNat : Int)) :
    Row (w.setCell ⟨g, j, none⟩ (.int .u8 x)) g t (l.take (j + 1) ++ List.replicate (n - (j + 1)) 0) := by
  have hb2 := b.toNat_lt
  have := h.set_ j x (by omega) (by omega)
  have e : (l.take j ++ List.replicate (n - j) 0).set j (UInt8.ofNat x.toNat) = l.take (j + 1) ++ List.replicate (n - (j + 1)) 0 := by
    have e1 : UInt8.ofNat x.toNat = b := by rw [hx]; simp
    have e2 : n - j = (n - (j + 1)) + 1 := by omega
    have hj : j < l.length := by omega
    have e3 : l.take (j + 1) = l.take j ++ [b] := by
      rw [List.take_succ_eq_append_getElem hj]
      rw [List.getElem?_eq_getElem hj] at hb
      simp at hb
      rw [hb]
    rw [e1, e3, List.set_append_right _ _ (by simp; omega), List.length_take, Nat.min_eq_left (by omega), Nat.sub_self, e2, List.replicate_succ]
    simp
  rw [e] at this
  exact this
theorem fill_done (h : Row w g t (l.take n ++ List.replicate (n - n) 0)) (hl : l.length = n) : Row w g t l := by
  rw [List.take_of_length_le (by omega)] at h
  simpa using h
end
theorem byte_at (s : ByteArray) (j : Nat) (h : j < s.size) : s.data.toList[j]? = some s[j] := by
  have hl : j < s.data.toList.length := by rw [Array.length_toList]; exact h
  rw [List.getElem?_eq_getElem hl]
  rfl
theorem size_list (s : ByteArray) : s.data.toList.length = s.size := by rw [Array.length_toList]; rfl
end Go.Proofs.YtobhbppogeghnaaGreatDoor
end

section
namespace Go.Proofs.YtobhbppogeghnaaGreatDoor
open Go.RowKit

/-- By how many places to the right. -/
def places (b : Int) : Nat := (b % 32).toNat
theorem places_lt (b : Int) : places b < 32 := by unfold places; omega
theorem places_u64 (b : Int) : (IntKind.u64.wrap b).tmod 32 = (places b : Int) := by
  rw [IntKind.wrap_u64, Int.tmod_eq_emod_of_nonneg (by omega)]; unfold places; omega
theorem tmod_range (b : Int) : -32 < b.tmod 32 ∧ b.tmod 32 < 32 ∧ b.tmod 32 % 32 = b % 32 := by
  have e := Int.tmod_def b 32
  rcases Int.le_total 0 b with h | h
  · rw [Int.tmod_eq_emod_of_nonneg h]; omega
  · have e2 : b = - (- b) := by omega
    rw [e2, Int.neg_tmod, Int.tmod_eq_emod_of_nonneg (by omega)]; omega
theorem places_i64 (b : Int) : (wrap64 (b.tmod 32 + 32)).tmod 32 = (places b : Int) := by
  obtain ⟨h1, h2, h3⟩ := tmod_range b
  have e : wrap64 (b.tmod 32 + 32) = b.tmod 32 + 32 := IntWalk.wrap64_in _ ⟨by omega, by omega⟩
  rw [e, Int.tmod_eq_emod_of_nonneg (by omega)]
  unfold places; omega

/-- n turned by r places to the right. -/
def rot (n r : Nat) : Nat := n / 2 ^ r ||| n * 2 ^ (32 - r) % 4294967296
/-- The same, bit by bit. -/
def acc (n r : Nat) : Nat → Nat
  | 0 => 0
  | j + 1 => if n.testBit j then acc n r j ||| 2 ^ ((j + 32 - r) % 32) else acc n r j
theorem high_bit {n p : Nat} (hn : n < 4294967296) (hp : 32 ≤ p) : n.testBit p = false :=
  Nat.testBit_lt_two_pow (Nat.lt_of_lt_of_le hn (show 2 ^ 32 ≤ 2 ^ p from Nat.pow_le_pow_right (by decide) hp))
theorem bit_acc (n r : Nat) (hr : r < 32) (p : Nat) : ∀ j, j ≤ 32 → (acc n r j).testBit p = (decide (p < 32) && decide ((p + r) % 32 < j) && n.testBit ((p + r) % 32))
  | 0, _ => by simp [acc]
  | j + 1, h => by
    have ih := bit_acc n r hr p j (by omega)
    unfold acc
    have key : (j + 32 - r) % 32 = p ↔ p < 32 ∧ (p + r) % 32 = j := by omega
    have step : (p + r) % 32 < j + 1 ↔ (p + r) % 32 < j ∨ (p + r) % 32 = j := by omega
    by_cases ht : n.testBit j = true
    · rw [if_pos ht, Nat.testBit_or, ih, Nat.testBit_two_pow]
      by_cases h1 : p < 32
      · by_cases h2 : (p + r) % 32 = j
        · have : (j + 32 - r) % 32 = p := key.2 ⟨h1, h2⟩
          simp [this, h1, h2, ht]
        · have : ¬ (j + 32 - r) % 32 = p := fun e => h2 (key.1 e).2
          simp [this, h1, h2, step]
      · have : ¬ (j + 32 - r) % 32 = p := fun e => h1 (key.1 e).1
        simp [this, h1]
    · rw [if_neg ht, ih]
      by_cases h2 : (p + r) % 32 = j
      · simp [h2, ht]
      · simp [h2, step]
theorem bit_rot (n r : Nat) (hn : n < 4294967296) (hr : r < 32) (p : Nat) : (rot n r).testBit p = (decide (p < 32) && n.testBit ((p + r) % 32)) := by
  have e : (4294967296 : Nat) = 2 ^ 32 := by decide
  unfold rot
  rw [Nat.testBit_or, Nat.testBit_div_two_pow, e, Nat.testBit_mod_two_pow, Nat.testBit_mul_two_pow]
  by_cases h1 : p < 32
  · by_cases h2 : p + r < 32
    · have : ¬ 32 - r ≤ p := by omega
      simp [h1, this, Nat.mod_eq_of_lt h2]
    · have h3 : 32 - r ≤ p := by omega
      have h4 : (p + r) % 32 = p - (32 - r) := by omega
      simp [h1, h3, h4, high_bit hn (show 32 ≤ p + r by omega)]
  · simp [h1, high_bit hn (show 32 ≤ p + r by omega)]
theorem acc_rot (n r : Nat) (hn : n < 4294967296) (hr : r < 32) : acc n r 32 = rot n r := by
  apply Nat.eq_of_testBit_eq
  intro p
  rw [bit_acc n r hr p 32 (Nat.le_refl _), bit_rot n r hn hr p]
  have : (p + r) % 32 < 32 := by omega
  simp [this]
theorem rot_lt (n r : Nat) (hn : n < 4294967296) : rot n r < 4294967296 := by
  unfold rot
  exact Nat.or_lt_two_pow (n := 32) (Nat.lt_of_le_of_lt (Nat.div_le_self _ _) hn) (Nat.mod_lt _ (by decide))
theorem acc_lt (n r : Nat) : ∀ j, acc n r j < 4294967296
  | 0 => by unfold acc; omega
  | j + 1 => by
    unfold acc
    have ih := acc_lt n r j
    split
    · exact Nat.or_lt_two_pow (n := 32) ih (Nat.pow_lt_pow_right (by decide) (by omega))
    · exact ih

theorem turn_val (n r : Nat) (hn : n < 4294967296) : bits BinOp.or IntKind.u32 ((n : Int) / 2 ^ r) ((n : Int) * 2 ^ (32 - r) % 4294967296) = (rot n r : Int) := by
  have e1 : (n : Int) / 2 ^ r = ((n / 2 ^ r : Nat) : Int) := by simp
  have e2 : (n : Int) * 2 ^ (32 - r) % 4294967296 = ((n * 2 ^ (32 - r) % 4294967296 : Nat) : Int) := by simp
  rw [e1, e2, u32_or_nat _ _ (Nat.lt_of_le_of_lt (Nat.div_le_self _ _) hn) (Nat.mod_lt _ (by decide))]
  rfl
theorem bit_test (n j : Nat) (hn : n < 4294967296) : (bits BinOp.and IntKind.u32 ((n : Int) / 2 ^ j) 1 == 1) = n.testBit j := by
  have e1 : (n : Int) / 2 ^ j = ((n / 2 ^ j : Nat) : Int) := by simp
  have e2 := u32_and_nat (n / 2 ^ j) 1 (Nat.lt_of_le_of_lt (Nat.div_le_self _ _) hn) (by decide)
  rw [e1]
  have e3 : (1 : Int) = ((1 : Nat) : Int) := rfl
  rw [e3, e2, Nat.and_one_is_mod, Nat.testBit_eq_decide_div_mod_eq]
  by_cases h : n / 2 ^ j % 2 = 1
  · simp [h]
  · have : n / 2 ^ j % 2 = 0 := by omega
    simp [this]
theorem or_val (n r j : Nat) (hr : r < 32) (hj : j < 32) (ht : n.testBit j = true) :
    bits BinOp.or IntKind.u32 ((acc n r j : Nat) : Int) (2 ^ (((j : Int) - (r : Int)) % 32).toNat % 4294967296) = ((acc n r (j + 1) : Nat) : Int) := by
  have e : (((j : Int) - (r : Int)) % 32).toNat = (j + 32 - r) % 32 := by omega
  rw [e]
  have hp : 2 ^ ((j + 32 - r) % 32) < 4294967296 := Nat.pow_lt_pow_right (n := 32) (by decide) (by omega)
  have e2 : (2 : Int) ^ ((j + 32 - r) % 32) % 4294967296 = ((2 ^ ((j + 32 - r) % 32) : Nat) : Int) := by
    have : (2 : Int) ^ ((j + 32 - r) % 32) = ((2 ^ ((j + 32 - r) % 32) : Nat) : Int) := by simp
    rw [this]
    generalize 2 ^ ((j + 32 - r) % 32) = y at hp
    omega
  rw [e2, u32_or_nat _ _ (acc_lt n r j) hp]
  conv => rhs; unfold acc
  rw [if_pos ht]

theorem turn_any (n : Nat) (hn : n < 4294967296) (b : Int) (w : World) :
    Calls Tryz.prog 198 #[.int .u32 (n : Int), .int .i64 b] w fun e w' => e = .returned (.int .u32 (rot n (places b) : Int)) ∧ w = w' := by
  have hb := places_u64 b
  have hr := places_lt b
  obtain ⟨r, hr'⟩ : ∃ r, r = places b := ⟨_, rfl⟩
  rw [← hr'] at hb hr ⊢
  clear hr'
  have hs : IntKind.u64.wrap (32 - (r : Int)) = ((32 - r : Nat) : Int) := by
    have := u64_nat (x := 32 - r) (by omega)
    rw [← this]; congr 1; omega
  go_enter Tryz.func198, Tryz.ntmps198
  go_wp2
  go_ret
  exact ⟨congrArg Ending.returned (int_eq (turn_val n r hn)), rfl⟩
end Go.Proofs.YtobhbppogeghnaaGreatDoor
end

section
namespace Go.Proofs.YtobhbppogeghnaaGreatDoor
open Go.RowKit

/-! ### Numbers of 32 bits -/
def sg0 (x : Nat) : Nat := (rot x 7 ^^^ rot x 18) ^^^ x / 8
def sg1 (x : Nat) : Nat := (rot x 17 ^^^ rot x 19) ^^^ x / 1024
def sum0 (x : Nat) : Nat := (rot x 2 ^^^ rot x 13) ^^^ rot x 22
def sum1 (x : Nat) : Nat := (rot x 6 ^^^ rot x 11) ^^^ rot x 25
def chs (e f g : Nat) : Nat := (e &&& f) ^^^ ((4294967295 - e) &&& g)
def maj (a b c : Nat) : Nat := ((a &&& b) ^^^ (a &&& c)) ^^^ (b &&& c)
theorem xor_lt32 {a b : Nat} (ha : a < 4294967296) (hb : b < 4294967296) : a ^^^ b < 4294967296 := Nat.xor_lt_two_pow (n := 32) ha hb
theorem and_lt32 {a b : Nat} (ha : a < 4294967296) : a &&& b < 4294967296 := Nat.lt_of_le_of_lt Nat.and_le_left ha
theorem xor32 (a b : Nat) (ha : a < 4294967296) (hb : b < 4294967296) : bits BinOp.xor IntKind.u32 (a : Int) (b : Int) = ((a ^^^ b : Nat) : Int) := u32_xor_nat a b ha hb
theorem sg1_int (x : Nat) (h : x < 4294967296) : bits BinOp.xor IntKind.u32 (bits BinOp.xor IntKind.u32 (rot x (places 17) : Int) (rot x (places 19) : Int)) ((x : Int) / 1024) = ((sg1 x : Nat) : Int) := by
  have e : (x : Int) / 1024 = ((x / 1024 : Nat) : Int) := by simp
  rw [xor32 _ _ (rot_lt _ _ h) (rot_lt _ _ h), e, xor32 _ _ (xor_lt32 (rot_lt _ _ h) (rot_lt _ _ h)) (by omega)]
  rfl
theorem sg0_int (x : Nat) (h : x < 4294967296) : bits BinOp.xor IntKind.u32 (bits BinOp.xor IntKind.u32 (rot x (places 7) : Int) (rot x (places 18) : Int)) ((x : Int) / 8) = ((sg0 x : Nat) : Int) := by
  have e : (x : Int) / 8 = ((x / 8 : Nat) : Int) := by simp
  rw [xor32 _ _ (rot_lt _ _ h) (rot_lt _ _ h), e, xor32 _ _ (xor_lt32 (rot_lt _ _ h) (rot_lt _ _ h)) (by omega)]
  rfl

theorem sum1_int (x : Nat) (h : x < 4294967296) : bits BinOp.xor IntKind.u32 (bits BinOp.xor IntKind.u32 (rot x (places 6) : Int) (rot x (places 11) : Int)) (rot x (places 25) : Int) = ((sum1 x : Nat) : Int) := by
  rw [xor32 _ _ (rot_lt _ _ h) (rot_lt _ _ h), xor32 _ _ (xor_lt32 (rot_lt _ _ h) (rot_lt _ _ h)) (rot_lt _ _ h)]
  rfl
theorem sum0_int (x : Nat) (h : x < 4294967296) : bits BinOp.xor IntKind.u32 (bits BinOp.xor IntKind.u32 (rot x (places 2) : Int) (rot x (places 13) : Int)) (rot x (places 22) : Int) = ((sum0 x : Nat) : Int) := by
  rw [xor32 _ _ (rot_lt _ _ h) (rot_lt _ _ h), xor32 _ _ (xor_lt32 (rot_lt _ _ h) (rot_lt _ _ h)) (rot_lt _ _ h)]
  rfl
theorem not32 (e : Nat) (h : e < 4294967296) : 4294967295 ^^^ e = 4294967295 - e := by
  apply Nat.eq_of_testBit_eq
  intro i
  have e1 : 4294967295 - e = 2 ^ 32 - (e + 1) := by omega
  have e2 : (4294967295 : Nat) = 2 ^ 32 - (0 + 1) := by decide
  rw [e1, Nat.testBit_two_pow_sub_succ (by omega), e2, Nat.testBit_xor, Nat.testBit_two_pow_sub_succ (by decide)]
  by_cases hi : i < 32
  · simp [hi]
  · simp [hi, high_bit h (show 32 ≤ i by omega)]
theorem chs_int (e f g : Nat) (he : e < 4294967296) (hf : f < 4294967296) (hg : g < 4294967296) :
    bits BinOp.xor IntKind.u32 (bits BinOp.and IntKind.u32 (e : Int) (f : Int)) (bits BinOp.and IntKind.u32 (bits BinOp.xor IntKind.u32 (if IntKind.u32.signed = true then -1 else IntKind.u32.max) (e : Int)) (g : Int)) = ((chs e f g : Nat) : Int) := by
  have e1 : (if IntKind.u32.signed = true then -1 else IntKind.u32.max) = ((4294967295 : Nat) : Int) := rfl
  rw [e1, xor32 _ _ (by decide) he, not32 e he, u32_and_nat _ _ he hf, u32_and_nat _ _ (by omega) hg, xor32 _ _ (and_lt32 he) (and_lt32 (by omega))]
  rfl
theorem maj_int (a b c : Nat) (ha : a < 4294967296) (hb : b < 4294967296) (hc : c < 4294967296) :
    bits BinOp.xor IntKind.u32 (bits BinOp.xor IntKind.u32 (bits BinOp.and IntKind.u32 (a : Int) (b : Int)) (bits BinOp.and IntKind.u32 (a : Int) (c : Int))) (bits BinOp.and IntKind.u32 (b : Int) (c : Int)) = ((maj a b c : Nat) : Int) := by
  rw [u32_and_nat _ _ ha hb, u32_and_nat _ _ ha hc, u32_and_nat _ _ hb hc, xor32 _ _ (and_lt32 ha) (and_lt32 ha), xor32 _ _ (xor_lt32 (and_lt32 ha) (and_lt32 ha)) (and_lt32 hb)]
  rfl

/-! ### The words of a block -/
def wnext (ws : List Nat) (t : Nat) : Nat := (sg1 (ws.getD (t - 2) 0) + ws.getD (t - 7) 0 + sg0 (ws.getD (t - 15) 0) + ws.getD (t - 16) 0) % 4294967296
theorem wrap_add (a b : Nat) : IntKind.u32.wrap ((a : Int) + (b : Int)) = (((a + b) % 4294967296 : Nat) : Int) := by rw [IntKind.wrap_u32]; omega
theorem wnext_int (ws : List Nat) (t a b c d : Nat) (ha : a = ws.getD (t - 2) 0) (hb : b = ws.getD (t - 7) 0) (hc : c = ws.getD (t - 15) 0) (hd : d = ws.getD (t - 16) 0) :
    ((sg1 a : Int) + (b : Int) + (sg0 c : Int) + (d : Int)) % 4294967296 = ((wnext ws t : Nat) : Int) := by
  subst ha hb hc hd
  unfold wnext
  omega
theorem wnext_wrap (ws : List Nat) (t a b c d : Nat) (ha : a = ws.getD (t - 2) 0) (hb : b = ws.getD (t - 7) 0) (hc : c = ws.getD (t - 15) 0) (hd : d = ws.getD (t - 16) 0) :
    IntKind.u32.wrap (IntKind.u32.wrap (IntKind.u32.wrap ((sg1 a : Int) + (b : Int)) + (sg0 c : Int)) + (d : Int)) = ((wnext ws t : Nat) : Int) := by
  subst ha hb hc hd
  rw [wrap_add, wrap_add, wrap_add]
  unfold wnext
  congr 1
  omega
def wat (l : List UInt8) (t : Nat) : Nat := num ((l.drop (4 * t)).take 4)
/-- The first t words. -/
def ws (l : List UInt8) : Nat → List Nat
  | 0 => []
  | t + 1 => ws l t ++ [if t < 16 then wat l t else wnext (ws l t) t]
theorem ws_length (l : List UInt8) : ∀ t, (ws l t).length = t
  | 0 => rfl
  | t + 1 => by simp [ws, ws_length l t]
theorem num_lt' {l : List UInt8} {n : Nat} (h : l.length ≤ n) : num l < 256 ^ n := Nat.lt_of_lt_of_le (num_lt l.length l rfl) (Nat.pow_le_pow_right (by decide) h)
theorem wat_lt (l : List UInt8) (t : Nat) : wat l t < 4294967296 := num_lt' (n := 4) (by simp [List.length_take]; omega)
theorem ws_lt (l : List UInt8) : ∀ t x, x ∈ ws l t → x < 4294967296
  | 0, x, h => by simp [ws] at h
  | t + 1, x, h => by
    simp only [ws, List.mem_append, List.mem_singleton] at h
    rcases h with h | h
    · exact ws_lt l t x h
    · rw [h]
      by_cases h2 : t < 16
      · rw [if_pos h2]; exact wat_lt l t
      · rw [if_neg h2]; exact Nat.mod_lt _ (by decide)
theorem getD_lt {l : List Nat} (h : ∀ x, x ∈ l → x < 4294967296) (i : Nat) : l.getD i 0 < 4294967296 := by
  rw [List.getD_eq_getElem?_getD]
  rcases hx : l[i]? with _ | x
  · simp
  · exact h x (List.mem_of_getElem? hx)

/-! ### The state -/
structure St where
  a : Nat
  b : Nat
  c : Nat
  d : Nat
  e : Nat
  f : Nat
  g : Nat
  h : Nat
def St.list (s : St) : List Nat := [s.a, s.b, s.c, s.d, s.e, s.f, s.g, s.h]
structure St.Ok (s : St) : Prop where
  a : s.a < 4294967296
  b : s.b < 4294967296
  c : s.c < 4294967296
  d : s.d < 4294967296
  e : s.e < 4294967296
  f : s.f < 4294967296
  g : s.g < 4294967296
  h : s.h < 4294967296
def Kc : List Nat := [
  0x428a2f98, 0x71374491, 0xb5c0fbcf, 0xe9b5dba5, 0x3956c25b, 0x59f111f1, 0x923f82a4, 0xab1c5ed5,
  0xd807aa98, 0x12835b01, 0x243185be, 0x550c7dc3, 0x72be5d74, 0x80deb1fe, 0x9bdc06a7, 0xc19bf174,
  0xe49b69c1, 0xefbe4786, 0x0fc19dc6, 0x240ca1cc, 0x2de92c6f, 0x4a7484aa, 0x5cb0a9dc, 0x76f988da,
  0x983e5152, 0xa831c66d, 0xb00327c8, 0xbf597fc7, 0xc6e00bf3, 0xd5a79147, 0x06ca6351, 0x14292967,
  0x27b70a85, 0x2e1b2138, 0x4d2c6dfc, 0x53380d13, 0x650a7354, 0x766a0abb, 0x81c2c92e, 0x92722c85,
  0xa2bfe8a1, 0xa81a664b, 0xc24b8b70, 0xc76c51a3, 0xd192e819, 0xd6990624, 0xf40e3585, 0x106aa070,
  0x19a4c116, 0x1e376c08, 0x2748774c, 0x34b0bcb5, 0x391c0cb3, 0x4ed8aa4a, 0x5b9cca4f, 0x682e6ff3,
  0x748f82ee, 0x78a5636f, 0x84c87814, 0x8cc70208, 0x90befffa, 0xa4506ceb, 0xbef9a3f7, 0xc67178f2]
theorem Kc_length : Kc.length = 64 := rfl
def init : St := ⟨0x6a09e667, 0xbb67ae85, 0x3c6ef372, 0xa54ff53a, 0x510e527f, 0x9b05688c, 0x1f83d9ab, 0x5be0cd19⟩
theorem init_ok : init.Ok := by constructor <;> decide
def xv (s : St) (k w : Nat) : Nat := (s.h + sum1 s.e + chs s.e s.f s.g + k + w) % 4294967296
def yv (s : St) : Nat := (sum0 s.a + maj s.a s.b s.c) % 4294967296
def rnd (s : St) (k w : Nat) : St := ⟨(xv s k w + yv s) % 4294967296, s.a, s.b, s.c, (s.d + xv s k w) % 4294967296, s.e, s.f, s.g⟩
theorem rnd_a (s : St) (ok : s.Ok) (k x : Nat) : (((s.h : Int) + (sum1 s.e : Int) + bits BinOp.xor IntKind.u32 (bits BinOp.and IntKind.u32 (s.e : Int) (s.f : Int)) (bits BinOp.and IntKind.u32 (bits BinOp.xor IntKind.u32 (if IntKind.u32.signed = true then -1 else IntKind.u32.max) (s.e : Int)) (s.g : Int)) + (k : Int) + (x : Int)) % 4294967296 +
    ((sum0 s.a : Int) + bits BinOp.xor IntKind.u32 (bits BinOp.xor IntKind.u32 (bits BinOp.and IntKind.u32 (s.a : Int) (s.b : Int)) (bits BinOp.and IntKind.u32 (s.a : Int) (s.c : Int))) (bits BinOp.and IntKind.u32 (s.b : Int) (s.c : Int))) % 4294967296) % 4294967296 = (((rnd s k x).a : Nat) : Int) := by
  rw [chs_int _ _ _ ok.e ok.f ok.g, maj_int _ _ _ ok.a ok.b ok.c]
  simp only [rnd, xv, yv]
  omega
theorem rnd_e (s : St) (ok : s.Ok) (k x : Nat) : ((s.d : Int) + ((s.h : Int) + (sum1 s.e : Int) + bits BinOp.xor IntKind.u32 (bits BinOp.and IntKind.u32 (s.e : Int) (s.f : Int)) (bits BinOp.and IntKind.u32 (bits BinOp.xor IntKind.u32 (if IntKind.u32.signed = true then -1 else IntKind.u32.max) (s.e : Int)) (s.g : Int)) + (k : Int) + (x : Int)) % 4294967296) % 4294967296 = (((rnd s k x).e : Nat) : Int) := by
  rw [chs_int _ _ _ ok.e ok.f ok.g]
  simp only [rnd, xv]
  omega
def rnds (w : List Nat) (s : St) : Nat → St
  | 0 => s
  | t + 1 => rnd (rnds w s t) (Kc.getD t 0) (w.getD t 0)
def plus (s t : St) : St := ⟨(s.a + t.a) % 4294967296, (s.b + t.b) % 4294967296, (s.c + t.c) % 4294967296, (s.d + t.d) % 4294967296,
  (s.e + t.e) % 4294967296, (s.f + t.f) % 4294967296, (s.g + t.g) % 4294967296, (s.h + t.h) % 4294967296⟩
theorem rnd_ok {s : St} (h : s.Ok) (k w : Nat) : (rnd s k w).Ok :=
  ⟨Nat.mod_lt _ (by decide), h.a, h.b, h.c, Nat.mod_lt _ (by decide), h.e, h.f, h.g⟩
theorem rnds_ok {s : St} (h : s.Ok) (w : List Nat) : ∀ t, (rnds w s t).Ok
  | 0 => h
  | t + 1 => rnd_ok (rnds_ok h w t) _ _
theorem plus_ok (s t : St) : (plus s t).Ok := by constructor <;> exact Nat.mod_lt _ (by decide)
/-- The state behind a block. -/
def stp (l : List UInt8) (s : St) : St := plus s (rnds (ws l 64) s 64)
theorem stp_ok (l : List UInt8) (s : St) : (stp l s).Ok := plus_ok _ _
theorem stp_eq (l : List UInt8) (s s2 : St) (h : s2 = rnds (ws l 64) s 64) : stp l s = plus s s2 := by unfold stp; rw [h]
attribute [irreducible] stp

/-! ### Blocks behind one another -/
section
variable {σ : Type} (F : List UInt8 → σ → σ)
def foldsG : Nat → List UInt8 → σ → σ
  | 0, _, s => s
  | n + 1, l, s => foldsG n (l.drop 64) (F (l.take 64) s)
theorem foldsG_ok {p : σ → Prop} (hF : ∀ l s, p (F l s)) : ∀ (n : Nat) (l : List UInt8) (s : σ), p s → p (foldsG F n l s)
  | 0, _, _, h => h
  | n + 1, _, _, _ => foldsG_ok hF n _ _ (hF _ _)
theorem foldsG_add : ∀ (m n : Nat) (l : List UInt8) (s : σ), foldsG F (m + n) l s = foldsG F n (l.drop (64 * m)) (foldsG F m l s)
  | 0, n, l, s => by simp [foldsG]
  | m + 1, n, l, s => by
    have e : m + 1 + n = (m + n) + 1 := by omega
    rw [e, foldsG, foldsG_add m n, foldsG, List.drop_drop]
    congr 2; omega
theorem foldsG_append : ∀ (n : Nat) (l r : List UInt8) (s : σ), 64 * n ≤ l.length → foldsG F n (l ++ r) s = foldsG F n l s
  | 0, _, _, _, _ => rfl
  | n + 1, l, r, s, h => by
    rw [foldsG, foldsG, List.drop_append_of_le_length (by omega), List.take_append_of_le_length (by omega), foldsG_append n _ _ _ (by simp; omega)]
end
def folds (n : Nat) (l : List UInt8) (s : St) : St := foldsG stp n l s
theorem folds_zero (l : List UInt8) (s : St) : folds 0 l s = s := by rw [folds, foldsG]
theorem folds_succ (n : Nat) (l : List UInt8) (s : St) : folds (n + 1) l s = folds n (l.drop 64) (stp (l.take 64) s) := by rw [folds, folds, foldsG]
theorem folds_ok (n : Nat) (l : List UInt8) {s : St} (h : s.Ok) : (folds n l s).Ok := foldsG_ok stp (p := St.Ok) stp_ok n l s h
theorem folds_add (m n : Nat) (l : List UInt8) (s : St) : folds (m + n) l s = folds n (l.drop (64 * m)) (folds m l s) := foldsG_add stp m n l s
theorem folds_append (n : Nat) (l r : List UInt8) (s : St) (h : 64 * n ≤ l.length) : folds n (l ++ r) s = folds n l s := foldsG_append stp n l r s h
/-- How many bytes 0 the padded text has. -/
def zeros (n : Nat) : Nat := 63 - (n % 64 + 8) % 64
/-- What comes behind a text of n bytes. -/
def tailOf (n : Nat) : List UInt8 := 128 :: (List.replicate (zeros n) 0 ++ be 8 (8 * n))
theorem tailOf_length (n : Nat) : (tailOf n).length = zeros n + 9 := by simp [tailOf, be_length]
def txt (s : St) : List UInt8 := be 4 s.a ++ be 4 s.b ++ be 4 s.c ++ be 4 s.d ++ be 4 s.e ++ be 4 s.f ++ be 4 s.g ++ be 4 s.h
theorem txt_length (s : St) : (txt s).length = 32 := by simp [txt, be_length]
/-- The sum of a text. -/
def shaL (m : List UInt8) : List UInt8 := txt (folds ((m.length + zeros m.length + 9) / 64) (m ++ tailOf m.length) init)
theorem shaL_length (m : List UInt8) : (shaL m).length = 32 := txt_length _
theorem pad_whole (n : Nat) : (n + zeros n + 9) % 64 = 0 := by unfold zeros; omega

/-- What a Hash keeps of the bytes that came: the state of the whole blocks. -/
def stOf (m : List UInt8) : St := folds (m.length / 64) m init
theorem stOf_ok (m : List UInt8) : (stOf m).Ok := folds_ok _ _ init_ok
/-- What came behind the last whole block. -/
def restOf (m : List UInt8) : List UInt8 := m.drop (64 * (m.length / 64))
theorem restOf_length (m : List UInt8) : (restOf m).length = m.length % 64 := by simp [restOf]; omega
/-- The sum out of what is kept. -/
theorem shaL_kept (m : List UInt8) : shaL m = txt (folds ((m.length % 64 + zeros m.length + 9) / 64) (restOf m ++ tailOf m.length) (stOf m)) := by
  have e : (m.length + zeros m.length + 9) / 64 = m.length / 64 + (m.length % 64 + zeros m.length + 9) / 64 := by omega
  unfold shaL stOf restOf
  rw [e, folds_add, folds_append _ m _ _ (by omega), List.drop_append_of_le_length (by omega)]
/-- Blocks that come. -/
theorem stOf_append (m s : List UInt8) : stOf (m ++ s) = folds ((m.length % 64 + s.length) / 64) (restOf m ++ s) (stOf m) := by
  have e : (m ++ s).length / 64 = m.length / 64 + (m.length % 64 + s.length) / 64 := by rw [List.length_append]; omega
  unfold stOf restOf
  rw [e, folds_add, folds_append _ m _ _ (by omega), List.drop_append_of_le_length (by omega)]
theorem restOf_append (m s : List UInt8) : restOf (m ++ s) = (restOf m ++ s).drop (64 * ((m.length % 64 + s.length) / 64)) := by
  have e : (m ++ s).length / 64 = m.length / 64 + (m.length % 64 + s.length) / 64 := by rw [List.length_append]; omega
  unfold restOf
  rw [e, Nat.mul_add, ← List.drop_drop, List.drop_append_of_le_length (by omega)]
end Go.Proofs.YtobhbppogeghnaaGreatDoor
end

section
namespace Go.Proofs.YtobhbppogeghnaaGreatDoor
open Go.RowKit

theorem heap_lt {w : World} {g : Nat} {o : Obj} (h : w.heap[g]? = some o) : g < w.heap.size := by
  rcases Nat.lt_or_ge g w.heap.size with hlt | hge
  · exact hlt
  · rw [Array.getElem?_eq_none hge] at h; cases h
end Go.Proofs.YtobhbppogeghnaaGreatDoor
end
