/- Contracts: either or of two texts, by the program and by the document's answer; whether texts are the same. -/
import Derived.Test.YtciiooeblknnoaaDoorProg
import Derived.Test.YtciiooeblknnoaaDoorBytes
import Derived.Test.YtciiooeblknnoaaDoorPut
import Derived.WalkSpells
import Derived.Laws.BitsAllLaws
import Derived.RegionTactic
import Derived.ChangeAlike
import Derived.BigRegion
import Derived.Deep.QuietTactic
import Derived.BigQuiet
namespace Go.Proofs.YtciiooeblknnoaaDoor
open Go.RowKit

/-- Either or of two texts, byte by byte, as far as the first goes. -/
def xorL (a b : List UInt8) : List UInt8 := List.zipWith (· ^^^ ·) a b

theorem xorL_length {a b : ByteArray} (h : a.size = b.size) : (xorL a.data.toList b.data.toList).length = a.size := by
  unfold xorL; rw [List.length_zipWith, size_list, size_list]; omega
theorem xorL_at {a b : ByteArray} {j : Nat} (h1 : j < a.size) (h2 : j < b.size) : (xorL a.data.toList b.data.toList)[j]? = some (a[j] ^^^ b[j]) := by
  unfold xorL; rw [List.getElem?_zipWith, byte_at a j h1, byte_at b j h2]
theorem xor_byte (x y : UInt8) : bits BinOp.xor IntKind.u8 (x.toNat : Int) (y.toNat : Int) = ((x ^^^ y).toNat : Int) := by
  rw [u8_xor_nat _ _ x.toNat_lt y.toNat_lt, UInt8.toNat_xor]
theorem or_is_sum (a b : Nat) (ha : a < 256) (hb : b < 256) : a ||| b = (a ^^^ b) + (a &&& b) := by
  let x := BitVec.ofNat 16 a
  let y := BitVec.ofNat 16 b
  have hx : x.toNat = a := Nat.mod_eq_of_lt (by omega)
  have hy : y.toNat = b := Nat.mod_eq_of_lt (by omega)
  have h0 : (x ^^^ y) &&& (x &&& y) = 0#16 := by
    apply BitVec.eq_of_getLsbD_eq
    intro i hi
    simp only [BitVec.getLsbD_and, BitVec.getLsbD_xor, BitVec.getLsbD_zero]
    cases x.getLsbD i <;> cases y.getLsbD i <;> rfl
  have h1 : (x ^^^ y) ||| (x &&& y) = x ||| y := by
    apply BitVec.eq_of_getLsbD_eq
    intro i hi
    simp only [BitVec.getLsbD_and, BitVec.getLsbD_xor, BitVec.getLsbD_or]
    cases x.getLsbD i <;> cases y.getLsbD i <;> rfl
  have h2 := BitVec.add_eq_or_of_and_eq_zero _ _ h0
  rw [h1] at h2
  have h3 := congrArg BitVec.toNat h2
  rw [BitVec.toNat_add, BitVec.toNat_and, BitVec.toNat_xor, BitVec.toNat_or, hx, hy] at h3
  have l1 : a ^^^ b < 2 ^ 8 := Nat.xor_lt_two_pow ha hb
  have l2 : a &&& b ≤ a := Nat.and_le_left
  omega
theorem or_sub_and (x y : UInt8) : (bits BinOp.or IntKind.u8 (x.toNat : Int) (y.toNat : Int) - bits BinOp.and IntKind.u8 (x.toNat : Int) (y.toNat : Int)) % 256 = ((x ^^^ y).toNat : Int) := by
  have hx := x.toNat_lt
  have hy := y.toNat_lt
  rw [u8_or_nat _ _ hx hy, u8_and_nat _ _ hx hy, UInt8.toNat_xor, or_is_sum _ _ hx hy]
  have l1 : x.toNat ^^^ y.toNat < 2 ^ 8 := Nat.xor_lt_two_pow hx hy
  omega

theorem xor_yes (a b : ByteArray) (hab : a.size = b.size) (ha : a.size ≤ 140737488351232) (w : World) :
    Calls Tryd.prog 41 #[.string a, .string b] w fun e w' => e = .returned (.tuple #[.string ⟨(xorL a.data.toList b.data.toList).toArray⟩, .bool true]) ∧ Ext w w' := by
  have hmk := make_bytes a.size (by omega)
  have hne : ((a.size : Int) != (b.size : Int)) = false := by rw [hab]; simp
  have Hab := Lib.hid hab; clear hab
  go_enter Tryd.func41, Tryd.ntmps41
  go_wp2
  go_loopw [18] (fun i wr => ∃ j : Nat, j ≤ a.size ∧ i = .int .i64 j ∧ Row wr w.heap.size 5 ((xorL a.data.toList b.data.toList).take j ++ List.replicate (a.size - j) 0) ∧ Ext w wr) (fun i _ => a.size - (intOf i).toNat)
  case atStart => exact ⟨0, Nat.zero_le _, rfl, by simpa using Row.made w 5 a.size, (Ext.refl w).alloc _⟩
  case round =>
    obtain ⟨j, hj, rfl, hrow, hext⟩ := hrel
    by_cases hlt : j < a.size
    · have hlt2 : j < b.size := by have := Hab.out; omega
      have hc := fill_cell hrow (xorL_length Hab.out) hlt
      have hf := hrow.frozen j
      go_wp2
      go_region
      go_wp2
      go_roundw
      case rel => exact ⟨j + 1, by omega, by go_num, (fill_step hrow (xorL_length Hab.out) hlt _ _ (xorL_at hlt hlt2) (xor_byte _ _)).drew, (hext.setCell (Nat.le_refl _) _).drew⟩
      case measure => simp [intOf]; omega
    · obtain rfl : j = a.size := by omega
      have ht := (fill_done hrow (xorL_length Hab.out)).text (P := Tryd.prog) 29 5 9 Tryd.underlying29 Tryd.underlying5 Tryd.underlying9 a.size a.size (xorL_length Hab.out)
      clear hrow
      go_wp2
      go_ret2
      exact ⟨rfl, hext⟩

theorem xor_no (a b : ByteArray) (hab : ¬ a.size = b.size) (w : World) :
    Calls Tryd.prog 41 #[.string a, .string b] w fun e w' => e = .returned (.tuple #[.string ⟨#[]⟩, .bool false]) ∧ Ext w w' := by
  have hne : ((a.size : Int) != (b.size : Int)) = true := by simp; omega
  go_enter Tryd.func41, Tryd.ntmps41
  go_wp2
  go_ret2
  exact ⟨rfl, Ext.refl _⟩

theorem rXor_yes (a b : ByteArray) (hab : a.size = b.size) (ha : a.size ≤ 140737488351232) (w : World) :
    Calls Tryd.prog 28 #[.string a, .string b] w fun e w' => e = .returned (.string ⟨(xorL a.data.toList b.data.toList).toArray⟩) ∧ Ext w w' := by
  have hmk := make_bytes a.size (by omega)
  have Hab := Lib.hid hab; clear hab
  go_enter Tryd.func28, Tryd.ntmps28
  go_wp2
  go_loopw [6] (fun i wr => ∃ j : Nat, j ≤ a.size ∧ i = .int .i64 j ∧ Row wr w.heap.size 5 ((xorL a.data.toList b.data.toList).take j ++ List.replicate (a.size - j) 0) ∧ Ext w wr) (fun i _ => a.size - (intOf i).toNat)
  case atStart => exact ⟨0, Nat.zero_le _, rfl, by simpa using Row.made w 5 a.size, (Ext.refl w).alloc _⟩
  case round =>
    obtain ⟨j, hj, rfl, hrow, hext⟩ := hrel
    by_cases hlt : j < a.size
    · have hlt2 : j < b.size := by have := Hab.out; omega
      have hc := fill_cell hrow (xorL_length Hab.out) hlt
      have hf := hrow.frozen j
      go_wp2
      go_region
      go_wp2
      go_roundw
      case rel => exact ⟨j + 1, by omega, by go_num, (fill_step hrow (xorL_length Hab.out) hlt _ _ (xorL_at hlt hlt2) (or_sub_and _ _)).drew, (hext.setCell (Nat.le_refl _) _).drew⟩
      case measure => simp [intOf]; omega
    · obtain rfl : j = a.size := by omega
      have ht := (fill_done hrow (xorL_length Hab.out)).text (P := Tryd.prog) 29 5 9 Tryd.underlying29 Tryd.underlying5 Tryd.underlying9 a.size a.size (xorL_length Hab.out)
      clear hrow
      go_wp2
      go_ret
      exact ⟨rfl, hext⟩

/-! ### Equal -/
theorem sizes_of {a b : ByteArray} (h : a = b) : a.size = b.size := by rw [h]
theorem or_zero (x y : UInt8) : (x ||| y = 0) ↔ x = 0 ∧ y = 0 := by
  constructor
  · intro h
    have h2 := congrArg UInt8.toNat h
    rw [UInt8.toNat_or] at h2
    have l1 : x.toNat ≤ x.toNat ||| y.toNat := Nat.left_le_or
    have l2 : y.toNat ≤ x.toNat ||| y.toNat := Nat.right_le_or
    have z : (0 : UInt8).toNat = 0 := rfl
    exact ⟨UInt8.toNat_inj.1 (by omega), UInt8.toNat_inj.1 (by omega)⟩
  · rintro ⟨rfl, rfl⟩; rfl
theorem xor_zero (x y : UInt8) : (x ^^^ y = 0) ↔ x = y := by
  constructor
  · intro h
    have : x ^^^ y ^^^ y = y := by rw [h]; simp
    rwa [UInt8.xor_assoc, UInt8.xor_self, UInt8.xor_zero] at this
  · rintro rfl; simp
/-- What is unlike among the first j bytes, put together. -/
def unl (a b : List UInt8) : Nat → UInt8
  | 0 => 0
  | j + 1 => unl a b j ||| (a.getD j 0 ^^^ b.getD j 0)
theorem unl_zero (a b : List UInt8) : ∀ j, unl a b j = 0 ↔ ∀ i, i < j → a.getD i 0 = b.getD i 0
  | 0 => by simp [unl]
  | j + 1 => by
    rw [unl, or_zero, unl_zero a b j, xor_zero]
    constructor
    · rintro ⟨h1, h2⟩ i hi
      rcases Nat.lt_or_eq_of_le (Nat.le_of_lt_succ hi) with h | rfl
      · exact h1 i h
      · exact h2
    · exact fun h => ⟨fun i hi => h i (by omega), h j (by omega)⟩
theorem unl_same {a b : ByteArray} (hab : a.size = b.size) : unl a.data.toList b.data.toList a.size = 0 ↔ a = b := by
  rw [unl_zero]
  constructor
  · intro h
    have e : a.data.toList = b.data.toList := by
      apply List.ext_getElem (by rw [size_list, size_list, hab])
      intro i h1 h2
      have := h i (by rw [← size_list]; exact h1)
      rwa [List.getD_eq_getElem?_getD, List.getD_eq_getElem?_getD, List.getElem?_eq_getElem h1, List.getElem?_eq_getElem h2] at this
    cases a; cases b
    congr
    exact Array.toList_inj.1 e
  · rintro rfl i _; rfl
theorem getD_byte (a : ByteArray) (j : Nat) (h : j < a.size) : a.data.toList.getD j 0 = a[j] := by
  rw [List.getD_eq_getElem?_getD, byte_at a j h]; rfl
theorem unl_step {a b : ByteArray} {j : Nat} (h1 : j < a.size) (h2 : j < b.size) :
    bits BinOp.or IntKind.u8 ((unl a.data.toList b.data.toList j).toNat : Int) (bits BinOp.xor IntKind.u8 (a[j].toNat : Int) (b[j].toNat : Int)) = ((unl a.data.toList b.data.toList (j + 1)).toNat : Int) := by
  rw [xor_byte, u8_or_nat _ _ (UInt8.toNat_lt _) (UInt8.toNat_lt _), unl, getD_byte a j h1, getD_byte b j h2, UInt8.toNat_or]

theorem unl_test {a b : ByteArray} (hab : a.size = b.size) : (((unl a.data.toList b.data.toList a.size).toNat : Int) == 0) = decide (a = b) := by
  have h := unl_same hab
  by_cases e : a = b
  · rw [h.2 e]; simp [e]
  · have : unl a.data.toList b.data.toList a.size ≠ 0 := fun h0 => e (h.1 h0)
    have : (unl a.data.toList b.data.toList a.size).toNat ≠ 0 := fun h0 => this (UInt8.toNat_inj.1 h0)
    simp [e]; omega
theorem equal_like (a b : ByteArray) (hab : a.size = b.size) (ha : a.size ≤ 140737488351232) (w : World) :
    Calls Tryd.prog 21 #[.string a, .string b] w fun e w' => e = .returned (.bool (decide (a = b))) ∧ Ext w w' := by
  have hne : ((a.size : Int) != (b.size : Int)) = false := by rw [hab]; simp
  have Hab := Lib.hid hab; clear hab
  go_enter Tryd.func21, Tryd.ntmps21
  go_wp2
  go_loopw [5, 14] (fun u i wr => ∃ j : Nat, j ≤ a.size ∧ i = .int .i64 j ∧ u = .int .u8 ((unl a.data.toList b.data.toList j).toNat : Int) ∧ Ext w wr) (fun _ i _ => a.size - (intOf i).toNat)
  case atStart => exact ⟨0, Nat.zero_le _, rfl, rfl, Ext.refl w⟩
  case round =>
    obtain ⟨j, hj, rfl, rfl, hext⟩ := hrel
    by_cases hlt : j < a.size
    · have hlt2 : j < b.size := by have := Hab.out; omega
      have hval := unl_step hlt hlt2
      have Hval := Lib.hid hval; clear hval
      go_wp2
      go_region
      go_wp2
      go_roundw
      case rel => exact ⟨j + 1, by omega, by go_num, int_eq Hval.out, hext.drew⟩
      case measure => simp [intOf]; omega
    · obtain rfl : j = a.size := by omega
      have Hv := Lib.hid (unl_test Hab.out)
      generalize unl a.data.toList b.data.toList a.size = x at *
      go_wp2
      go_ret
      exact ⟨congrArg (fun t => Ending.returned (.bool t)) Hv.out, hext⟩
theorem equal_not (a b : ByteArray) (hab : ¬ a.size = b.size) (w : World) :
    Calls Tryd.prog 21 #[.string a, .string b] w fun e w' => e = .returned (.bool false) ∧ Ext w w' := by
  have hne : ((a.size : Int) != (b.size : Int)) = true := by simp; omega
  go_enter Tryd.func21, Tryd.ntmps21
  go_wp2
  go_ret
  exact ⟨rfl, Ext.refl _⟩
end Go.Proofs.YtciiooeblknnoaaDoor
