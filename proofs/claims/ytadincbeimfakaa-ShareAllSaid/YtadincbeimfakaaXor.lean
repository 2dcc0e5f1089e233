/- Contracts: either or of two texts, by the program and by the document's answer; whether texts are the same. -/
import Derived.Test.YtadincbeimfakaaProg
import Derived.Test.YtadincbeimfakaaBytes
import Derived.Test.YtadincbeimfakaaMake
import Derived.WalkSpells
import Derived.Laws.BitsAllLaws
import Derived.RegionTactic
import Derived.ChangeAlike
import Derived.BigRegion
import Derived.Deep.QuietTactic
import Derived.BigQuiet
namespace Go.Proofs.Ytadincbeimfakaa
open Go.RowKit

/-- Either or of two texts, byte by byte, as far as the first goes. -/
def xorL (a b : List UInt8) : List UInt8 := List.zipWith (· ^^^ ·) a b

theorem xorL_length {a b : ByteArray} (h : a.size = b.size) : (xorL a.data.toList b.data.toList).length = a.size := by
  unfold xorL; rw [List.length_zipWith, size_list, size_list]; omega
theorem xorL_at {a b : ByteArray} {j : Nat} (h1 : j < a.size) (h2 : j < b.size) : (xorL a.data.toList b.data.toList)[j]? = some (a[j] ^^^ b[j]) := by
  unfold xorL; rw [List.getElem?_zipWith, byte_at a j h1, byte_at b j h2]
theorem xor_byte (x y : UInt8) : bits BinOp.xor IntKind.u8 (x.toNat : Int) (y.toNat : Int) = ((x ^^^ y).toNat : Int) := by
  rw [u8_xor_nat _ _ x.toNat_lt y.toNat_lt, UInt8.toNat_xor]
theorem or_is_sum (a b : Nat) (ha : a < 256) (hb : b < 256) : a ||| b = (a ^^^ b) + (a &&& b) := by
  let x := BitVec.ofNat 16 a
  let y := BitVec.ofNat 16 b
  have hx : x.toNat = a := Nat.mod_eq_of_lt (by omega)
  have hy : y.toNat = b := Nat.mod_eq_of_lt (by omega)
  have h0 : (x ^^^ y) &&& (x &&& y) = 0#16 := by
    apply BitVec.eq_of_getLsbD_eq
    intro i hi
    simp only [BitVec.getLsbD_and, BitVec.getLsbD_xor, BitVec.getLsbD_zero]
    cases x.getLsbD i <;> cases y.getLsbD i <;> rfl
  have h1 : (x ^^^ y) ||| (x &&& y) = x ||| y := by
    apply BitVec.eq_of_getLsbD_eq
    intro i hi
    simp only [BitVec.getLsbD_and, BitVec.getLsbD_xor, BitVec.getLsbD_or]
    cases x.getLsbD i <;> cases y.getLsbD i <;> rfl
  have h2 := BitVec.add_eq_or_of_and_eq_zero _ _ h0
  rw [h1] at h2
  have h3 := congrArg BitVec.toNat h2
  rw [BitVec.toNat_add, BitVec.toNat_and, BitVec.toNat_xor, BitVec.toNat_or, hx, hy] at h3
  have l1 : a ^^^ b < 2 ^ 8 := Nat.xor_lt_two_pow ha hb
  have l2 : a &&& b ≤ a := Nat.and_le_left
  omega
theorem or_sub_and (x y : UInt8) : (bits BinOp.or IntKind.u8 (x.toNat : Int) (y.toNat : Int) - bits BinOp.and IntKind.u8 (x.toNat : Int) (y.toNat : Int)) % 256 = ((x ^^^ y).toNat : Int) := by
  have hx := x.toNat_lt
  have hy := y.toNat_lt
  rw [u8_or_nat _ _ hx hy, u8_and_nat _ _ hx hy, UInt8.toNat_xor, or_is_sum _ _ hx hy]
  have l1 : x.toNat ^^^ y.toNat < 2 ^ 8 := Nat.xor_lt_two_pow hx hy
  omega

theorem xor_yes (a b : ByteArray) (hab : a.size = b.size) (ha : a.size ≤ 140737488351232) (w : World) :
    Calls Try.prog 27 #[.string a, .string b] w fun e w' => e = .returned (.tuple #[.string ⟨(xorL a.data.toList b.data.toList).toArray⟩, .bool true]) ∧ Ext w w' := by
  have hmk := make_bytes a.size (by omega)
  have hne : ((a.size : Int) != (b.size : Int)) = false := by rw [hab]; simp
  have Hab := Lib.hid hab; clear hab
  go_enter Try.func27, Try.ntmps27
  go_wp2
  go_loopw [18] (fun i wr => ∃ j : Nat, j ≤ a.size ∧ i = .int .i64 j ∧ Row wr w.heap.size 5 ((xorL a.data.toList b.data.toList).take j ++ List.replicate (a.size - j) 0) ∧ Ext w wr) (fun i _ => a.size - (intOf i).toNat)
  case atStart => exact ⟨0, Nat.zero_le _, rfl, by simpa using Row.made w 5 a.size, (Ext.refl w).alloc _⟩
  case round =>
    obtain ⟨j, hj, rfl, hrow, hext⟩ := hrel
    by_cases hlt : j < a.size
    · have hlt2 : j < b.size := by have := Hab.out; omega
      have hc := fill_cell hrow (xorL_length Hab.out) hlt
      have hf := hrow.frozen j
      go_wp2
      go_region
      go_wp2
      go_roundw
      case rel => exact ⟨j + 1, by omega, by go_num, (fill_step hrow (xorL_length Hab.out) hlt _ _ (xorL_at hlt hlt2) (xor_byte _ _)).drew, (hext.setCell (Nat.le_refl _) _).drew⟩
      case measure => simp [intOf]; omega
    · obtain rfl : j = a.size := by omega
      have ht := (fill_done hrow (xorL_length Hab.out)).text (P := Try.prog) 54 5 9 Try.underlying54 Try.underlying5 Try.underlying9 a.size a.size (xorL_length Hab.out)
      clear hrow
      go_wp2
      go_ret2
      exact ⟨rfl, hext⟩

theorem xor_no (a b : ByteArray) (hab : ¬ a.size = b.size) (w : World) :
    Calls Try.prog 27 #[.string a, .string b] w fun e w' => e = .returned (.tuple #[.string ⟨#[]⟩, .bool false]) ∧ Ext w w' := by
  have hne : ((a.size : Int) != (b.size : Int)) = true := by simp; omega
  go_enter Try.func27, Try.ntmps27
  go_wp2
  go_ret2
  exact ⟨rfl, Ext.refl _⟩

theorem rXor_yes (a b : ByteArray) (hab : a.size = b.size) (ha : a.size ≤ 140737488351232) (w : World) :
    Calls Try.prog 21 #[.string a, .string b] w fun e w' => e = .returned (.string ⟨(xorL a.data.toList b.data.toList).toArray⟩) ∧ Ext w w' := by
  have hmk := make_bytes a.size (by omega)
  have Hab := Lib.hid hab; clear hab
  go_enter Try.func21, Try.ntmps21
  go_wp2
  go_loopw [6] (fun i wr => ∃ j : Nat, j ≤ a.size ∧ i = .int .i64 j ∧ Row wr w.heap.size 5 ((xorL a.data.toList b.data.toList).take j ++ List.replicate (a.size - j) 0) ∧ Ext w wr) (fun i _ => a.size - (intOf i).toNat)
  case atStart => exact ⟨0, Nat.zero_le _, rfl, by simpa using Row.made w 5 a.size, (Ext.refl w).alloc _⟩
  case round =>
    obtain ⟨j, hj, rfl, hrow, hext⟩ := hrel
    by_cases hlt : j < a.size
    · have hlt2 : j < b.size := by have := Hab.out; omega
      have hc := fill_cell hrow (xorL_length Hab.out) hlt
      have hf := hrow.frozen j
      go_wp2
      go_region
      go_wp2
      go_roundw
      case rel => exact ⟨j + 1, by omega, by go_num, (fill_step hrow (xorL_length Hab.out) hlt _ _ (xorL_at hlt hlt2) (or_sub_and _ _)).drew, (hext.setCell (Nat.le_refl _) _).drew⟩
      case measure => simp [intOf]; omega
    · obtain rfl : j = a.size := by omega
      have ht := (fill_done hrow (xorL_length Hab.out)).text (P := Try.prog) 54 5 9 Try.underlying54 Try.underlying5 Try.underlying9 a.size a.size (xorL_length Hab.out)
      clear hrow
      go_wp2
      go_ret
      exact ⟨rfl, hext⟩

end Go.Proofs.Ytadincbeimfakaa
