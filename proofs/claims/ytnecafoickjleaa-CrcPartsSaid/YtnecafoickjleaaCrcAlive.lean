/- Contract: the document's example of layer 7, and some more. -/
import Derived.Test.YtnecafoickjleaaPCrc
namespace Go.Proofs.Ytnecafoickjleaa
open Go.RowKit

/-- A step, over numbers. -/
def hfn (c : Nat) : Nat := if c % 2 = 1 then (c / 2) ^^^ 3988292384 else c / 2
theorem hf_nat (c : BitVec 32) : (hf c).toNat = hfn c.toNat := by
  have hb : c.getLsbD 0 = decide (c.toNat % 2 = 1) := by
    show c.toNat.testBit 0 = _
    rw [Nat.testBit_zero]
  unfold hf hfn
  rw [BitVec.toNat_xor, half_nat, hb]
  by_cases h : c.toNat % 2 = 1
  · simp [h, crcPoly]
  · simp [h]
/-- Eight steps, over numbers; each one forced. -/
def hf8 (c : Nat) : Nat := hfn (hfn (hfn (hfn (hfn (hfn (hfn (hfn c)))))))
theorem hf8_nat (c : BitVec 32) : (hfN 8 c).toNat = hf8 c.toNat := by
  unfold hf8
  simp only [hfN, hf_nat]
def rown (c : Nat) : List Nat → Nat
  | [] => c
  | x :: r => rown (hf8 (c ^^^ x)) r
theorem rown_nat : ∀ (l : List UInt8) (c : BitVec 32), (rowC c l).toNat = rown c.toNat (l.map (·.toNat))
  | [], _ => rfl
  | x :: r, c => by
    show (rowC (fed c x) r).toNat = _
    rw [rown_nat r]
    unfold fed
    rw [hf8_nat, BitVec.toNat_xor, bt_nat]
    rfl
theorem moreC_nat (c : BitVec 32) (l : List UInt8) : (moreC c l).toNat = rown (c.toNat ^^^ 4294967295) (l.map (·.toNat)) ^^^ 4294967295 := by
  unfold moreC
  rw [BitVec.toNat_xor, rown_nat, BitVec.toNat_xor]
  rfl
theorem sum_digits : (moreC 0#32 [49, 50, 51, 52, 53, 54, 55, 56, 57]).toNat = 3421780262 := by
  rw [moreC_nat]
  decide +kernel
theorem al_digits (w : World) : Calls Try.prog 8 #[.string ⟨#[49, 50, 51, 52, 53, 54, 55, 56, 57]⟩] w fun e w' => e = .returned (.int .u32 3421780262) ∧ Ext w w' := by
  have h := sum_any ⟨#[49, 50, 51, 52, 53, 54, 55, 56, 57]⟩ (by decide) w
  rw [show (⟨#[49, 50, 51, 52, 53, 54, 55, 56, 57]⟩ : ByteArray).data.toList = [49, 50, 51, 52, 53, 54, 55, 56, 57] from rfl, sum_digits] at h
  exact h
theorem al_none (w : World) : Calls Try.prog 8 #[.string ⟨#[]⟩] w fun e w' => e = .returned (.int .u32 0) ∧ Ext w w' := by
  have h := sum_any ⟨#[]⟩ (by decide) w
  rw [show (⟨#[]⟩ : ByteArray).data.toList = [] from rfl, moreC_nil] at h
  exact h
theorem al_abc : joinC (moreC 0#32 [97]) (moreC 0#32 [98, 99]) 2 = moreC 0#32 [97, 98, 99] := join_sum [97] [98, 99]
theorem al_more : moreC (moreC 0#32 [97]) [98, 99] = moreC 0#32 [97, 98, 99] := moreC_append 0#32 [97] [98, 99]
set_option maxRecDepth 100000 in
theorem alive_any (w : World) : Calls Try.prog 7 #[] w fun e w' => e = .returned (.bool true) ∧ Ext w w' := by
  have HD := Lib.hid al_digits
  have HN := Lib.hid al_none
  have HA := Lib.hid (sum_any ⟨#[97]⟩ (by decide))
  have HB := Lib.hid (sum_any ⟨#[98, 99]⟩ (by decide))
  have HC := Lib.hid (sum_any ⟨#[97, 98, 99]⟩ (by decide))
  have HJ := Lib.hid (fun w => join_any (moreC 0#32 [97]) (moreC 0#32 [98, 99]) 2 (by decide) w)
  rw [al_abc] at HJ
  have HM := Lib.hid (fun w => more_any (moreC 0#32 [97]) ⟨#[98, 99]⟩ (by decide) w)
  rw [show (⟨#[98, 99]⟩ : ByteArray).data.toList = [98, 99] from rfl, al_more] at HM
  rw [show (⟨#[97]⟩ : ByteArray).data.toList = [97] from rfl] at HA
  rw [show (⟨#[98, 99]⟩ : ByteArray).data.toList = [98, 99] from rfl] at HB
  rw [show (⟨#[97, 98, 99]⟩ : ByteArray).data.toList = [97, 98, 99] from rfl] at HC
  rw [show ((2 : Nat) : Int) = 2 from rfl] at HJ
  generalize (moreC 0#32 [97]).toNat = a at *
  generalize (moreC 0#32 [98, 99]).toNat = b at *
  generalize (moreC 0#32 [97, 98, 99]).toNat = c at *
  go_enter Try.func7, Try.ntmps7
  have x0 := Ext.refl w
  go_wp2_with (first
    | (go_at_call 8; (with_reducible refine (HD.out _).mono ?_); rintro e w1 ⟨rfl, x1⟩; replace x0 := x0.trans x1; clear x1)
    | (go_at_call 8; (with_reducible refine (HN.out _).mono ?_); rintro e w1 ⟨rfl, x1⟩; replace x0 := x0.trans x1; clear x1)
    | (go_at_call 8; (with_reducible refine (HA.out _).mono ?_); rintro e w1 ⟨rfl, x1⟩; replace x0 := x0.trans x1; clear x1)
    | (go_at_call 8; (with_reducible refine (HB.out _).mono ?_); rintro e w1 ⟨rfl, x1⟩; replace x0 := x0.trans x1; clear x1)
    | (go_at_call 8; (with_reducible refine (HC.out _).mono ?_); rintro e w1 ⟨rfl, x1⟩; replace x0 := x0.trans x1; clear x1)
    | (go_at_call 12; (with_reducible refine (HJ.out _).mono ?_); rintro e w1 ⟨rfl, x1⟩; replace x0 := x0.trans x1; clear x1)
    | (go_at_call 10; (with_reducible refine (HM.out _).mono ?_); rintro e w1 ⟨rfl, x1⟩; replace x0 := x0.trans x1; clear x1))
  go_ret
  exact ⟨rfl, x0⟩
end Go.Proofs.Ytnecafoickjleaa
