/- Contracts: a byte doubled, products, and bits of a byte turned, by the program. -/
import Derived.Test.YthglecfbcdikaaaRTimes
import Derived.Test.YthglecfbcdikaaaAesL
import Derived.Deep.QuietTactic
import Derived.BigQuiet
namespace Go.Proofs.Ythglecfbcdikaaa
open Go.RowKit

theorem dbl_int : ∀ a : Nat, a < 256 → bits BinOp.xor IntKind.u8 ((a : Int) * 2 % 256) ((a : Int) / 128 * 27) = ((xt a : Nat) : Int) := by decide +kernel
theorem double_any (a : Nat) (ha : a < 256) (w : World) :
    Calls Try.prog 46 #[.int .u8 (a : Int)] w fun e w' => e = .returned (.int .u8 (xt a : Nat)) ∧ w = w' := by
  have he := dbl_int a ha
  go_enter Try.func46, Try.ntmps46
  go_wp2
  go_ret
  exact ⟨rfl, rfl⟩
/-- A byte's bits turned by r places to the left. -/
def rlB (b r : Nat) : Nat := b * 2 ^ r % 256 ||| b / 2 ^ (8 - r)
theorem rlB_lt {b r : Nat} (hb : b < 256) : rlB b r < 256 := Nat.or_lt_two_pow (n := 8) (Nat.mod_lt _ (by decide)) (Nat.lt_of_le_of_lt (Nat.div_le_self _ _) hb)
theorem turned_any (b r : Nat) (hb : b < 256) (hr : r ≤ 8) (w : World) :
    Calls Try.prog 34 #[.int .u8 (b : Int), .int .i64 (r : Int)] w fun e w' => e = .returned (.int .u8 (rlB b r : Nat)) ∧ Ext w w' := by
  have he : bits BinOp.or IntKind.u8 ((b : Int) * 2 ^ r % 256) ((b : Int) / 2 ^ (8 - r)) = ((rlB b r : Nat) : Int) := by
    have e1 : (b : Int) * 2 ^ r % 256 = ((b * 2 ^ r % 256 : Nat) : Int) := by simp
    have e2 : (b : Int) / 2 ^ (8 - r) = ((b / 2 ^ (8 - r) : Nat) : Int) := by simp
    rw [e1, e2, u8_or_nat _ _ (Nat.mod_lt _ (by decide)) (Nat.lt_of_le_of_lt (Nat.div_le_self _ _) hb)]
    rfl
  have HE := Lib.hid he
  clear he
  go_enter Try.func34, Try.ntmps34
  go_wp2
  go_quiet (fail)
  go_wp2
  go_ret
  exact ⟨by rw [← HE.out]; rfl, (Ext.refl w).drewN _⟩
end Go.Proofs.Ythglecfbcdikaaa
