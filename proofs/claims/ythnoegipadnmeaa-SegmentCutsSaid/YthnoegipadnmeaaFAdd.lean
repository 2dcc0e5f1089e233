/- Contract: a frame that is not too long; frames of a row; the next number. -/
import Derived.Test.YthnoegipadnmeaaFrameP
import Derived.Test.YthnoegipadnmeaaSegBase
namespace Go.Proofs.Ythnoegipadnmeaa
open Go.RowKit

theorem enc_yes (r : Rec) (hr : r.n < 18446744073709551616) (hs : r.t.size ≤ 65536) (w : World) :
    Calls Try.prog 23 #[.agg #[.int .u64 (r.n : Int), .string r.t]] w fun e w' => e = .returned (.tuple #[.string (frameT r), .int .i64 0]) ∧ Ext w w' := by
  have h := Encode_any r hr (Nat.le_trans hs (by decide)) w
  rw [show encF r = (frameT r, 0) from by unfold encF; rw [if_neg (by omega)]] at h
  exact h
theorem row_cat (l : List Rec) (r : Rec) : (⟨(rowF l).toArray⟩ : ByteArray) ++ frameT r = ⟨(rowF (l ++ [r])).toArray⟩ := by
  unfold frameT
  rw [str_append, rowF_append]
  simp [rowF]
theorem add_mod (first j : Nat) (hf : first < 18446744073709551616) (hj : j ≤ 1000000) : IntKind.u64.wrap ((first : Int) + (j : Int)) = (((first + j) % 18446744073709551616 : Nat) : Int) := by
  by_cases h : first + j < 18446744073709551616
  · rw [Nat.mod_eq_of_lt h]
    exact u64_nat (x := first + j) h
  · have e : (first + j) % 18446744073709551616 = first + j - 18446744073709551616 := by omega
    rw [e]
    simp [IntKind.wrap, IntKind.signed, IntKind.bits]
    omega
end Go.Proofs.Ythnoegipadnmeaa
