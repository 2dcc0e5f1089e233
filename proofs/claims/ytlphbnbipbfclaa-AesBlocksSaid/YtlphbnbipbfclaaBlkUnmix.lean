/- Contracts: a block's columns mixed back, by the program: mixed three times more. -/
import Derived.Test.YtlphbnbipbfclaaBlkMix
namespace Go.Proofs.Ytlphbnbipbfclaa
open Go.RowKit

section
variable (a b c d : UInt8)
theorem sq0 : dot 2 3 1 1 (dot 2 3 1 1 a b c d) (dot 1 2 3 1 a b c d) (dot 1 1 2 3 a b c d) (dot 3 1 1 2 a b c d) = dot 5 0 4 0 a b c d := by
  rw [dot_dot, show dot 2 3 1 1 2 1 1 3 = 5 from by decide +kernel, show dot 2 3 1 1 3 2 1 1 = 0 from by decide +kernel, show dot 2 3 1 1 1 3 2 1 = 4 from by decide +kernel, show dot 2 3 1 1 1 1 3 2 = 0 from by decide +kernel]
theorem sq1 : dot 1 2 3 1 (dot 2 3 1 1 a b c d) (dot 1 2 3 1 a b c d) (dot 1 1 2 3 a b c d) (dot 3 1 1 2 a b c d) = dot 0 5 0 4 a b c d := by
  rw [dot_dot, show dot 1 2 3 1 2 1 1 3 = 0 from by decide +kernel, show dot 1 2 3 1 3 2 1 1 = 5 from by decide +kernel, show dot 1 2 3 1 1 3 2 1 = 0 from by decide +kernel, show dot 1 2 3 1 1 1 3 2 = 4 from by decide +kernel]
theorem sq2 : dot 1 1 2 3 (dot 2 3 1 1 a b c d) (dot 1 2 3 1 a b c d) (dot 1 1 2 3 a b c d) (dot 3 1 1 2 a b c d) = dot 4 0 5 0 a b c d := by
  rw [dot_dot, show dot 1 1 2 3 2 1 1 3 = 4 from by decide +kernel, show dot 1 1 2 3 3 2 1 1 = 0 from by decide +kernel, show dot 1 1 2 3 1 3 2 1 = 5 from by decide +kernel, show dot 1 1 2 3 1 1 3 2 = 0 from by decide +kernel]
theorem sq3 : dot 3 1 1 2 (dot 2 3 1 1 a b c d) (dot 1 2 3 1 a b c d) (dot 1 1 2 3 a b c d) (dot 3 1 1 2 a b c d) = dot 0 4 0 5 a b c d := by
  rw [dot_dot, show dot 3 1 1 2 2 1 1 3 = 0 from by decide +kernel, show dot 3 1 1 2 3 2 1 1 = 4 from by decide +kernel, show dot 3 1 1 2 1 3 2 1 = 0 from by decide +kernel, show dot 3 1 1 2 1 1 3 2 = 5 from by decide +kernel]
theorem qu0 : dot 5 0 4 0 (dot 5 0 4 0 a b c d) (dot 0 5 0 4 a b c d) (dot 4 0 5 0 a b c d) (dot 0 4 0 5 a b c d) = dot 1 0 0 0 a b c d := by
  rw [dot_dot, show dot 5 0 4 0 5 0 4 0 = 1 from by decide +kernel, show dot 5 0 4 0 0 5 0 4 = 0 from by decide +kernel, show dot 5 0 4 0 4 0 5 0 = 0 from by decide +kernel, show dot 5 0 4 0 0 4 0 5 = 0 from by decide +kernel]
theorem qu1 : dot 0 5 0 4 (dot 5 0 4 0 a b c d) (dot 0 5 0 4 a b c d) (dot 4 0 5 0 a b c d) (dot 0 4 0 5 a b c d) = dot 0 1 0 0 a b c d := by
  rw [dot_dot, show dot 0 5 0 4 5 0 4 0 = 0 from by decide +kernel, show dot 0 5 0 4 0 5 0 4 = 1 from by decide +kernel, show dot 0 5 0 4 4 0 5 0 = 0 from by decide +kernel, show dot 0 5 0 4 0 4 0 5 = 0 from by decide +kernel]
theorem qu2 : dot 4 0 5 0 (dot 5 0 4 0 a b c d) (dot 0 5 0 4 a b c d) (dot 4 0 5 0 a b c d) (dot 0 4 0 5 a b c d) = dot 0 0 1 0 a b c d := by
  rw [dot_dot, show dot 4 0 5 0 5 0 4 0 = 0 from by decide +kernel, show dot 4 0 5 0 0 5 0 4 = 0 from by decide +kernel, show dot 4 0 5 0 4 0 5 0 = 1 from by decide +kernel, show dot 4 0 5 0 0 4 0 5 = 0 from by decide +kernel]
theorem qu3 : dot 0 4 0 5 (dot 5 0 4 0 a b c d) (dot 0 5 0 4 a b c d) (dot 4 0 5 0 a b c d) (dot 0 4 0 5 a b c d) = dot 0 0 0 1 a b c d := by
  rw [dot_dot, show dot 0 4 0 5 5 0 4 0 = 0 from by decide +kernel, show dot 0 4 0 5 0 5 0 4 = 0 from by decide +kernel, show dot 0 4 0 5 4 0 5 0 = 0 from by decide +kernel, show dot 0 4 0 5 0 4 0 5 = 1 from by decide +kernel]
end
theorem mix2_eq (a0 a1 a2 a3 a4 a5 a6 a7 a8 a9 a10 a11 a12 a13 a14 a15 : UInt8) : mixC (mixC [a0, a1, a2, a3, a4, a5, a6, a7, a8, a9, a10, a11, a12, a13, a14, a15]) = [dot 5 0 4 0 a0 a1 a2 a3, dot 0 5 0 4 a0 a1 a2 a3, dot 4 0 5 0 a0 a1 a2 a3, dot 0 4 0 5 a0 a1 a2 a3, dot 5 0 4 0 a4 a5 a6 a7, dot 0 5 0 4 a4 a5 a6 a7, dot 4 0 5 0 a4 a5 a6 a7, dot 0 4 0 5 a4 a5 a6 a7, dot 5 0 4 0 a8 a9 a10 a11, dot 0 5 0 4 a8 a9 a10 a11, dot 4 0 5 0 a8 a9 a10 a11, dot 0 4 0 5 a8 a9 a10 a11, dot 5 0 4 0 a12 a13 a14 a15, dot 0 5 0 4 a12 a13 a14 a15, dot 4 0 5 0 a12 a13 a14 a15, dot 0 4 0 5 a12 a13 a14 a15] := by
  rw [mixC_eq, mixC_eq]
  simp only [sq0, sq1, sq2, sq3]
theorem mix4 {l : List UInt8} (h : l.length = 16) : mixC (mixC (mixC (mixC l))) = l := by
  obtain ⟨a0, a1, a2, a3, a4, a5, a6, a7, a8, a9, a10, a11, a12, a13, a14, a15, rfl⟩ := sixteen h
  rw [mix2_eq, mix2_eq]
  simp only [qu0, qu1, qu2, qu3, dot_a, dot_b, dot_c, dot_d]
theorem mix3 {l : List UInt8} (h : l.length = 16) : mixC (mixC (mixC l)) = unmixC l := by
  have e := un_mixC (mixC_length (mixC (mixC l)))
  rw [mix4 h] at e
  exact e.symm
def mixN (l : List UInt8) : Nat → List UInt8
  | 0 => l
  | n + 1 => mixC (mixN l n)
theorem mixN_length {l : List UInt8} (h : l.length = 16) : ∀ n, (mixN l n).length = 16
  | 0 => h
  | _ + 1 => mixC_length _
theorem mixN_three {l : List UInt8} (h : l.length = 16) : mixN l 3 = unmixC l := mix3 h
set_option maxRecDepth 100000 in
set_option maxHeartbeats 1000000 in
theorem unmix_any (w : World) (g : Nat) (t : TypeId) (l : List UInt8) (hr : Row w g t l) (hl : l.length = 16) :
    Calls Try.prog 33 #[.pointer (some ⟨g, 0, none⟩)] w fun e w' => e = .returned (.tuple #[]) ∧ Below g w w' ∧ Row w' g t (unmixC l) := by
  rw [← mixN_three hl]
  have HL := Lib.hid (fun n => mixN_length hl n)
  clear hl
  go_enter Try.func33, Try.ntmps33
  go_wp2
  go_loopw [2] (fun i wr => ∃ j : Nat, j ≤ 3 ∧ i = .int .i64 j ∧ Row wr g t (mixN l j) ∧ Below g w wr) (fun i _ => 3 - (intOf i).toNat)
  case atStart => exact ⟨0, Nat.zero_le _, rfl, hr, Below.refl _ _⟩
  case round =>
    obtain ⟨j, hj, rfl, hrow, hb⟩ := hrel
    by_cases hlt : j < 3
    · have HRow := Lib.hid hrow; have HB := Lib.hid hb
      clear hrow hb
      go_wp2_with (go_at_call 32; refine (mix_any _ g t _ HRow.out (HL.out j)).mono ?_; rintro e w1 ⟨rfl, h1, h2⟩)
      go_roundw
      case rel => exact ⟨j + 1, by omega, by go_num, h2, HB.out.trans h1⟩
      case measure => simp [intOf]; omega
    · obtain rfl : j = 3 := by omega
      have e3 : ((3 : Nat) : Int) = 3 := rfl
      rw [e3]
      clear e3
      go_wp2
      go_end0
      exact ⟨rfl, hb, hrow⟩
end Go.Proofs.Ytlphbnbipbfclaa
