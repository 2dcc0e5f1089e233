/- Contracts: sums, gone on, by the program. -/
import Derived.Test.YthnoegipadnmeaaPGone
namespace Go.Proofs.Ythnoegipadnmeaa
open Go.RowKit

theorem not_ones (a : BitVec 32) : bits .xor .u32 IntKind.u32.max (a.toNat : Int) = ((a ^^^ ones).toNat : Int) := by
  rw [BitVec.xor_comm]
  exact bx ones a
theorem pmore_any (c : BitVec 32) (s : ByteArray) (hs : s.size ≤ 140737488351232) (w : World) : Calls Try.prog 60 #[.int .u32 (c.toNat : Int), .string s] w fun e w' => e = .returned (.int .u32 ((moreC c s.data.toList).toNat : Int)) ∧ w = w' := by
  have h0 := not_ones c
  have HS := Lib.hid (fun j x (h : s.data.toList[j]? = some x) => rowC_step (c ^^^ ones) s.data.toList j x h)
  have HE : Hid (moreC c s.data.toList = rowC (c ^^^ ones) s.data.toList ^^^ ones) := Lib.hid rfl
  have HZ : Hid (rowC (c ^^^ ones) (s.data.toList.take 0) = c ^^^ ones) := Lib.hid rfl
  have HL := Lib.hid (size_list s)
  generalize rowC (c ^^^ ones) = R at *
  generalize c ^^^ ones = c0 at *
  go_enter Try.func60, Try.ntmps60
  go_wp2
  go_loop [5, 6, 11] (fun cv _ iv => ∃ j : Nat, j ≤ s.size ∧ iv = .int .i64 (j : Int) ∧ cv = w32 (R (s.data.toList.take j))) (fun _ _ iv => s.size - (intOf iv).toNat)
  case atStart => exact ⟨0, Nat.zero_le _, rfl, by rw [HZ.out]; rfl⟩
  case round =>
    obtain ⟨j, hj, rfl, rfl⟩ := hrel
    by_cases hlt : j < s.size
    · obtain ⟨x, hx⟩ : ∃ x, s.data.toList[j]? = some x := ⟨_, byte_at s j hlt⟩
      have hix := fun u => index_text s j x hx u
      have hbx := bx_byte (R (s.data.toList.take j)) x
      have HSj := Lib.hid (HS.out j x hx)
      have hx8 := x.toNat_lt
      clear hx
      have HD : Hid (R (s.data.toList.take (j + 1)) = hfN 8 (R (s.data.toList.take j) ^^^ bt x)) := HSj
      have HC := Lib.hid (gone_any (R (s.data.toList.take j) ^^^ bt x))
      unfold w32
      generalize (R (s.data.toList.take j) ^^^ bt x) = D at *
      generalize (R (s.data.toList.take j)).toNat = n at *
      generalize x.toNat = b at *
      go_wp2_with (go_at_call 69; refine (HC.out _).mono ?_; rintro e w1 ⟨rfl, rfl⟩)
      go_round
      case rel => exact ⟨j + 1, by omega, by go_num, by rw [HD.out]⟩
      case measure => simp [intOf]; omega
    · obtain rfl : j = s.size := by omega
      have ht := List.take_of_length_le (show s.data.toList.length ≤ s.size by rw [HL.out]; exact Nat.le_refl _)
      rw [ht]
      clear ht
      have h1 := not_ones (R s.data.toList)
      rw [← HE.out] at h1
      unfold w32
      generalize (R s.data.toList).toNat = n at *
      go_wp2
      go_ret
      exact ⟨rfl, rfl⟩
theorem psum_any (s : ByteArray) (hs : s.size ≤ 140737488351232) (w : World) : Calls Try.prog 61 #[.string s] w fun e w' => e = .returned (.int .u32 ((moreC 0#32 s.data.toList).toNat : Int)) ∧ w = w' := by
  have HM := Lib.hid (fun u => (show Calls Try.prog 60 #[.int .u32 0, .string s] u fun e w' => e = .returned (.int .u32 ((moreC 0#32 s.data.toList).toNat : Int)) ∧ u = w' from pmore_any 0#32 s hs u))
  go_enter Try.func61, Try.ntmps61
  go_wp2_with (go_at_call 60; refine (HM.out _).mono ?_; rintro e w1 ⟨rfl, rfl⟩)
  go_ret
  exact ⟨rfl, rfl⟩
/-- What later texts lean on. -/
theorem sum_any (s : ByteArray) (hs : s.size ≤ 140737488351232) (w : World) : Calls Try.prog 61 #[.string s] w fun e w' => e = .returned (.int .u32 ((moreC 0#32 s.data.toList).toNat : Int)) ∧ Ext w w' := (psum_any s hs w).mono fun e w' h => ⟨h.1, by rw [← h.2]; exact Ext.refl w⟩
theorem more_any (c : BitVec 32) (s : ByteArray) (hs : s.size ≤ 140737488351232) (w : World) : Calls Try.prog 60 #[.int .u32 (c.toNat : Int), .string s] w fun e w' => e = .returned (.int .u32 ((moreC c s.data.toList).toNat : Int)) ∧ Ext w w' := (pmore_any c s hs w).mono fun e w' h => ⟨h.1, by rw [← h.2]; exact Ext.refl w⟩
end Go.Proofs.Ythnoegipadnmeaa
