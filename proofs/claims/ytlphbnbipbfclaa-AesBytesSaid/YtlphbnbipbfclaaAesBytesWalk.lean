/- The walk of AesBytes. -/
import Derived.Test.YtlphbnbipbfclaaBoxUn
import Derived.Test.YtlphbnbipbfclaaRTable
import Derived.Test.YtlphbnbipbfclaaAesWorks
import Derived.Test.YtlphbnbipbfclaaNatOf
namespace Go.Proofs.Ytlphbnbipbfclaa
open Go.RowKit

set_option maxRecDepth 100000 in
set_option maxHeartbeats 2000000 in
theorem AesBytes_walk (a0 a1 : Int) (w0 : (Lit.int .u8 a0).wf = true) (w1 : (Lit.int .u8 a1).wf = true) (w : World) :
    Calls Try.prog 3 #[.int .u8 a0, .int .u8 a1] w fun e w' => e = .returned (.bool true) ∧ Ext w w' := by
  obtain ⟨a, rfl, ha⟩ := nat_of_u8 w0
  obtain ⟨b, rfl, hb⟩ := nat_of_u8 w1
  clear w0 w1
  have T1 := Lib.hid (fun u => Times_any a b ha hb u)
  have T2 := Lib.hid (fun u => rTimes_any a b ha hb u)
  have T3 := Lib.hid (fun u => Box_any a ha u)
  have T4 := Lib.hid (fun u => rbox_any a ha u)
  have T5 := Lib.hid (fun u => Unbox_any b hb u)
  have T6 := Lib.hid (fun u => runbox_any b hb u)
  generalize tm a b = t at *
  generalize (boxB (UInt8.ofNat a)).toNat = x at *
  generalize (unboxB (UInt8.ofNat b)).toNat = y at *
  go_enter Try.func3, Try.ntmps3
  go_wp2_with (first
    | (go_at_call 7; refine (T1.out _).mono ?_; rintro e w1 ⟨rfl, rfl⟩)
    | (go_at_call 8; refine (T2.out _).mono ?_; rintro e w2 ⟨rfl, rfl⟩)
    | (go_at_call 9; refine (T3.out _).mono ?_; rintro e w3 ⟨rfl, h3⟩)
    | (go_at_call 10; refine (T4.out _).mono ?_; rintro e w4 ⟨rfl, rfl⟩)
    | (go_at_call 11; refine (T5.out _).mono ?_; rintro e w5 ⟨rfl, h5⟩)
    | (go_at_call 12; refine (T6.out _).mono ?_; rintro e w6 ⟨rfl, h6⟩)
    | (go_at_call 13; refine (aes_works _).mono ?_; rintro e w7 ⟨rfl, h7⟩))
  go_ret
  exact ⟨rfl, ((h3.trans h5).trans h6).trans h7⟩
end Go.Proofs.Ytlphbnbipbfclaa
