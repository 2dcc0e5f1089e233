/- Contract: how many bytes a builder holds. -/
import Derived.Shelf.Strings.BuilderF
import Derived.Test.YthglecfbcdikaaaBuilder
namespace Go.Proofs.Ythglecfbcdikaaa
open Go.RowKit

def renN : Go.Shelf.Ren := ⟨fun | 170 => 25 | n => n, fun | 0 => 0 | 3 => 3 | 5 => 5 | 37 => 30 | 70 => 59 | 72 => 61 | n => n, fun n => n⟩
theorem laysN : Go.Proofs.Lays.n170 Try.prog renN := {
  mixed := by kernel_rfl
  f170 := Try.func25.trans (congrArg some (by kernel_rfl))
  t0 := Try.underlying0
  a0 := Try.isAgg0
  z0 := Try.sizeOf0
  v0 := Try.zeroValue0
  t3 := Try.underlying3
  a3 := Try.isAgg3
  z3 := Try.sizeOf3
  v3 := Try.zeroValue3
  t37 := Try.underlying30
  a37 := Try.isAgg30
  z37 := Try.sizeOf30
  v37 := Try.zeroValue30
  t70 := Try.underlying59
  a70 := Try.isAgg59
  z70 := Try.sizeOf59
  v70 := Try.zeroValue59
  t72 := Try.underlying61
  a72 := Try.isAgg61
  z72 := Try.sizeOf61
  v72 := Try.zeroValue61 }
theorem bd_len (B b : Nat) (bs : List Value) (w : World) (h : Lib.IsBuilderF 61 5 B b bs w) :
    Calls Try.prog 25 #[.pointer (some ⟨b, 0, none⟩)] w fun e w' => e = .returned (.int .i64 bs.length) ∧ w' = w := Any.Builder_Len_f laysN B b bs w h
end Go.Proofs.Ythglecfbcdikaaa
