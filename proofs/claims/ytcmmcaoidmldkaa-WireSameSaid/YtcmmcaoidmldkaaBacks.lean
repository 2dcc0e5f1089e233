/- Contracts: what was written is taken: numbers, whole numbers, truths. -/
import Derived.Test.YtcmmcaoidmldkaaListOk
import Derived.Test.YtcmmcaoidmldkaaTakes
import Derived.Outline
namespace Go.Proofs.Ytcmmcaoidmldkaa
open Go.RowKit
attribute [local irreducible] wnF numG

theorem Uint_back (w : World) (r : Nat) (x : Nat) (rest : List UInt8) (h : IsR w r ⟨(wn x ++ rest).toArray⟩ 0) (hs : (wn x ++ rest).length ≤ 1000000) (hx : x < 18446744073709551616) :
    Calls Try.prog 18 #[.pointer (some ⟨r, 0, none⟩), .int .u64 (x : Int)] w fun e w' => e = .returned (.int .u64 (x : Int)) ∧ IsR w' r ⟨rest.toArray⟩ 0 ∧ Mod r w w' := by
  have hk := Uint_ok w r _ h (by rw [txt_size]; exact hs) x x (wn x).length (numR_back x rest hx) (Nat.le_refl _)
  rw [cut_front] at hk
  exact hk
theorem Int_back (w : World) (r : Nat) (x : Int) (rest : List UInt8) (h : IsR w r ⟨(wn (zig x) ++ rest).toArray⟩ 0) (hs : (wn (zig x) ++ rest).length ≤ 1000000) (hx : -9223372036854775808 ≤ x ∧ x ≤ 9223372036854775807) :
    Calls Try.prog 21 #[.pointer (some ⟨r, 0, none⟩), .int .i64 x, .int .i64 x] w fun e w' => e = .returned (.int .i64 x) ∧ IsR w' r ⟨rest.toArray⟩ 0 ∧ Mod r w w' := by
  have hk := Int_ok w r _ h (by rw [txt_size]; exact hs) x x (zig x) (wn (zig x)).length (numR_back _ rest (zig_lt x hx.1 hx.2)) (by rw [zag_zig]; exact Int.le_refl _) (by rw [zag_zig]; exact Int.le_refl _)
  rw [cut_front, zag_zig] at hk
  exact hk
theorem Bool_back (w : World) (r : Nat) (x : Bool) (rest : List UInt8) (h : IsR w r ⟨(wb x ++ rest).toArray⟩ 0) :
    Calls Try.prog 22 #[.pointer (some ⟨r, 0, none⟩)] w fun e w' => e = .returned (.bool x) ∧ IsR w' r ⟨rest.toArray⟩ 0 ∧ Mod r w w' := by
  have hk := Bool_ok w r _ h x rest rfl
  have e : (⟨(wb x ++ rest).toArray⟩ : ByteArray).extract 1 (⟨(wb x ++ rest).toArray⟩ : ByteArray).size = ⟨rest.toArray⟩ := cut_front (wb x) rest
  rw [e] at hk
  exact hk
end Go.Proofs.Ytcmmcaoidmldkaa
