/- Contracts: the document's example of layer 3 answers as it says. -/
import Derived.Test.YtciiooeblknnoaaDoorTag
import Derived.Test.YtciiooeblknnoaaDoorJefe
import Derived.Test.YtciiooeblknnoaaDoorHex
namespace Go.Proofs.YtciiooeblknnoaaDoor
open Go.RowKit

theorem jefe_pair (u : World) (t : TypeId) (hL : Laid u) :
    Calls Tryd.prog 11 #[.string ⟨#[74, 101, 102, 101]⟩, .slice (some ⟨u.heap.size, 0, none⟩) 2 2] (u.alloc (.cells #[.string ⟨#[119, 104, 97, 116, 32, 100, 111, 32, 121, 97, 32, 119, 97, 110, 116, 32]⟩, .string ⟨#[102, 111, 114, 32, 110, 111, 116, 104, 105, 110, 103, 63]⟩] t)) fun e w' => e = .returned (.string ⟨#[91, 220, 193, 70, 191, 96, 117, 78, 106, 4, 36, 38, 8, 149, 117, 199, 90, 0, 63, 8, 157, 39, 57, 131, 157, 236, 88, 185, 100, 236, 56, 67]⟩) ∧ Ext u w' := by
  have hx : Ext u (u.alloc (.cells #[.string ⟨#[119, 104, 97, 116, 32, 100, 111, 32, 121, 97, 32, 119, 97, 110, 116, 32]⟩, .string ⟨#[102, 111, 114, 32, 110, 111, 116, 104, 105, 110, 103, 63]⟩] t)) := (Ext.refl u).alloc _
  have h := Of_mac _ ⟨#[74, 101, 102, 101]⟩ (.slice (some ⟨u.heap.size, 0, none⟩) 2 2) [⟨#[119, 104, 97, 116, 32, 100, 111, 32, 121, 97, 32, 119, 97, 110, 116, 32]⟩, ⟨#[102, 111, 114, 32, 110, 111, 116, 104, 105, 110, 103, 63]⟩] (hL.ext hx) (by decide) (.inr ⟨_, _, rfl, texts_pair u _ _ t, by decide⟩) (by decide)
  have e : macL (⟨#[74, 101, 102, 101]⟩ : ByteArray).data.toList (joinL [⟨#[119, 104, 97, 116, 32, 100, 111, 32, 121, 97, 32, 119, 97, 110, 116, 32]⟩, ⟨#[102, 111, 114, 32, 110, 111, 116, 104, 105, 110, 103, 63]⟩]) = macL jefeK jefeT := rfl
  rw [e, macL_jefe] at h
  exact h.mono fun e w' he => ⟨he.1, hx.trans he.2⟩
theorem hex_jefe (w : World) :
    Calls Tryd.prog 17 #[.string ⟨#[91, 220, 193, 70, 191, 96, 117, 78, 106, 4, 36, 38, 8, 149, 117, 199, 90, 0, 63, 8, 157, 39, 57, 131, 157, 236, 88, 185, 100, 236, 56, 67]⟩] w fun e w' => e = .returned (.string ⟨#[53, 98, 100, 99, 99, 49, 52, 54, 98, 102, 54, 48, 55, 53, 52, 101, 54, 97, 48, 52, 50, 52, 50, 54, 48, 56, 57, 53, 55, 53, 99, 55, 53, 97, 48, 48, 51, 102, 48, 56, 57, 100, 50, 55, 51, 57, 56, 51, 57, 100, 101, 99, 53, 56, 98, 57, 54, 52, 101, 99, 51, 56, 52, 51]⟩) ∧ Ext w w' := by
  have h := rHex_any ⟨#[91, 220, 193, 70, 191, 96, 117, 78, 106, 4, 36, 38, 8, 149, 117, 199, 90, 0, 63, 8, 157, 39, 57, 131, 157, 236, 88, 185, 100, 236, 56, 67]⟩ (by decide) w
  have e : hexL (ByteArray.mk #[91, 220, 193, 70, 191, 96, 117, 78, 106, 4, 36, 38, 8, 149, 117, 199, 90, 0, 63, 8, 157, 39, 57, 131, 157, 236, 88, 185, 100, 236, 56, 67]).data.toList = [53, 98, 100, 99, 99, 49, 52, 54, 98, 102, 54, 48, 55, 53, 52, 101, 54, 97, 48, 52, 50, 52, 50, 54, 48, 56, 57, 53, 55, 53, 99, 55, 53, 97, 48, 48, 51, 102, 48, 56, 57, 100, 50, 55, 51, 57, 56, 51, 57, 100, 101, 99, 53, 56, 98, 57, 54, 52, 101, 99, 51, 56, 52, 51] := by decide
  rw [e] at h
  exact h
set_option maxRecDepth 100000 in
theorem mac_works (w : World) (hL : Laid w) : Calls Tryd.prog 8 #[] w fun e w' => e = .returned (.bool true) ∧ Ext w w' := by
  have HO := Lib.hid (fun t => jefe_pair w t hL)
  clear hL
  go_enter Tryd.func8, Tryd.ntmps8
  go_wp2_with (first
    | (go_at_call 11; refine (HO.out _).mono ?_; rintro e w1 ⟨rfl, h1⟩)
    | (go_at_call 17; refine (hex_jefe _).mono ?_; rintro e w2 ⟨rfl, h2⟩))
  go_ret
  exact ⟨rfl, h1.trans h2⟩
end Go.Proofs.YtciiooeblknnoaaDoor
