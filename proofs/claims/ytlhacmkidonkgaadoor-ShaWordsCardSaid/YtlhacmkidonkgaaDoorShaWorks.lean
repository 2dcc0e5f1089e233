/- Contracts: the document's example of layer 2 answers as it says. -/
import Derived.Test.YtlhacmkidonkgaaDoorOf
import Derived.Test.YtlhacmkidonkgaaDoorAbc
namespace Go.Proofs.YtlhacmkidonkgaaDoor
open Go.RowKit

theorem texts_two (w : World) (s u : ByteArray) (t : TypeId) : Texts (w.alloc (.cells #[.string s, .string u] t)) ⟨w.heap.size, 0, none⟩ [s, u] := by
  refine fun i v hv => ⟨by simp, ?_⟩
  rw [Addr.add_mid]
  rw [cell_of_row _ _ _ _ _ _ (heap_alloc_new w _)]
  match i, hv with
  | 0, hv => simp at hv; subst hv; rfl
  | 1, hv => simp at hv; subst hv; rfl
  | n + 2, hv => simp at hv
theorem of_abc (w : World) (t : TypeId) (hL : Laid w) :
    Calls Tryd.prog 8 #[.slice (some ⟨w.heap.size, 0, none⟩) 2 2] (w.alloc (.cells #[.string ⟨#[97]⟩, .string ⟨#[98, 99]⟩] t)) fun e w' => e = .returned (.string ⟨#[186, 120, 22, 191, 143, 1, 207, 234, 65, 65, 64, 222, 93, 174, 34, 35, 176, 3, 97, 163, 150, 23, 122, 156, 180, 16, 255, 97, 242, 0, 21, 173]⟩) ∧ Ext w w' := by
  have h := Of_any (w.alloc (.cells #[.string ⟨#[97]⟩, .string ⟨#[98, 99]⟩] t)) ⟨w.heap.size, 0, none⟩ 2 [⟨#[97]⟩, ⟨#[98, 99]⟩] (hL.ext ((Ext.refl w).alloc _)) (texts_two w _ _ t) (by decide) (by decide)
  have e : joinL [⟨#[97]⟩, ⟨#[98, 99]⟩] = abc := by decide
  rw [e, shaL_abc] at h
  exact h.mono fun e w' he => ⟨he.1, ((Ext.refl w).alloc _).trans he.2⟩
theorem hex_abc (w : World) :
    Calls Tryd.prog 16 #[.string ⟨#[186, 120, 22, 191, 143, 1, 207, 234, 65, 65, 64, 222, 93, 174, 34, 35, 176, 3, 97, 163, 150, 23, 122, 156, 180, 16, 255, 97, 242, 0, 21, 173]⟩] w fun e w' => e = .returned (.string ⟨#[98, 97, 55, 56, 49, 54, 98, 102, 56, 102, 48, 49, 99, 102, 101, 97, 52, 49, 52, 49, 52, 48, 100, 101, 53, 100, 97, 101, 50, 50, 50, 51, 98, 48, 48, 51, 54, 49, 97, 51, 57, 54, 49, 55, 55, 97, 57, 99, 98, 52, 49, 48, 102, 102, 54, 49, 102, 50, 48, 48, 49, 53, 97, 100]⟩) ∧ Ext w w' := by
  have h := rHex_any ⟨#[186, 120, 22, 191, 143, 1, 207, 234, 65, 65, 64, 222, 93, 174, 34, 35, 176, 3, 97, 163, 150, 23, 122, 156, 180, 16, 255, 97, 242, 0, 21, 173]⟩ (by decide) w
  have e : hexL (ByteArray.mk #[186, 120, 22, 191, 143, 1, 207, 234, 65, 65, 64, 222, 93, 174, 34, 35, 176, 3, 97, 163, 150, 23, 122, 156, 180, 16, 255, 97, 242, 0, 21, 173]).data.toList = [98, 97, 55, 56, 49, 54, 98, 102, 56, 102, 48, 49, 99, 102, 101, 97, 52, 49, 52, 49, 52, 48, 100, 101, 53, 100, 97, 101, 50, 50, 50, 51, 98, 48, 48, 51, 54, 49, 97, 51, 57, 54, 49, 55, 55, 97, 57, 99, 98, 52, 49, 48, 102, 102, 54, 49, 102, 50, 48, 48, 49, 53, 97, 100] := by decide
  rw [e] at h
  exact h
set_option maxRecDepth 100000 in
theorem sha_works (w : World) (hL : Laid w) : Calls Tryd.prog 7 #[] w fun e w' => e = .returned (.bool true) ∧ Ext w w' := by
  have HO := Lib.hid (fun t => of_abc w t hL)
  have HW := Lib.hid (fun u => Words_no ⟨#[120]⟩ (by decide) u)
  clear hL
  go_enter Tryd.func7, Tryd.ntmps7
  go_wp2_with (first
    | (go_at_call 8; refine (HO.out _).mono ?_; rintro e w1 ⟨rfl, h1⟩)
    | (go_at_call 16; refine (hex_abc _).mono ?_; rintro e w2 ⟨rfl, h2⟩)
    | (go_at_call 10; refine (HW.out _).mono ?_; rintro e w3 ⟨rfl, rfl⟩))
  go_ret
  exact ⟨rfl, h1.trans h2⟩
end Go.Proofs.YtlhacmkidonkgaaDoor
