/- Contract: the document's example of layer 16. -/
import Derived.Test.YtgcnpcpdgdhdkaaDoorPathNm
import Derived.Test.YtgcnpcpdgdhdkaaDoorSame16
namespace Go.Proofs.YtgcnpcpdgdhdkaaDoor
open Go.RowKit

theorem blk_texts {w : World} {g : Nat} {T : TypeId} {l : List ByteArray} (h : Blk w g T (l.map Value.string)) : TextsP w (some ⟨g, 0, none⟩) l := by
  intro i x hx
  refine ⟨⟨g, 0, none⟩, rfl, h.lt, ?_⟩
  have e0 : ((⟨g, 0, none⟩ : Addr).add i) = ⟨g, i, none⟩ := by unfold Addr.add; split <;> simp_all
  rw [e0]
  exact h.cell i _ (by simp [hx])
def exN : List ByteArray := [⟨#[97, 47, 98]⟩, ⟨#[97, 47, 98, 47, 99]⟩, ⟨#[97, 47, 120]⟩, ⟨#[98]⟩]
def exO : List ByteArray := [⟨#[98]⟩, ⟨#[98, 47]⟩, ⟨#[120]⟩]
theorem ex_names : namesB ⟨#[97]⟩ exN = exO := by decide +kernel
theorem ex_child : childB ⟨#[97]⟩ ⟨#[97, 47, 98, 47, 99]⟩ = ⟨#[98, 47]⟩ := by decide +kernel
theorem ex_under : underT ⟨#[97]⟩ ⟨#[97, 47, 98, 47, 99]⟩ = true := by decide +kernel
theorem ex_no : underT ⟨#[97]⟩ ⟨#[97, 98]⟩ = false := by decide +kernel
theorem ex_may : mayB (⟨#[97, 47, 98, 45, 49, 46, 99, 95]⟩ : ByteArray).data.toList = true := by decide +kernel
theorem ex_may2 : mayB (⟨#[97, 47, 47, 98]⟩ : ByteArray).data.toList = false := by decide +kernel
theorem ex_may3 : mayB (⟨#[]⟩ : ByteArray).data.toList = false := by decide +kernel
theorem ex_pre : prefB (⟨#[]⟩ : ByteArray).data.toList = true := by decide +kernel
theorem names_lit (w : World) : Calls Tryd.prog 19 #[.string ⟨#[97]⟩, .slice (some ⟨w.heap.size, 0, none⟩) 4 4] (w.alloc (.cells #[.string ⟨#[97, 47, 98]⟩, .string ⟨#[97, 47, 98, 47, 99]⟩, .string ⟨#[97, 47, 120]⟩, .string ⟨#[98]⟩] 9)) fun e w' =>
    ∃ p c, e = .returned (.slice p 3 c) ∧ TextsP w' p exO ∧ Ext w w' := by
  have h := Names_any ⟨#[97]⟩ (by decide) (some ⟨w.heap.size, 0, none⟩) 4 exN _ (blk_texts (Blk.new w (exN.map Value.string) 9)) (by decide) (by
    intro s hs
    simp only [exN, List.mem_cons, List.mem_nil_iff, or_false] at hs
    rcases hs with rfl | rfl | rfl | rfl <;> decide)
  refine Calls.mono h ?_
  rintro e w' ⟨v, rfl, hb, hx⟩
  rw [ex_names] at hb
  obtain ⟨p, c, rfl, ht, -⟩ := hb.texts
  exact ⟨p, c, rfl, ht, ((Ext.refl w).alloc _).trans hx⟩
theorem same_lit (w : World) (p : Option Addr) (c : Nat) (h : TextsP w p exO) : Calls Tryd.prog 13 #[.slice p 3 c, .slice (some ⟨w.heap.size, 0, none⟩) 3 3] (w.alloc (.cells #[.string ⟨#[98]⟩, .string ⟨#[98, 47]⟩, .string ⟨#[120]⟩] 9)) fun e w' =>
    e = .returned (.bool true) ∧ Ext w w' :=
  (same_is _ p (some ⟨w.heap.size, 0, none⟩) c 3 3 3 exO exO rfl rfl (h.alloc _) (blk_texts (Blk.new w (exO.map Value.string) 9)) (by decide) (by decide) true (by simp)).mono fun _ _ ⟨he, hx⟩ => ⟨he, ((Ext.refl w).alloc _).trans hx⟩
set_option maxRecDepth 100000 in
set_option maxHeartbeats 1000000 in
theorem works16 (w : World) : Calls Tryd.prog 8 #[] w fun e w' => e = .returned (.bool true) ∧ Ext w w' := by
  have hc := fun u => Child_any ⟨#[97]⟩ ⟨#[97, 47, 98, 47, 99]⟩ (by decide) (by decide) u
  rw [ex_child, ex_under] at hc
  have hm := fun u => May_any ⟨#[97, 47, 98, 45, 49, 46, 99, 95]⟩ (by decide) u
  rw [ex_may] at hm
  have hm2 := fun u => May_any ⟨#[97, 47, 47, 98]⟩ (by decide) u
  rw [ex_may2] at hm2
  have hm3 := fun u => May_any ⟨#[]⟩ (by decide) u
  rw [ex_may3] at hm3
  have hp := fun u => Prefix_any ⟨#[]⟩ (by decide) u
  rw [ex_pre] at hp
  have hu := fun u => Under_any ⟨#[97]⟩ ⟨#[97, 98]⟩ (by decide) (by decide) u
  rw [ex_no] at hu
  have HC := Lib.hid hc; have HM := Lib.hid hm; have HM2 := Lib.hid hm2; have HM3 := Lib.hid hm3; have HP := Lib.hid hp; have HU := Lib.hid hu
  clear hc hm hm2 hm3 hp hu
  go_enter Tryd.func8, Tryd.ntmps8
  go_wp2_with (first
    | (go_at_call 10; ((with_reducible refine (HC.out _).mono ?_); rintro e w1 ⟨rfl, x1⟩; have X1 := Lib.hid x1; clear x1))
    | (go_at_call 19; ((refine (names_lit _).mono ?_); rintro e w2 ⟨p, c, rfl, ht, x2⟩; have HT := Lib.hid ht; have X2 := Lib.hid (X1.out.trans x2); clear ht x2))
    | (go_at_call 13; ((refine (same_lit _ _ _ HT.out).mono ?_); rintro e w3 ⟨rfl, x3⟩; have X3 := Lib.hid (X2.out.trans x3); clear x3))
    | (go_at_call 12; ((with_reducible refine (HM.out _).mono ?_); rintro e w4 ⟨rfl, x4⟩; have X4 := Lib.hid (X3.out.trans x4); clear x4))
    | (go_at_call 12; ((with_reducible refine (HM2.out _).mono ?_); rintro e w5 ⟨rfl, x5⟩; have X5 := Lib.hid (X4.out.trans x5); clear x5))
    | (go_at_call 12; ((with_reducible refine (HM3.out _).mono ?_); rintro e w6 ⟨rfl, x6⟩; have X6 := Lib.hid (X5.out.trans x6); clear x6))
    | (go_at_call 15; ((with_reducible refine (HP.out _).mono ?_); rintro e w7 ⟨rfl, x7⟩; have X7 := Lib.hid (X6.out.trans x7); clear x7))
    | (go_at_call 17; ((with_reducible refine (HU.out _).mono ?_); rintro e w8 ⟨rfl, x8⟩; have X8 := Lib.hid (X7.out.trans x8); clear x8)))
  go_ret
  exact ⟨rfl, X8.out⟩
end Go.Proofs.YtgcnpcpdgdhdkaaDoor
