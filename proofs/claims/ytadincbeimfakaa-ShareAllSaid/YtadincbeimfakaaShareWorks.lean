/- Contract: the document's example of layer 6. -/
import Derived.Test.YtadincbeimfakaaGAdd
import Derived.Test.YtadincbeimfakaaGSecret
import Derived.Test.YtadincbeimfakaaPSplit
namespace Go.Proofs.Ytadincbeimfakaa
open Go.RowKit

theorem split_ab (w : World) (a : Addr) (c : Nat) (h : Texts w a [⟨#[120, 121]⟩]) :
    Calls Try.prog 10 #[.string ⟨#[97, 98]⟩, .slice (some a) 1 c] w fun e w' => ∃ q c', e = .returned (.tuple #[.slice (some ⟨q, 0, none⟩) 2 c', .int .i64 0]) ∧ (q < w'.heap.size ∧ w'.cell? ⟨q, 0, none⟩ = some (.string ⟨#[1, 2, 120, 121]⟩) ∧ w'.cell? ⟨q, 1, none⟩ = some (.string ⟨#[2, 2, 25, 27]⟩)) ∧ Ext w w' := by
  have hsp := split_yes w ⟨#[97, 98]⟩ (some a) c [⟨#[120, 121]⟩] (by decide) (by decide) (by decide) h.p (by decide)
  have e : splitT ⟨#[97, 98]⟩ [⟨#[120, 121]⟩] = [⟨#[1, 2, 120, 121]⟩, ⟨#[2, 2, 25, 27]⟩] := by decide
  rw [e] at hsp
  refine hsp.mono fun e w' he => ?_
  obtain ⟨v, rfl, hb, hx⟩ := he
  obtain ⟨g, c', rfl, hg, hc⟩ := hb.sl (by simp)
  exact ⟨g, c', rfl, ⟨hg, hc 0 _ rfl, hc 1 _ rfl⟩, hx⟩
theorem ab_read1 : ShareOf ⟨#[1, 2, 120, 121]⟩ 1 2 := ⟨by decide, by decide, by decide, by decide, by decide, by decide, 1, 2, rfl, rfl, rfl, rfl⟩
theorem ab_read2 : ShareOf ⟨#[2, 2, 25, 27]⟩ 2 2 := ⟨by decide, by decide, by decide, by decide, by decide, by decide, 2, 2, rfl, rfl, rfl, rfl⟩
theorem add_ab2 (w : World) (g b : Nat) (h : IsG w g b 1 1 []) :
    Calls Try.prog 15 #[.pointer (some ⟨g, 0, none⟩), .string ⟨#[2, 2, 25, 27]⟩] w fun e w' => e = .returned (.int .i64 0) ∧ IsG w' g b 2 2 [(2, ⟨#[25, 27]⟩)] ∧ w.grownBy w' (some b) := by
  have hh := add_ok w g b 2 2 [] ⟨#[2, 2, 25, 27]⟩ 2 (h.turn (by decide) (by decide) (by decide) (by decide)) ab_read2 rfl (by simp)
  have e : (⟨#[2, 2, 25, 27]⟩ : ByteArray).extract 2 (⟨#[2, 2, 25, 27]⟩ : ByteArray).size = ⟨#[25, 27]⟩ := by decide
  rw [e] at hh
  exact hh
theorem add_ab1 (w : World) (g b : Nat) (h : IsG w g b 2 2 [(2, ⟨#[25, 27]⟩)]) :
    Calls Try.prog 15 #[.pointer (some ⟨g, 0, none⟩), .string ⟨#[1, 2, 120, 121]⟩] w fun e w' => e = .returned (.int .i64 0) ∧ IsG w' g b 2 2 [(2, ⟨#[25, 27]⟩), (1, ⟨#[120, 121]⟩)] ∧ w.grownBy w' (some b) := by
  have hh := add_ok w g b 2 2 [(2, ⟨#[25, 27]⟩)] ⟨#[1, 2, 120, 121]⟩ 1 h ab_read1 rfl (by simp)
  have e : (⟨#[1, 2, 120, 121]⟩ : ByteArray).extract 2 (⟨#[1, 2, 120, 121]⟩ : ByteArray).size = ⟨#[120, 121]⟩ := by decide
  rw [e] at hh
  exact hh
theorem secret_ab (w : World) (g b : Nat) (h : IsG w g b 2 2 [(2, ⟨#[25, 27]⟩), (1, ⟨#[120, 121]⟩)]) :
    Calls Try.prog 18 #[.pointer (some ⟨g, 0, none⟩)] w fun e w' => e = .returned (.tuple #[.string ⟨#[97, 98]⟩, .bool true]) ∧ Ext w w' := by
  have hh := secret_yes w g b 2 2 _ h rfl ⟨#[120, 121]⟩ [⟨#[25, 27]⟩] rfl (fun j s hs => by
    match j, hs with
    | 0, hs => simp at hs; subst hs; simp
    | 1, hs => simp at hs; subst hs; simp
    | j + 2, hs => simp at hs)
  have e : (⟨(xorAll (⟨#[120, 121]⟩ : ByteArray).data.toList [⟨#[25, 27]⟩]).toArray⟩ : ByteArray) = ⟨#[97, 98]⟩ := by decide
  rw [e] at hh
  exact hh
/-- Cells that are there stay. -/
theorem two_cells {q : Nat} {u u' : World} {s t : Value} (h : q < u.heap.size ∧ u.cell? ⟨q, 0, none⟩ = some s ∧ u.cell? ⟨q, 1, none⟩ = some t) (hx : Ext u u') : q < u'.heap.size ∧ u'.cell? ⟨q, 0, none⟩ = some s ∧ u'.cell? ⟨q, 1, none⟩ = some t :=
  ⟨Nat.lt_of_lt_of_le h.1 hx.size, (hx.below.cell (p := ⟨q, 0, none⟩) h.1).trans h.2.1, (hx.below.cell (p := ⟨q, 1, none⟩) h.1).trans h.2.2⟩
set_option maxRecDepth 100000 in
set_option maxHeartbeats 1000000 in
theorem share_works (w : World) : Calls Try.prog 8 #[] w fun e w' => e = .returned (.bool true) ∧ Ext w w' := by
  have hx0 : Ext w (w.alloc (.cells #[.string ⟨#[120, 121]⟩] 9)) := (Ext.refl w).alloc _
  have HT : Hid (Texts (w.alloc (.cells #[.string ⟨#[120, 121]⟩] 9)) ⟨w.heap.size, 0, none⟩ [⟨#[120, 121]⟩]) := Lib.hid (fun i s hs => by
    match i, hs with
    | 0, hs => simp at hs; subst hs; have hb := Blk.new w [.string ⟨#[120, 121]⟩] 9; exact ⟨hb.lt, by rw [show (⟨w.heap.size, 0, none⟩ : Addr).add 0 = ⟨w.heap.size, 0, none⟩ from rfl]; exact hb.cell 0 _ rfl⟩
    | i + 1, hs => simp at hs)
  have HX0 := Lib.hid hx0
  clear hx0
  go_enter Try.func8, Try.ntmps8
  go_wp2_with (first
    | (go_at_call 10; (with_reducible refine (split_ab _ _ _ HT.out).mono ?_); rintro e w1 ⟨q, c, rfl, hq, x1⟩; have HQ := Lib.hid hq; have X1 := Lib.hid (HX0.out.trans x1); clear hq x1)
    | (go_at_call 14; (with_reducible refine (New_any _).mono ?_); rintro e w2 ⟨rfl, hg2, x2, hs2⟩; have HG2 := Lib.hid hg2; have X2 := Lib.hid x2; have hq2 := two_cells HQ.out x2; obtain ⟨hq2a, hq2b, hq2c⟩ := hq2; clear hg2 x2 hs2)
    | (go_at_call 15; (with_reducible refine (add_ab2 _ _ _ HG2.out).mono ?_); rintro e w3 ⟨rfl, hg3, k3⟩; have HG3 := Lib.hid hg3; have X3 := Lib.hid (X2.out.grown k3 (fun k hk => by cases hk; exact Nat.le_refl _)); clear hg3 k3)
    | (go_at_call 18; (with_reducible refine (secret_no _ _ _ 2 2 _ HG3.out (by decide)).mono ?_); rintro e w4 ⟨rfl, x4⟩; have HG4 := Lib.hid (HG3.out.ext x4); have X4 := Lib.hid (X3.out.trans x4); have hq4 := two_cells HQ.out X4.out; obtain ⟨hq4a, hq4b, hq4c⟩ := hq4; clear x4)
    | (go_at_call 15; (with_reducible refine (add_ab1 _ _ _ HG4.out).mono ?_); rintro e w5 ⟨rfl, hg5, k5⟩; have HG5 := Lib.hid hg5; have X5 := Lib.hid (X4.out.grown k5 (fun k hk => by cases hk; exact Nat.le_refl _)); clear hg5 k5)
    | (go_at_call 18; (with_reducible refine (secret_ab _ _ _ HG5.out).mono ?_); rintro e w6 ⟨rfl, x6⟩; have X6 := Lib.hid (X5.out.trans x6); have hq6 := two_cells HQ.out X6.out; obtain ⟨hq6a, hq6b, hq6c⟩ := hq6; clear x6))
  go_ret
  exact ⟨rfl, X1.out.trans X6.out⟩
end Go.Proofs.Ytadincbeimfakaa
