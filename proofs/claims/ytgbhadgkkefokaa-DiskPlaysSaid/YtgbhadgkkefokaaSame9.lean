/- Contract: the law's same, of a disk and the document's, of one state. -/
import Derived.Test.YtgbhadgkkefokaaRefOps
import Derived.Test.YtgbhadgkkefokaaRoom
import Derived.Test.YtgbhadgkkefokaaCalls
import Derived.Deep.RegionHeld3
namespace Go.Proofs.Ytgbhadgkkefokaa
open Go.RowKit
set_option maxRecDepth 100000 in
set_option maxHeartbeats 4000000 in
theorem same_any (w : World) (b r : Nat) (κ κ2 : Foot) (d : DS) (h : IsD w b κ d) (hx : IsX w r κ2 d) (hL : d.L.length ≤ 1000000) :
    Calls Try.prog 20 #[.pointer (some ⟨b, 0, none⟩), .pointer (some ⟨r, 0, none⟩)] w fun e w' => e = .returned (.bool true) ∧ Ext w w' := by
  obtain ⟨sp, sc, lp, lc, hb, hs, hl⟩ := hx.lay
  have HB := Lib.hid hb
  have HFi := Lib.hid (fun u (hu : Ext w u) => Files_any u b κ d (h.ext hu))
  have HLo := Lib.hid (fun u (hu : Ext w u) => Loose_any u b κ d (h.ext hu))
  have HRo := Lib.hid (fun u (hu : Ext w u) => Room_any u b κ d (h.ext hu))
  have HRX := Lib.hid (fun u (hu : Ext w u) => RoomX_any u r κ2 d (hx.ext hu) hL)
  have HRe := Lib.hid (fun u (hu : Ext w u) f => Read_any u b κ d (h.ext hu) f)
  have HRR := Lib.hid (fun u (hu : Ext w u) f => ReadX_any u r κ2 d (hx.ext hu) hL f)
  have HC := Lib.hid (fun u (hu : Ext w u) => four_cells (hb.ext hu))
  have hm16 := h.ok.m16
  have x0 : Ext w w.drew := (Ext.refl w).drew
  have hS : Ext w w.drew ∧ w.drew.cell? ⟨r, 0, none⟩ = some (.slice sp d.m sc) ∧ w.drew.cell? ⟨r, 1, none⟩ = some (.slice lp d.L.length lc) := ⟨x0, (HC.out _ x0).1, (HC.out _ x0).2.1⟩
  clear h hx hb hs hl
  go_enter Try.func20, Try.ntmps20
  go_wp2_with fail
  go_region_held3 (fun u => Ext w u ∧ u.cell? ⟨r, 0, none⟩ = some (.slice sp d.m sc) ∧ u.cell? ⟨r, 1, none⟩ = some (.slice lp d.L.length lc)) (first | exact hS | exact hS2 | assumption | go_keep) (first
    | (go_at_call 25; (with_reducible refine (HFi.out _ hS.1).mono ?_); rintro e w1 ⟨rfl, rfl⟩)
    | (go_at_call 24; (with_reducible refine (HRo.out _ hS.1).mono ?_); rintro e w1 ⟨rfl, rfl⟩)
    | (go_at_call 28; (with_reducible refine (HRX.out _ hS.1).mono ?_); rintro e w2 ⟨rfl, x2⟩; have x3 := x0.trans x2; have hS2 : Ext w w2 ∧ w2.cell? ⟨r, 0, none⟩ = some (.slice sp d.m sc) ∧ w2.cell? ⟨r, 1, none⟩ = some (.slice lp d.L.length lc) := ⟨x3, (HC.out _ x3).1, (HC.out _ x3).2.1⟩)
    | (go_at_call 22; (with_reducible refine (HLo.out _ hS2.1).mono ?_); rintro e w1 ⟨rfl, rfl⟩))
  have X2 := Lib.hid x3
  clear hS hS2 x0 x2 x3
  go_wp2_with fail
  go_loopw [5] (fun iv wr => ∃ i : Nat, i ≤ d.m + 2 ∧ iv = .int .i64 ((i : Int) - 1) ∧ Hid (Ext w wr)) (fun iv _ => d.m + 2 - (intOf iv + 1).toNat)
  case atStart => exact ⟨0, Nat.zero_le _, rfl, Lib.hid (X2.out)⟩
  case round =>
    obtain ⟨i, hi, rfl, hx⟩ := hrel
    obtain ⟨a0, a1, a2, a3⟩ := HC.out _ hx.out
    by_cases hlt : i < d.m + 2
    · have h1 : (i : Int) - 1 ≤ (d.m : Int) := by omega
      have HA := Lib.hid (HRe.out _ hx.out ((i : Int) - 1))
      have HX := Lib.hid (HRR.out _ hx.out ((i : Int) - 1))
      have hw : IntKind.i64.wrap ((i : Int) - 1 + 1) = (i : Int) := by rw [IntWalk.i64_in _ ⟨by omega, by omega⟩]; omega
      generalize (d.read ((i : Int) - 1)).1 = t at *
      generalize (d.read ((i : Int) - 1)).2 = n at *
      go_wp2_with (first
        | (go_at_call 23; refine (HA.out).mono ?_; rintro e w4 ⟨rfl, rfl⟩)
        | (go_at_call 14; refine (HX.out).mono ?_; rintro e w4 ⟨rfl, x4⟩; have hx4 := Lib.hid (hx.out.trans x4); clear x4))
      go_roundw
      case rel => exact ⟨i + 1, by omega, by go_num, hx4⟩
      case measure => simp [intOf]; omega
    · obtain rfl : i = d.m + 2 := by omega
      have h1 : ¬ ((d.m + 2 : Nat) : Int) - 1 ≤ (d.m : Int) := by omega
      go_wp2
      go_ret
      exact ⟨rfl, hx.out⟩
end Go.Proofs.Ytgbhadgkkefokaa
