/- Contracts: what each call answers, by the document's answer: Is, New, burn, Fuse, Write, Cut, Sync, Read. -/
import Derived.Test.YtgbhadgkkefokaaRefNow
import Derived.Test.YtgbhadgkkefokaaCrashW
namespace Go.Proofs.Ytgbhadgkkefokaa
open Go.RowKit
theorem Is_any (w : World) (r : Nat) (κ : Foot) (d : DS) (h : IsX w r κ d) (f : Int) : Calls Try.prog 27 #[.pointer (some ⟨r, 0, none⟩), .int .i64 f] w fun e w' => e = .returned (.bool (decide (d.isF f))) ∧ w = w' := by
  obtain ⟨sp, sc, lp, lc, hb, hs, hl⟩ := h.lay
  obtain ⟨a0, a1, a2, a3⟩ := four_cells hb
  clear h hb hs hl
  by_cases h0 : 0 ≤ f
  · by_cases h1 : f < (d.m : Int)
    · rw [decide_eq_true (show d.isF f from ⟨h0, h1⟩)]
      go_enter Try.func27, Try.ntmps27
      go_wp2
      go_ret
      exact ⟨rfl, rfl⟩
    · rw [decide_eq_false (fun h : d.isF f => h1 h.2)]
      go_enter Try.func27, Try.ntmps27
      go_wp2
      go_ret
      exact ⟨rfl, rfl⟩
  · rw [decide_eq_false (fun h : d.isF f => h0 h.1)]
    go_enter Try.func27, Try.ntmps27
    go_wp2
    go_ret
    exact ⟨rfl, rfl⟩
theorem IsX.cells {w : World} {r : Nat} {κ : Foot} {d : DS} (h : IsX w r κ d) : ∃ sp sc lp lc, w.cell? ⟨r, 0, none⟩ = some (.slice sp d.m sc) ∧ w.cell? ⟨r, 1, none⟩ = some (.slice lp d.L.length lc) ∧ w.cell? ⟨r, 2, none⟩ = some (.int .i64 (d.room : Int)) ∧ w.cell? ⟨r, 3, none⟩ = some (.int .i64 d.fuse) ∧ ∀ i, w.frozen? ⟨r, i, none⟩ = false := by
  obtain ⟨sp, sc, lp, lc, hb, hs, hl⟩ := h.lay
  obtain ⟨a0, a1, a2, a3⟩ := four_cells hb
  exact ⟨sp, sc, lp, lc, a0, a1, a2, a3, fun i => hb.frozen i⟩
theorem IsX.setFuse {w : World} {r : Nat} {κ : Foot} {d : DS} (h : IsX w r κ d) (x : Int) (h0 : -1 ≤ x) (h1 : x ≤ 9223372036854775807) : PostX w r κ (w.setCell ⟨r, 3, none⟩ (.int .i64 x)) { d with fuse := x } := by
  obtain ⟨sp, sc, lp, lc, hb, hs, hl⟩ := h.lay
  have ho : ∀ g, g ≠ r → (w.setCell ⟨r, 3, none⟩ (.int .i64 x)).heap[g]? = w.heap[g]? := fun g hg => Below.heap_setCell _ _ _ _ hg
  have f : Fr κ (2 ≤ ·) w (w.setCell ⟨r, 3, none⟩ (.int .i64 x)) κ := setCell_fr _ _ _ _ (by show 2 ≤ κ r; rw [h.disk]; exact Nat.le_refl _) _
  exact ⟨κ, ⟨⟨sp, sc, lp, lc, hb.set_ 3 _, hs.parted hb (by decide) ho, hl.parted hb (by decide) ho⟩, h.disk, f.ins h.ins, ⟨h.ok.m1, h.ok.m16, h.ok.room, h0, h1, h.ok.sizes, h.ok.none, h.ok.oks⟩⟩, f⟩
theorem burnX_any (w : World) (r : Nat) (κ : Foot) (d : DS) (h : IsX w r κ d) : Calls Try.prog 26 #[.pointer (some ⟨r, 0, none⟩)] w fun e w' => e = .returned (.bool (decide (d.fuse ≠ 0))) ∧ PostX w r κ w' (if d.fuse = 0 then d else d.burnt) := by
  obtain ⟨sp, sc, lp, lc, a0, a1, a2, a3, fz⟩ := h.cells
  have f3 := fz 3
  have HX := Lib.hid h
  have HS := Lib.hid (fun x a c => h.setFuse x a c)
  have hlo := h.ok.fuse0
  have hhi := h.ok.fuse1
  clear h fz
  by_cases hf : d.fuse = 0
  · rw [if_pos hf, decide_eq_false (fun q => q hf)]
    rw [hf] at a3
    go_enter Try.func26, Try.ntmps26
    go_wp2
    go_ret
    exact ⟨rfl, κ, HX.out, Fr.refl _ _ _⟩
  · rw [if_neg hf, decide_eq_true hf]
    have hq : (d.fuse == 0) = false := by simpa using hf
    by_cases hp : 0 < d.fuse
    · have e : d.burnt = { d with fuse := d.fuse - 1 } := by unfold DS.burnt; rw [if_pos hp]
      rw [e]
      have HS1 := Lib.hid (HS.out (d.fuse - 1) (by omega) (by omega))
      have hw : IntKind.i64.wrap (d.fuse - 1) = d.fuse - 1 := IntWalk.i64_in _ ⟨by omega, by omega⟩
      clear hf hlo hhi e
      generalize { d with fuse := d.fuse - 1 } = d1 at *
      generalize d.fuse = q at *
      go_enter Try.func26, Try.ntmps26
      go_wp2
      go_ret
      exact ⟨rfl, HS1.out⟩
    · have e : d.burnt = d := by unfold DS.burnt; rw [if_neg hp]
      rw [e]
      clear hf hlo hhi e
      go_enter Try.func26, Try.ntmps26
      go_wp2
      go_ret
      exact ⟨rfl, κ, HX.out, Fr.refl _ _ _⟩
theorem FuseX_any (w : World) (r : Nat) (κ : Foot) (d : DS) (h : IsX w r κ d) (n : Int) (hn : n ≤ 9223372036854775807) : Calls Try.prog 11 #[.pointer (some ⟨r, 0, none⟩), .int .i64 n] w fun e w' => e = .returned (.tuple #[]) ∧ PostX w r κ w' (d.fused n) := by
  obtain ⟨sp, sc, lp, lc, a0, a1, a2, a3, fz⟩ := h.cells
  have f3 := fz 3
  have HS := Lib.hid (h.setFuse (max n (-1)) (by omega) (by omega))
  have hmx := fun ts t u => run_max2 ts t n (-1) _ rfl u
  clear h fz
  have e : d.fused n = { d with fuse := max n (-1) } := rfl
  rw [e]
  clear e
  generalize { d with fuse := max n (-1) } = d1 at *
  generalize max n (-1) = q at *
  go_enter Try.func11, Try.ntmps11
  go_wp2
  go_end0
  exact ⟨rfl, HS.out⟩
theorem ReadX_any (w : World) (r : Nat) (κ : Foot) (d : DS) (h : IsX w r κ d) (hL : d.L.length ≤ 1000000) (f : Int) : Calls Try.prog 14 #[.pointer (some ⟨r, 0, none⟩), .int .i64 f] w fun e w' => e = .returned (.tuple #[.string (d.read f).1, .int .i64 (d.read f).2]) ∧ Ext w w' := by
  obtain ⟨sp, sc, lp, lc, a0, a1, a2, a3, fz⟩ := h.cells
  have HI := Lib.hid (Is_any w r κ d h f)
  have HN := Lib.hid (Now_any w r κ d h hL (fun _ => 0))
  have hm16 := h.ok.m16
  clear h fz
  unfold DS.read
  by_cases hf : d.fuse = 0
  · rw [if_pos hf]
    rw [hf] at a3
    go_enter Try.func14, Try.ntmps14
    go_wp2
    go_ret2
    exact ⟨rfl, Ext.refl _⟩
  · rw [if_neg hf]
    have hq : (d.fuse == 0) = false := by simpa using hf
    by_cases hm : d.isF f
    · rw [if_neg (fun q => q hm)]
      rw [decide_eq_true hm] at HI
      obtain ⟨i, rfl⟩ : ∃ i : Nat, f = (i : Int) := ⟨f.toNat, by have := hm.1; omega⟩
      have hi : i < d.m := by have := hm.2; omega
      have HAt := Lib.hid (txs_at d.now d.m i hi)
      have hi0 : (0 : Int) ≤ (i : Int) := by omega
      have him : (i : Int) < (d.m : Int) := by omega
      rw [Int.toNat_natCast]
      clear hf hm
      generalize d.now i = s at *
      go_enter Try.func14, Try.ntmps14
      go_wp2_with (first
        | (go_at_call 27; refine (HI.out).mono ?_; rintro e w1 ⟨rfl, rfl⟩)
        | (go_at_call 29; refine (HN.out).mono ?_; rintro e w1 ⟨q, c, rfl, κ1, s1, f1⟩; obtain ⟨g, rfl, _, _, hc, _⟩ := s1.cell HAt.out; have HX1 := Lib.hid f1.toExt; clear s1 f1))
      go_ret2
      exact ⟨rfl, HX1.out⟩
    · rw [if_pos hm]
      rw [decide_eq_false hm] at HI
      clear hf hm
      go_enter Try.func14, Try.ntmps14
      go_wp2_with (go_at_call 27; refine (HI.out).mono ?_; rintro e w1 ⟨rfl, rfl⟩)
      go_ret2
      exact ⟨rfl, Ext.refl _⟩
end Go.Proofs.Ytgbhadgkkefokaa
