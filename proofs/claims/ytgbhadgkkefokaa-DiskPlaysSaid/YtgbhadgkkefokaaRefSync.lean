/- Contracts: Sync, by the document's answer. -/
import Derived.Test.YtgbhadgkkefokaaRefWr
namespace Go.Proofs.Ytgbhadgkkefokaa
open Go.RowKit
set_option maxRecDepth 100000 in
set_option maxHeartbeats 2000000 in
theorem SyncX_any (w : World) (r : Nat) (κ : Foot) (d : DS) (h : IsX w r κ d) (hL : d.L.length ≤ 1000000) :
    Calls Try.prog 10 #[.pointer (some ⟨r, 0, none⟩)] w fun e w' => e = .returned (.int .i64 d.sync.2) ∧ PostX w r κ w' d.sync.1 := by
  have HB := Lib.hid (burnX_any w r κ d h)
  have hok := h.ok.sync
  unfold DS.sync at hok ⊢
  clear h
  by_cases hf : d.fuse = 0
  · rw [if_pos hf] at HB ⊢
    rw [decide_eq_false (fun q => q hf)] at HB
    go_enter Try.func10, Try.ntmps10
    go_wp2_with (go_at_call 26; refine (HB.out).mono ?_; rintro e w1 ⟨rfl, hp⟩; have HP := Lib.hid hp; clear hp)
    go_ret
    exact ⟨rfl, HP.out⟩
  · rw [if_neg hf] at HB hok ⊢
    rw [decide_eq_true hf] at HB
    have HOk := Lib.hid hok
    clear hok hf
    go_enter Try.func10, Try.ntmps10
    go_wp2_with (first
      | (go_at_call 26; refine (HB.out).mono ?_; rintro e w1 ⟨rfl, hp⟩; obtain ⟨κ1, h1, f1⟩ := hp; have HD := Lib.hid h1; have HF := Lib.hid f1; clear h1 f1)
      | (go_at_call 29; refine (Now_any _ r κ1 d.burnt HD.out hL κ1).mono ?_; rintro e w2 ⟨q, c, rfl, κ2, s2, f2⟩; have HQ := Lib.hid (HD.out.turned f2 d.now s2 HOk.out); obtain ⟨sp, sc, lp, lc, hb1, _, _⟩ := HD.out.lay; have hb2 := f2.blk hb1 (fun x => x); have z0 := hb2.frozen 0; have z1 := hb2.frozen 1; obtain ⟨b0, b1, b2, b3⟩ := four_cells hb2; have hm : d.burnt.m = d.m := rfl; rw [hm] at *; clear s2 f2 hb1 hb2))
    go_ret
    exact ⟨rfl, PostX.trans HF.out HQ.out⟩
end Go.Proofs.Ytgbhadgkkefokaa
