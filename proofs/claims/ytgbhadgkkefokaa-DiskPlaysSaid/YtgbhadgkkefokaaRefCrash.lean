/- Contracts: Crash, by the document's answer. -/
import Derived.Test.YtgbhadgkkefokaaRefWr
namespace Go.Proofs.Ytgbhadgkkefokaa
open Go.RowKit
theorem DS.stage_end (d : DS) (calls bytes : Int) (i : Nat) (h : calls < (i : Int)) : d.stage calls bytes i = d.left_ calls bytes := by
  unfold DS.stage DS.left_
  by_cases h0 : calls < 0
  · rw [if_pos h0, if_pos h0]
  · rw [if_neg h0, if_neg h0, if_neg (by omega)]
    rcases d.L[calls.toNat]? with _ | c <;> rfl
theorem DS.Ok.left_ok {d : DS} (h : d.Ok) (calls bytes : Int) : ({ d with S := d.left_ calls bytes, L := [] } : DS).Ok :=
  ⟨h.m1, h.m16, h.room, h.fuse0, h.fuse1, (h.left_size calls bytes).1, (h.left_size calls bytes).2, oks_nil _ _⟩
set_option maxRecDepth 100000 in
set_option maxHeartbeats 4000000 in
theorem CrashX_any (w : World) (r : Nat) (κ : Foot) (d : DS) (h : IsX w r κ d) (hL : d.L.length ≤ 1000000) (calls bytes : Int) :
    Calls Try.prog 12 #[.pointer (some ⟨r, 0, none⟩), .int .i64 calls, .int .i64 bytes] w fun e w' => e = .returned (.tuple #[]) ∧ PostX w r κ w' (d.crash calls bytes) := by
  obtain ⟨sp, sc, lp, lc, hb, hs, hl⟩ := h.lay
  have HB := Lib.hid hb; have HL := Lib.hid hl
  have HX := Lib.hid h
  have hm16 := h.ok.m16
  have hx1 : Ext w (w.alloc (.cells #[] 9)) := (Ext.refl w).alloc _
  have HS := Lib.hid ((hs.ext hx1).src (P := Try.prog) (tx := 57) Try.underlying57 (txs_one _ _))
  have HX1 := Lib.hid hx1
  obtain ⟨a0, a1, a2, a3⟩ := four_cells (hb.ext hx1)
  have hsz : 0 + d.m ≤ 1000000000 := by omega
  clear h hb hs hl hx1
  go_enter Try.func12, Try.ntmps12
  go_wp2_with (refine wpList_append_sl rfl (.tmp 8) (.tmp 12) 57 57 rfl Try.underlying57 infoT rfl (by decide) rfl (Sl.empty _ κ 3 1 _ w.heap.size) (fun u hu => by cases hu) _ rfl d.m (txs d.S d.m) HS.out hsz ?_; intro p1 c1 w1 κ1 s1 f1 e1 x1 o1; rw [Nat.zero_add, List.nil_append] at s1; rw [Nat.zero_add]; have HX2 := Lib.hid (x1 rfl); have HSl := Lib.hid s1; have HF := Lib.hid f1; clear s1 f1 x1 o1 e1)
  go_loopw [6, 7] (fun lv iv wr => ∃ i : Nat, i ≤ d.L.length ∧ iv = .int .i64 (i : Int) ∧ ∃ p c, lv = .slice p d.m c ∧ ∃ κi, Hid (Sl wr κi 3 1 9 p d.m c (txs (d.stage calls bytes i) d.m) ∧ Fr κ (fun _ => False) w wr κi)) (fun _ iv _ => d.L.length - (intOf iv).toNat)
  case atStart => exact ⟨0, Nat.zero_le _, rfl, p1, c1, rfl, κ1, Lib.hid ⟨by rw [DS.stage_zero]; exact HSl.out, (HX1.out.fr κ (fun _ => False)).trans ⟨HF.out.os, HF.out.tape, HF.out.output, HF.out.size, fun g hg _ => HX2.out.block g hg, HF.out.foot, HF.out.ins⟩⟩⟩
  case round =>
    clear a0 a1 a2 a3
    obtain ⟨i, hi, rfl, p, c, rfl, κi, hk⟩ := hrel
    have hxw := hk.out.2.toExt
    obtain ⟨a0, a1, a2, a3⟩ := four_cells (HB.out.ext hxw)
    have HXw := Lib.hid hxw
    clear hxw
    have hend : ((i : Int) < (d.L.length : Int) → calls < (i : Int)) → d.stage calls bytes i = d.left_ calls bytes := fun hq => by
      by_cases e : i < d.L.length
      · exact DS.stage_end d calls bytes i (hq (by omega))
      · obtain rfl : i = d.L.length := by omega
        exact DS.stage_all d calls bytes
    have HEnd := Lib.hid hend
    clear hend
    by_cases hlt : i < d.L.length
    · by_cases hc1 : (i : Int) ≤ calls
      · obtain ⟨ch, hc⟩ : ∃ ch, d.L[i]? = some ch := ⟨_, List.getElem?_eq_getElem hlt⟩
        have hok := HX.out.ok.stage_ok calls bytes i ch hc hc1
        have hcell : ∀ k v, k < 4 → (chgV ch)[k]? = some v → ∃ g, lp = some ⟨g, 0, none⟩ ∧ wr.cell? ⟨g, i * 4 + k, none⟩ = some v := fun k v hk4 hv => by
          obtain ⟨g, h1, _, _, h2, _⟩ := (HL.out.ext HXw.out).cell (j := i * 4 + k) (u := v) ((chgsV_at d.L i k ch hc hk4).trans hv)
          exact ⟨g, h1, h2⟩
        by_cases hc2 : (i : Int) < calls
        · have HStep := Lib.hid (d.stage_done calls bytes i ch hc hc2)
          have hdr : Ext wr wr.drew := (Ext.refl wr).drew
          cases ch with
          | wr f s =>
            obtain ⟨g, rfl, b0⟩ := hcell 0 _ (by decide) rfl
            obtain ⟨g1, q1, b1⟩ := hcell 1 _ (by decide) rfl
            obtain ⟨g2, q2, b2⟩ := hcell 2 _ (by decide) rfl
            obtain ⟨g3, q3, b3⟩ := hcell 3 _ (by decide) rfl
            cases q1; cases q2; cases q3
            rw [Nat.add_zero] at b0
            have HDn := Lib.hid (done_wr wr.drew κi 3 p d.m c _ (hk.out.1.ext hdr) hm16 f hok.1 0 s (s.size : Int) s.size (by omega) hok.2 κi)
            rw [extract_all] at HDn
            have HDr := Lib.hid hk.out.2.drew
            clear hcell hc hok hdr
            go_wp2_with fail
            go_still_tail 17, (by kernel_rfl)
            change wpList _ _ _ _ _ wr.drew
            generalize wr.drew = w5 at HDn HDr ⊢
            go_wp2_with (go_at_call 30; refine (HDn.out).mono ?_; rintro e w6 ⟨q6, c6, rfl, κ6, s6, f6⟩; have HS6 := Lib.hid s6; have HF6 := Lib.hid f6; clear s6 f6)
            go_roundw
            case rel => exact ⟨i + 1, hlt, by go_num, q6, c6, rfl, κ6, Lib.hid ⟨by rw [HStep.out]; exact HS6.out, HDr.out.trans HF6.out⟩⟩
            case measure => simp [intOf]; omega
          | cut f n =>
            obtain ⟨g, rfl, b0⟩ := hcell 0 _ (by decide) rfl
            obtain ⟨g1, q1, b1⟩ := hcell 1 _ (by decide) rfl
            obtain ⟨g2, q2, b2⟩ := hcell 2 _ (by decide) rfl
            obtain ⟨g3, q3, b3⟩ := hcell 3 _ (by decide) rfl
            cases q1; cases q2; cases q3
            rw [Nat.add_zero] at b0
            have HDn := Lib.hid (done_cut wr.drew κi 3 p d.m c _ (hk.out.1.ext hdr) hm16 f hok.1 n hok.2 ⟨#[]⟩ 0 κi)
            have HDr := Lib.hid hk.out.2.drew
            clear hcell hc hok hdr
            go_wp2_with fail
            go_still_tail 17, (by kernel_rfl)
            change wpList _ _ _ _ _ wr.drew
            generalize wr.drew = w5 at HDn HDr ⊢
            go_wp2_with (go_at_call 30; refine (HDn.out).mono ?_; rintro e w6 ⟨q6, c6, rfl, κ6, s6, f6⟩; have HS6 := Lib.hid s6; have HF6 := Lib.hid f6; clear s6 f6)
            go_roundw
            case rel => exact ⟨i + 1, hlt, by go_num, q6, c6, rfl, κ6, Lib.hid ⟨by rw [HStep.out]; exact HS6.out, HDr.out.trans HF6.out⟩⟩
            case measure => simp [intOf]; omega
        · have HStep := Lib.hid (d.stage_torn calls bytes i ch hc (by omega))
          cases ch with
          | wr f s =>
            obtain ⟨g, rfl, b0⟩ := hcell 0 _ (by decide) rfl
            obtain ⟨g1, q1, b1⟩ := hcell 1 _ (by decide) rfl
            obtain ⟨g2, q2, b2⟩ := hcell 2 _ (by decide) rfl
            obtain ⟨g3, q3, b3⟩ := hcell 3 _ (by decide) rfl
            cases q1; cases q2; cases q3
            rw [Nat.add_zero] at b0
            have HDn := Lib.hid (done_wr wr κi 3 p d.m c _ hk.out.1 hm16 f hok.1 0 s bytes (min bytes.toNat s.size) (by omega) hok.2 κi)
            clear hcell hc hok
            go_wp2_with (go_at_call 30; refine (HDn.out).mono ?_; rintro e w6 ⟨q6, c6, rfl, κ6, s6, f6⟩; have HS6 := Lib.hid s6; have HF6 := Lib.hid f6; clear s6 f6)
            go_roundw
            case rel => exact ⟨i + 1, hlt, by go_num, q6, c6, rfl, κ6, Lib.hid ⟨by rw [HStep.out]; exact HS6.out, hk.out.2.trans HF6.out⟩⟩
            case measure => simp [intOf]; omega
          | cut f n =>
            obtain ⟨g, rfl, b0⟩ := hcell 0 _ (by decide) rfl
            obtain ⟨g1, q1, b1⟩ := hcell 1 _ (by decide) rfl
            cases q1
            rw [Nat.add_zero] at b0
            clear hcell hc hok
            go_wp2
            go_roundw
            case rel => exact ⟨i + 1, hlt, by go_num, p, c, rfl, κi, Lib.hid ⟨by rw [HStep.out]; exact hk.out.1, hk.out.2⟩⟩
            case measure => simp [intOf]; omega
      · have e := HEnd.out (fun _ => by omega)
        have HQ := Lib.hid (HX.out.turned hk.out.2 (d.left_ calls bytes) (e ▸ hk.out.1) (HX.out.ok.left_ok calls bytes))
        have hb2 := hk.out.2.blk HB.out (fun x => x)
        have z0 := hb2.frozen 0; have z1 := hb2.frozen 1; have z3 := hb2.frozen 3
        clear e hb2
        go_wp2
        go_end0
        refine ⟨rfl, ?_⟩
        obtain ⟨κ2, h2, f2⟩ := HQ.out
        exact PostX.trans f2 (h2.setFuse (-1) (by omega) (by omega))
    · have e := HEnd.out (fun q => by omega)
      have HQ := Lib.hid (HX.out.turned hk.out.2 (d.left_ calls bytes) (e ▸ hk.out.1) (HX.out.ok.left_ok calls bytes))
      have hb2 := hk.out.2.blk HB.out (fun x => x)
      have z0 := hb2.frozen 0; have z1 := hb2.frozen 1; have z3 := hb2.frozen 3
      clear e hb2
      go_wp2
      go_end0
      refine ⟨rfl, ?_⟩
      obtain ⟨κ2, h2, f2⟩ := HQ.out
      exact PostX.trans f2 (h2.setFuse (-1) (by omega) (by omega))
end Go.Proofs.Ytgbhadgkkefokaa
