/- Contracts: the files, and the room, by the document's answer. -/
import Derived.Test.YtgbhadgkkefokaaRefDone
namespace Go.Proofs.Ytgbhadgkkefokaa
open Go.RowKit
set_option maxRecDepth 100000 in
set_option maxHeartbeats 4000000 in
theorem Now_any (w : World) (r : Nat) (κ : Foot) (d : DS) (h : IsX w r κ d) (hL : d.L.length ≤ 1000000) (κ0 : Foot) :
    Calls Try.prog 29 #[.pointer (some ⟨r, 0, none⟩)] w fun e w' => ∃ q c', e = .returned (.slice q d.m c') ∧ ∃ κ', Sl w' κ' 3 1 9 q d.m c' (txs d.now d.m) ∧ Fr κ0 (fun _ => False) w w' κ' := by
  obtain ⟨sp, sc, lp, lc, hb, hs, hl⟩ := h.lay
  have HB := Lib.hid hb; have HL := Lib.hid hl
  have HOk := Lib.hid h.ok
  have hm16 := h.ok.m16
  have hx1 : Ext w (w.alloc (.cells #[] 9)) := (Ext.refl w).alloc _
  have HS := Lib.hid ((hs.ext hx1).src (P := Try.prog) (tx := 57) Try.underlying57 (txs_one _ _))
  have HX1 := Lib.hid hx1
  obtain ⟨a0, a1, a2, a3⟩ := four_cells (hb.ext hx1)
  have hsz : 0 + d.m ≤ 1000000000 := by omega
  clear h hb hs hl hx1
  go_enter Try.func29, Try.ntmps29
  go_wp2_with (refine wpList_append_sl rfl (.tmp 5) (.tmp 9) 57 57 rfl Try.underlying57 infoT rfl (by decide) rfl (Sl.empty _ κ0 3 1 _ w.heap.size) (fun u hu => by cases hu) _ rfl d.m (txs d.S d.m) HS.out hsz ?_; intro p1 c1 w1 κ1 s1 f1 e1 x1 o1; rw [Nat.zero_add, List.nil_append] at s1; rw [Nat.zero_add]; have HX2 := Lib.hid (x1 rfl); have HSl := Lib.hid s1; have HF := Lib.hid f1; clear s1 f1 x1 o1 e1)
  go_loopw [3, 4] (fun lv iv wr => ∃ i : Nat, i ≤ d.L.length ∧ iv = .int .i64 (i : Int) ∧ ∃ p c, lv = .slice p d.m c ∧ ∃ κi, Hid (Sl wr κi 3 1 9 p d.m c (txs (runs d.S (d.L.take i)) d.m) ∧ Fr κ0 (fun _ => False) w wr κi)) (fun _ iv _ => d.L.length - (intOf iv).toNat)
  case atStart => exact ⟨0, Nat.zero_le _, rfl, p1, c1, rfl, κ1, Lib.hid ⟨HSl.out, (HX1.out.fr κ0 (fun _ => False)).trans ⟨HF.out.os, HF.out.tape, HF.out.output, HF.out.size, fun g hg _ => HX2.out.block g hg, HF.out.foot, HF.out.ins⟩⟩⟩
  case round =>
    clear a0 a1 a2 a3
    obtain ⟨i, hi, rfl, p, c, rfl, κi, hk⟩ := hrel
    have hxw := hk.out.2.toExt
    obtain ⟨a0, a1, a2, a3⟩ := four_cells (HB.out.ext hxw)
    have HXw := Lib.hid hxw
    clear hxw
    by_cases hlt : i < d.L.length
    · obtain ⟨ch, hc⟩ : ∃ ch, d.L[i]? = some ch := ⟨_, List.getElem?_eq_getElem hlt⟩
      have hok := HOk.out.oks i ch hc
      have hcell : ∀ k v, k < 4 → (chgV ch)[k]? = some v → ∃ g, lp = some ⟨g, 0, none⟩ ∧ wr.cell? ⟨g, i * 4 + k, none⟩ = some v := fun k v hk4 hv => by
        obtain ⟨g, h1, _, _, h2, _⟩ := (HL.out.ext HXw.out).cell (j := i * 4 + k) (u := v) ((chgsV_at d.L i k ch hc hk4).trans hv)
        exact ⟨g, h1, h2⟩
      have hstep := runs_take d.S d.L i ch hc
      have HStep := Lib.hid hstep
      have hdr : Ext wr wr.drew := (Ext.refl wr).drew
      cases ch with
      | wr f s =>
        obtain ⟨g, rfl, b0⟩ := hcell 0 _ (by decide) rfl
        obtain ⟨g1, q1, b1⟩ := hcell 1 _ (by decide) rfl
        obtain ⟨g2, q2, b2⟩ := hcell 2 _ (by decide) rfl
        obtain ⟨g3, q3, b3⟩ := hcell 3 _ (by decide) rfl
        cases q1; cases q2; cases q3
        rw [Nat.add_zero] at b0
        have HDn := Lib.hid (done_wr wr.drew κi 3 p d.m c _ (hk.out.1.ext hdr) hm16 f hok.1 0 s (s.size : Int) s.size (by omega) hok.2 κi)
        rw [extract_all] at HDn
        have HDr := Lib.hid hk.out.2.drew
        clear hcell hc hok hstep hdr
        go_wp2_with fail
        go_still_tail 17, (by kernel_rfl)
        change wpList _ _ _ _ _ wr.drew
        generalize wr.drew = w5 at HDn HDr ⊢
        go_wp2_with (go_at_call 30; refine (HDn.out).mono ?_; rintro e w6 ⟨q6, c6, rfl, κ6, s6, f6⟩; have HS6 := Lib.hid s6; have HF6 := Lib.hid f6; clear s6 f6)
        go_roundw
        case rel => exact ⟨i + 1, hlt, by go_num, q6, c6, rfl, κ6, Lib.hid ⟨by rw [HStep.out]; exact HS6.out, HDr.out.trans HF6.out⟩⟩
        case measure => simp [intOf]; omega
      | cut f n =>
        obtain ⟨g, rfl, b0⟩ := hcell 0 _ (by decide) rfl
        obtain ⟨g1, q1, b1⟩ := hcell 1 _ (by decide) rfl
        obtain ⟨g2, q2, b2⟩ := hcell 2 _ (by decide) rfl
        obtain ⟨g3, q3, b3⟩ := hcell 3 _ (by decide) rfl
        cases q1; cases q2; cases q3
        rw [Nat.add_zero] at b0
        have HDn := Lib.hid (done_cut wr.drew κi 3 p d.m c _ (hk.out.1.ext hdr) hm16 f hok.1 n hok.2 ⟨#[]⟩ 0 κi)
        have HDr := Lib.hid hk.out.2.drew
        clear hcell hc hok hstep hdr
        go_wp2_with fail
        go_still_tail 17, (by kernel_rfl)
        change wpList _ _ _ _ _ wr.drew
        generalize wr.drew = w5 at HDn HDr ⊢
        go_wp2_with (go_at_call 30; refine (HDn.out).mono ?_; rintro e w6 ⟨q6, c6, rfl, κ6, s6, f6⟩; have HS6 := Lib.hid s6; have HF6 := Lib.hid f6; clear s6 f6)
        go_roundw
        case rel => exact ⟨i + 1, hlt, by go_num, q6, c6, rfl, κ6, Lib.hid ⟨by rw [HStep.out]; exact HS6.out, HDr.out.trans HF6.out⟩⟩
        case measure => simp [intOf]; omega
    · obtain rfl : i = d.L.length := by omega
      go_wp2
      go_ret
      refine ⟨p, c, rfl, κi, ?_, hk.out.2⟩
      have := hk.out.1
      rwa [List.take_length] at this
set_option maxRecDepth 100000 in
set_option maxHeartbeats 2000000 in
theorem RoomX_any (w : World) (r : Nat) (κ : Foot) (d : DS) (h : IsX w r κ d) (hL : d.L.length ≤ 1000000) :
    Calls Try.prog 28 #[.pointer (some ⟨r, 0, none⟩)] w fun e w' => e = .returned (.int .i64 d.left) ∧ Ext w w' := by
  obtain ⟨sp, sc, lp, lc, hb, hs, hl⟩ := h.lay
  obtain ⟨a0, a1, a2, a3⟩ := four_cells hb
  have HN := Lib.hid (Now_any w r κ d h hL (fun _ => 0))
  have HZ := Lib.hid (szs_le d.now h.ok.now_size)
  have HNs := Lib.hid h.ok.now_size
  have hroom := h.ok.room
  have hm16 := h.ok.m16
  have HAt := Lib.hid (fun j hj => txs_at d.now d.m j hj)
  clear h hb hs hl
  unfold DS.left
  generalize d.now = N at *
  go_enter Try.func28, Try.ntmps28
  go_wp2_with (go_at_call 29; refine (HN.out).mono ?_; rintro e w1 ⟨q, c, rfl, κ1, s1, f1⟩; have HS1 := Lib.hid s1; have HX1 := Lib.hid f1.toExt; clear s1 f1)
  go_loopw [3, 5] (fun lv iv wr => ∃ j : Nat, j ≤ d.m ∧ iv = .int .i64 (j : Int) ∧ lv = .int .i64 ((d.room : Int) - (szs N j : Int)) ∧ w1 = wr) (fun _ iv _ => d.m - (intOf iv).toNat)
  case atStart => exact ⟨0, Nat.zero_le _, rfl, by simp [szs], rfl⟩
  case round =>
    obtain ⟨j, hj, rfl, rfl, rfl⟩ := hrel
    by_cases hlt : j < d.m
    · obtain ⟨g, rfl, _, _, hc, _⟩ := HS1.out.cell (HAt.out j hlt)
      have hz := HZ.out j
      have hn := HNs.out j
      obtain ⟨z1, hz1⟩ : ∃ z1 : Int, z1 = (d.room : Int) - (szs N (j + 1) : Int) := ⟨_, rfl⟩
      have hw : IntKind.i64.wrap ((d.room : Int) - (szs N j : Int) - ((N j).size : Int)) = z1 := by
        rw [IntWalk.i64_in _ ⟨by omega, by omega⟩, hz1]
        simp only [szs]; omega
      have HZ1 := Lib.hid hz1
      clear hz1
      generalize N j = nj at *
      go_wp2
      go_roundw
      case rel => exact ⟨j + 1, hlt, by go_num, by rw [← HZ1.out], by first | rfl | trivial⟩
      case measure => simp [intOf]; omega
    · obtain rfl : j = d.m := by omega
      go_wp2
      go_ret
      exact ⟨rfl, HX1.out⟩
end Go.Proofs.Ytgbhadgkkefokaa
