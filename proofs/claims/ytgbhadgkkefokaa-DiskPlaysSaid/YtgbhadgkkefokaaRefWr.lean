/- Contracts: Write, Cut, Sync, New, by the document's answer. -/
import Derived.Test.YtgbhadgkkefokaaRefOps
namespace Go.Proofs.Ytgbhadgkkefokaa
open Go.RowKit
theorem IsX.more {w w1 : World} {r : Nat} {κ κ1 : Foot} {d : DS} (h : IsX w r κ d) (f : Fr κ (· = 4) w w1 κ1) (ch : Chg) {p : Option Addr} {c : Nat} (s : Sl w1 κ1 4 4 63 p (d.L.length + 1) c (chgsV d.L ++ chgV ch)) (ok : ({ d with L := d.L ++ [ch] } : DS).Ok) :
    PostX w r κ (w1.setCell ⟨r, 1, none⟩ (.slice p (d.L.length + 1) c)) { d with L := d.L ++ [ch] } := by
  obtain ⟨sp, sc, lp, lc, hb, hs, hl⟩ := h.lay
  have hb1 := f.blk hb (by rw [h.disk]; decide)
  have hk : κ1 r = 2 := (f.foot r hb.lt).trans h.disk
  have ho : ∀ g, g ≠ r → (w1.setCell ⟨r, 1, none⟩ (.slice p (d.L.length + 1) c)).heap[g]? = w1.heap[g]? := fun g hg => Below.heap_setCell _ _ _ _ hg
  have f2 : Fr κ (2 ≤ ·) w (w1.setCell ⟨r, 1, none⟩ (.slice p (d.L.length + 1) c)) κ1 := (f.mono (P' := (2 ≤ ·)) (fun k e => by subst e; decide)).setCell (by show 2 ≤ κ1 r; rw [hk]; exact Nat.le_refl _) _
  refine ⟨κ1, ⟨⟨sp, sc, p, c, ?_, (hs.fr f (by decide)).parted hb1 (by decide) ho, ?_⟩, hk, f2.ins h.ins, ok⟩, f2⟩
  · have := hb1.set_ 1 (.slice p (d.L.length + 1) c)
    rw [List.length_append]
    exact this
  · rw [List.length_append, chgsV_snoc]
    exact s.parted hb1 (by decide) ho
theorem IsX.turned {w w1 : World} {r : Nat} {κ κ1 : Foot} {d : DS} (h : IsX w r κ d) (f : Fr κ (fun _ => False) w w1 κ1) (N : Fs) {p : Option Addr} {c : Nat} (s : Sl w1 κ1 3 1 9 p d.m c (txs N d.m)) (ok : ({ d with S := N, L := [] } : DS).Ok) :
    PostX w r κ ((w1.setCell ⟨r, 0, none⟩ (.slice p d.m c)).setCell ⟨r, 1, none⟩ (.slice none 0 0)) { d with S := N, L := [] } := by
  obtain ⟨sp, sc, lp, lc, hb, hs, hl⟩ := h.lay
  have hb1 := f.blk hb (fun x => x)
  have hk : κ1 r = 2 := (f.foot r hb.lt).trans h.disk
  have hb2 := hb1.set_ 0 (.slice p d.m c)
  have ho1 : ∀ g, g ≠ r → (w1.setCell ⟨r, 0, none⟩ (.slice p d.m c)).heap[g]? = w1.heap[g]? := fun g hg => Below.heap_setCell _ _ _ _ hg
  have ho2 : ∀ g, g ≠ r → ((w1.setCell ⟨r, 0, none⟩ (.slice p d.m c)).setCell ⟨r, 1, none⟩ (.slice none 0 0)).heap[g]? = (w1.setCell ⟨r, 0, none⟩ (.slice p d.m c)).heap[g]? := fun g hg => Below.heap_setCell _ _ _ _ hg
  have f2 : Fr κ (2 ≤ ·) w ((w1.setCell ⟨r, 0, none⟩ (.slice p d.m c)).setCell ⟨r, 1, none⟩ (.slice none 0 0)) κ1 := (f.none.setCell (by show 2 ≤ κ1 r; rw [hk]; exact Nat.le_refl _) _).setCell (by show 2 ≤ κ1 r; rw [hk]; exact Nat.le_refl _) _
  exact ⟨κ1, ⟨⟨p, c, none, 0, hb2.set_ 1 _, (s.parted hb1 (by decide) ho1).parted hb2 (by decide) ho2, Sl.nil _ _ _ _ _⟩, hk, f2.ins h.ins, ok⟩, f2⟩
theorem PostX.trans {w w' w'' : World} {b : Nat} {κ κ' : Foot} {d : DS} (f : Fr κ (2 ≤ ·) w w' κ') (p : PostX w' b κ' w'' d) : PostX w b κ w'' d := by
  obtain ⟨κ2, h, g⟩ := p
  exact ⟨κ2, h, f.trans g⟩
set_option maxRecDepth 100000 in
set_option maxHeartbeats 2000000 in
theorem WriteX_any (w : World) (r : Nat) (κ : Foot) (d : DS) (h : IsX w r κ d) (hL : d.L.length ≤ 1000000) (f : Int) (s : ByteArray) :
    Calls Try.prog 8 #[.pointer (some ⟨r, 0, none⟩), .int .i64 f, .string s] w fun e w' => e = .returned (.int .i64 (d.write f s).2) ∧ PostX w r κ w' (d.write f s).1 := by
  have HB := Lib.hid (burnX_any w r κ d h)
  have hok := h.ok.write f s
  have hm16 := h.ok.m16
  unfold DS.write at hok ⊢
  clear h
  by_cases hf : d.fuse = 0
  · rw [if_pos hf] at HB ⊢
    rw [decide_eq_false (fun q => q hf)] at HB
    go_enter Try.func8, Try.ntmps8
    go_wp2_with (go_at_call 26; refine (HB.out).mono ?_; rintro e w1 ⟨rfl, hp⟩; have HP := Lib.hid hp; clear hp)
    go_ret
    exact ⟨rfl, HP.out⟩
  · rw [if_neg hf] at HB hok ⊢
    rw [decide_eq_true hf] at HB
    by_cases hm : d.isF f
    · rw [if_neg (fun q => q hm)] at hok ⊢
      by_cases hr : d.left < (s.size : Int)
      · rw [if_pos hr]
        clear hok hf
        go_enter Try.func8, Try.ntmps8
        go_wp2_with (first
          | (go_at_call 26; refine (HB.out).mono ?_; rintro e w1 ⟨rfl, hp⟩; obtain ⟨κ1, h1, f1⟩ := hp; have HD := Lib.hid h1; have HF := Lib.hid f1; have hI := Is_any _ _ _ _ h1 f; rw [decide_eq_true (show d.burnt.isF f from hm)] at hI; have HI := Lib.hid hI; clear h1 f1 hI)
          | (go_at_call 27; refine (HI.out).mono ?_; rintro e w2 ⟨rfl, rfl⟩)
          | (go_at_call 28; refine (RoomX_any _ r κ1 d.burnt HD.out hL).mono ?_; rw [show d.burnt.left = d.left from rfl]; rintro e w2 ⟨rfl, x2⟩; have X2 := Lib.hid x2; clear x2))
        go_ret
        exact ⟨rfl, κ1, HD.out.ext X2.out, HF.out.ext X2.out⟩
      · rw [if_neg hr] at hok ⊢
        obtain ⟨i, rfl⟩ : ∃ i : Nat, f = (i : Int) := ⟨f.toNat, by have := hm.1; omega⟩
        rw [Int.toNat_natCast] at hok ⊢
        have HOk := Lib.hid hok
        have h63 : d.L.length + 1 ≤ 1000000000 := by omega
        clear hok hf
        go_enter Try.func8, Try.ntmps8
        go_wp2_with (first
          | (go_at_call 26; refine (HB.out).mono ?_; rintro e w1 ⟨rfl, hp⟩; obtain ⟨κ1, h1, f1⟩ := hp; have HD := Lib.hid h1; have HF := Lib.hid f1; have hI := Is_any _ _ _ _ h1 (i : Int); rw [decide_eq_true (show d.burnt.isF (i : Int) from hm)] at hI; have HI := Lib.hid hI; clear h1 f1 hI)
          | (go_at_call 27; refine (HI.out).mono ?_; rintro e w2 ⟨rfl, rfl⟩)
          | (go_at_call 28; refine (RoomX_any _ r κ1 d.burnt HD.out hL).mono ?_; rw [show d.burnt.left = d.left from rfl]; rintro e w2 ⟨rfl, x2⟩; have X2 := Lib.hid x2; have hd2 := HD.out.ext x2; have HD2 := Lib.hid hd2; obtain ⟨sp, sc, lp, lc, hb2, hs2, hl2⟩ := hd2.lay; have HB2 := Lib.hid hb2; have HL2 := Lib.hid hl2; have a1 := (four_cells hb2).2.1; clear x2 hb2 hs2 hl2 hd2)
          | (refine wpList_append_sl rfl (.tmp 23) (.tmp 27) 58 58 rfl Try.underlying58 infoCa rfl (by decide) rfl (HL2.out.ext ((Ext.refl _).alloc _)) (chgsV_one _) _ rfl 1 (chgV (.wr i s)) ((Sl.ofBlk (κ := fun _ => 0) (z := 4) (Blk.new _ (chgV (.wr i s)) 63) rfl rfl).src Try.underlying58 (chgV_one _)) h63 ?_; intro p3 c3 w3 κ3 s3 f3 _ _ _; have f4 := (Fr.alloc (Fr.refl κ1 (· = 4) w2) (.cells (chgV (.wr i s)).toArray 63)).trans f3; have HQ := Lib.hid (HD2.out.more f4 (.wr i s) s3 HOk.out); have hb3 := f4.blk HB2.out (by rw [HD2.out.disk]; decide); have b1 := (four_cells hb3).2.1; have z1 := hb3.frozen 1; clear s3 f3 f4 hb3))
        go_ret
        exact ⟨rfl, PostX.trans (HF.out.ext X2.out) HQ.out⟩
    · rw [if_pos hm]
      clear hok hf
      go_enter Try.func8, Try.ntmps8
      go_wp2_with (first
        | (go_at_call 26; refine (HB.out).mono ?_; rintro e w1 ⟨rfl, hp⟩; obtain ⟨κ1, h1, f1⟩ := hp; have HD := Lib.hid h1; have HF := Lib.hid f1; have hI := Is_any _ _ _ _ h1 f; rw [decide_eq_false (show ¬ d.burnt.isF f from hm)] at hI; have HI := Lib.hid hI; clear h1 f1 hI)
        | (go_at_call 27; refine (HI.out).mono ?_; rintro e w2 ⟨rfl, rfl⟩))
      go_ret
      exact ⟨rfl, κ1, HD.out, HF.out⟩
end Go.Proofs.Ytgbhadgkkefokaa
