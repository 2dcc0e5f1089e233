/- Contracts: Cut, by the document's answer. -/
import Derived.Test.YtgbhadgkkefokaaRefWr
namespace Go.Proofs.Ytgbhadgkkefokaa
open Go.RowKit
set_option maxRecDepth 100000 in
set_option maxHeartbeats 2000000 in
theorem CutX_any (w : World) (r : Nat) (κ : Foot) (d : DS) (h : IsX w r κ d) (hL : d.L.length ≤ 1000000) (f n : Int) :
    Calls Try.prog 9 #[.pointer (some ⟨r, 0, none⟩), .int .i64 f, .int .i64 n] w fun e w' => e = .returned (.int .i64 (d.cutF f n).2) ∧ PostX w r κ w' (d.cutF f n).1 := by
  have HB := Lib.hid (burnX_any w r κ d h)
  have hok := h.ok.cutF f n
  have hm16 := h.ok.m16
  unfold DS.cutF at hok ⊢
  clear h
  by_cases hf : d.fuse = 0
  · rw [if_pos hf] at HB ⊢
    rw [decide_eq_false (fun q => q hf)] at HB
    go_enter Try.func9, Try.ntmps9
    go_wp2_with (go_at_call 26; refine (HB.out).mono ?_; rintro e w1 ⟨rfl, hp⟩; have HP := Lib.hid hp; clear hp)
    go_ret
    exact ⟨rfl, HP.out⟩
  · rw [if_neg hf] at HB hok ⊢
    rw [decide_eq_true hf] at HB
    by_cases hm : d.isF f
    · rw [if_neg (fun q => q hm)] at hok ⊢
      obtain ⟨i, rfl⟩ : ∃ i : Nat, f = (i : Int) := ⟨f.toNat, by have := hm.1; omega⟩
      have hi : i < d.m := by have := hm.2; omega
      rw [Int.toNat_natCast] at hok ⊢
      by_cases hn : n < 0
      · rw [if_pos (Or.inl hn)]
        clear hok hf
        go_enter Try.func9, Try.ntmps9
        go_wp2_with (first
          | (go_at_call 26; refine (HB.out).mono ?_; rintro e w1 ⟨rfl, hp⟩; obtain ⟨κ1, h1, f1⟩ := hp; have HD := Lib.hid h1; have HF := Lib.hid f1; have hI := Is_any _ _ _ _ h1 (i : Int); rw [decide_eq_true (show d.burnt.isF (i : Int) from hm)] at hI; have HI := Lib.hid hI; clear h1 f1 hI)
          | (go_at_call 27; refine (HI.out).mono ?_; rintro e w2 ⟨rfl, rfl⟩))
        go_ret
        exact ⟨rfl, κ1, HD.out, HF.out⟩
      · have HAt := Lib.hid (txs_at d.now d.m i hi)
        have hi0 : (0 : Int) ≤ (i : Int) := by omega
        have him : (i : Int) < (d.m : Int) := by omega
        have hbm : d.burnt.m = d.m := rfl
        have hbn : d.burnt.now = d.now := rfl
        by_cases hr : ((d.now i).size : Int) < n
        · rw [if_pos (Or.inr hr)]
          clear hok hf
          go_enter Try.func9, Try.ntmps9
          go_wp2_with (first
            | (go_at_call 26; refine (HB.out).mono ?_; rintro e w1 ⟨rfl, hp⟩; obtain ⟨κ1, h1, f1⟩ := hp; have HD := Lib.hid h1; have HF := Lib.hid f1; have hI := Is_any _ _ _ _ h1 (i : Int); rw [decide_eq_true (show d.burnt.isF (i : Int) from hm)] at hI; have HI := Lib.hid hI; clear h1 f1 hI)
            | (go_at_call 27; refine (HI.out).mono ?_; rintro e w2 ⟨rfl, rfl⟩)
            | (go_at_call 29; refine (Now_any _ r κ1 d.burnt HD.out hL κ1).mono ?_; rw [hbm, hbn]; rintro e w2 ⟨q, c, rfl, κ2, s2, f2⟩; obtain ⟨g, rfl, _, _, hc, _⟩ := s2.cell HAt.out; have X2 := Lib.hid f2.toExt; clear s2 f2))
          go_ret
          exact ⟨rfl, κ1, HD.out.ext X2.out, HF.out.ext X2.out⟩
        · rw [if_neg (by omega)] at hok ⊢
          obtain ⟨n, rfl⟩ : ∃ j : Nat, n = (j : Int) := ⟨n.toNat, by omega⟩
          rw [Int.toNat_natCast] at hok ⊢
          have HOk := Lib.hid hok
          have h63 : d.L.length + 1 ≤ 1000000000 := by omega
          clear hok hf
          go_enter Try.func9, Try.ntmps9
          go_wp2_with (first
            | (go_at_call 26; refine (HB.out).mono ?_; rintro e w1 ⟨rfl, hp⟩; obtain ⟨κ1, h1, f1⟩ := hp; have HD := Lib.hid h1; have HF := Lib.hid f1; have hI := Is_any _ _ _ _ h1 (i : Int); rw [decide_eq_true (show d.burnt.isF (i : Int) from hm)] at hI; have HI := Lib.hid hI; clear h1 f1 hI)
            | (go_at_call 27; refine (HI.out).mono ?_; rintro e w2 ⟨rfl, rfl⟩)
            | (go_at_call 29; refine (Now_any _ r κ1 d.burnt HD.out hL κ1).mono ?_; rw [hbm, hbn]; rintro e w2 ⟨q, c, rfl, κ2, s2, f2⟩; obtain ⟨g, rfl, _, _, hc, _⟩ := s2.cell HAt.out; have x2 := f2.toExt; have X2 := Lib.hid x2; have hd2 := HD.out.ext x2; have HD2 := Lib.hid hd2; obtain ⟨sp, sc, lp, lc, hb2, hs2, hl2⟩ := hd2.lay; have HB2 := Lib.hid hb2; have HL2 := Lib.hid hl2; have a1 := (four_cells hb2).2.1; clear s2 f2 x2 hb2 hs2 hl2 hd2)
            | (refine wpList_append_sl rfl (.tmp 30) (.tmp 34) 58 58 rfl Try.underlying58 infoCa rfl (by decide) rfl (HL2.out.ext ((Ext.refl _).alloc _)) (chgsV_one _) _ rfl 1 (chgV (.cut i n)) ((Sl.ofBlk (κ := fun _ => 0) (z := 4) (Blk.new _ (chgV (.cut i n)) 63) rfl rfl).src Try.underlying58 (chgV_one _)) h63 ?_; intro p3 c3 w3 κ3 s3 f3 _ _ _; have f4 := (Fr.alloc (Fr.refl κ1 (· = 4) w2) (.cells (chgV (.cut i n)).toArray 63)).trans f3; have HQ := Lib.hid (HD2.out.more f4 (.cut i n) s3 HOk.out); have hb3 := f4.blk HB2.out (by rw [HD2.out.disk]; decide); have b1 := (four_cells hb3).2.1; have z1 := hb3.frozen 1; clear s3 f3 f4 hb3))
          go_ret
          exact ⟨rfl, PostX.trans (HF.out.ext X2.out) HQ.out⟩
    · rw [if_pos hm]
      clear hok hf
      go_enter Try.func9, Try.ntmps9
      go_wp2_with (first
        | (go_at_call 26; refine (HB.out).mono ?_; rintro e w1 ⟨rfl, hp⟩; obtain ⟨κ1, h1, f1⟩ := hp; have HD := Lib.hid h1; have HF := Lib.hid f1; have hI := Is_any _ _ _ _ h1 f; rw [decide_eq_false (show ¬ d.burnt.isF f from hm)] at hI; have HI := Lib.hid hI; clear h1 f1 hI)
        | (go_at_call 27; refine (HI.out).mono ?_; rintro e w2 ⟨rfl, rfl⟩))
      go_ret
      exact ⟨rfl, κ1, HD.out, HF.out⟩
end Go.Proofs.Ytgbhadgkkefokaa
