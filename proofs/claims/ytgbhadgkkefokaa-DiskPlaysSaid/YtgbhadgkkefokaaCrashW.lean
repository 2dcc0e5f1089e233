/- Contract: Crash. -/
import Derived.Test.YtgbhadgkkefokaaCrash
namespace Go.Proofs.Ytgbhadgkkefokaa
open Go.RowKit

theorem sure_there {w : World} {b : Nat} {κ : Foot} {m room : Nat} {fuse : Int} {N S : Fs} {pn qs : Nat → Option Addr} {cn ks : Nat → Nat} {lv : Value} (r : Raw w b κ m room fuse N S pn qs cn ks lv) (n : Nat) (hn : n = 16) : w.there b 3 n := by
  subst hn
  exact r.blk.there 3 16 (by rw [rcells_length (sls_length _ _ _) (sls_length _ _ _)]; decide)
set_option maxRecDepth 100000 in
set_option maxHeartbeats 4000000 in
theorem Crash_any (w : World) (b : Nat) (κ : Foot) (d : DS) (h : IsD w b κ d) (calls bytes : Int) (hL : d.L.length ≤ 1000000) :
    Calls Try.prog 18 #[.pointer (some ⟨b, 0, none⟩), .int .i64 calls, .int .i64 bytes] w fun e w' => e = .returned (.int .i64 0) ∧ Post w b κ w' (d.crash calls bytes) := by
  obtain ⟨pn, qs, cn, ks, lp, lc, r, l⟩ := h.lay
  obtain ⟨c0, c1, c2, f2, _⟩ := h.cells
  have HT := Lib.hid (there_yes w b d.m h.ok.m1 c0)
  have HR := Lib.hid r
  have HCp := Lib.hid (copied_any w κ d.S qs ks (fun i hi => (r.slot i hi).2.1) h.ok.sizes κ)
  have HZ := Lib.hid (sizedF d.S qs ks)
  have HSR := Lib.hid r.sureR
  have HTh := Lib.hid (fun u κ1 (hu : Raw u b κ1 d.m d.room d.fuse d.now d.S pn qs cn ks (.slice lp d.L.length lc)) => sure_there hu)
  have HSz : Hid (∀ p c, (Try.prog.info? 53).map (·.size) = some (sls d.S p c).toArray.size) := Lib.hid (fun p c => sizedA d.S p c)
  have HOne : Hid (∀ p c, (sls d.S p c).toArray.all (·.oneCell') = true) := Lib.hid (fun p c => sls_all d.S p c)
  have HLen : Hid (∀ p c, (sls d.S p c).toArray.size = 16) := Lib.hid (fun p c => by rw [List.size_toArray, sls_length])
  have HRest := Lib.hid (fun u κ1 (f : Fr κ (fun _ => False) w u κ1) p' c' (hF : FilesAt u κ1 d.S p' c') => r.restore f hF)
  have HLo := Lib.hid l
  have HOk := Lib.hid h.ok
  have hm16 := h.ok.m16
  have HFin := Lib.hid (h.ok.crash calls bytes)
  obtain ⟨fv, hs1, hs2, hs3⟩ := l
  have HFv := Lib.hid hs1
  have HCh := Lib.hid hs2
  have H0 := Lib.hid (d.stage_zero calls bytes)
  have HAll := Lib.hid (d.stage_all calls bytes)
  clear h r hs1 hs2 hs3
  generalize sls d.S qs ks = T0 at *
  go_enter Try.func18, Try.ntmps18
  go_wp2_with (first
    | (go_at_call 34; refine (HT.out).mono ?_; rintro e w1 ⟨rfl, rfl⟩)
    | (refine wpList_load_mid rfl 53 (.tmp 15) rfl b 19 rfl T0 _ HSR.out Try.underlying53 rfl HZ.out ?_)
    | (go_at_call 35; refine (HCp.out).mono ?_; rintro e w1 ⟨p1, k1, rfl, κ1, hF1, g1⟩; have hTh1 := HTh.out _ _ (HR.out.fr0 g1) _ (HLen.out p1 k1); have hSz1 := HSz.out p1 k1; have hOne1 := HOne.out p1 k1; have hG1 := HRest.out _ _ g1 _ _ hF1; clear hF1 g1; revert hTh1 hSz1 hOne1 hG1; generalize sls d.S p1 k1 = T; intro hTh1 hSz1 hOne1 hG1; have HTh1 := Lib.hid hTh1; have HSz1 := Lib.hid hSz1; have HOne1 := Lib.hid hOne1; have HG1 := Lib.hid hG1; clear hTh1 hSz1 hOne1 hG1)
    | (refine wpList_store_mid rfl 53 (.tmp 19) (.tmp 17) rfl b 3 T.toArray rfl rfl HTh1.out HSz1.out HOne1.out ?_; rw [List.toList_toArray]; have hG1 := HG1.out; revert hG1; clear HG1; generalize w1.setCells b 3 T = U; intro hG1; have c35 := (hG1.1.cells).2.2.2; have HG1 := Lib.hid hG1; clear hG1))
  go_loopw [25] (fun iv wr => ∃ j : Nat, j ≤ d.L.length ∧ iv = .int .i64 (j : Int) ∧ ∃ pn' cn' κ', Raw wr b κ' d.m d.room d.fuse (d.stage calls bytes j) d.S pn' qs cn' ks (.slice lp d.L.length lc) ∧ Fr κ (fun k => k = 2 ∨ 4 ≤ k) w wr κ') (fun iv _ => d.L.length - (intOf iv).toNat)
  case atStart => exact ⟨0, Nat.zero_le _, rfl, p1, k1, κ1, by rw [H0.out]; exact HG1.out.1, HG1.out.2⟩
  case round =>
    obtain ⟨j, hj, rfl, pn', cn', κ', hr, hf⟩ := hrel
    have HRj := Lib.hid hr; have HFj := Lib.hid hf
    clear hr hf
    by_cases hlt : j < d.L.length
    · obtain ⟨c, hc⟩ : ∃ c, d.L[j]? = some c := ⟨_, List.getElem?_eq_getElem hlt⟩
      obtain ⟨v, hv, hch⟩ := HCh.out j c hc
      obtain ⟨g, hgp, hgl, hgk, hgc, hgf⟩ := HFv.out.cell hv
      have hcell : wr.cell? ⟨g, j, none⟩ = some v := by
        rw [World.cell?_of_block (w := w) (a := ⟨g, j, none⟩) (HFj.out.other g hgl (by rw [hgk]; omega))]
        exact hgc
      have hch2 : IsChg wr κ' v c := hch.same (fun g hg e => HFj.out.other g hg (by omega)) (fun g hg e => (HFj.out.foot g hg).trans e)
      have HOkj := Lib.hid (fun hle => HOk.out.stage_ok calls bytes j c hc hle)
      have HDone := Lib.hid (fun hlt => d.stage_done calls bytes j c hc hlt)
      have HTorn := Lib.hid (fun he => d.stage_torn calls bytes j c hc he)
      have HPast := Lib.hid (fun hlt => d.stage_past calls bytes j hlt)
      clear hv hch hgc hgf hgl hgk hc
      subst hgp
      by_cases hlc : (j : Int) < calls
      · cases c with
        | wr f s =>
          obtain ⟨a, e, rfl, ka, ke, ba, be⟩ := hch2
          have HA := Lib.hid (does_any wr b κ' d.m d.room d.fuse _ d.S pn' qs cn' ks _ HRj.out hm16 f s (HOkj.out (by omega)) a e ba be ka ke)
          rw [← HDone.out hlc] at HA
          clear ba be
          go_wp2_with (go_at_call 46; refine (HA.out).mono ?_; rintro e w2 ⟨rfl, hw2⟩; have HW2 := Lib.hid hw2; clear hw2)
          go_roundw
          case rel =>
            obtain ⟨pn2, cn2, κ2, r2, f2⟩ := HW2.out
            exact ⟨j + 1, by omega, by go_num, pn2, cn2, κ2, r2, HFj.out.trans f2⟩
          case measure => simp [intOf]; omega
        | cut f n =>
          obtain ⟨a, e, rfl, ka, ke, ba, be⟩ := hch2
          have HA := Lib.hid (act_cut wr b κ' d.m d.room d.fuse _ d.S pn' qs cn' ks _ HRj.out f (by have := (HOkj.out (by omega)).1; omega) n (HOkj.out (by omega)).2 a e ba be ka ke)
          have HE : Hid (d.stage calls bytes (j + 1) = upd (d.stage calls bytes j) f ((d.stage calls bytes j f).extract 0 n)) := Lib.hid (HDone.out hlc)
          rw [← HE.out] at HA
          clear ba be
          go_wp2_with (go_at_call 47; refine (HA.out).mono ?_; rintro e w2 ⟨rfl, hw2⟩; have HW2 := Lib.hid hw2; clear hw2)
          go_roundw
          case rel =>
            obtain ⟨pn2, cn2, κ2, r2, f2⟩ := HW2.out
            exact ⟨j + 1, by omega, by go_num, pn2, cn2, κ2, r2, HFj.out.trans f2⟩
          case measure => simp [intOf]; omega
      · by_cases hec : (j : Int) = calls
        · subst hec
          have hmx := fun ts t u => run_max2 ts t bytes 0 _ rfl u
          obtain ⟨q, hq⟩ : ∃ q, max bytes 0 = q := ⟨_, rfl⟩
          rw [hq] at hmx
          have hq0 : 0 ≤ q := by omega
          have hqt : bytes.toNat = q.toNat := by omega
          have HQ := Lib.hid hqt
          clear hq hqt
          cases c with
          | wr f s =>
            obtain ⟨a, e, rfl, ka, ke, ba, be⟩ := hch2
            have HA := Lib.hid (act_wr wr b κ' d.m d.room d.fuse _ d.S pn' qs cn' ks _ HRj.out f (by have := (HOkj.out (by omega)).1; omega) s a e ba be ka ke q (min q.toNat s.size) (.inr ⟨hq0, by omega⟩) (HOkj.out (by omega)).2)
            have HE : Hid (d.stage (j : Int) bytes (j + 1) = upd (d.stage (j : Int) bytes j) f (d.stage (j : Int) bytes j f ++ s.extract 0 (min q.toNat s.size))) := Lib.hid (by rw [HTorn.out rfl, HQ.out]; rfl)
            rw [← HE.out] at HA
            clear ba be
            go_wp2_with (go_at_call 46; refine (HA.out).mono ?_; rintro e w2 ⟨rfl, hw2⟩; have HW2 := Lib.hid hw2; clear hw2)
            go_roundw
            case rel =>
              obtain ⟨pn2, cn2, κ2, r2, f2⟩ := HW2.out
              exact ⟨j + 1, by omega, by go_num, pn2, cn2, κ2, r2, HFj.out.trans f2⟩
            case measure => simp [intOf]; omega
          | cut f n =>
            obtain ⟨a, e, rfl, ka, ke, ba, be⟩ := hch2
            have HE : Hid (d.stage (j : Int) bytes (j + 1) = d.stage (j : Int) bytes j) := Lib.hid (by rw [HTorn.out rfl]; rfl)
            clear ba be
            go_wp2_with (go_at_call 47; refine (act_torn _ _ q hq0 _ _).mono ?_; rintro e w2 ⟨rfl, rfl⟩)
            go_roundw
            case rel => exact ⟨j + 1, by omega, by go_num, pn', cn', κ', by rw [HE.out]; exact HRj.out, HFj.out⟩
            case measure => simp [intOf]; omega
        · have hbe : ((j : Int) == calls) = false := by simpa using hec
          have HE := Lib.hid (HPast.out (by omega))
          go_wp2
          go_roundw
          case rel => exact ⟨j + 1, by omega, by go_num, pn', cn', κ', by rw [HE.out]; exact HRj.out, HFj.out⟩
          case measure => simp [intOf]; omega
    · obtain rfl : j = d.L.length := by omega
      have c0' := (HRj.out.cells).1
      go_wp2_with (go_at_call 41; refine (settle_any _ b κ' _ _ _ _ _ _ _ _ _ _ HRj.out).mono ?_; rintro e w2 ⟨rfl, r2, f2⟩; have HR2 := Lib.hid r2; have HF2 := Lib.hid f2; have c22 := (r2.cells).2.2.1; have fz2 := r2.blk.frozen 2; clear r2 f2)
      go_ret
      refine ⟨rfl, κ', ⟨⟨pn', pn', cn', cn', none, 0, ?_, Loose.nil _ _⟩, HFin.out⟩, ?_⟩
      · have := HR2.out.setFuse (-1)
        rw [HAll.out] at this
        exact this
      · exact ((HFj.out.mono (P' := (2 ≤ ·)) (fun k e => by show 2 ≤ k; omega)).trans (HF2.out.mono (fun k e => by show 2 ≤ k; omega))).setCell (by show 2 ≤ κ' b; rw [HR2.out.disk]; exact Nat.le_refl _) _
end Go.Proofs.Ytgbhadgkkefokaa
