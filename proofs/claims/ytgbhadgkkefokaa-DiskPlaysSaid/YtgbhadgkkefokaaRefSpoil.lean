/- Contracts: Spoil, by the document's answer. -/
import Derived.Test.YtgbhadgkkefokaaRefWr
import Derived.Test.YtgbhadgkkefokaaBRow
import Derived.Test.YtgbhadgkkefokaaSpoil
namespace Go.Proofs.Ytgbhadgkkefokaa
open Go.RowKit
/-- Other files, put in one cell after another. -/
theorem IsX.sured {w w1 : World} {r : Nat} {κ κ1 : Foot} {d : DS} (h : IsX w r κ d) (f : Fr κ (fun _ => False) w w1 κ1) (g c : Nat) (s : Sl w1 κ1 3 1 9 (some ⟨g, 0, none⟩) d.m c (txs d.S d.m)) (hgk : κ1 g = 3) (i : Nat) (x : ByteArray) (ok : ({ d with S := upd d.S i x } : DS).Ok) :
    PostX w r κ ((w1.setCell ⟨r, 0, none⟩ (.slice (some ⟨g, 0, none⟩) d.m c)).drew.setCell ⟨g, i, none⟩ (.string x)) { d with S := upd d.S i x } := by
  obtain ⟨sp, sc, lp, lc, hb, hs, hl⟩ := h.lay
  have hb1 := f.blk hb (fun x => x)
  have hk : κ1 r = 2 := (f.foot r hb.lt).trans h.disk
  have hb2 := hb1.set_ 0 (.slice (some ⟨g, 0, none⟩) d.m c)
  have ho1 : ∀ q, q ≠ r → (w1.setCell ⟨r, 0, none⟩ (.slice (some ⟨g, 0, none⟩) d.m c)).heap[q]? = w1.heap[q]? := fun q hq => Below.heap_setCell _ _ _ _ hq
  have s2 := (s.parted hb1 (by decide) ho1).setOne i (.string x)
  rw [txs_set] at s2
  have hl2 := ((hl.fr f (fun x => x)).parted hb1 (by decide) ho1)
  have f1 : Fr κ (2 ≤ ·) w (w1.setCell ⟨r, 0, none⟩ (.slice (some ⟨g, 0, none⟩) d.m c)) κ1 := f.none.setCell (by show 2 ≤ κ1 r; rw [hk]; exact Nat.le_refl _) _
  have f2 : Fr κ (2 ≤ ·) w ((w1.setCell ⟨r, 0, none⟩ (.slice (some ⟨g, 0, none⟩) d.m c)).drew.setCell ⟨g, i, none⟩ (.string x)) κ1 := f1.drew.setCell (by show 2 ≤ κ1 g; rw [hgk]; decide) _
  have fs : Fr κ1 (· = 3) (w1.setCell ⟨r, 0, none⟩ (.slice (some ⟨g, 0, none⟩) d.m c)) ((w1.setCell ⟨r, 0, none⟩ (.slice (some ⟨g, 0, none⟩) d.m c)).drew.setCell ⟨g, i, none⟩ (.string x)) κ1 := (Fr.refl κ1 (· = 3) _).drew.setCell hgk _
  exact ⟨κ1, ⟨⟨some ⟨g, 0, none⟩, c, lp, lc, fs.blk hb2 (by rw [hk]; decide), s2, hl2.fr fs (by decide)⟩, hk, f2.ins h.ins, ok⟩, f2⟩
set_option maxRecDepth 100000 in
set_option maxHeartbeats 2000000 in
theorem SpoilX_any (w : World) (r : Nat) (κ : Foot) (d : DS) (h : IsX w r κ d) (hL : d.L.length ≤ 1000000) (f n : Int) (by_ : Nat) (hb : by_ < 256) :
    Calls Try.prog 13 #[.pointer (some ⟨r, 0, none⟩), .int .i64 f, .int .i64 n, .int .u8 (by_ : Int)] w fun e w' => e = .returned (.int .i64 (d.spoil f n by_).2) ∧ PostX w r κ w' (d.spoil f n by_).1 := by
  have HI := Lib.hid (Is_any w r κ d h f)
  have HN := Lib.hid (Now_any w r κ d h hL κ)
  have HX := Lib.hid h
  have hok := h.ok.spoil f n by_
  have hm16 := h.ok.m16
  unfold DS.spoil at hok ⊢
  clear h
  by_cases hm : d.isF f
  · rw [if_neg (fun q => q hm)] at hok ⊢
    rw [decide_eq_true hm] at HI
    obtain ⟨i, rfl⟩ : ∃ i : Nat, f = (i : Int) := ⟨f.toNat, by have := hm.1; omega⟩
    have hi : i < d.m := by have := hm.2; omega
    rw [Int.toNat_natCast] at hok ⊢
    have HAt := Lib.hid (txs_at d.now d.m i hi)
    have hi0 : (0 : Int) ≤ (i : Int) := by omega
    have him : (i : Int) < (d.m : Int) := by omega
    by_cases hn0 : n < 0
    · rw [if_pos (.inl hn0)]
      clear hok hm
      go_enter Try.func13, Try.ntmps13
      go_wp2_with (first
        | (go_at_call 27; refine (HI.out).mono ?_; rintro e w1 ⟨rfl, rfl⟩)
        | (go_at_call 29; refine (HN.out).mono ?_; rintro e w2 ⟨q, c, rfl, κ2, s2, f2⟩; obtain ⟨g, rfl, _, _, hc, _⟩ := s2.cell HAt.out; have X2 := Lib.hid f2.toExt; clear s2 f2))
      go_ret
      exact ⟨rfl, κ, HX.out.ext X2.out, X2.out.fr _ _⟩
    · by_cases hn1 : ((d.now i).size : Int) ≤ n
      · rw [if_pos (.inr hn1)]
        clear hok hm
        go_enter Try.func13, Try.ntmps13
        go_wp2_with (first
          | (go_at_call 27; refine (HI.out).mono ?_; rintro e w1 ⟨rfl, rfl⟩)
          | (go_at_call 29; refine (HN.out).mono ?_; rintro e w2 ⟨q, c, rfl, κ2, s2, f2⟩; obtain ⟨g, rfl, _, _, hc, _⟩ := s2.cell HAt.out; have X2 := Lib.hid f2.toExt; clear s2 f2))
        go_ret
        exact ⟨rfl, κ, HX.out.ext X2.out, X2.out.fr _ _⟩
      · rw [if_neg (by omega)] at hok ⊢
        by_cases hLp : 0 < d.L.length
        · rw [if_pos hLp]
          have hL' : (0 : Int) < (d.L.length : Int) := by omega
          clear hok hm
          go_enter Try.func13, Try.ntmps13
          go_wp2_with (first
            | (go_at_call 27; refine (HI.out).mono ?_; rintro e w1 ⟨rfl, rfl⟩)
            | (go_at_call 29; refine (HN.out).mono ?_; rintro e w2 ⟨q, c, rfl, κ2, s2, f2⟩; obtain ⟨g, rfl, _, _, hc, _⟩ := s2.cell HAt.out; have X2 := Lib.hid f2.toExt; obtain ⟨sp, sc, lp, lc, a0, a1, a2, a3, fz⟩ := (HX.out.ext f2.toExt).cells; clear s2 f2 fz))
          go_ret
          exact ⟨rfl, κ, HX.out.ext X2.out, X2.out.fr _ _⟩
        · rw [if_neg hLp] at hok ⊢
          have hLn : d.L = [] := List.length_eq_zero_iff.1 (by omega)
          have hL0 : d.L.length = 0 := by omega
          obtain ⟨j, rfl⟩ : ∃ j : Nat, n = (j : Int) := ⟨n.toNat, by omega⟩
          rw [Int.toNat_natCast] at hok ⊢
          have hnow : d.now = d.S := by unfold DS.now; rw [hLn]; rfl
          rw [hnow] at hn1 HAt HN
          have HOk := Lib.hid hok
          have hjl : j < (d.S i).data.toList.length := by rw [size_list]; omega
          obtain ⟨x, hx⟩ : ∃ x, (d.S i).data.toList[j]? = some x := ⟨_, List.getElem?_eq_getElem hjl⟩
          have hz := byte_xor x.toNat by_ x.toNat_lt hb
          have hlt : (x.toNat ^^^ by_) < 256 := Nat.xor_lt_two_pow (n := 8) x.toNat_lt hb
          have HZ := Lib.hid (show ((x.toNat ^^^ by_ : Nat) : Int) = ((UInt8.ofNat (x.toNat ^^^ by_)).toNat : Int) by simp only [UInt8.toNat_ofNat']; rw [Nat.mod_eq_of_lt hlt])
          have HT : Hid (⟨(((d.S i).data.toList.set j (UInt8.ofNat (x.toNat ^^^ by_))).take (d.S i).size).toArray⟩ = xorAt (d.S i) j by_) := Lib.hid (by
            unfold xorAt
            have e : ((d.S i).data.toList.getD j 0) = x := by simp [List.getD, hx]
            rw [e, List.take_of_length_le (by rw [List.length_set, size_list]; exact Nat.le_refl _)])
          have hls : ((d.S i).data.toList.set j (UInt8.ofNat (x.toNat ^^^ by_))).length = (d.S i).size := by rw [List.length_set, size_list]
          have HLs := Lib.hid hls
          have HX0 := Lib.hid hx
          have HJl := Lib.hid hjl
          have hjn : ¬ (d.S i).size ≤ j := by omega
          obtain ⟨zz, hzz⟩ : ∃ zz : Nat, x.toNat ^^^ by_ = zz := ⟨_, rfl⟩
          rw [hzz] at hz HZ HT HLs
          have hj0 : (0 : Int) ≤ (j : Int) := by omega
          have hjz : (j : Int) < ((d.S i).size : Int) := by omega
          have HBt := Lib.hid (fun u : World => bytes_of_text u (d.S i))
          have hsz : 0 + d.m ≤ 1000000000 := by omega
          have hm0 : 0 < d.m := by omega
          clear hzz hok hm hx hjl hnow hLn hLp hn0 hn1 hlt hls
          go_enter Try.func13, Try.ntmps13
          go_wp2_with (first
            | (go_at_call 27; refine (HI.out).mono ?_; rintro e w1 ⟨rfl, rfl⟩)
            | (go_at_call 29; refine (HN.out).mono ?_; rintro e w2 ⟨q, c, rfl, κ2, s2, f2⟩; obtain ⟨g, rfl, _, _, hc, _⟩ := s2.cell HAt.out; have X2 := Lib.hid f2.toExt; obtain ⟨sp, sc, lp, lc, a0, a1, a2, a3, fz⟩ := (HX.out.ext f2.toExt).cells; rw [hL0] at a1; obtain ⟨cap, w5, hcv, hcap, hx5, hrow⟩ := HBt.out w2; have hcell := hrow.cell j x HX0.out; have hfz := hrow.frozen j HJl.out; have xw := (X2.out.trans hx5).setCell (p := ⟨w2.heap.size, j, none⟩) X2.out.size (.int .u8 (zz : Int)); have XW := Lib.hid xw; have hrw := hrow.set_ j HJl.out (zz : Int) (UInt8.ofNat zz) HZ.out; have HRW := Lib.hid hrw; obtain ⟨sp5, sc5, lp5, lc5, hb5, hs5, hl5⟩ := (HX.out.ext xw).lay; have HB5 := Lib.hid hb5; have HS5 := Lib.hid hs5; have e0 := (four_cells (hb5.alloc (.cells #[] 9))).1; clear s2 f2 fz xw hrw hb5 hs5 hl5 hrow)
            | (refine wpList_append_sl rfl (.tmp 46) (.tmp 50) 57 57 rfl Try.underlying57 infoT rfl (by decide) rfl (Sl.empty _ κ 3 1 _ _) (fun u hu => by cases hu) _ rfl d.m (txs d.S d.m) ((HS5.out.ext ((Ext.refl _).alloc _)).src (P := Try.prog) (tx := 57) Try.underlying57 (txs_one _ _)) hsz ?_; intro p3 c3 w3 κ3 s3 f3 e3 x3 o3; rw [Nat.zero_add, List.nil_append] at s3; rw [Nat.zero_add]; have X3a := Lib.hid (x3 rfl); have X3 := Lib.hid (((Ext.refl _).alloc _).trans (x3 rfl)); have HB3 := HB5.out.ext X3.out; have z0 := HB3.frozen 0; have HS3 := Lib.hid s3; have F3 := Lib.hid f3; have b0 := (four_cells HB3).1; clear s3 f3 e3 x3 o3))
          have fr : Fr κ (fun _ => False) w w3 κ3 := ((XW.out.alloc _).fr κ _).trans ⟨F3.out.os, F3.out.tape, F3.out.output, F3.out.size, fun g hg _ => X3a.out.block g hg, F3.out.foot, F3.out.ins⟩
          obtain ⟨g3, rfl, _, hgk, _, hgf⟩ := HS3.out.cell (txs_at d.S d.m i hi)
          have HQ := Lib.hid (HX.out.sured fr g3 c3 HS3.out hgk i (xorAt (d.S i) j by_) HOk.out)
          have ho : ∀ q, q ≠ r → (w3.setCell ⟨r, 0, none⟩ (.slice (some ⟨g3, 0, none⟩) d.m c3)).heap[q]? = w3.heap[q]? := fun q hq => Below.heap_setCell _ _ _ _ hq
          have u0 := (four_cells (HB3.set_ 0 (.slice (some ⟨g3, 0, none⟩) d.m c3)).drew).1
          have hne : w2.heap.size ≠ r := by have := HX.out.lt; have := X2.out.size; omega
          obtain ⟨_, q1, _, _, uc, uf⟩ := (HS3.out.parted HB3 (by decide) ho).cell (txs_at d.S d.m i hi)
          cases q1
          have ut : (convert 51 9 (.slice (some ⟨w2.heap.size, 0, none⟩) (d.S i).size cap)).run Try.prog (w3.setCell ⟨r, 0, none⟩ (.slice (some ⟨g3, 0, none⟩) d.m c3)).drew = .ok (.string (xorAt (d.S i) j by_)) (w3.setCell ⟨r, 0, none⟩ (.slice (some ⟨g3, 0, none⟩) d.m c3)).drew := by
            rw [← HT.out]
            obtain ⟨rest, fz, h, hl⟩ := HRW.out.ext X3.out
            exact BRow.text (w := (w3.setCell ⟨r, 0, none⟩ (.slice (some ⟨g3, 0, none⟩) d.m c3)).drew) (t := 5) ⟨rest, fz, (ho _ hne).trans h, hl⟩ _ _ (by rw [HLs.out]; exact Nat.le_refl _)
          have uf' : (w3.setCell ⟨r, 0, none⟩ (.slice (some ⟨g3, 0, none⟩) d.m c3)).drew.frozen? ⟨g3, i, none⟩ = false := uf
          have uc' : (w3.setCell ⟨r, 0, none⟩ (.slice (some ⟨g3, 0, none⟩) d.m c3)).drew.cell? ⟨g3, i, none⟩ = some (.string (d.S i)) := uc
          have hin : ¬ d.m ≤ i := by omega
          clear fr ho hne HB3 hgf uf uc z0 b0
          generalize hTT : xorAt (d.S i) j by_ = T at *
          generalize w3.setCell ⟨r, 0, none⟩ (.slice (some ⟨g3, 0, none⟩) d.m c3) = U at u0 ut uf' uc' HQ ⊢
          go_region
          go_wp2
          go_ret
          subst hTT
          exact ⟨rfl, HQ.out⟩
  · rw [if_pos hm]
    rw [decide_eq_false hm] at HI
    clear hok hm
    go_enter Try.func13, Try.ntmps13
    go_wp2_with (go_at_call 27; refine (HI.out).mono ?_; rintro e w1 ⟨rfl, rfl⟩)
    go_ret
    exact ⟨rfl, κ, HX.out, Fr.refl _ _ _⟩
end Go.Proofs.Ytgbhadgkkefokaa
