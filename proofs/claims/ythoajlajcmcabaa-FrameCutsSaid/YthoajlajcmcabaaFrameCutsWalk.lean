/- The walk of layer 10's statement FrameCuts. -/
import Derived.Test.YthoajlajcmcabaaFAlive
import Derived.Test.YthoajlajcmcabaaFRow
import Derived.Deep.DeepCutAuto
namespace Go.Proofs.Ythoajlajcmcabaa
open Go.RowKit

theorem cutF_yes {l : List ByteArray} {n k : Nat} {t : ByteArray} (h : l[n]? = some t) (hk : 16 + t.size ≤ k) :
    cutF (l.drop n) k = ((cutF (l.drop (n + 1)) (k - (16 + t.size))).1 + 1, (cutF (l.drop (n + 1)) (k - (16 + t.size))).2 + (16 + t.size)) := by
  obtain ⟨hn, ht⟩ := List.getElem?_eq_some_iff.1 h
  rw [List.drop_eq_getElem_cons hn, ht, cutF, if_pos hk]
theorem cutF_no {l : List ByteArray} {n k : Nat} {t : ByteArray} (h : l[n]? = some t) (hk : ¬ 16 + t.size ≤ k) : cutF (l.drop n) k = (0, 0) := by
  obtain ⟨hn, ht⟩ := List.getElem?_eq_some_iff.1 h
  rw [List.drop_eq_getElem_cons hn, ht, cutF, if_neg hk]
set_option maxRecDepth 100000 in
set_option maxHeartbeats 8000000 in
theorem FrameCuts_walk (p : Option Addr) (c : Nat) (l : List ByteArray) (first at_ : Int) (W : World) (hT : TextsP W p l) (hl : l.length ≤ 140737488355328) (hs : ∀ s, s ∈ l → s.size ≤ 140737488351232) (z1 : 0 ≤ first ∧ first ≤ 18446744073709551615) (z2 : 0 ≤ at_ ∧ at_ ≤ 65535) :
    Calls Try.prog 4 #[.slice p l.length c, .int .u64 first, .int .u16 at_] W fun e W' => e = .returned (.bool true) ∧ Ext W W' := by
  by_cases hh : Light l
  · obtain ⟨f, rfl⟩ : ∃ f : Nat, first = (f : Int) := ⟨first.toNat, by omega⟩
    have hf : f < 18446744073709551616 := by omega
    have HH := Lib.hid (heavy_no W p c l hT hs hl hh)
    have HRw := Lib.hid (row_any W p c l hT hh f hf)
    have hl60 := hh.1
    have hsz : (⟨(rowF (recsF l f)).toArray⟩ : ByteArray).size = totF l := by rw [txt_size, rowF_length]
    have hle := hh.each
    have htot := totF_le l 4096 hle
    have htt : totF l ≤ 300000 := by
      have : l.length * (16 + 4096) ≤ 60 * 4112 := Nat.mul_le_mul_right _ hl60
      omega
    obtain ⟨k, hk, hkt⟩ : ∃ k : Nat, at_ % ((totF l : Int) + 1) = (k : Int) ∧ k ≤ totF l := by
      have q1 := Int.emod_nonneg at_ (show ((totF l : Int) + 1) ≠ 0 by omega)
      have q2 := Int.emod_lt_of_pos at_ (show (0 : Int) < (totF l : Int) + 1 by omega)
      exact ⟨(at_ % ((totF l : Int) + 1)).toNat, by omega, by omega⟩
    have hS1 := scanF_all l f (fun t ht => Nat.le_trans (hle t ht) (by decide)) hf
    have hS2 := scanF_cut l f k (fun t ht => Nat.le_trans (hle t ht) (by decide)) hf hkt
    have HSc1 := Lib.hid (fun u => Scan_any u ⟨(rowF (recsF l f)).toArray⟩ (by omega) f hf)
    have hcutS : (⟨(rowF (recsF l f)).toArray⟩ : ByteArray).extract 0 k = ⟨((rowF (recsF l f)).take k).toArray⟩ := txt_extract _ _
    have hck : ∀ u : World, (Instr.slice 9 (.string ⟨(rowF (recsF l f)).toArray⟩) none (some (.int .i64 (k : Int))) none).run Try.prog u = .ok (.string ⟨((rowF (recsF l f)).take k).toArray⟩) u := fun u => by
      have := cut_to ⟨(rowF (recsF l f)).toArray⟩ k (by omega) u
      rw [hcutS] at this
      exact this
    have HSc2 := Lib.hid (fun u => Scan_any u ⟨((rowF (recsF l f)).take k).toArray⟩ (by rw [txt_size, List.length_take]; have h : (rowF (recsF l f)).length = totF l := rowF_length l f; omega) f hf)
    rw [hS1] at HSc1
    rw [hS2] at HSc2
    have hrl := recsF_length l f
    have HT := Lib.hid hT
    have HLe := Lib.hid hle
    have hwa : IntKind.i64.wrap ((totF l : Int) + 1) = (totF l : Int) + 1 := IntWalk.i64_in _ ⟨by omega, by omega⟩
    have hne : ¬ ((totF l : Int) + 1) = 0 := by omega
    have hszi : ((⟨(rowF (recsF l f)).toArray⟩ : ByteArray).size : Int) = (totF l : Int) := by rw [hsz]
    clear hh hT hs hle htot hS1 hS2 hcutS hsz
    generalize (⟨((rowF (recsF l f)).take k).toArray⟩ : ByteArray) = SK at *
    generalize (⟨(rowF (recsF l f)).toArray⟩ : ByteArray) = S at *
    go_enter Try.func4, Try.ntmps4
    go_wp2_with (first
      | (go_at_call 20; refine (HH.out).mono ?_; rintro e w1 ⟨rfl, rfl⟩)
      | (go_at_call 21; refine (HRw.out).mono ?_; rintro e w1 ⟨q, d, rfl, x1, r1, d1, d2, d3⟩; have X1 := Lib.hid x1; have R1 := Lib.hid r1; have D1 := Lib.hid d1; have D2 := Lib.hid d2; have D3 := Lib.hid d3; clear x1 r1 d1 d2 d3))
    rw [hk]
    have HSc1 := HSc1; have HSc2 := HSc2
    have HK := Lib.hid hk
    clear hk HH HRw hwa hne z2
    go_loopw [11, 12] (fun nv ev wr => ∃ n e : Nat, n ≤ l.length ∧ nv = .int .i64 (n : Int) ∧ ev = .int .i64 (e : Int) ∧ e ≤ k ∧ cutF l k = ((cutF (l.drop n) (k - e)).1 + n, (cutF (l.drop n) (k - e)).2 + e) ∧ w1 = wr) (fun nv _ _ => l.length - (intOf nv).toNat)
    case atStart => exact ⟨0, 0, Nat.zero_le _, rfl, rfl, Nat.zero_le _, by simp, rfl⟩
    case round =>
      obtain ⟨n, e, hn, rfl, rfl, he, hcut, rfl⟩ := hrel
      have HC := Lib.hid hcut
      clear hcut
      by_cases hlt : n < l.length
      · obtain ⟨t, ht⟩ : ∃ t, l[n]? = some t := ⟨_, List.getElem?_eq_getElem hlt⟩
        obtain ⟨a, rfl, ha, hc0⟩ := HT.out n t ht
        have hct := (X1.out.below.cell (p := a.add n) (by rw [add_block]; exact ha)).trans hc0
        have ht4 := HLe.out t (List.mem_of_getElem? ht)
        have hlti : (n : Int) < (l.length : Int) := by omega
        by_cases hk2 : e + 16 + t.size ≤ k
        · have hk2i : (e : Int) + 16 + (t.size : Int) ≤ (k : Int) := by omega
          have HY := Lib.hid (cutF_yes (k := k - e) ht (by omega))
          clear ht ha hc0
          go_wp2
          go_roundw
          case rel => exact ⟨n + 1, e + 16 + t.size, hlt, by go_num, by go_num, hk2, by rw [HC.out, HY.out, show k - e - (16 + t.size) = k - (e + 16 + t.size) by omega]; congr 1 <;> omega, trivial⟩
          case measure => simp [intOf]; omega
        · have hk2i : ¬ (e : Int) + 16 + (t.size : Int) ≤ (k : Int) := by omega
          have HN := cutF_no (k := k - e) ht (by omega)
          have HC2 := HC.out
          rw [HN, Nat.zero_add, Nat.zero_add] at HC2
          have HC3 := Lib.hid HC2
          clear ht ha hc0 HN HC2
          have hnl : n ≤ l.length := hn
          have HSc2b := HSc2
          rw [HC3.out] at HSc2b
          dsimp only at HSc2b
          have hL2 : ((recsF l f).take n).length = n := by rw [List.length_take, hrl]; omega
          have HSame1 := Lib.hid (fun u (p1 : Option Addr) (c1 : Nat) (h1 : RecsP u p1 (recsF l f)) (hq : RecsP u q (recsF l f)) => rSame_any u p1 q c1 d (recsF l f) (recsF l f) h1 hq (by omega))
          rw [hrl] at HSame1
          have HSame2 := Lib.hid (fun u (p1 : Option Addr) (c1 : Nat) (h1 : RecsP u p1 ((recsF l f).take n)) (hq : RecsP u q (recsF l f)) => rSame_any u p1 q c1 d ((recsF l f).take n) ((recsF l f).take n) h1 (hq.take n) (by omega))
          rw [hL2] at HSame2
          have hwant := fun u => recs_head q D2.out n l.length d hnl D1.out D3.out u
          have HLen2 := Lib.hid hL2; have HLen1 := Lib.hid hrl
          have HCode : Hid ((if e = k then 0 else 100 : Nat) = 0 ∧ e = k ∨ (if e = k then 0 else 100 : Nat) = 100 ∧ e ≠ k) := Lib.hid (by
            by_cases h : e = k
            · simp [h]
            · simp [h])
          clear HSc2 hL2
          generalize (if e = k then 0 else 100 : Nat) = cd at *
          generalize hP2 : (recsF l f).take n = P2 at *
          generalize hP1 : recsF l f = P1 at *
          clear hP1 hP2
          rcases HCode.out with ⟨rfl, rfl⟩ | ⟨rfl, hek⟩
          case' inr => have heki : ((e : Int) == (k : Int)) = false := by rw [beq_eq_false_iff_ne]; omega
          all_goals
            go_wp2_with (first
              | (go_at_call 16; (with_reducible refine (HSc1.out _).mono ?_); rintro e1 w2 ⟨v, rfl, x2, b2⟩; obtain ⟨p2, c2, rfl, r2, _⟩ := b2.recs; have X2 := Lib.hid x2; have RA := Lib.hid r2; have RQ := Lib.hid (R1.out.ext x2); rw [HLen1.out]; clear x2 b2 r2)
              | (go_at_call 16; (with_reducible refine (HSc2b.out _).mono ?_); rintro e1 w3 ⟨v, rfl, x3, b3⟩; obtain ⟨p3, c3, rfl, r3, _⟩ := b3.recs; have X3 := Lib.hid (X2.out.trans x3); have RB := Lib.hid r3; have RA3 := Lib.hid (RA.out.ext x3); have RQ3 := Lib.hid (RQ.out.ext x3); rw [HLen2.out]; clear x3 b3 r3)
              | (go_at_call 19; (with_reducible refine (HSame1.out _ _ _ RA3.out RQ3.out).mono ?_); rintro e1 w4 ⟨bb, rfl, x4, hbb⟩; obtain rfl : bb = true := (by simpa using hbb); have X4 := Lib.hid (X3.out.trans x4); have RB4 := Lib.hid (RB.out.ext x4); have RQ4 := Lib.hid (RQ3.out.ext x4); clear x4 hbb)
              | (go_at_call 19; (with_reducible refine (HSame2.out _ _ _ RB4.out RQ4.out).mono ?_); rintro e1 w5 ⟨bb, rfl, x5, hbb⟩; obtain rfl : bb = true := (by simpa using hbb); have X5 := Lib.hid (X4.out.trans x5); clear x5 hbb)
              | (go_at_call 8; refine (alive_any _).mono ?_; rintro e1 w6 ⟨rfl, x6⟩))
            go_ret
            exact ⟨rfl, X1.out.trans (X5.out.trans x6)⟩
      · obtain rfl : n = l.length := by omega
        have HC2 := HC.out
        rw [List.drop_length, cutF, Nat.zero_add, Nat.zero_add] at HC2
        have HC3 := Lib.hid HC2
        clear HC2 hlt
        have hnl : l.length ≤ l.length := hn
        have hlti : ¬ (l.length : Int) < (l.length : Int) := by omega
        have HSc2b := HSc2
        rw [HC3.out] at HSc2b
        dsimp only at HSc2b
        have hL2 : ((recsF l f).take l.length).length = l.length := by rw [List.length_take, hrl]; omega
        have HSame1 := Lib.hid (fun u (p1 : Option Addr) (c1 : Nat) (h1 : RecsP u p1 (recsF l f)) (hq : RecsP u q (recsF l f)) => rSame_any u p1 q c1 d (recsF l f) (recsF l f) h1 hq (by omega))
        rw [hrl] at HSame1
        have HSame2 := Lib.hid (fun u (p1 : Option Addr) (c1 : Nat) (h1 : RecsP u p1 ((recsF l f).take l.length)) (hq : RecsP u q (recsF l f)) => rSame_any u p1 q c1 d ((recsF l f).take l.length) ((recsF l f).take l.length) h1 (hq.take l.length) (by omega))
        rw [hL2] at HSame2
        have hwant := fun u => recs_head q D2.out l.length l.length d hnl D1.out D3.out u
        have HLen2 := Lib.hid hL2; have HLen1 := Lib.hid hrl
        have HCode : Hid ((if e = k then 0 else 100 : Nat) = 0 ∧ e = k ∨ (if e = k then 0 else 100 : Nat) = 100 ∧ e ≠ k) := Lib.hid (by
          by_cases h : e = k
          · simp [h]
          · simp [h])
        clear HSc2 hL2
        generalize (if e = k then 0 else 100 : Nat) = cd at *
        generalize hP2 : (recsF l f).take l.length = P2 at *
        generalize hP1 : recsF l f = P1 at *
        clear hP1 hP2
        rcases HCode.out with ⟨rfl, rfl⟩ | ⟨rfl, hek⟩
        case' inr => have heki : ((e : Int) == (k : Int)) = false := by rw [beq_eq_false_iff_ne]; omega
        all_goals
          go_wp2_with (first
            | (go_at_call 16; (with_reducible refine (HSc1.out _).mono ?_); rintro e1 w2 ⟨v, rfl, x2, b2⟩; obtain ⟨p2, c2, rfl, r2, _⟩ := b2.recs; have X2 := Lib.hid x2; have RA := Lib.hid r2; have RQ := Lib.hid (R1.out.ext x2); rw [HLen1.out]; clear x2 b2 r2)
            | (go_at_call 16; (with_reducible refine (HSc2b.out _).mono ?_); rintro e1 w3 ⟨v, rfl, x3, b3⟩; obtain ⟨p3, c3, rfl, r3, _⟩ := b3.recs; have X3 := Lib.hid (X2.out.trans x3); have RB := Lib.hid r3; have RA3 := Lib.hid (RA.out.ext x3); have RQ3 := Lib.hid (RQ.out.ext x3); rw [HLen2.out]; clear x3 b3 r3)
            | (go_at_call 19; (with_reducible refine (HSame1.out _ _ _ RA3.out RQ3.out).mono ?_); rintro e1 w4 ⟨bb, rfl, x4, hbb⟩; obtain rfl : bb = true := (by simpa using hbb); have X4 := Lib.hid (X3.out.trans x4); have RB4 := Lib.hid (RB.out.ext x4); have RQ4 := Lib.hid (RQ3.out.ext x4); clear x4 hbb)
            | (go_at_call 19; (with_reducible refine (HSame2.out _ _ _ RB4.out RQ4.out).mono ?_); rintro e1 w5 ⟨bb, rfl, x5, hbb⟩; obtain rfl : bb = true := (by simpa using hbb); have X5 := Lib.hid (X4.out.trans x5); clear x5 hbb)
            | (go_at_call 8; refine (alive_any _).mono ?_; rintro e1 w6 ⟨rfl, x6⟩))
          go_ret
          exact ⟨rfl, X1.out.trans (X5.out.trans x6)⟩
  · have HH := Lib.hid (heavy_yes W p c l hT hs hl hh)
    go_enter Try.func4, Try.ntmps4
    go_wp2_with (first
      | (go_at_call 20; refine (HH.out).mono ?_; rintro e w1 ⟨rfl, rfl⟩)
      | (go_at_call 8; refine (alive_any _).mono ?_; rintro e w1 ⟨rfl, h1⟩))
    go_ret
    exact ⟨rfl, h1⟩
end Go.Proofs.Ythoajlajcmcabaa
