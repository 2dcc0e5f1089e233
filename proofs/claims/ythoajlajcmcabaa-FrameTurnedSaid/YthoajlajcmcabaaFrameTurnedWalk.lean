/- The walk of layer 10's statement FrameTurned. -/
import Derived.Test.YthoajlajcmcabaaFAlive
import Derived.Test.YthoajlajcmcabaaFRow
import Derived.Test.YthoajlajcmcabaaTurnedP
import Derived.Test.YthoajlajcmcabaaBRow
import Derived.Deep.DeepCutAuto
namespace Go.Proofs.Ythoajlajcmcabaa
open Go.RowKit

set_option maxRecDepth 100000 in
set_option maxHeartbeats 8000000 in
theorem FrameTurned_walk (p : Option Addr) (c : Nat) (l : List ByteArray) (which at_ turns part : Int) (W : World) (hT : TextsP W p l) (hl : l.length ≤ 140737488355328) (hs : ∀ s, s ∈ l → s.size ≤ 140737488351232) (z1 : 0 ≤ which ∧ which ≤ 65535) (z2 : 0 ≤ at_ ∧ at_ ≤ 65535) (z3 : 0 ≤ turns ∧ turns ≤ 4294967295) (z4 : 0 ≤ part ∧ part ≤ 255) :
    Calls Try.prog 5 #[.slice p l.length c, .int .u16 which, .int .u16 at_, .int .u32 turns, .int .u8 part] W fun e W' => e = .returned (.bool true) ∧ Ext W W' := by
  by_cases hh : Light l
  · by_cases h0 : l.length = 0
    · have HH := Lib.hid (heavy_no W p c l hT hs hl hh)
      rw [h0] at HH ⊢
      clear hh hT h0 hl hs
      go_enter Try.func5, Try.ntmps5
      go_wp2_with (first
        | (go_at_call 20; refine (HH.out).mono ?_; rintro e w1 ⟨rfl, rfl⟩)
        | (go_at_call 8; refine (alive_any _).mono ?_; rintro e w1 ⟨rfl, h1⟩))
      go_ret
      exact ⟨rfl, h1⟩
    · have HH := Lib.hid (heavy_no W p c l hT hs hl hh)
      have HRw := Lib.hid (row_any W p c l hT hh 7 (by decide))
      have hl60 := hh.1
      have hsz : (rowF (recsF l 7)).length = totF l := rowF_length _ _
      have hle := hh.each
      have htot := totF_le l 4096 hle
      have htt : totF l ≤ 300000 := by
        have : l.length * (16 + 4096) ≤ 60 * 4112 := Nat.mul_le_mul_right _ hl60
        omega
      have h65 : ∀ t ∈ l, t.size ≤ 65536 := fun t ht => Nat.le_trans (hle t ht) (by decide)
      have hne : ((l.length : Int) == 0) = false := by rw [beq_eq_false_iff_ne]; omega
      have hne2 : ¬ (l.length : Int) = 0 := by omega
      obtain ⟨kk, hkk, hkl⟩ : ∃ kk : Nat, which % (l.length : Int) = (kk : Int) ∧ kk < l.length := by
        have q1 := Int.emod_nonneg which hne2
        have q2 := Int.emod_lt_of_pos which (show (0 : Int) < (l.length : Int) by omega)
        exact ⟨(which % (l.length : Int)).toNat, by omega, by omega⟩
      obtain ⟨tk, htk⟩ : ∃ t, l[kk]? = some t := ⟨_, List.getElem?_eq_getElem hkl⟩
      have htk4 := hle tk (List.mem_of_getElem? htk)
      have hfit : totF (l.take kk) + (16 + tk.size) ≤ totF l := by
        rw [← totF_snoc l kk tk htk]
        have h1 := rowF_length (l.take (kk + 1)) 7
        have h2 := rowF_length l 7
        have h3 := recsF_prefix l 7 (kk + 1)
        rw [h3] at h1
        rw [← h1, ← h2]
        conv => rhs; rw [← List.take_append_drop (kk + 1) (recsF l 7), rowF_append, List.length_append]
        omega
      obtain ⟨T, rfl⟩ : ∃ T : BitVec 32, turns = (T.toNat : Int) := ⟨BitVec.ofNat 32 turns.toNat, by rw [BitVec.toNat_ofNat]; omega⟩
      have HS1 := Lib.hid (scanF_all l 7 h65 (by decide))
      have HTold := Lib.hid (fun low bits j m i R hlow hm hj hi hb hT => scanF_told l 7 kk tk h65 (by decide) htk T low bits j m i R hlow hm hj hi hb hT)
      have HT := Lib.hid hT
      have HLe := Lib.hid hle
      have hTlt := T.isLt
      have HBit := Lib.hid (bit_tmod T)
      have hrl := recsF_length l 7
      have HSz := Lib.hid hsz
      clear hh hT hs hle htot h65 h0 hsz
      go_enter Try.func5, Try.ntmps5
      go_wp2_with (first
        | (go_at_call 20; refine (HH.out).mono ?_; rintro e w1 ⟨rfl, rfl⟩)
        | (go_at_call 21; refine (HRw.out).mono ?_; rintro e w1 ⟨q, d, rfl, x1, r1, d1, d2, d3⟩; have X1 := Lib.hid x1; have R1 := Lib.hid r1; have D1 := Lib.hid d1; have D2 := Lib.hid d2; have D3 := Lib.hid d3; clear x1 r1 d1 d2 d3))
      have HKK := Lib.hid hkk
      rw [hkk]
      clear hkk hne2 z1 hkl HH HRw
      generalize hP1 : recsF l 7 = P1 at *
      generalize hSL : rowF P1 = SL at *
      clear hP1 hSL
      have HCell := Lib.hid (fun (j : Nat) (hj : j < l.length) => (show ∃ (t : ByteArray) (a : Addr), l[j]? = some t ∧ p = some a ∧ w1.cell? (a.add j) = some (.string t) ∧ t.size ≤ 4096 ∧ a.block < w1.heap.size from by
        obtain ⟨t, ht⟩ : ∃ t, l[j]? = some t := ⟨_, List.getElem?_eq_getElem hj⟩
        obtain ⟨a, ha1, ha, hc0⟩ := HT.out j t ht
        exact ⟨t, a, ht, ha1, (X1.out.below.cell (p := a.add j) (by rw [add_block]; exact ha)).trans hc0, HLe.out t (List.mem_of_getElem? ht), Nat.lt_of_lt_of_le ha X1.out.size⟩))
      have hkl2 : kk < l.length := (List.getElem?_eq_some_iff.1 htk).1
      have HSn := Lib.hid (fun j t (h : l[j]? = some t) => totF_snoc l j t h)
      have HTk := Lib.hid htk
      clear htk
      go_loopw [15, 16] (fun fv iv wr => ∃ j : Nat, j ≤ kk ∧ iv = .int .i64 (j : Int) ∧ fv = .int .i64 (totF (l.take j) : Int) ∧ totF (l.take j) ≤ j * 4112 ∧ w1 = wr) (fun _ iv _ => kk - (intOf iv).toNat)
      case atStart => exact ⟨0, Nat.zero_le _, rfl, by simp [totF], by simp [totF], rfl⟩
      case round =>
        obtain ⟨j, hj, rfl, rfl, hjt, rfl⟩ := hrel
        by_cases hlt : j < kk
        · obtain ⟨t, a, ht, rfl, hct, ht4, _⟩ := HCell.out j (by omega)
          have HY := Lib.hid (HSn.out j t ht)
          have hlti : (j : Int) < (kk : Int) := by omega
          clear ht
          generalize totF (l.take j) = fr at *
          go_wp2
          go_roundw
          case rel => exact ⟨j + 1, hlt, by go_num, by rw [HY.out]; go_num, by rw [HY.out]; omega, trivial⟩
          case measure => simp [intOf]; omega
        · obtain rfl : j = kk := by omega
          clear hlt
          generalize hfr : totF (l.take j) = fr at *
          obtain ⟨cb, W2, hcv, hcc, hx2, hrow⟩ := bytes_of_text w1 ⟨SL.toArray⟩
          rw [show (⟨SL.toArray⟩ : ByteArray).data.toList = SL from by simp] at hrow
          have hszS : (⟨SL.toArray⟩ : ByteArray).size = totF l := HSz.out
          rw [hszS] at hcv
          have HB2 := Lib.hid hrow; have X2 := Lib.hid hx2
          clear hrow hx2 hfr
          generalize hSS : (⟨SL.toArray⟩ : ByteArray) = S at *
          have HSS := Lib.hid hSS
          clear hSS
          have hlg := HB2.out.lt
          go_upto_region 13 with (fail)
          obtain ⟨g, hg⟩ : ∃ g, g = w1.heap.size := ⟨_, rfl⟩
          rw [← hg] at HB2 ⊢
          have Hg := Lib.hid hg
          clear hg hlg hcv
          have hp3 : part % 3 = 0 ∨ part % 3 = 1 ∨ part % 3 = 2 := by omega
          go_cut [18] (fun v wx => ∃ low : Nat, v = .int .i64 (low : Int) ∧ (part % 3 = 0 ∧ low = 4 ∨ part % 3 = 1 ∧ low = 12 ∨ part % 3 = 2 ∧ low = 16) ∧ Ext W2 wx)
          case first =>
            rcases hp3 with h3 | h3 | h3
            all_goals
              go_wp2
              go_meet
            · exact ⟨4, rfl, .inl ⟨h3, rfl⟩, (Ext.refl W2).alloc _⟩
            · exact ⟨12, rfl, .inr (.inl ⟨h3, rfl⟩), (Ext.refl W2).alloc _⟩
            · exact ⟨16, rfl, .inr (.inr ⟨h3, rfl⟩), (Ext.refl W2).alloc _⟩
          case rest =>
            obtain ⟨low, rfl, hlow, hx3⟩ := hcut
            rename World => W3
            obtain ⟨tk', ak, htk', rfl, hck, htk4', hak⟩ := HCell.out j hkl2
            obtain rfl : tk' = tk := by have := HTk.out; rw [htk'] at this; exact Option.some.inj this
            have hck3 : W3.cell? (ak.add j) = some (.string tk') := ((X2.out.trans hx3).below.cell (p := ak.add j) (by rw [add_block]; exact hak)).trans hck
            clear hak
            have hw8 : IntKind.i64.wrap (8 * (tk'.size : Int)) = 8 * (tk'.size : Int) := IntWalk.i64_in _ ⟨by omega, by omega⟩
            have HLow := Lib.hid hlow; have X3 := Lib.hid (X2.out.trans hx3); have HB3 := Lib.hid (HB2.out.ext hx3)
            clear hlow hx3 hck htk' htk4'
            go_upto_region 14 with (fail)
            go_cut [19] (fun v wx => ∃ bits : Nat, v = .int .i64 (bits : Int) ∧ (part % 3 = 0 ∧ bits = 64 ∨ part % 3 = 1 ∧ bits = 32 ∨ part % 3 = 2 ∧ bits = 8 * tk'.size) ∧ Ext W3 wx)
            case first =>
              rcases hp3 with h3 | h3 | h3
              all_goals
                go_wp2
                go_meet
              · exact ⟨64, rfl, .inl ⟨h3, rfl⟩, (Ext.refl W3).alloc _⟩
              · exact ⟨32, rfl, .inr (.inl ⟨h3, rfl⟩), (Ext.refl W3).alloc _⟩
              · exact ⟨8 * tk'.size, by go_num, .inr (.inr ⟨h3, rfl⟩), (Ext.refl W3).alloc _⟩
            case rest =>
              obtain ⟨bits, rfl, hbitsd, hx4⟩ := hcut
              rename World => W4
              have hlb : low = 4 ∧ bits = 64 ∨ low = 12 ∧ bits = 32 ∨ low = 16 ∧ bits = 8 * tk'.size := by have := HLow.out; omega
              obtain ⟨b8, hb8, hb8n, hfit8⟩ : ∃ b8 : Nat, (bits : Int) / 8 = (b8 : Int) ∧ bits = 8 * b8 ∧ fr + low + b8 ≤ totF l := ⟨bits / 8, by omega, by omega, by omega⟩
              have hnlt : ¬ (totF l : Int) < (fr : Int) + (low : Int) + (b8 : Int) := by omega
              obtain ⟨mx, hmx, hmx1⟩ : ∃ mx : Nat, (max ((bits : Int) - 31) 1) = (mx : Int) ∧ 1 ≤ mx := ⟨(max ((bits : Int) - 31) 1).toNat, by omega, by omega⟩
              have hmax : ∀ (ts : Array TypeId) (t : TypeId) (u : World), (Builtin.max_ ts t #[.int .i64 ((bits : Int) - 31), .int .i64 1]).run Try.prog u = .ok (.int .i64 (mx : Int)) u := fun ts t u => by
                have := run_max_int2 (P := Try.prog) (w := u) ts t .i64 .i64 ((bits : Int) - 31) 1
                rw [this]
                congr 2
                split <;> omega
              have hbits : bits ≤ 40000 := by omega
              have hw31 : IntKind.i64.wrap ((bits : Int) - 31) = (bits : Int) - 31 := IntWalk.i64_in _ ⟨by omega, by omega⟩
              obtain ⟨jj, hjj, hjb⟩ : ∃ jj : Nat, at_ % (mx : Int) = (jj : Int) ∧ jj ≤ bits := by
                have q1 := Int.emod_nonneg at_ (show (mx : Int) ≠ 0 by omega)
                have q2 := Int.emod_lt_of_pos at_ (show (0 : Int) < (mx : Int) by omega)
                exact ⟨(at_ % (mx : Int)).toNat, by omega, by omega⟩
              have hmne : ¬ (mx : Int) = 0 := by omega
              have HB4 := Lib.hid (HB3.out.ext hx4); have X4 := Lib.hid (X3.out.trans hx4)
              have HLB := Lib.hid hlb
              have hH8 := Lib.hid hb8n
              have hHF := Lib.hid hfit8
              clear hlb hx4 hp3 hmx hck3 hw8 HLow hb8n hfit8
              go_wp2
              have HK := Lib.hid (show ∀ i : Nat, 8 * (fr + low) + jj + i = 8 * (fr + low + (jj + i) / 8) + (jj + i) % 8 from fun i => by omega)
              obtain ⟨K, hK⟩ : ∃ K, K = 8 * (fr + low) + jj := ⟨_, rfl⟩
              have HKe := Lib.hid hK
              have HT0 := Lib.hid (Turned.zero SL T K)
              have HlW := Lib.hid (show w1.heap.size ≤ g from by rw [Hg.out]; exact Nat.le_refl _)
              clear hK
              go_loopw [21, 22] (fun nv iv wr => ∃ (i n : Nat) (R : List UInt8), i ≤ 32 ∧ jj + i ≤ bits ∧ nv = .int .i64 (n : Int) ∧ n ≤ i ∧ iv = .int .i64 (i : Int) ∧ (n = 0 ↔ ∀ e, e < i → T.getLsbD e = false) ∧ Turned SL T K i R ∧ BRow wr g 5 R ∧ Ext w1 wr) (fun _ iv _ => 32 - (intOf iv).toNat)
              case atStart => exact ⟨0, 0, SL, Nat.zero_le _, hjb, rfl, Nat.le_refl _, rfl, by simp, HT0.out, HB4.out, X4.out⟩
              case round =>
                obtain ⟨i, n, R, hi32, hib, rfl, hni, rfl, hn0, htu, hrow, hext⟩ := hrel
                have HTu := Lib.hid htu; have HRw := Lib.hid hrow; have HE := Lib.hid hext; have HN := Lib.hid hn0
                have hRl : Hid (R.length = totF l) := Lib.hid (by rw [htu.1, HSz.out])
                clear htu hrow hext hn0
                by_cases hgo : i < 32 ∧ jj + i < bits
                · obtain ⟨hi, hjib⟩ := hgo
                  have hii : (i : Int) < 32 := by omega
                  have hjii : (jj : Int) + (i : Int) < (bits : Int) := by omega
                  have hb := HBit.out i
                  cases hbit : T.getLsbD i
                  · rw [hbit] at hb
                    have HTn := Lib.hid (HTu.out.no hbit)
                    have HNn : Hid (n = 0 ↔ ∀ e, e < i + 1 → T.getLsbD e = false) := Lib.hid (by
                      rw [HN.out]
                      refine ⟨fun h e he => ?_, fun h e he => h e (by omega)⟩
                      rcases Nat.lt_or_ge e i with q | q
                      · exact h e q
                      · obtain rfl : e = i := by omega
                        exact hbit)
                    clear hbit
                    generalize T.toNat = tn at *
                    go_wp2
                    go_roundw
                    case rel => exact ⟨i + 1, n, R, by omega, by omega, rfl, by omega, by go_num, HNn.out, HTn.out, HRw.out, HE.out⟩
                    case measure => simp [intOf]; omega
                  · rw [hbit] at hb
                    obtain ⟨p0, q0, hpq, hq8, hpd, hqd⟩ : ∃ p q : Nat, 8 * p + q = jj + i ∧ q < 8 ∧ ((jj : Int) + (i : Int)) / 8 = (p : Int) ∧ ((jj : Int) + (i : Int)) % 8 = (q : Int) := ⟨(jj + i) / 8, (jj + i) % 8, by omega, by omega, by omega, by omega⟩
                    have hps : fr + low + p0 < totF l := by have := hHF.out; have := hH8.out; omega
                    obtain ⟨x, hx⟩ : ∃ x, R[fr + low + p0]? = some x := ⟨_, List.getElem?_eq_getElem (by rw [hRl.out]; exact hps)⟩
                    obtain ⟨y, hy, hby⟩ := turned_byte x q0 hq8
                    have HTn := Lib.hid (HTu.out.yes hbit (fr + low + p0) q0 hq8 (by have := HKe.out; omega) x y hx hy)
                    have c0 := HRw.out.cell (fr + low + p0) x hx
                    have f0 := HRw.out.frozen (fr + low + p0) (by rw [hRl.out]; exact hps)
                    have HSet := Lib.hid (HRw.out.set_ (fr + low + p0) (by rw [hRl.out]; exact hps) (y.toNat : Int) y rfl)
                    have HNn : Hid (n + 1 = 0 ↔ ∀ e, e < i + 1 → T.getLsbD e = false) := Lib.hid (by
                      refine ⟨fun h => by omega, fun h => ?_⟩
                      have := h i (by omega)
                      rw [hbit] at this
                      cases this)
                    have hps2 : (fr : Int) + (low : Int) + (p0 : Int) < (totF l : Int) := by omega
                    clear hbit hx hy
                    generalize T.toNat = tn at *
                    go_wp2
                    go_roundw
                    case rel => exact ⟨i + 1, n + 1, _, by omega, by omega, by go_num, by omega, by go_num, HNn.out, HTn.out, HSet.out, HE.out.setCell HlW.out _⟩
                    case measure => simp [intOf]; omega
                · have hm : i ≤ 32 ∧ jj + i ≤ bits := ⟨hi32, hib⟩
                  have HTold2 := Lib.hid (fun e he hbe => HTold.out low bits jj i e R HLB.out hi32 hib he hbe (by have := HTu.out; rw [HKe.out] at this; exact this))
                  have htx := HRw.out.text (totF l) cb (by rw [hRl.out]; exact Nat.le_refl _)
                  rw [List.take_of_length_le (by rw [hRl.out]; exact Nat.le_refl _)] at htx
                  have hRs : (⟨R.toArray⟩ : ByteArray).size = totF l := by rw [txt_size, hRl.out]
                  have HSc := Lib.hid (fun u => Scan_any u ⟨R.toArray⟩ (by omega) 7 (by decide))
                  rw [show ((7 : Nat) : Int) = 7 from rfl] at HSc
                  have hwant := fun u => recs_head q D2.out j l.length d (by omega) D1.out D3.out u
                  have R3 := Lib.hid (R1.out.ext HE.out)
                  have hcase : ¬ (i : Int) < 32 ∨ ((i : Int) < 32 ∧ ¬ (jj : Int) + (i : Int) < (bits : Int)) := by omega
                  clear hgo hi32 hib
                  by_cases hz : n = 0
                  · obtain rfl := HTu.out.none (HN.out.1 hz)
                    rw [HSS.out] at HSc htx
                    rw [HS1.out] at HSc
                    dsimp only at HSc
                    have HSc0 : Hid (∀ u, Calls Try.prog 16 #[.string S, .int .u64 7] u fun e w' => ∃ v, e = .returned (.tuple #[v, .int .i64 (totF l : Int), .int .i64 0]) ∧ Ext u w' ∧ BufR w' u.heap.size v P1) := HSc
                    have HSame := Lib.hid (fun u (p1 : Option Addr) (c1 : Nat) (h1 : RecsP u p1 P1) (hq : RecsP u q P1) => rSame_any u p1 q c1 d P1 P1 h1 hq (by omega))
                    rw [hrl] at HSame
                    have HLn := Lib.hid hrl
                    have hzi : ((n : Int) == 0) = true := by rw [hz]; rfl
                    clear hz hRs hwant HSc hrl HSS HS1 HTold HTu HRw
                    rcases hcase with hc1 | ⟨hc1, hc2⟩
                    all_goals
                      go_wp2_with (first
                        | (go_at_call 16; refine (HSc0.out _).mono ?_; rintro e1 w5 ⟨v, rfl, x5, b5⟩; obtain ⟨p5, c5, rfl, r5, _⟩ := b5.recs; have X5 := Lib.hid x5; have RA := Lib.hid r5; have RQ := Lib.hid (R3.out.ext x5); rw [HLn.out]; clear x5 b5 r5)
                        | (go_at_call 19; refine (HSame.out _ _ _ RA.out RQ.out).mono ?_; rintro e1 w6 ⟨bb, rfl, x6, hbb⟩; obtain rfl : bb = true := (by simpa using hbb); have X6 := Lib.hid (X5.out.trans x6); clear x6 hbb)
                        | (go_at_call 8; refine (alive_any _).mono ?_; rintro e1 w7 ⟨rfl, x7⟩))
                      go_ret
                      exact ⟨rfl, X1.out.trans (HE.out.trans (X6.out.trans x7))⟩
                  · obtain ⟨e0, he0, hbe0⟩ : ∃ e, e < i ∧ T.getLsbD e = true := by
                      refine Classical.byContradiction fun hno => hz (HN.out.2 fun e he => ?_)
                      rcases hq : T.getLsbD e with _ | _
                      · rfl
                      · exact absurd ⟨e, he, hq⟩ hno
                    rw [HTold2.out e0 he0 hbe0] at HSc
                    dsimp only at HSc
                    have HSc0 : Hid (∀ u, Calls Try.prog 16 #[.string ⟨R.toArray⟩, .int .u64 7] u fun e w' => ∃ v, e = .returned (.tuple #[v, .int .i64 (fr : Int), .int .i64 101]) ∧ Ext u w' ∧ BufR w' u.heap.size v (P1.take j)) := HSc
                    have hL2 : (P1.take j).length = j := by rw [List.length_take, hrl]; omega
                    have HSame := Lib.hid (fun u (p1 : Option Addr) (c1 : Nat) (h1 : RecsP u p1 (P1.take j)) (hq : RecsP u q P1) => rSame_any u p1 q c1 d (P1.take j) (P1.take j) h1 (hq.take j) (by omega))
                    rw [hL2] at HSame
                    have HLn := Lib.hid hL2
                    have hzi : ((n : Int) == 0) = false := by rw [beq_eq_false_iff_ne]; omega
                    clear hz hRs HSc hrl HSS HS1 HTold HTold2 HTu HRw he0 hbe0 hL2
                    generalize (⟨R.toArray⟩ : ByteArray) = RT at *
                    rcases hcase with hc1 | ⟨hc1, hc2⟩
                    all_goals
                      go_wp2_with (first
                        | (go_at_call 16; refine (HSc0.out _).mono ?_; rintro e1 w5 ⟨v, rfl, x5, b5⟩; obtain ⟨p5, c5, rfl, r5, _⟩ := b5.recs; have X5 := Lib.hid x5; have RA := Lib.hid r5; have RQ := Lib.hid (R3.out.ext x5); rw [HLn.out]; clear x5 b5 r5)
                        | (go_at_call 19; refine (HSame.out _ _ _ RA.out RQ.out).mono ?_; rintro e1 w6 ⟨bb, rfl, x6, hbb⟩; obtain rfl : bb = true := (by simpa using hbb); have X6 := Lib.hid (X5.out.trans x6); clear x6 hbb)
                        | (go_at_call 8; refine (alive_any _).mono ?_; rintro e1 w7 ⟨rfl, x7⟩))
                      go_ret
                      exact ⟨rfl, X1.out.trans (HE.out.trans (X6.out.trans x7))⟩
  · have HH := Lib.hid (heavy_yes W p c l hT hs hl hh)
    go_enter Try.func5, Try.ntmps5
    go_wp2_with (first
      | (go_at_call 20; refine (HH.out).mono ?_; rintro e w1 ⟨rfl, rfl⟩)
      | (go_at_call 8; refine (alive_any _).mono ?_; rintro e w1 ⟨rfl, h1⟩))
    go_ret
    exact ⟨rfl, h1⟩
end Go.Proofs.Ythoajlajcmcabaa
