/- The walk of layer 10's statement FrameTells. -/
import Derived.Test.YthoajlajcmcabaaFAlive
import Derived.Test.YthoajlajcmcabaaFRow
import Derived.Test.YthoajlajcmcabaaRScan
import Derived.Test.YthoajlajcmcabaaREnc2
import Derived.Test.YthoajlajcmcabaaRDec
import Derived.Deep.DeepCutAuto
import Derived.Deep.RegionHeld3
import Derived.Deep.RegionWith
namespace Go.Proofs.Ythoajlajcmcabaa
open Go.RowKit

theorem scanI_length : ∀ (l : List Itm) (n : Nat), (scanI l n).1.length ≤ l.length
  | [], _ => Nat.le_refl _
  | x :: l, n => by
    rw [scanI]
    split
    · exact Nat.zero_le _
    · split
      · exact Nat.zero_le _
      · have := scanI_length l ((n + 1) % 18446744073709551616)
        simp only [List.length_cons]; omega
theorem scanF_length (s : ByteArray) (n : Nat) : (scanF s n).1.length ≤ s.size := Nat.le_trans (scanI_length _ _) (allI_length _ s (Nat.le_refl _))
set_option maxRecDepth 100000 in
set_option maxHeartbeats 8000000 in
theorem FrameTells_walk (r : Rec) (s : ByteArray) (first : Int) (right : Bool) (W : World) (y0 : r.n < 18446744073709551616) (z0 : r.t.size ≤ 140737488351232) (z1 : s.size ≤ 140737488351232) (z2 : 0 ≤ first ∧ first ≤ 18446744073709551615) :
    Calls Try.prog 3 #[.agg #[.int .u64 (r.n : Int), .string r.t], .string s, .int .u64 first, .bool right] W fun e W' => e = .returned (.bool true) ∧ Ext W W' := by
  obtain ⟨W1, hW1⟩ : ∃ W1, W.alloc (.cells #[.int .u64 (r.n : Int), .string r.t] 24) = W1 := ⟨_, rfl⟩
  have hb : Blk W1 W.heap.size 24 [.int .u64 (r.n : Int), .string r.t] := by rw [← hW1]; exact Blk.new W _ _
  have hx1 : Ext W W1 := by rw [← hW1]; exact (Ext.refl W).alloc _
  have c0 := hb.cell 0 _ rfl
  have c1 := hb.cell 1 _ rfl
  have HB := Lib.hid hb; have HX1 := Lib.hid hx1
  clear hb hx1
  by_cases hh : 4096 < r.t.size ∨ 4096 < s.size
  · have hcase : (4096 : Int) < (r.t.size : Int) ∨ (¬ (4096 : Int) < (r.t.size : Int) ∧ (4096 : Int) < (s.size : Int)) := by omega
    clear hh
    go_enter Try.func3, Try.ntmps3
    rcases hcase with q | ⟨q1, q2⟩
    all_goals
      go_wp2_with (go_at_call 8; refine (alive_any _).mono ?_; rintro e w1 ⟨rfl, h1⟩)
      go_ret
      exact ⟨rfl, HX1.out.trans h1⟩
  · obtain ⟨f, rfl⟩ : ∃ f : Nat, first = (f : Int) := ⟨first.toNat, by omega⟩
    have hf : f < 18446744073709551616 := by omega
    have n1 : ¬ (4096 : Int) < (r.t.size : Int) := by omega
    have n2 : ¬ (4096 : Int) < (s.size : Int) := by omega
    clear hh z2
    have hways : right = false ∨ (right = true ∧ ¬ (16 : Int) ≤ (s.size : Int)) ∨ (right = true ∧ (16 : Int) ≤ (s.size : Int)) := by
      cases right
      · exact .inl rfl
      · by_cases h : (16 : Int) ≤ (s.size : Int)
        · exact .inr (.inr ⟨rfl, h⟩)
        · exact .inr (.inl ⟨rfl, h⟩)
    go_enter Try.func3, Try.ntmps3
    rcases hways with rfl | ⟨rfl, h16⟩ | ⟨rfl, h16⟩
    case' inl =>
      go_upto_if 42 with (fail)
      go_cut [1] (fun sv wx => ∃ s' : ByteArray, sv = .string s' ∧ s'.size ≤ 4096 ∧ Ext W1 wx)
      case first =>
        go_wp2
        go_meet
        exact ⟨s, rfl, by omega, Ext.refl _⟩
    case' inr.inl =>
      go_upto_if 42 with (fail)
      go_cut [1] (fun sv wx => ∃ s' : ByteArray, sv = .string s' ∧ s'.size ≤ 4096 ∧ Ext W1 wx)
      case first =>
        go_wp2
        go_meet
        exact ⟨s, rfl, by omega, Ext.refl _⟩
    case' inr.inr =>
      go_upto_if 42 with (fail)
      go_cut [1] (fun sv wx => ∃ s' : ByteArray, sv = .string s' ∧ s'.size ≤ 4096 ∧ Ext W1 wx)
      case first =>
        have h4 : ∀ u : World, (Instr.slice 9 (.string s) none (some (.int .i64 4)) none).run Try.prog u = .ok (.string (s.extract 0 4)) u := fun u => cut_to s 4 (by omega) u
        have h12 : ∀ u : World, (Instr.slice 9 (.string s) none (some (.int .i64 12)) none).run Try.prog u = .ok (.string (s.extract 0 12)) u := fun u => cut_to s 12 (by omega) u
        have hfrom : ∀ u : World, (Instr.slice 9 (.string s) (some (.int .i64 16)) none none).run Try.prog u = .ok (.string (s.extract 16 s.size)) u := fun u => cut_from s 16 (by omega) u
        have HN := Lib.hid (fun u => rNumber_any (s.extract 0 4) (by rw [ByteArray.size_extract]; omega) u)
        rw [rnumAt s 0 4] at HN
        have hm32 := numAt_lt s 0 4 (by omega)
        have e4 : (4 : Nat) - 0 = 4 := rfl
        rw [e4] at HN
        clear e4
        have hws : IntKind.u64.wrap ((s.size : Int) - 16) = (s.size : Int) - 16 := IntWalk.u64_in _ ⟨by omega, by omega⟩
        have hwi : IntKind.i64.wrap ((s.size : Int) - 16) = (s.size : Int) - 16 := IntWalk.i64_in _ ⟨by omega, by omega⟩
        by_cases hn : (numAt s 0 4 : Int) ≤ (s.size : Int) - 16
        · have hwm : IntKind.i64.wrap (numAt s 0 4 : Int) = (numAt s 0 4 : Int) := IntWalk.i64_in _ ⟨by omega, by omega⟩
          have hwm2 : IntKind.i64.wrap (16 + (numAt s 0 4 : Int)) = 16 + (numAt s 0 4 : Int) := IntWalk.i64_in _ ⟨by omega, by omega⟩
          have hcm : ∀ u : World, (Instr.slice 9 (.string s) (some (.int .i64 16)) (some (.int .i64 (16 + (numAt s 0 4 : Int)))) none).run Try.prog u = .ok (.string (s.extract 16 (16 + numAt s 0 4))) u := fun u => by
            have := cut_mid s 16 (16 + numAt s 0 4) (by omega) (by omega) u
            rw [Int.natCast_add] at this
            exact this
          have HSm := Lib.hid (fun u => psum_any (s.extract 0 12 ++ s.extract 16 (16 + numAt s 0 4)) (by rw [ByteArray.size_append, ByteArray.size_extract, ByteArray.size_extract]; omega) u)
          have hsz2 : ¬ 9223372036854775807 < (s.extract 0 12).size + (s.extract 16 (16 + numAt s 0 4)).size := by rw [ByteArray.size_extract, ByteArray.size_extract]; omega
          generalize hmm : (moreC 0#32 (s.extract 0 12 ++ s.extract 16 (16 + numAt s 0 4)).data.toList) = mv at *
          have hmv := mv.isLt
          clear hmm
          have HB4 := Lib.hid (fun u => rBytes4_any mv.toNat (by omega) u)
          have hwv : IntKind.u64.wrap (mv.toNat : Int) = (mv.toNat : Int) := IntWalk.u64_in _ ⟨by omega, by omega⟩
          have l4 : (⟨(be 4 mv.toNat).toArray⟩ : ByteArray).size = 4 := by rw [txt_size, be_length]
          have l12 : (s.extract 0 12).size = 12 := by rw [ByteArray.size_extract]; omega
          have l16 : (s.extract 16 s.size).size = s.size - 16 := rest_size s 16
          generalize (⟨(be 4 mv.toNat).toArray⟩ : ByteArray) = B4 at *
          generalize mv.toNat = m at *
          generalize s.extract 16 (16 + numAt s 0 4) = T at *
          generalize s.extract 16 s.size = T16 at *
          generalize s.extract 0 12 = T12 at *
          generalize s.extract 0 4 = T4 at *
          generalize numAt s 0 4 = k at *
          have hl1 : ¬ 9223372036854775807 < T12.size + B4.size := by omega
          have hl2 : ¬ 9223372036854775807 < T12.size + B4.size + T16.size := by omega
          have HL := Lib.hid (show ((T12 ++ B4) ++ T16).size ≤ 4096 by rw [ByteArray.size_append, ByteArray.size_append]; omega)
          clear l4 l12 l16
          go_upto_region 6 with (go_at_call 9; refine (HN.out _).mono ?_; rintro e w1 ⟨rfl, rfl⟩)
          go_quiet ((with_reducible go_at_call 10; exact Calls.quiet_of_same ((HSm.out _).mono fun _ _ h => ⟨h.1, h.2.symm⟩)))
          go_wp2
          have hS : Ext W1 (W1.drewN nq).drew := ((Ext.refl W1).drewN _).drew
          go_region_held3 (fun u => Ext W1 u) (first | exact hS | exact hS2 | assumption | go_keep) (first | (go_at_call 11; refine (HB4.out _).mono ?_; rintro e w2 ⟨rfl, x2⟩; have hS2 := Ext.trans (a := W1) (by assumption) x2))
          go_wp2
          go_meet
          exact ⟨_, rfl, HL.out, hS2⟩
        · go_wp2_with (go_at_call 9; refine (HN.out _).mono ?_; rintro e w1 ⟨rfl, rfl⟩)
          go_meet
          exact ⟨s, rfl, by omega, Ext.refl _⟩
    all_goals
      obtain ⟨s', rfl, hs', hext⟩ := hcut
      have HE := Lib.hid hext
      have HbC := Lib.hid (fun u (hu : Ext W1 u) => (⟨(HB.out.ext hu).cell 0 _ rfl, (HB.out.ext hu).cell 1 _ rfl⟩ : u.cell? ⟨W.heap.size, 0, none⟩ = some (.int .u64 (r.n : Int)) ∧ u.cell? ⟨W.heap.size, 1, none⟩ = some (.string r.t)))
      obtain ⟨k0, k1⟩ := HbC.out _ hext
      have HEn := Lib.hid (fun u => enc_yes r y0 (by omega) u)
      have HER := Lib.hid (fun u => rEncode_any r y0 (by omega) u)
      rw [show encF r = (frameT r, 0) from by unfold encF; rw [if_neg (by omega)]] at HER
      have HDe := Lib.hid (fun u => Decode_any s' (by omega) u)
      have HDR := Lib.hid (fun u => rDecode_any s' (by omega) u)
      have HSc := Lib.hid (fun u => Scan_any u s' (by omega) f hf)
      have HSR := Lib.hid (fun u => rScan_any u s' (by omega) f hf)
      have hlen : Hid ((scanF s' f).1.length ≤ 1000000) := Lib.hid (by have := scanF_length s' f; omega)
      have HSz := Lib.hid (fun u => Size_any r.t (by omega) u)
      have hq := fun u => rec_eql (decF s').1 (decF s').1 true (by simp) u
      have hgd := rec_guard
      have hwz : IntKind.i64.wrap ((r.t.size : Int) + 16) = (r.t.size : Int) + 16 := IntWalk.i64_in _ ⟨by omega, by omega⟩
      have hzz : ((16 + r.t.size : Nat) : Int) = (r.t.size : Int) + 16 := by omega
      rw [hzz] at HSz
      have HB1 := Lib.hid (fun u : World => Blk.new u [.int .u64 ((decF s').1.n : Int), .string (decF s').1.t] 24)
      unfold recV at HDe HDR HER
      generalize decF s' = D at *
      obtain ⟨dr, du, de⟩ := D
      dsimp only at *
      generalize scanF s' f = Z at *
      obtain ⟨ZL, zu, ze⟩ := Z
      dsimp only at *
      generalize frameT r = F at *
      clear hext hzz
      go_upto_region 14 with (first
        | (go_at_call 12; refine (HEn.out _).mono ?_; rintro e w1 ⟨rfl, x1⟩; have X1 := Lib.hid (HE.out.trans x1); obtain ⟨k0, k1⟩ := HbC.out _ X1.out; clear x1)
        | (go_at_call 13; refine (HER.out _).mono ?_; rintro e w2 ⟨rfl, x2⟩; have X2 := Lib.hid (X1.out.trans x2); obtain ⟨k0, k1⟩ := HbC.out _ X2.out; clear x2)
        | (go_at_call 14; refine (HDe.out _).mono ?_; rintro e w3 ⟨rfl, x3⟩; have X3 := Lib.hid ((X2.out.trans x3).alloc (.cells #[.int .u64 (dr.n : Int), .string dr.t] 24)); have B3 := Lib.hid (HB1.out w3); clear x3)
        | (go_at_call 15; refine (HDR.out _).mono ?_; rintro e w4 ⟨rfl, x4⟩; have X4 := Lib.hid ((X3.out.trans x4).alloc (.cells #[.int .u64 (dr.n : Int), .string dr.t] 24)); have B4 := Lib.hid (HB1.out w4); have C4 := Lib.hid ((B3.out.ext x4).alloc (.cells #[.int .u64 (dr.n : Int), .string dr.t] 24)); clear x4)
        | (go_at_call 16; refine (HSc.out _).mono ?_; rintro e w5 ⟨v5, rfl, x5, hb5⟩; obtain ⟨p5, c5, rfl, r5, _⟩ := hb5.recs; have X5 := Lib.hid (X4.out.trans x5); have B5 := Lib.hid (B4.out.ext x5); have C5 := Lib.hid (C4.out.ext x5); have R5 := Lib.hid r5; clear x5 hb5 r5)
        | (go_at_call 17; refine (HSR.out _).mono ?_; rintro e w6 ⟨v6, rfl, x6, hb6⟩; obtain ⟨p6, c6, rfl, r6, _⟩ := hb6.recs; have X6 := Lib.hid (X5.out.trans x6); have B6 := Lib.hid (B5.out.ext x6); have C6 := Lib.hid (C5.out.ext x6); have R6 := Lib.hid (R5.out.ext x6); have S6 := Lib.hid r6; clear x6 hb6 r6))
      have hk := (HbC.out _ X6.out).2
      have m0 := B6.out.cell 0 _ rfl
      have m1 := B6.out.cell 1 _ rfl
      have l0 := C6.out.cell 0 _ rfl
      have l1 := C6.out.cell 1 _ rfl
      have HSame := Lib.hid (fun u (hu : Ext w6 u) => rSame_any u p5 p6 c5 c6 ZL ZL (R6.out.ext hu) (S6.out.ext hu) hlen.out)
      have HKA := Lib.hid (fun u (hu : Ext w6 u) => (⟨(HbC.out _ (X6.out.trans hu)).2, (C6.out.ext hu).cell 0 _ rfl, (C6.out.ext hu).cell 1 _ rfl, (B6.out.ext hu).cell 0 _ rfl, (B6.out.ext hu).cell 1 _ rfl⟩ : u.cell? ⟨W.heap.size, 1, none⟩ = some (.string r.t) ∧ u.cell? ⟨w3.heap.size, 0, none⟩ = some (.int .u64 (dr.n : Int)) ∧ u.cell? ⟨w3.heap.size, 1, none⟩ = some (.string dr.t) ∧ u.cell? ⟨w4.heap.size, 0, none⟩ = some (.int .u64 (dr.n : Int)) ∧ u.cell? ⟨w4.heap.size, 1, none⟩ = some (.string dr.t)))
      obtain ⟨b1, hb1⟩ : ∃ b, b = w3.heap.size := ⟨_, rfl⟩
      obtain ⟨b2, hb2⟩ : ∃ b, b = w4.heap.size := ⟨_, rfl⟩
      rw [← hb1] at l0 l1 HKA ⊢
      rw [← hb2] at m0 m1 HKA ⊢
      have hS : w6.drew.cell? ⟨W.heap.size, 1, none⟩ = some (.string r.t) ∧ w6.drew.cell? ⟨b1, 0, none⟩ = some (.int .u64 (dr.n : Int)) ∧ w6.drew.cell? ⟨b1, 1, none⟩ = some (.string dr.t) ∧ w6.drew.cell? ⟨b2, 0, none⟩ = some (.int .u64 (dr.n : Int)) ∧ w6.drew.cell? ⟨b2, 1, none⟩ = some (.string dr.t) ∧ Ext w6 w6.drew := ⟨hk, l0, l1, m0, m1, (Ext.refl w6).drew⟩
      have y0' : Ext w6 w6.drew := (Ext.refl w6).drew
      clear hb1 hb2 k0 k1 hk m0 m1 l0 l1
      go_region_held3 (fun u => u.cell? ⟨W.heap.size, 1, none⟩ = some (.string r.t) ∧ u.cell? ⟨b1, 0, none⟩ = some (.int .u64 (dr.n : Int)) ∧ u.cell? ⟨b1, 1, none⟩ = some (.string dr.t) ∧ u.cell? ⟨b2, 0, none⟩ = some (.int .u64 (dr.n : Int)) ∧ u.cell? ⟨b2, 1, none⟩ = some (.string dr.t) ∧ Ext w6 u) (first | exact hS | exact hS7 | exact hS8 | assumption | go_keep) (first
        | (go_at_call 18; refine (HSz.out _).mono ?_; rintro e w9 ⟨rfl, rfl⟩)
        | (go_at_call 19; refine (HSame.out _ (by assumption)).mono ?_; rintro e w7 ⟨bb, rfl, x7, hbb⟩; obtain rfl : bb = true := (by simpa using hbb); have y7 := Ext.trans (a := w6) (by assumption) x7; obtain ⟨q1, q2, q3, q4, q5⟩ := HKA.out _ y7; have hS7 := (⟨q1, q2, q3, q4, q5, y7⟩ : w7.cell? ⟨W.heap.size, 1, none⟩ = some (.string r.t) ∧ w7.cell? ⟨b1, 0, none⟩ = some (.int .u64 (dr.n : Int)) ∧ w7.cell? ⟨b1, 1, none⟩ = some (.string dr.t) ∧ w7.cell? ⟨b2, 0, none⟩ = some (.int .u64 (dr.n : Int)) ∧ w7.cell? ⟨b2, 1, none⟩ = some (.string dr.t) ∧ Ext w6 w7))
        | (go_at_call 8; refine (alive_any _).mono ?_; rintro e w8 ⟨rfl, x8⟩; have y8 := y7.trans x8; obtain ⟨q1, q2, q3, q4, q5⟩ := HKA.out _ y8; have hS8 := (⟨q1, q2, q3, q4, q5, y8⟩ : w8.cell? ⟨W.heap.size, 1, none⟩ = some (.string r.t) ∧ w8.cell? ⟨b1, 0, none⟩ = some (.int .u64 (dr.n : Int)) ∧ w8.cell? ⟨b1, 1, none⟩ = some (.string dr.t) ∧ w8.cell? ⟨b2, 0, none⟩ = some (.int .u64 (dr.n : Int)) ∧ w8.cell? ⟨b2, 1, none⟩ = some (.string dr.t) ∧ Ext w6 w8)))
      go_wp2
      go_ret
      exact ⟨rfl, HX1.out.trans (X6.out.trans y8)⟩
end Go.Proofs.Ythoajlajcmcabaa
