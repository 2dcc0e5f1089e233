/- The walk of KeyringReads: any bytes, read by both. -/
import Derived.Test.YtdnpgmoiapkhnaaDoorReadsTwo
import Derived.Test.YtdnpgmoiapkhnaaDoorReadsOne
import Derived.Test.YtdnpgmoiapkhnaaDoorM34
import Derived.Test.YtdnpgmoiapkhnaaDoorM17
import Derived.Test.YtdnpgmoiapkhnaaDoorBRow
import Derived.BigRegion
import Derived.Outline
namespace Go.Proofs.YtdnpgmoiapkhnaaDoor
open Go.RowKit
attribute [local irreducible] kd f32B

theorem Ext.turnedP {v w w' : World} (hv : Ext v w) (t : TurnD v.heap.size w w') : Ext v w' := hv.trans3 t.below
/-- Both read nothing, or both read the same keys. -/
theorem read_both (s : ByteArray) (hz : s.size ≤ 140737488351232) :
    ((∀ u, Calls Tryd.prog 12 #[.string s] u fun e w' => e = .returned (.tuple #[.pointer none, .int .i64 7]) ∧ Ext u w') ∧
      (∀ u, Calls Tryd.prog 13 #[.string s] u fun e w' => e = .returned (.pointer none) ∧ Ext u w')) ∨
    ∃ L : List (Nat × ByteArray),
      (∀ u, Calls Tryd.prog 12 #[.string s] u fun e w' => (∃ r b, e = .returned (.tuple #[.pointer (some ⟨r, 0, none⟩), .int .i64 0]) ∧ IsK w' r b L) ∧ Ext u w') ∧
      (∀ u, Calls Tryd.prog 13 #[.string s] u fun e w' => (∃ d p c, e = .returned (.pointer (some ⟨d, 0, none⟩)) ∧ IsR w' u.heap.size d p c L) ∧ Ext u w') := by
  by_cases hc : Counted s
  · obtain ⟨L, hL, rfl⟩ := counted_rows hc
    by_cases hr : Rising L
    · refine .inr ⟨L, fun u => (read_rows u L hL).mono ?_, fun u => (rread_rows u L hL).mono ?_⟩
      · rintro e w' ⟨⟨_, r, b, q1, q2, _⟩ | ⟨q, _⟩, x⟩
        · exact ⟨⟨r, b, q1, q2⟩, x⟩
        · exact absurd hr q
      · rintro e w' ⟨⟨_, d, p, c, q1, q2⟩ | ⟨q, _⟩, x⟩
        · exact ⟨⟨d, p, c, q1, q2⟩, x⟩
        · exact absurd hr q
    · refine .inl ⟨fun u => (read_rows u L hL).mono ?_, fun u => (rread_rows u L hL).mono ?_⟩
      · rintro e w' ⟨⟨q, _⟩ | ⟨_, q⟩, x⟩
        · exact absurd q hr
        · exact ⟨q, x⟩
      · rintro e w' ⟨⟨q, _⟩ | ⟨_, q⟩, x⟩
        · exact absurd q hr
        · exact ⟨q, x⟩
  · exact .inl ⟨fun u => (read_no s hc hz u).mono fun _ _ q => ⟨q.1, q.2 ▸ Ext.refl _⟩, fun u => (rread_no s hc hz u).mono fun _ _ q => ⟨q.1, q.2 ▸ Ext.refl _⟩⟩
/-- The document's Rotate, whatever comes. -/
theorem rrotateK (B : Nat) (K : List (Nat × ByteArray)) (hG : GoodK K) (s : ByteArray) (hs : s.size = 32) (d : Nat) :
    ∃ (v : Value) (K' : List (Nat × ByteArray)), GoodK K' ∧
      (∀ u p c, B ≤ u.heap.size → IsR u B d p c K → Calls Tryd.prog 10 #[.pointer (some ⟨d, 0, none⟩), .string s] u fun x w' => ∃ p' c', x = .returned v ∧ IsR w' B d p' c' K' ∧ TurnD B u w') := by
  by_cases hf : 64 ≤ K.length ∨ top (eps K) = 4294967295
  · exact ⟨_, K, hG, fun u p c hB hu => (rrotate_full u B d p c K hu hG s hs hf).mono fun _ _ q => ⟨p, c, q.1, hu.ext q.2, q.2.turnD hB⟩⟩
  · have ht := hG.top_lt
    exact ⟨_, _, hG.snoc (by omega) (by omega) hs, fun u p c hB hu => rrotate_yes u B d p c K hB hu hG s hs (by omega) (by omega)⟩
set_option maxRecDepth 1000000 in
set_option maxHeartbeats 16000000 in
theorem KeyringReads_walk (w : World) (hL : Laid w) (s : ByteArray) (zs : s.size ≤ 140737488351232) (p : Option Addr) (c : Nat) (L : List Act13) (hP : Act13sP w p L) (hok : ∀ x ∈ L, x.Ok) (hl : L.length ≤ 140737488355328) (own : Bool) (av : Nat) (ha : av < 65536) (tv : Nat) (ht : tv < 256) :
    Calls Tryd.prog 3 #[.string s, .slice p L.length c, .bool own, .int .u16 (av : Int), .int .u8 (tv : Int)] w fun e w' => e = .returned (.bool true) ∧ Ext w w' := by
  have HHv := Lib.hid (heavyK_any w p c L hP hok hl)
  have HW := Lib.hid (fun u (hu : Ext w u) => worksK u (hL.ext hu))
  have HP := Lib.hid hP
  have HF := Lib.hid (fun u => fullK_any (⟨#[107]⟩ : ByteArray) u)
  have zA := f32B_size (⟨#[107]⟩ : ByteArray)
  have HG1 := Lib.hid (GoodK.one (f32B (⟨#[107]⟩ : ByteArray)) zA)
  clear hP hok hL
  generalize f32B (⟨#[107]⟩ : ByteArray) = A at *
  by_cases h4 : 4000 < s.size
  · have h4i : (4000 : Int) < (s.size : Int) := by omega
    go_enter Tryd.func3, Tryd.ntmps3
    go_wp2_with (first
      | (go_at_call 6; refine (HHv.out).mono ?_; rintro e w1 ⟨⟨hb, rfl, hlt⟩, rfl⟩; clear hlt; cases hb)
      | (go_at_call 7; refine (HW.out _ (Ext.refl _)).mono ?_; rintro e w2 ⟨rfl, x2⟩))
    all_goals
      go_ret
      exact ⟨rfl, x2⟩
  have h4i : ¬ (4000 : Int) < (s.size : Int) := by omega
  cases own
  · rcases read_both s zs with ⟨hr1, hr2⟩ | ⟨M, hr1, hr2⟩
    · have R1 := Lib.hid hr1; have R2 := Lib.hid hr2
      clear hr1 hr2
      go_enter Tryd.func3, Tryd.ntmps3
      go_wp2_with (first
        | (go_at_call 6; refine (HHv.out).mono ?_; rintro e w1 ⟨⟨hb, rfl, hlt⟩, rfl⟩; clear hlt; cases hb)
        | (go_at_call 12; refine (R1.out _).mono ?_; rintro e w5 ⟨rfl, x5⟩; have X5 := Lib.hid x5; clear x5)
        | (go_at_call 13; refine (R2.out _).mono ?_; rintro e w6 ⟨rfl, x6⟩; have X6 := Lib.hid (X5.out.trans x6); clear x6)
        | (go_at_call 7; first | (refine (HW.out _ X6.out).mono ?_; rintro e w2 ⟨rfl, x2⟩) | (refine (HW.out _ (Ext.refl _)).mono ?_; rintro e w2 ⟨rfl, x2⟩)))
      all_goals
        go_ret
        exact ⟨rfl, by first | exact X6.out.trans x2 | exact x2⟩
    · have R1 := Lib.hid hr1; have R2 := Lib.hid hr2
      clear hr1 hr2
      go_enter Tryd.func3, Tryd.ntmps3
      go_wp2_with (first
        | (go_at_call 6; refine (HHv.out).mono ?_; rintro e w1 ⟨⟨hb, rfl, hlt⟩, rfl⟩; clear hlt; cases hb)
        | (go_at_call 12; refine (R1.out _).mono ?_; rintro e w5 ⟨⟨r, b, rfl, i5⟩, x5⟩; have X5 := Lib.hid x5; have K5 := Lib.hid i5; clear x5 i5)
        | (go_at_call 13; refine (R2.out _).mono ?_; rintro e w6 ⟨⟨d, pd, cd, rfl, i6⟩, x6⟩; have D6 := Lib.hid i6; have K6 := Lib.hid (K5.out.ext x6); have X6 := Lib.hid (X5.out.trans x6); clear x6 i6)
        | (go_at_call 14; refine (same13_any _ _ _ _ K6.out _ _ _ _ D6.out).mono ?_; rintro e w7 ⟨rfl, x7⟩; have X7 := Lib.hid (X6.out.trans x7); clear x7)
        | (go_at_call 7; first | (refine (HW.out _ X7.out).mono ?_; rintro e w2 ⟨rfl, x2⟩) | (refine (HW.out _ (Ext.refl _)).mono ?_; rintro e w2 ⟨rfl, x2⟩)))
      all_goals
        go_ret
        exact ⟨rfl, by first | exact X7.out.trans x2 | exact x2⟩
  · go_enter Tryd.func3, Tryd.ntmps3
    go_upto_region 5 with (first
      | (go_at_call 6; refine (HHv.out).mono ?_; rintro e w1 ⟨⟨hb, rfl, hlt⟩, rfl⟩; have HLt := Lib.hid hlt; clear hlt; cases hb)
      | (go_at_call 7; refine (HW.out _ (Ext.refl _)).mono ?_; rintro e w2 ⟨rfl, x2⟩)
      | (go_at_call 9; refine (HF.out _).mono ?_; rintro e w4 ⟨rfl, x4⟩; have X4 := Lib.hid x4; clear x4)
      | (go_at_call 8; refine (rnewK_any _ A).mono ?_; rintro e w6 ⟨d, pd, rfl, i6, x6⟩; have D6 := Lib.hid i6; have X6 := Lib.hid (X4.out.trans x6); clear i6 x6))
    rotate_left
    · go_ret
      exact ⟨rfl, x2⟩
    have hl80 := HLt.out (by trivial)
    have hD6 : IsR w6 w.heap.size d pd 1 [(1, A)] := ⟨D6.out.ring, D6.out.ents, Nat.le_trans X4.out.size D6.out.low, fun g hg => Nat.le_trans X4.out.size (D6.out.lowp g hg), D6.out.apart⟩
    have D7 := Lib.hid hD6
    clear hD6 D6 HHv HF HLt hl X4 zs h4 h4i
    go_wp2_with (fail)
    go_loopw [12] (fun iv wr => ∃ (k : Nat) (K : List (Nat × ByteArray)) (pd : Option Addr) (cd : Nat), k ≤ L.length ∧ iv = .int .i64 (k : Int) ∧ Hid (GoodK K) ∧ Hid (IsR wr w.heap.size d pd cd K) ∧ Hid (Ext w wr)) (fun iv _ => L.length - (intOf iv).toNat)
    case atStart => exact ⟨0, [(1, A)], pd, 1, Nat.zero_le _, rfl, HG1, D7, X6⟩
    case round =>
      obtain ⟨k, K, pd, cd, hk, rfl, HG, HD, HX⟩ := hrel
      clear D7 X6 HG1
      by_cases hlt : k < L.length
      · have hlti : (k : Int) < (L.length : Int) := by omega
        obtain ⟨x, hx⟩ : ∃ x, L[k]? = some x := ⟨_, List.getElem?_eq_getElem hlt⟩
        obtain ⟨a, rfl, ha', hc⟩ := (HP.out.ext HX.out) k x hx
        have k2 := act13_at (k := 1) (hc 2 _ rfl)
        have hfull := f32B_size x.Key
        have HFk := Lib.hid (fun u => fullK_any x.Key u)
        obtain ⟨v3, K3, hg3, hd3⟩ := rrotateK w.heap.size K HG.out (f32B x.Key) hfull d
        have G3 := Lib.hid hg3; have S3 := Lib.hid hd3
        clear hx hc ha' hd3 hg3 hfull
        generalize f32B x.Key = Bk at *
        generalize x.Key = ky at *
        go_wp2_with (first
          | (go_at_call 9; refine (HFk.out _).mono ?_; rintro e w4 ⟨rfl, x4⟩; have D4 := Lib.hid (HD.out.ext x4); have X4 := Lib.hid (HX.out.trans x4); clear x4)
          | (go_at_call 10; refine (S3.out _ _ _ X4.out.size D4.out).mono ?_; rintro e w6 ⟨p6, c6, rfl, i6, t6⟩; have D6 := Lib.hid i6; have X6 := Lib.hid (X4.out.turnedP t6); clear i6 t6))
        go_roundw
        case rel => exact ⟨k + 1, K3, p6, c6, hlt, by go_num, G3, D6, X6⟩
        case measure => simp [intOf]; omega
      · have hlti : ¬ (k : Int) < (L.length : Int) := by omega
        have h64 := HG.out.few
        have hrl : (ringL K).length = 1 + 36 * K.length := by rw [ringL, List.length_cons, rowsL_length fun x hx => (HG.out.each x hx).2.2]; omega
        have zS : ByteArray.size ⟨(ringL K).toArray⟩ = 1 + 36 * K.length := by rw [txt_size, hrl]
        have HBy := Lib.hid (fun u (hu : IsR u w.heap.size d pd cd K) => rbytesK_any u w.heap.size d pd cd K hu HG.out)
        generalize (⟨(ringL K).toArray⟩ : ByteArray) = S0 at *
        have hlen : S0.data.toList.length = S0.size := size_list S0
        have hbt := fun (u : World) => bytes_of_text u S0
        obtain ⟨z, hz⟩ : ∃ z, S0.size = z := ⟨_, rfl⟩
        have hz1 : 1 ≤ z := by omega
        have hzm : z ≤ 4000 := by omega
        simp only [hz] at hbt hlen
        have HBt := Lib.hid hbt
        clear hrl zS hbt hz
        generalize S0.data.toList = l at *
        go_upto_region 10 with (go_at_call 11; refine (HBy.out _ HD.out).mono ?_; rintro e w6 ⟨rfl, x6⟩; obtain ⟨cap, w7, hcv, hcap, hx7, hrow⟩ := HBt.out w6; have XB := Lib.hid ((HX.out.trans x6).trans hx7); have RB := Lib.hid hrow; have N6 := Lib.hid ((HX.out.trans x6).size); clear hrow hx7)
        obtain ⟨q, hq⟩ : ∃ q, av % z = q := ⟨_, rfl⟩
        have hqz : q < z := by rw [← hq]; exact Nat.mod_lt _ (by omega)
        have hqzi : (q : Int) < (z : Int) := by omega
        have hq0 : (0 : Int) ≤ (q : Int) := by omega
        have hqi : (av : Int) % (z : Int) = (q : Int) := by rw [← hq]; simp
        have hqt : Int.tmod (av : Int) (z : Int) = (q : Int) := by rw [Int.tmod_eq_emod_of_nonneg (by omega)]; exact hqi
        have hzi : ¬ (z : Int) = 0 := by omega
        have hlq : q < l.length := by omega
        obtain ⟨bb, hbb⟩ : ∃ bb, l[q]? = some bb := ⟨_, List.getElem?_eq_getElem hlq⟩
        have cB := RB.out.cell q bb hbb
        have fB := RB.out.frozen q hlq
        have hRN := RB.out.set_ q hlq (tv : Int) (UInt8.ofNat tv) (by rw [UInt8.toNat_ofNat']; omega)
        have hTx := hRN.text z cap (by rw [List.length_set]; omega)
        have XN := Lib.hid (XB.out.setCell (p := ⟨w6.heap.size, q, none⟩) N6.out (.int .u8 (tv : Int)))
        have hww : IntKind.i64.wrap (q : Int) = (q : Int) := IntWalk.i64_in _ ⟨by omega, by omega⟩
        have hwa : IntKind.i64.wrap (av : Int) = (av : Int) := IntWalk.i64_in _ ⟨by omega, by omega⟩
        have zq : ByteArray.size ⟨((l.set q (UInt8.ofNat tv)).take z).toArray⟩ ≤ 140737488351232 := by
          rw [txt_size, List.length_take, List.length_set]; omega
        have HB := Lib.hid (read_both _ zq)
        clear zq hRN hq hbb hlq hlen HBt HBy h64
        generalize (⟨((l.set q (UInt8.ofNat tv)).take z).toArray⟩ : ByteArray) = SS at *
        rcases HB.out with ⟨hr1, hr2⟩ | ⟨M, hr1, hr2⟩
        · have R1 := Lib.hid hr1; have R2 := Lib.hid hr2
          clear hr1 hr2 HB
          go_wp2_with (first
            | (go_at_call 12; refine (R1.out _).mono ?_; rintro e w5 ⟨rfl, x5⟩; have X5 := Lib.hid (XN.out.trans x5); clear x5)
            | (go_at_call 13; refine (R2.out _).mono ?_; rintro e w9 ⟨rfl, x9⟩; have X9 := Lib.hid (X5.out.trans x9); clear x9)
            | (go_at_call 7; refine (HW.out _ X9.out).mono ?_; rintro e w2 ⟨rfl, x2⟩))
          all_goals
            go_ret
            exact ⟨rfl, X9.out.trans x2⟩
        · have R1 := Lib.hid hr1; have R2 := Lib.hid hr2
          clear hr1 hr2 HB
          go_wp2_with (first
            | (go_at_call 12; refine (R1.out _).mono ?_; rintro e w5 ⟨⟨r, b, rfl, i5⟩, x5⟩; have X5 := Lib.hid (XN.out.trans x5); have K5 := Lib.hid i5; clear x5 i5)
            | (go_at_call 13; refine (R2.out _).mono ?_; rintro e w9 ⟨⟨d9, p9, c9, rfl, i9⟩, x9⟩; have D9 := Lib.hid i9; have K9 := Lib.hid (K5.out.ext x9); have X9 := Lib.hid (X5.out.trans x9); clear x9 i9)
            | (go_at_call 14; refine (same13_any _ _ _ _ K9.out _ _ _ _ D9.out).mono ?_; rintro e w10 ⟨rfl, x10⟩; have X10 := Lib.hid (X9.out.trans x10); clear x10)
            | (go_at_call 7; refine (HW.out _ X10.out).mono ?_; rintro e w2 ⟨rfl, x2⟩))
          all_goals
            go_ret
            exact ⟨rfl, X10.out.trans x2⟩
end Go.Proofs.YtdnpgmoiapkhnaaDoor
