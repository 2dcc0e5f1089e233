/- The walk of BarrierRetire: what was put by an epoch is got as long as that is not retired; behind a load the same epochs. -/
import Derived.Test.YtcjdnifckngcfaaGreatDoorM48
import Derived.Test.YtcjdnifckngcfaaGreatDoorM47
import Derived.BigRegion
namespace Go.Proofs.YtcjdnifckngcfaaGreatDoor
open Go.RowKit
attribute [local irreducible] rkey expand enc dec ctrB ctrC ctrL xorL xorAll turnL turnT kd t4 t8 env5 chk tagT sealT ringL hdT envOf f32B f12B ringG lastG rowF splitT ringD retC retD putsL

theorem IsL.cell_at {w : World} {B g c : Nat} {l : List ByteArray} (hu : IsL w B (some ⟨g, 0, none⟩) c l) {i : Nat} {s : ByteArray} (hs : l[i]? = some s) : w.cell? ⟨g, i, none⟩ = some (.string s) := by
  obtain ⟨g2, e2, h2⟩ := hu.at_ hs
  cases e2
  exact h2
set_option maxRecDepth 1000000 in
set_option maxHeartbeats 8000000 in
theorem BarrierRetire_walk (w : World) (hL : Laid w) (a : ByteArray) (za : a.size ≤ 140737488351232) (p : Option Addr) (c : Nat) (K : List ByteArray) (hP : TextsP w p K) (hl : K.length ≤ 140737488355328) (_ : ∀ s, s ∈ K → s.size ≤ 140737488351232) (po : Option Addr) (co : Nat) (O : List Nat) (hO : ValsP w po (vU8 O)) (hlo : O.length ≤ 140737488355328) (hO256 : ∀ x ∈ O, x < 256)
    (text : ByteArray) (zt : text.size ≤ 140737488351232) :
    Calls Tryz.prog 6 #[.string a, .slice p K.length c, .slice po O.length co, .string text] w fun e w' => e = .returned (.bool true) ∧ Ext w w' := by
  have HW := Lib.hid (fun u (hu : Ext w u) => works15 u (hL.ext hu))
  have HP := Lib.hid hP
  by_cases hbig : 500 < a.size + text.size ∨ 6 < K.length ∨ 10 < O.length
  · have hcase : (500 : Int) < (a.size : Int) + (text.size : Int) ∨ (¬ (500 : Int) < (a.size : Int) + (text.size : Int) ∧ (6 : Int) < (K.length : Int)) ∨ (¬ (500 : Int) < (a.size : Int) + (text.size : Int) ∧ ¬ (6 : Int) < (K.length : Int) ∧ (10 : Int) < (O.length : Int)) := by omega
    clear hO hP hO256 hbig
    go_enter Tryz.func6, Tryz.ntmps6
    rcases hcase with q | ⟨q1, q2⟩ | ⟨q1, q2, q3⟩
    all_goals
      go_wp2_with (go_at_call 8; refine (HW.out _ (Ext.refl _)).mono ?_; rintro e w2 ⟨rfl, x2⟩)
      go_ret
      exact ⟨rfl, x2⟩
  have h1i : ¬ (500 : Int) < (a.size : Int) + (text.size : Int) := by omega
  have hta : text.size ≤ 500 := by omega
  have h2i : ¬ (6 : Int) < (K.length : Int) := by omega
  have h3i : ¬ (10 : Int) < (O.length : Int) := by omega
  have hK6 : K.length ≤ 6 := by omega
  have HO := Lib.hid hO; have HO2 := Lib.hid hO256
  have hB2 := hL.size
  have HB2 := Lib.hid hB2
  have HLd := Lib.hid (fun u (x : Ext w u) => hL.ext x)
  have HNw := Lib.hid (fun u (x : Ext w u) => bnew_any u)
  have HN0 := Lib.hid (fun u => nonce15_fit ⟨#[48]⟩ u)
  have HN1 := Lib.hid (fun u => nonce15_fit ⟨#[49]⟩ u)
  have HN2 := Lib.hid (fun u => nonce15_fit ⟨#[50]⟩ u)
  have HN3 := Lib.hid (fun u => nonce15_fit ⟨#[51]⟩ u)
  have zN0 := f12B_size ⟨#[48]⟩; have zN1 := f12B_size ⟨#[49]⟩; have zN2 := f12B_size ⟨#[50]⟩; have zN3 := f12B_size ⟨#[51]⟩
  generalize f12B ⟨#[48]⟩ = N0 at *
  generalize f12B ⟨#[49]⟩ = N1 at *
  generalize f12B ⟨#[50]⟩ = N2 at *
  generalize f12B ⟨#[51]⟩ = N3 at *
  have HA := Lib.hid (fun u => fullK_any a u)
  have HKk := Lib.hid (fun u => fullK_any ⟨#[107]⟩ u)
  have zA := f32B_size a; have zB := f32B_size ⟨#[107]⟩
  generalize f32B a = A at *
  generalize f32B ⟨#[107]⟩ = kb at *
  have HZ := Lib.hid (And.intro zA (And.intro zB (And.intro zN0 (And.intro zN1 (And.intro zN2 zN3)))))
  have h0 : ringG kb K 0 = [(1, kb)] := by unfold ringG; rfl
  have HBe : Hid (∀ u b, Ext w u → IsP u w.heap.size b .none → Calls Tryz.prog 13 #[.pointer (some ⟨b, 0, none⟩), .string A, .string kb, .string N0, .slice none 0 0] u fun e w' => (∃ q c', e = .returned (.tuple #[.slice q 1 c', .int .i64 0]) ∧ BufS w' u.heap.size (.slice q 1 c') (splitT A [])) ∧ IsP w' w.heap.size b (.opened 1 (envOf A 1 N0 [(1, kb)]) A [(1, kb)]) ∧ TurnP w.heap.size u w') := Lib.hid (fun u b x hu => begin_yes u w.heap.size b hB2 (hL.ext x) hu A kb N0 none 0 [] zA zB zN0 (by simp) (fun i s hs => by simp at hs) (by intro s hs; cases hs))
  have HR0 := Lib.hid h0
  clear hL hB2 hO hP hO256 hbig zN0 zN1 zN2 zN3 zA zB h0
  go_enter Tryz.func6, Tryz.ntmps6
  go_wp2_with (first
    | (go_at_call 9; refine (HNw.out _ (Ext.refl _)).mono ?_; rintro e w1 ⟨xb, rfl, i1, x1⟩; have I1 := Lib.hid i1; have X1 := x1; clear i1 x1)
    | (go_at_call 12; (with_reducible refine (HA.out _).mono ?_); rintro e w2 ⟨rfl, x2⟩)
    | (go_at_call 12; (with_reducible refine (HKk.out _).mono ?_); rintro e w3 ⟨rfl, x3⟩)
    | (go_at_call 14; (with_reducible refine (HN0.out _).mono ?_); rintro e w4 ⟨rfl, x4⟩; have X4 := ((X1.trans x2).trans x3).trans x4)
    | (go_at_call 13; refine (HBe.out _ _ X4 (((I1.out.ext x2).ext x3).ext x4)).mono ?_; rintro e w5 ⟨⟨q, c', rfl, b5⟩, i5, t5⟩; have I5 := Lib.hid i5; have S5 := Lib.hid b5; have X5 := Lib.hid (X4.turnedB t5); clear i5 t5 b5))
  clear X1 x2 x3 x4 X4 I1 HBe HA HKk HN0
  have hsp : splitT A [] = [shareT 1 1 (lastT A [])] := by rw [splitT_row]; simp [rowF, allT]
  obtain ⟨SH, hSH⟩ : ∃ SH, shareT 1 1 (lastT A []) = SH := ⟨_, rfl⟩
  rw [hsp, hSH] at S5
  obtain ⟨gq, OB, rfl, hob, hnb, hoc, hon⟩ := S5.out.obj (by simp)
  have HNb := Lib.hid hnb
  have HOc := Lib.hid (fun u (hu : u.heap[gq]? = some OB) => hoc u hu 0 SH rfl)
  have HOn := Lib.hid hon
  have HSH := Lib.hid hSH
  obtain ⟨P5, hP5⟩ : ∃ P5, w5.heap.size = P5 := ⟨_, rfl⟩
  have HP5 := Lib.hid (And.intro (show w.heap.size ≤ P5 from hP5 ▸ X5.out.size) (show gq < P5 from hP5 ▸ heap_lt hob))
  have O5 := Lib.hid hob
  have HP5' := Lib.hid (Nat.le_of_eq hP5.symm)
  clear hsp hSH S5 hob hnb hoc hon hP5
  go_loopw [12, 13] (fun lv iv wr => ∃ (i : Nat) (pl : Option Addr) (cl : Nat), i ≤ K.length + 1 ∧ iv = .int .i64 (i : Int) ∧ lv = .slice pl i cl ∧ Hid (IsL wr P5 pl cl (putsL kb K N1 text i)) ∧ Hid (P5 ≤ wr.heap.size) ∧ (∃ E nz, Hid (E = envOf A 1 nz (ringG kb K (min i K.length)) ∧ nz.size = 12) ∧ Hid (IsP wr w.heap.size xb (.opened 1 E A (ringG kb K (min i K.length))))) ∧ Hid (wr.heap[gq]? = some OB) ∧ Hid (Ext w wr)) (fun _ iv _ => K.length + 1 - (intOf iv).toNat)
  case atStart =>
    refine ⟨0, none, 0, Nat.zero_le _, rfl, rfl, Lib.hid ?_, HP5', ⟨_, N0, Lib.hid ⟨rfl, HZ.out.2.2.1⟩, Lib.hid ?_⟩, O5, X5⟩
    · rw [show putsL kb K N1 text 0 = [] by unfold putsL; rfl]; exact IsL.nil _ _
    · rw [Nat.zero_min, HR0.out]; exact I5.out
  case round =>
    clear I5 O5 X5 HP5'
    obtain ⟨i, pl, cl, hi, rfl, rfl, HS, HSz, ⟨E, nz, HE, HI⟩, HSh, HX⟩ := hrel
    by_cases hle : i ≤ K.length
    · have hlei : (i : Int) ≤ (K.length : Int) := by omega
      have hmin : min i K.length = i := Nat.min_eq_left hle
      rw [hmin] at HE HI
      have hw64 : IntKind.u64.wrap (i : Int) = (i : Int) := IntWalk.u64_in _ ⟨by omega, by omega⟩
      have hz1 := HZ.out.2.2.2.1
      have HPu : Hid (∀ u, Ext w u → IsP u w.heap.size xb (.opened 1 E A (ringG kb K i)) → Calls Tryz.prog 15 #[.pointer (some ⟨xb, 0, none⟩), .string ⟨#[112]⟩, .int .u64 (i : Int), .string N1, .string text] u fun e w' => e = .returned (.tuple #[.string (sealT (lastG kb K i) (i + 1) ⟨#[112]⟩ i N1 text), .int .i64 0]) ∧ Ext u w') := Lib.hid (fun u x hu => put_is u (HLd.out u x) w.heap.size xb 1 E A (lastG kb K i) (ringG kb K i) hu (i + 1) (ringG_top kb K i) (ringG_last kb K i) ⟨#[112]⟩ i N1 text hz1 (by decide) (by omega))
      have hsu := putsL_succ kb K N1 text i
      have hsl := putsL_length kb K N1 text i
      obtain ⟨V, hV⟩ : ∃ V, sealT (lastG kb K i) (i + 1) ⟨#[112]⟩ i N1 text = V := ⟨_, rfl⟩
      rw [hV] at HPu hsu
      have HSu := Lib.hid hsu; have HSl := Lib.hid hsl
      clear hmin hz1 hsu hsl hV
      by_cases hlt : i < K.length
      · have hlti : (i : Int) < (K.length : Int) := by omega
        obtain ⟨x, hx⟩ : ∃ x, K[i]? = some x := ⟨_, List.getElem?_eq_getElem hlt⟩
        obtain ⟨ad, rfl, had, hcd⟩ := HP.out i x hx
        have HCd := Lib.hid (fun u (hu : Ext w u) => (show u.cell? (ad.add i) = some (.string x) from by
          obtain ⟨a2, e2, _, h2⟩ := (HP.out.ext hu) i x hx
          cases e2
          exact h2))
        have HFx := Lib.hid (fun u => fullK_any x u)
        have hz2 := HZ.out.2.2.2.2.1
        have HRo := Lib.hid (fun u (hu : Ext w u) (hi' : IsP u w.heap.size xb (.opened 1 E A (ringG kb K i))) => brotate_next u w.heap.size xb 1 HB2.out (HLd.out u hu) E A kb K i (by omega) x hx N2 hz2 hi')
        clear hx hcd hz2 had
        by_cases h100 : 100 < x.size
        · have h100i : (100 : Int) < (x.size : Int) := by omega
          go_wp2_with (first
            | (go_at_call 14; (with_reducible refine (HN1.out _).mono ?_); rintro e w2 ⟨rfl, x2⟩)
            | (go_at_call 15; refine (HPu.out _ (HX.out.trans x2) (HI.out.ext x2)).mono ?_; rintro e w3 ⟨rfl, x3⟩; have y3 := x2.trans x3; have Y3 := HX.out.trans y3)
            | (at_builtin; refine wpList_append_sl rfl (.tmp 83) (.tmp 85) 35 35 rfl Tryz.underlying35 infoS14 rfl (by decide) rfl ((HS.out.ext (y3.alloc _)).slN HSl.out) (strs_one _) _ rfl 1 [.string V] (src_one _ _ _ ((Blk.new w3 [.string V] 9).cell 0 _ rfl)) (by omega) ?_
               intro p4 c4 w4 κ4 s4 f4 e4 x4 _
               obtain ⟨l4, k4⟩ := left_more HS.out HSz.out HSl.out (y3.alloc _) s4 f4 e4 x4
               have X4 := (Y3.alloc _).keptS (k4.mono HP5.out.1)
               have hc4 := HCd.out _ X4
               clear l4 s4 f4 e4 x4)
            | (go_at_call 8; refine (HW.out _ X4).mono ?_; rintro e w6 ⟨rfl, x6⟩))
          go_ret
          exact ⟨rfl, X4.trans x6⟩
        · have h100i : ¬ (100 : Int) < (x.size : Int) := by omega
          generalize f32B x = FX at *
          go_wp2_with (first
            | (go_at_call 14; (with_reducible refine (HN1.out _).mono ?_); rintro e w2 ⟨rfl, x2⟩)
            | (go_at_call 15; refine (HPu.out _ (HX.out.trans x2) (HI.out.ext x2)).mono ?_; rintro e w3 ⟨rfl, x3⟩; have y3 := x2.trans x3; have Y3 := HX.out.trans y3)
            | (at_builtin; refine wpList_append_sl rfl (.tmp 83) (.tmp 85) 35 35 rfl Tryz.underlying35 infoS14 rfl (by decide) rfl ((HS.out.ext (y3.alloc _)).slN HSl.out) (strs_one _) _ rfl 1 [.string V] (src_one _ _ _ ((Blk.new w3 [.string V] 9).cell 0 _ rfl)) (by omega) ?_
               intro p4 c4 w4 κ4 s4 f4 e4 x4 _
               obtain ⟨l4, k4⟩ := left_more HS.out HSz.out HSl.out (y3.alloc _) s4 f4 e4 x4
               rw [← HSu.out] at l4
               have X4 := (Y3.alloc _).keptS (k4.mono HP5.out.1)
               have hc4 := HCd.out _ X4
               have L4 := Lib.hid l4; have I4 := Lib.hid ((HI.out.ext (y3.alloc _)).keepS k4); have Z4 := Lib.hid (Nat.le_trans (Nat.le_trans HSz.out (y3.alloc (.cells #[.string V] 9)).size) k4.below.size); have S4 := Lib.hid ((k4.below.block gq HP5.out.2).trans (((y3.alloc (.cells #[.string V] 9)).block gq (heap_lt HSh.out)).trans HSh.out))
               clear l4 s4 f4 e4 x4)
            | (go_at_call 12; refine (HFx.out _).mono ?_; rintro e w5 ⟨rfl, x5⟩)
            | (go_at_call 14; (with_reducible refine (HN2.out _).mono ?_); rintro e w6 ⟨rfl, x6⟩; have y6 := x5.trans x6)
            | (go_at_call 16; refine (HRo.out _ (X4.trans y6) (I4.out.ext y6)).mono ?_; rintro e w7 ⟨rfl, i7, t7⟩; have I7 := Lib.hid i7; have X7 := Lib.hid ((X4.trans y6).turnedB t7); have L7 := Lib.hid ((L4.out.ext y6).turnP t7); have S7 := Lib.hid (t7.keep gq OB ((y6.block gq (heap_lt S4.out)).trans S4.out) HNb.out); have Z7 := Lib.hid (Nat.le_trans (Nat.le_trans Z4.out y6.size) t7.size); clear i7 t7))
          go_roundw
          case rel =>
            have hm2 : min (i + 1) K.length = i + 1 := Nat.min_eq_left hlt
            exact ⟨i + 1, p4, c4, by omega, by go_num, rfl, L7, Z7, ⟨_, N2, Lib.hid (by rw [hm2]; exact ⟨rfl, HZ.out.2.2.2.2.1⟩), by rw [hm2]; exact I7⟩, S7, X7⟩
          case measure => simp [intOf]; omega
      · obtain rfl : i = K.length := by omega
        have hlti : ¬ (K.length : Int) < (K.length : Int) := by omega
        go_wp2_with (first
          | (go_at_call 14; (with_reducible refine (HN1.out _).mono ?_); rintro e w2 ⟨rfl, x2⟩)
          | (go_at_call 15; refine (HPu.out _ (HX.out.trans x2) (HI.out.ext x2)).mono ?_; rintro e w3 ⟨rfl, x3⟩; have y3 := x2.trans x3; have Y3 := HX.out.trans y3)
          | (at_builtin; refine wpList_append_sl rfl (.tmp 83) (.tmp 85) 35 35 rfl Tryz.underlying35 infoS14 rfl (by decide) rfl ((HS.out.ext (y3.alloc _)).slN HSl.out) (strs_one _) _ rfl 1 [.string V] (src_one _ _ _ ((Blk.new w3 [.string V] 9).cell 0 _ rfl)) (by omega) ?_
             intro p4 c4 w4 κ4 s4 f4 e4 x4 _
             obtain ⟨l4, k4⟩ := left_more HS.out HSz.out HSl.out (y3.alloc _) s4 f4 e4 x4
             rw [← HSu.out] at l4
             have X4 := Lib.hid ((Y3.alloc (.cells #[.string V] 9)).keptS (k4.mono HP5.out.1))
             have Z4 := Lib.hid (Nat.le_trans (Nat.le_trans HSz.out (y3.alloc (.cells #[.string V] 9)).size) k4.below.size)
             have S4 := Lib.hid ((k4.below.block gq HP5.out.2).trans (((y3.alloc (.cells #[.string V] 9)).block gq (heap_lt HSh.out)).trans HSh.out))
             have L4 := Lib.hid l4; have I4 := Lib.hid ((HI.out.ext (y3.alloc _)).keepS k4)
             clear l4 s4 f4 e4 x4))
        go_roundw
        case rel =>
          have hm2 : min (K.length + 1) K.length = K.length := by omega
          exact ⟨K.length + 1, p4, c4, by omega, by go_num, rfl, L4, Z4, ⟨E, nz, Lib.hid (by rw [hm2]; exact HE.out), by rw [hm2]; exact I4⟩, S4, X4⟩
        case measure => simp [intOf]
    · obtain rfl : i = K.length + 1 := by omega
      have hmin : min (K.length + 1) K.length = K.length := by omega
      rw [hmin] at HE HI
      have hlt7 : K.length + 1 ≤ 7 := by omega
      have hm1 : K.length < K.length + 1 := by omega
      obtain ⟨m, hm⟩ : ∃ m, K.length + 1 = m := ⟨_, rfl⟩
      have HM := Lib.hid hm
      have hlei : ¬ (m : Int) ≤ (K.length : Int) := by omega
      rw [hm] at HS hlt7 hm1
      have hgl : ((K.length + 1 : Nat) : Int) = (m : Int) := by rw [hm]
      rw [hm]
      have hmk := make_bools15 m (by omega)
      have HTb := Lib.hid (Blk.new wr (boV (List.replicate m false)) 4)
      have HXb := Lib.hid ((Ext.refl wr).alloc (.cells (boV (List.replicate m false)).toArray 4))
      have HSl := Lib.hid (putsL_length kb K N1 text m)
      clear hm hmin hle hi hgl
      go_wp2_with (fail)
      generalize wr = W0 at *
      obtain ⟨tb, htb⟩ : ∃ tb, W0.heap.size = tb := ⟨_, rfl⟩
      have HTB := Lib.hid htb
      have HXw := Lib.hid HX.out.size
      have hTb := HTb.out
      rw [htb] at hTb ⊢
      have HTc := Lib.hid hTb
      clear HTb hTb hmk htb
      go_loopw [19] (fun iv wx => ∃ j : Nat, j ≤ m ∧ iv = .int .i64 (j : Int) ∧ Hid (Blk wx tb 4 (boV (List.replicate j true ++ List.replicate (m - j) false))) ∧ Hid (Ext W0 wx)) (fun iv _ => m - (intOf iv).toNat)
      case atStart => exact ⟨0, Nat.zero_le _, rfl, Lib.hid (by simpa using HTc.out), HXb⟩
      case round =>
        clear HTc HXb
        obtain ⟨j, hj, rfl, HT, HXj⟩ := hrel
        by_cases hjm : j < m
        · have hji : (j : Int) < (m : Int) := by omega
          have hjm7 : (j : Int) ≤ 7 := by omega
          have hlen : (List.replicate j true ++ List.replicate (m - j) false).length = m := by simp; omega
          obtain ⟨v0, hv0⟩ : ∃ v0, (List.replicate j true ++ List.replicate (m - j) false)[j]? = some v0 := ⟨_, List.getElem?_eq_getElem (by omega)⟩
          have hc0 : wr.cell? ⟨tb, j, none⟩ = some (.bool v0) := HT.out.cell j _ (by unfold boV; rw [List.getElem?_map, hv0]; rfl)
          have hf0 := HT.out.frozen j
          have hset : boV ((List.replicate j true ++ List.replicate (m - j) false).set j true) = boV (List.replicate (j + 1) true ++ List.replicate (m - (j + 1)) false) := by
            congr 1
            rw [List.set_append_right _ _ (by simp)]
            obtain ⟨d, hd⟩ : ∃ d, m - j = d + 1 := ⟨m - j - 1, by omega⟩
            rw [hd, show m - (j + 1) = d by omega, List.length_replicate, Nat.sub_self, List.replicate_succ, List.set_cons_zero, List.replicate_succ', List.append_assoc]
            rfl
          have HSet := Lib.hid hset
          clear hlen hset hv0
          go_wp2_with (fail)
          go_roundw
          case rel =>
            refine ⟨j + 1, by omega, by go_num, Lib.hid ?_, Lib.hid (HXj.out.setCell (by have := HTB.out; simp only; omega) _)⟩
            have := HT.out.set_ j (.bool true)
            rw [boV_set, HSet.out] at this
            exact this
          case measure => simp [intOf]; omega
        · obtain rfl : j = m := by omega
          have hji : ¬ (j : Int) < (j : Int) := by omega
          have hD0 : List.replicate j true ++ List.replicate (j - j) false = List.replicate j true := by simp
          rw [hD0] at HT
          have hRK := ringD_all kb K K.length
          rw [HM.out] at hRK
          rw [← hRK] at HI HE
          have X0 := Lib.hid (HX.out.trans HXj.out)
          have I0 := Lib.hid (HI.out.ext HXj.out)
          have S0 := Lib.hid (HS.out.ext HXj.out)
          have Q0 := Lib.hid ((HXj.out.block gq (heap_lt HSh.out)).trans HSh.out)
          have HMj := Lib.hid (And.intro hlt7 hm1)
          have hj7 : (j : Int) ≤ 7 := by omega
          have hj1 : (1 : Int) ≤ (j : Int) := by omega
          clear hD0 hRK hjm hj hlei hlt7 hm1
          go_wp2_with (fail)
          clear hji
          go_loopw [20] (fun iv wx => ∃ (i : Nat) (D : List Bool) (E nz : ByteArray), i ≤ O.length ∧ iv = .int .i64 (i : Int) ∧ Hid (D.length = j ∧ D[K.length]? = some true) ∧ Hid (E = envOf A 1 nz (ringD (ringG kb K K.length) D) ∧ nz.size = 12) ∧ Hid (Blk wx tb 4 (boV D)) ∧ Hid (IsP wx w.heap.size xb (.opened 1 E A (ringD (ringG kb K K.length) D))) ∧ Hid (IsL wx P5 pl cl (putsL kb K N1 text j)) ∧ Hid (wx.heap[gq]? = some OB) ∧ Hid (Ext w wx)) (fun iv _ => O.length - (intOf iv).toNat)
          case atStart =>
            refine ⟨0, List.replicate j true, E, nz, Nat.zero_le _, rfl, Lib.hid ⟨by simp, ?_⟩, HE, HT, I0, S0, Q0, X0⟩
            have := HMj.out.2
            simp [List.getElem?_replicate]
            omega
          case round =>
            clear X0 I0 S0 Q0 HT HE HI HXj HX HS HSz HSh
            obtain ⟨i, D, E, nz, hi, rfl, HD, HE, HT, HI, HS, HQ, HX⟩ := hrel
            by_cases hio : i < O.length
            · have hioi : (i : Int) < (O.length : Int) := by omega
              obtain ⟨o, ho⟩ : ∃ o, O[i]? = some o := ⟨_, List.getElem?_eq_getElem hio⟩
              obtain ⟨ao, rfl, hao, hco⟩ := (HO.out.ext HX.out) i (.int .u8 (o : Int)) (by unfold vU8; simp [ho])
              have ho256 : o < 256 := HO2.out o (List.mem_of_getElem? ho)
              obtain ⟨k, hk, hok⟩ : ∃ k : Nat, k < j ∧ (o : Int) % (j : Int) = (k : Int) := ⟨o % j, Nat.mod_lt _ (by omega), (Int.natCast_emod _ _).symm⟩
              have hj0 : ¬ (j : Int) = 0 := by omega
              have hje : ((j : Int) == 0) = false := by simpa using hj0
              have hw32 : IntKind.u32.wrap ((k : Int) + 1) = (k : Int) + 1 := IntWalk.u32_in _ ⟨by omega, by omega⟩
              have hKj := HM.out
              obtain ⟨d, hd⟩ : ∃ d, D[k]? = some d := ⟨_, List.getElem?_eq_getElem (by have := HD.out.1; omega)⟩
              have hz3 := HZ.out.2.2.2.2.2
              have HRe := Lib.hid (fun u (x : Ext w u) (hu : IsP u w.heap.size xb (.opened 1 E A (ringD (ringG kb K K.length) D))) => bretire_epoch u w.heap.size xb 1 HB2.out (HLd.out u x) E A kb K K.length (by omega) D (by rw [HD.out.1]; exact HM.out.symm) HD.out.2 k (by omega) N3 hz3 nz HE.out hu ((k : Int) + 1) rfl)
              have hcases : (k = K.length ∧ retC K.length D k = 2 ∧ retD K.length D k = D ∧ d = true) ∨ (k ≠ K.length ∧ d = false ∧ retC K.length D k = 3 ∧ retD K.length D k = D) ∨ (k ≠ K.length ∧ d = true ∧ retC K.length D k = 0 ∧ retD K.length D k = D.set k false) := by
                have hg : D.getD k false = d := by simp [List.getD, hd]
                unfold retC retD
                by_cases q : k = K.length
                · subst q
                  have := HD.out.2
                  rw [hd] at this
                  cases this
                  exact .inl ⟨rfl, if_pos rfl, if_pos rfl, rfl⟩
                · rw [if_neg q, if_neg q, hg]
                  cases d
                  · exact .inr (.inl ⟨q, rfl, rfl, rfl⟩)
                  · exact .inr (.inr ⟨q, rfl, rfl, rfl⟩)
              have hk7 : (k : Int) ≤ 6 := by omega
              have hkj : (k : Int) < (j : Int) := by omega
              have HKj := Lib.hid hk
              have hdl := retD_length K.length D k
              have hdt := retD_last K.length D k HD.out.2
              have HDl := Lib.hid (And.intro hdl hdt)
              have HSl2 := Lib.hid (show (putsL kb K N1 text j).length = j from putsL_length _ _ _ _ _)
              clear ho hao hz3 hk hdl hdt
              rcases hcases with ⟨hq, hc, hD', rfl⟩ | ⟨hq, rfl, hc, hD'⟩ | ⟨hq, rfl, hc, hD'⟩
              all_goals
                rw [hc, hD'] at HRe
                have HD' := Lib.hid hD'
                clear hc hD'
              case' inl => (have hkk : ((k : Int) == (j : Int) - 1) = true := by (have : (k : Int) = (j : Int) - 1 := by omega); simpa using this)
              case' inr.inl => (have hkk : ((k : Int) == (j : Int) - 1) = false := by (have : ¬ (k : Int) = (j : Int) - 1 := by omega); simpa using this)
              case' inr.inr => (have hkk : ((k : Int) == (j : Int) - 1) = false := by (have : ¬ (k : Int) = (j : Int) - 1 := by omega); simpa using this)
              all_goals
                clear hKj hq
                go_wp2_with (first
                  | (go_at_call 14; (with_reducible refine (HN3.out _).mono ?_); rintro e w2 ⟨rfl, x2⟩)
                  | (go_at_call 25; refine (HRe.out _ (HX.out.trans x2) (HI.out.ext x2)).mono ?_; rintro e w3 ⟨rfl, ⟨E3, nz3, e3, i3⟩, t3⟩; have X3 := Lib.hid ((HX.out.trans x2).turnedB t3); have B3 := t3.blk (HT.out.ext x2) (by decide); have d3 := B3.cell k _ (by unfold boV; rw [List.getElem?_map, hd]; rfl); have f3 := B3.frozen k; have T3 := Lib.hid B3; have S3 := Lib.hid ((HS.out.ext x2).turnP t3); have Q3 := Lib.hid (t3.keep gq OB ((x2.block gq (heap_lt HQ.out)).trans HQ.out) HNb.out); have E3h := Lib.hid e3; have I3 := Lib.hid i3; clear i3 t3 B3 e3))
                go_roundw
                case rel =>
                  first
                    | exact ⟨i + 1, D, E3, nz3, by omega, by go_num, HD, E3h, T3, I3, S3, Q3, X3⟩
                    | (refine ⟨i + 1, D.set k false, E3, nz3, by omega, by go_num, Lib.hid ?_, E3h, Lib.hid ?_, Lib.hid (I3.out.keptT T3.out (by decide) (by decide) (by decide) rfl), Lib.hid (S3.out.keptT T3.out (by decide) rfl), Lib.hid ((Below.heap_setCell _ _ _ _ (HOn.out _ _ _ _ Q3.out T3.out (by decide))).trans Q3.out), Lib.hid (X3.out.setCell (by have := HTB.out; have := HXw.out; simp only; omega) _)⟩
                       · have h1 := HDl.out
                         rw [HD'.out] at h1
                         exact ⟨h1.1.trans HD.out.1, h1.2⟩
                       · have := T3.out.set_ k (.bool false)
                         rw [boV_set] at this
                         exact this)
                case measure => simp [intOf]; omega
            · obtain rfl : i = O.length := by omega
              have hioi : ¬ (O.length : Int) < (O.length : Int) := by omega
              clear hio hi
              have hKj := HM.out
              have hG := HI.out.good
              have hz := HE.out.2
              have hls := fun s (hs : s ∈ ([] : List ByteArray)) => (show s.size = A.size from by cases hs)
              have hEs : E.size ≤ 4000 := by rw [HE.out.1, envOf_size hG _ _ _ hz]; have := hG.few; omega
              have HEp : ∀ u, Calls Tryz.prog 85 #[.string E] u fun r w' => r = .returned (.tuple #[.int .u32 1, .int .i64 0]) ∧ Ext u w' := fun u => by
                have := epoch_sealed A 1 (by omega) pathB 1 nz (ringB (ringD (ringG kb K K.length) D)) hz (by have := ringB_le hG; omega) u
                rw [HE.out.1]
                unfold envOf
                exact this
              have HHd := Lib.hid (fun u (hu : IsP u w.heap.size xb (.opened 1 E A (ringD (ringG kb K K.length) D))) => header_any u w.heap.size xb _ hu)
              have hd1 : hdS (.opened 1 E A (ringD (ringG kb K K.length) D)) = hdT 1 E := rfl
              simp only [hd1] at HHd
              obtain ⟨rl, hrl⟩ : ∃ rl, (ringD (ringG kb K K.length) D).length = rl := ⟨_, rfl⟩
              have HLo := Lib.hid (fun B u y (hu : IsP u B y .none) => load_yes u B y hu 1 E (Nat.le_refl _) (by decide) (by omega) (fun v => mayBe_yes 1 E 1 0 (Nat.le_refl _) (by decide) HEp v))
              have hSh : shareT 1 1 (lastT A []) = SH := HSH.out
              have HUl := Lib.hid (fun B u y (hB : 2 ≤ B) (x : Ext w u) (hu : IsP u B y (.closed 1 E [])) => by
                exact unseal_last u B y 1 E [] (1, lastT A []) hB (HLd.out u x) A nz (ringD (ringG kb K K.length) D) [] HE.out.1 hG hz HZ.out.1 hls rfl hu (by simp [rowF, allT]))
              simp only [hSh] at HUl
              have HEx := Lib.hid (fun B u y (hu : IsP u B y (.opened 1 E A (ringD (ringG kb K K.length) D))) => epochs_open u B y 1 E A _ hu rl hrl)
              have ho := HOc.out
              have HB2r := Lib.hid (Nat.le_trans HB2.out HX.out.size)
              obtain ⟨W9, hW9⟩ : ∃ W9, wr.heap.size = W9 := ⟨_, rfl⟩
              generalize hdT 1 E = HH at *
              clear hKj hG hz hEs HEp hd1 hrl hSh hls
              go_wp2_with (first
                | (go_at_call 9; refine (bnew_any _).mono ?_; rintro e w2 ⟨yb, rfl, i2, x2⟩; have X2 := HX.out.trans x2; have I2 := Lib.hid (HI.out.ext x2); have Y2 := Lib.hid i2; clear i2)
                | (go_at_call 17; refine (HHd.out _ I2.out).mono ?_; rintro e w3 ⟨rfl, rfl⟩)
                | (go_at_call 19; refine (HLo.out _ _ _ Y2.out).mono ?_; rintro e w4 ⟨rfl, i4, t4⟩; have Y4 := Lib.hid i4; have x4 := x2.turnedB t4; have k4 := ho _ (((x4.block gq (heap_lt HQ.out)).trans HQ.out)); clear i4)
                | (go_at_call 21; refine (HUl.out _ _ _ HB2r.out (HX.out.trans x4) Y4.out).mono ?_; rintro e w5 ⟨rfl, i5, t5⟩; have Y5 := Lib.hid i5; have x5 := x4.turnedB t5; have I5 := Lib.hid (HI.out.ext x5); clear i5)
                | (go_at_call 22; (with_reducible refine (HEx.out _ _ _ Y5.out).mono ?_); rintro e w6 ⟨g6, c6, rfl, i6, x6⟩; have Y6 := Lib.hid (Y5.out.ext x6); have I6 := Lib.hid (I5.out.ext x6); have y6 := x5.trans x6; clear i6)
                | (go_at_call 22; (with_reducible refine (HEx.out _ _ _ I6.out).mono ?_); rintro e w7 ⟨g7, c7, rfl, i7, x7⟩; have Y7 := Lib.hid (Y6.out.ext x7); have I7 := Lib.hid (I6.out.ext x7); have y7 := y6.trans x7; clear i7))
              have T7 := Lib.hid (HT.out.ext y7); have S7 := Lib.hid (HS.out.ext y7); have X7 := Lib.hid (HX.out.trans y7)
              rw [hW9] at Y7
              have HDD := Lib.hid HD.out.1
              have hz1 := HZ.out.2.2.2.1
              have HGet := Lib.hid (fun B u y (x : Ext w u) (hu : IsP u B y (.opened 1 E A (ringD (ringG kb K K.length) D))) k (hk : k ≤ K.length) d (hd : D[k]? = some d) => get_epoch u B y 1 (HLd.out u x) E A kb K K.length (by omega) D k hk d hd ⟨#[112]⟩ k N1 text hz1 (by decide) (by omega) hu)
              clear x2 X2 I2 Y2 t4 x4 k4 Y4 t5 x5 I5 Y5 x6 Y6 I6 y6 x7 y7 HHd HLo HUl HEx ho hz1 HT HS HX HQ HI HE
              go_loopw [27] (fun iv wx => ∃ i : Nat, i ≤ j ∧ iv = .int .i64 (i : Int) ∧ Hid (IsP wx w.heap.size xb (.opened 1 E A (ringD (ringG kb K K.length) D))) ∧ Hid (IsP wx W9 yb (.opened 1 E A (ringD (ringG kb K K.length) D))) ∧ Hid (Blk wx tb 4 (boV D)) ∧ Hid (IsL wx P5 pl cl (putsL kb K N1 text j)) ∧ Hid (Ext w wx)) (fun iv _ => j - (intOf iv).toNat)
              case atStart => exact ⟨0, Nat.zero_le _, rfl, I7, Y7, T7, S7, X7⟩
              case round =>
                clear I7 Y7 T7 S7 X7
                obtain ⟨i, hi, rfl, HI, HY, HT, HS, HX⟩ := hrel
                by_cases hij : i < j
                · have hiji : (i : Int) < (j : Int) := by omega
                  have hw64 : IntKind.u64.wrap (i : Int) = (i : Int) := IntWalk.u64_in _ ⟨by omega, by omega⟩
                  obtain ⟨d, hd⟩ : ∃ d, D[i]? = some d := ⟨_, List.getElem?_eq_getElem (by have := HDD.out; omega)⟩
                  have hpa := putsL_at kb K N1 text j i hij
                  obtain ⟨V, hV⟩ : ∃ V, sealT (lastG kb K i) (i + 1) ⟨#[112]⟩ i N1 text = V := ⟨_, rfl⟩
                  have HG2 : Hid (∀ B u y, Ext w u → IsP u B y (.opened 1 E A (ringD (ringG kb K K.length) D)) → Calls Tryz.prog 20 #[.pointer (some ⟨y, 0, none⟩), .string ⟨#[112]⟩, .int .u64 (i : Int), .string V] u fun e w' => e = .returned (.tuple #[.string (if d then text else ⟨#[]⟩), .int .i64 (if d then 0 else 140)]) ∧ Ext u w') := Lib.hid (fun B u y x hu => by
                    subst hV
                    exact HGet.out B u y x hu i (by have := HM.out; omega) d hd)
                  rw [hV] at hpa
                  obtain ⟨gl, rfl, hlc⟩ := HS.out.at_ hpa
                  have HLc := Lib.hid (fun u (x : Ext wr u) => (show u.cell? ⟨gl, i, none⟩ = some (.string V) from (HS.out.ext x).cell_at hpa))
                  have HTc := Lib.hid (fun u (x : Ext wr u) => (show u.cell? ⟨tb, i, none⟩ = some (.bool d) from (HT.out.ext x).cell i _ (by unfold boV; rw [List.getElem?_map, hd]; rfl)))
                  have hj7' : (i : Int) ≤ 7 := by omega
                  clear hd hpa hV
                  cases d
                  all_goals
                    simp only [if_true, Bool.false_eq_true, if_false] at HG2
                    go_wp2_with (first
                      | (go_at_call 20; (with_reducible refine (HG2.out _ _ _ HX.out HI.out).mono ?_); rintro e w2 ⟨rfl, x2⟩; have c2 := HLc.out _ x2)
                      | (go_at_call 20; (with_reducible refine (HG2.out _ _ _ (HX.out.trans x2) (HY.out.ext x2)).mono ?_); rintro e w3 ⟨rfl, x3⟩; have y3 := x2.trans x3; have c3 := HTc.out _ y3))
                    go_roundw
                    case rel => exact ⟨i + 1, by omega, by go_num, Lib.hid (HI.out.ext y3), Lib.hid (HY.out.ext y3), Lib.hid (HT.out.ext y3), Lib.hid (HS.out.ext y3), Lib.hid (HX.out.trans y3)⟩
                    case measure => simp [intOf]; omega
                · obtain rfl : i = j := by omega
                  have hiji : ¬ (i : Int) < (i : Int) := by omega
                  clear hij hi
                  go_wp2_with (go_at_call 8; refine (HW.out _ HX.out).mono ?_; rintro e w7 ⟨rfl, x7⟩)
                  go_ret
                  exact ⟨rfl, HX.out.trans x7⟩
end Go.Proofs.YtcjdnifckngcfaaGreatDoor
