/- The walk of layer 11's statement SegmentCuts. -/
import Derived.Test.YthnoegipadnmeaaSegBase
import Derived.Test.YthnoegipadnmeaaSHeavy
import Derived.Test.YthnoegipadnmeaaPBytes
import Derived.Test.YthnoegipadnmeaaSame8
import Derived.Deep.DeepCutAuto
import Derived.Deep.RegionHeld3
namespace Go.Proofs.Ythnoegipadnmeaa
open Go.RowKit

theorem cutF_yes {l : List ByteArray} {n k : Nat} {t : ByteArray} (h : l[n]? = some t) (hk : 16 + t.size ≤ k) :
    cutF (l.drop n) k = ((cutF (l.drop (n + 1)) (k - (16 + t.size))).1 + 1, (cutF (l.drop (n + 1)) (k - (16 + t.size))).2 + (16 + t.size)) := by
  obtain ⟨hn, ht⟩ := List.getElem?_eq_some_iff.1 h
  rw [List.drop_eq_getElem_cons hn, ht, cutF, if_pos hk]
theorem cutF_no {l : List ByteArray} {n k : Nat} {t : ByteArray} (h : l[n]? = some t) (hk : ¬ 16 + t.size ≤ k) : cutF (l.drop n) k = (0, 0) := by
  obtain ⟨hn, ht⟩ := List.getElem?_eq_some_iff.1 h
  rw [List.drop_eq_getElem_cons hn, ht, cutF, if_neg hk]
theorem TextsP.take {w : World} {p : Option Addr} {l : List ByteArray} (h : TextsP w p l) (n : Nat) : TextsP w p (l.take n) := fun i s hs => by
  have hi : i < (l.take n).length := (List.getElem?_eq_some_iff.1 hs).1
  rw [List.length_take] at hi
  rw [List.getElem?_take, if_pos (by omega)] at hs
  exact h i s hs
theorem add_zero7 (a : Addr) : a.add 0 = a := by unfold Addr.add; split <;> simp_all
/-- x[:n] of a slice of texts. -/
theorem texts_head (p : Option Addr) (n z c : Nat) (hn : n ≤ z) (hz : z ≤ c) (hc : p = none → c = 0) (u : World) : (Instr.slice 23 (.slice p z c) none (some (.int .i64 (n : Int))) none).run Try.prog u = .ok (.slice p n c) u := by
  rcases p with _ | a
  · obtain rfl : c = 0 := hc rfl
    obtain rfl : n = 0 := by omega
    simp [Instr.slice, Instr.sliceBounds, Instr.sliceBound, asIntOf, run_underlying Try.underlying23]
  · have hj : (0 : Int) ≤ (n : Int) ∧ (n : Int) ≤ (c : Int) := by omega
    have hnc : n ≤ c := by omega
    simp [Instr.slice, Instr.sliceBounds, Instr.sliceBound, asIntOf, run_underlying Try.underlying23, hj, hnc, add_zero7]
theorem bytesF_err {x : Seg} (h : ¬ ((bytesF x).2 = 0)) : bytesF x = (⟨#[]⟩, 2) := by
  rcases bytesF_or x with h2 | h2
  · rw [h2] at h; exact absurd rfl h
  · exact h2
/-- A segment's cells in a block. -/
def S7 (u : World) (b : Nat) (x : Seg) (q : Option Addr) (c : Nat) : Prop := u.cell? ⟨b, 0, none⟩ = some (.int .u8 (x.k : Int)) ∧ u.cell? ⟨b, 1, none⟩ = some (.int .u64 (x.g : Int)) ∧ u.cell? ⟨b, 2, none⟩ = some (.int .u64 (x.f : Int)) ∧ u.cell? ⟨b, 3, none⟩ = some (.string x.t) ∧ u.cell? ⟨b, 4, none⟩ = some (.slice q x.r.length c) ∧ u.cell? ⟨b, 5, none⟩ = some (.int .i64 x.u) ∧ u.cell? ⟨b, 6, none⟩ = some (.bool x.w)
theorem Blk.s7 {u : World} {b : Nat} {x : Seg} {q : Option Addr} {c : Nat} (h : Blk u b 25 (segC x (.slice q x.r.length c))) : S7 u b x q c :=
  ⟨h.cell 0 _ rfl, h.cell 1 _ rfl, h.cell 2 _ rfl, h.cell 3 _ rfl, h.cell 4 _ rfl, h.cell 5 _ rfl, h.cell 6 _ rfl⟩
set_option maxRecDepth 100000 in
set_option maxHeartbeats 16000000 in
theorem SegmentCuts_walk (x : Seg) (p : Option Addr) (c : Nat) (at_ : Int) (W : World) (hr : TextsP W p x.r) (ok : x.Ok) (hcap : x.r.length ≤ c ∧ (p = none → c = 0)) (z2 : 0 ≤ at_ ∧ at_ ≤ 65535) :
    Calls Try.prog 5 #[segV x (.slice p x.r.length c), .int .u16 at_] W fun e W' => e = .returned (.bool true) ∧ Ext W W' := by
  obtain ⟨W1, hW1⟩ : ∃ W1, W.alloc (.cells #[.int .u8 (x.k : Int), .int .u64 (x.g : Int), .int .u64 (x.f : Int), .string x.t, .slice p x.r.length c, .int .i64 x.u, .bool x.w] 25) = W1 := ⟨_, rfl⟩
  have hb : Blk W1 W.heap.size 25 (segC x (.slice p x.r.length c)) := by rw [← hW1]; exact Blk.new W _ _
  have hx1 : Ext W W1 := by rw [← hW1]; exact (Ext.refl W).alloc _
  have HB := Lib.hid hb; have HX1 := Lib.hid hx1
  have HR := Lib.hid (fun u (hu : Ext W1 u) => hr.ext (hx1.trans hu))
  have HHv := Lib.hid (heavy_any x p c W1 (hr.ext hx1) ok.t ok.r ok.n)
  unfold segV at HHv
  obtain ⟨c0, c1, c2, c3, c4, c5, c6⟩ := hb.s7
  clear hb hx1
  unfold segV
  go_enter Try.func5, Try.ntmps5
  go_upto_if 17 with (go_at_call 7; refine (HHv.out).mono ?_; rintro e w1 ⟨b, rfl, x1, hlt⟩; have X1 := Lib.hid x1; have HLt := Lib.hid hlt; have hb1 := HB.out.ext x1; clear c0 c1 c2 c3 c4 c5 c6; obtain ⟨c0, c1, c2, c3, c4, c5, c6⟩ := hb1.s7; clear x1 hlt hb1; cases b)
  · have hl := HLt.out (by trivial)
    have HCs := Lib.hid (fun u (hu : Ext W1 u) => (HB.out.ext hu).s7)
    have HHd := Lib.hid (fun u => Head_any x.k x.g x.f x.t ok.k ok.g ok.f hl.t u)
    have HBy := Lib.hid (fun u (hu : Ext W1 u) => Bytes_any x ok hl p c u (HR.out u hu))
    unfold segV at HBy
    by_cases he : (bytesF x).2 = 0
    · obtain ⟨hm, hf, hbf⟩ := bytesF_ok he
      rw [hbf] at HBy
      have hhf : headF x.k x.g x.f x.t = (frameT (headR x.k x.g x.f x.t), 0) := by
        rcases headF_or x.k x.g x.f x.t with ⟨_, h⟩ | ⟨h, _⟩
        · exact h
        · exact absurd hm h
      rw [hhf] at HHd
      have hpb := parse_back hl hm hf
      have hszT := bytesT_size x
      have hszH : (frameT (headR x.k x.g x.f x.t)).size = 16 + (headT x.k x.g x.t).size := by rw [frameT_size]; rfl
      have hbl := bytesT_le hl
      have HPa := Lib.hid (fun u => Parse_any (bytesT x) (by omega) u)
      rw [hpb] at HPa
      unfold segV at HPa
      dsimp only at HPa HHd HBy
      obtain ⟨k, hk, hkt⟩ : ∃ k : Nat, at_ % (((bytesT x).size : Int) + 1) = (k : Int) ∧ k ≤ (bytesT x).size := by
        have q1 := Int.emod_nonneg at_ (show (((bytesT x).size : Int) + 1) ≠ 0 by omega)
        have q2 := Int.emod_lt_of_pos at_ (show (0 : Int) < ((bytesT x).size : Int) + 1 by omega)
        exact ⟨(at_ % (((bytesT x).size : Int) + 1)).toNat, by omega, by omega⟩
      have hcut := parse_cut hl hm hf k hkt
      have HPk := Lib.hid (fun u => Parse_any ((bytesT x).extract 0 k) (by rw [ByteArray.size_extract]; omega) u)
      rw [hcut] at HPk
      have hck := cut_to (bytesT x) k hkt
      have HCf := Lib.hid (cutF_full x.r)
      have HSame1 := Lib.hid (fun u (p1 : Option Addr) (c1 : Nat) (h1 : TextsP u p1 x.r) (h2 : TextsP u p x.r) => same_dec u p1 p c1 c _ _ x.r x.r rfl rfl h1 h2 (by have := hl.n; omega) (by have := hl.n; omega))
      simp only [decide_true] at HSame1
      have hle : (16 + (headT x.k x.g x.t).size) ≤ (bytesT x).size := by omega
      have HL := Lib.hid hl
      have hwa : IntKind.i64.wrap (((bytesT x).size : Int) + 1) = ((bytesT x).size : Int) + 1 := IntWalk.i64_in _ ⟨by omega, by omega⟩
      have hne : ¬ (((bytesT x).size : Int) + 1) = 0 := by omega
      clear HLt he hhf hbf hpb hcut hW1 HHv hl hm hf
      have HCk : Hid (cutS x k = if k < 16 + (headT x.k x.g x.t).size then (Seg.zero, 100) else (⟨x.k, x.g, x.f, x.t, x.r.take (cutF x.r (k - (16 + (headT x.k x.g x.t).size))).1, ((16 + (headT x.k x.g x.t).size + (cutF x.r (k - (16 + (headT x.k x.g x.t).size))).2 : Nat) : Int), decide (16 + (headT x.k x.g x.t).size + (cutF x.r (k - (16 + (headT x.k x.g x.t).size))).2 = k)⟩, 0)) := Lib.hid rfl
      have HSz := Lib.hid hszT
      generalize 16 + (headT x.k x.g x.t).size = hS at *
      generalize (bytesT x).extract 0 k = SK at *
      generalize hBT : bytesT x = S at *
      generalize frameT (headR x.k x.g x.f x.t) = FH at *
      have hszHi : ((FH.size : Nat) : Int) = (hS : Int) := by rw [hszH]
      have hge : ¬ ((S.size : Int) < (FH.size : Int)) := by omega
      have HK := Lib.hid hk
      clear hBT hszT hszH hk
      go_upto_region 8 with (first
        | (go_at_call 11; refine (HBy.out _ X1.out).mono ?_; rintro e w2 ⟨rfl, x2⟩; have X2 := Lib.hid (X1.out.trans x2); clear c0 c1 c2 c3 c4 c5 c6; obtain ⟨c0, c1, c2, c3, c4, c5, c6⟩ := HCs.out _ X2.out; clear x2)
        | (go_at_call 9; refine (HHd.out _).mono ?_; rintro e w3 ⟨rfl, x3⟩; have X3 := Lib.hid (X2.out.trans x3); clear c0 c1 c2 c3 c4 c5 c6; clear x3)
        | (go_at_call 13; refine (HPa.out _).mono ?_; rintro e w4 ⟨q4, k4, rfl, x4, t4⟩; have x4' := x4.alloc (.cells #[.int .u8 (x.k : Int), .int .u64 (x.g : Int), .int .u64 (x.f : Int), .string x.t, .slice q4 x.r.length k4, .int .i64 ((S.size : Nat) : Int), .bool true] 25); have X4 := Lib.hid (X3.out.trans x4'); have hb4 := Blk.new w4 [.int .u8 (x.k : Int), .int .u64 (x.g : Int), .int .u64 (x.f : Int), .string x.t, .slice q4 x.r.length k4, .int .i64 ((S.size : Nat) : Int), .bool true] 25; have T4 := Lib.hid (t4.ext ((Ext.refl w4).alloc (.cells #[.int .u8 (x.k : Int), .int .u64 (x.g : Int), .int .u64 (x.f : Int), .string x.t, .slice q4 x.r.length k4, .int .i64 ((S.size : Nat) : Int), .bool true] 25))); have d0 := hb4.cell 0 _ rfl; have d1 := hb4.cell 1 _ rfl; have d2 := hb4.cell 2 _ rfl; have d3 := hb4.cell 3 _ rfl; have d4 := hb4.cell 4 _ rfl; have d5 := hb4.cell 5 _ rfl; have d6 := hb4.cell 6 _ rfl; have HB4 := Lib.hid hb4; clear x4 x4' t4 hb4))
      have hc4 := HCs.out _ X4.out
      obtain ⟨c0, c1, c2, c3, c4, c5, c6⟩ := hc4
      obtain ⟨b4, hb4⟩ : ∃ b, b = w4.heap.size := ⟨_, rfl⟩
      rw [← hb4] at d0 d1 d2 d3 d4 d5 d6 HB4 ⊢
      generalize (w4.alloc (.cells #[.int .u8 (x.k : Int), .int .u64 (x.g : Int), .int .u64 (x.f : Int), .string x.t, .slice q4 x.r.length k4, .int .i64 ((S.size : Nat) : Int), .bool true] 25)) = W4 at *
      have HT := Lib.hid (HR.out W4 X4.out)
      clear HHd HBy HPa hb4 X1 X2 X3 HB
      go_upto_region 11 with (go_at_call 21; refine (HSame1.out _ _ _ T4.out HT.out).mono ?_; rintro e w5 ⟨rfl, x5⟩; have X5 := Lib.hid (X4.out.trans x5); clear c0 c1 c2 c3 c4 c5 c6 d0 d1 d2 d3 d4 d5 d6; have hb5 := HB4.out.ext x5; have d5 := hb5.cell 5 _ rfl; have d6 := hb5.cell 6 _ rfl; clear x5 hb5)
      rw [HK.out]
      have HCs5 := Lib.hid (fun u (hu : Ext w5 u) => HCs.out u (X5.out.trans hu))
      have HR5 := Lib.hid (fun u (hu : Ext w5 u) => HR.out u (X5.out.trans hu))
      have HX5 := Lib.hid (HX1.out.trans X5.out)
      clear HCs HR HX1 X4 X5 HB4 HT T4 HSame1 d5 d6 hge hwa hne z2
      by_cases hkh : k < hS
      · have HZ : Hid (cutS x k = (Seg.zero, 100)) := Lib.hid (by rw [HCk.out, if_pos hkh])
        rw [HZ.out] at HPk
        simp only [segV, Seg.zero] at HPk
        have hkhi : (k : Int) < (FH.size : Int) := by omega
        clear HCk HZ
        go_wp2_with (first
          | (go_at_call 13; refine (HPk.out _).mono ?_; rintro e w6 ⟨q6, k6, rfl, x6, _⟩; have X6 := Lib.hid x6; clear x6)
          | (go_at_call 8; refine (alive_any _).mono ?_; rintro e w7 ⟨rfl, x7⟩; have X7 := Lib.hid x7; clear x7))
        go_ret
        exact ⟨rfl, HX5.out.trans (((X6.out.alloc _)).trans X7.out)⟩
      · obtain ⟨zr, hzr⟩ : ∃ r, r = x.r.take (cutF x.r (k - hS)).1 := ⟨_, rfl⟩
        obtain ⟨zu, hzu⟩ : ∃ u, u = hS + (cutF x.r (k - hS)).2 := ⟨_, rfl⟩
        have HZ : Hid (cutS x k = (⟨x.k, x.g, x.f, x.t, zr, (zu : Int), decide (zu = k)⟩, 0)) := Lib.hid (by rw [HCk.out, if_neg hkh, hzr, hzu])
        rw [HZ.out] at HPk
        simp only [segV] at HPk
        have hkhi : ¬ (k : Int) < (FH.size : Int) := by omega
        obtain ⟨zw, hzw⟩ : ∃ b, b = decide (zu = k) := ⟨_, rfl⟩
        rw [← hzw] at HPk
        have HZR := Lib.hid hzr; have HZU := Lib.hid hzu; have HZW := Lib.hid hzw
        clear HCk HZ hzr hzu hzw
        have hkS : hS ≤ k := by omega
        go_wp2_with (first
          | (go_at_call 13; refine (HPk.out _).mono ?_; rintro e w6 ⟨q6, k6, rfl, x6, t6⟩; have X6 := Lib.hid (x6.alloc (.cells #[.int .u8 (x.k : Int), .int .u64 (x.g : Int), .int .u64 (x.f : Int), .string x.t, .slice q6 zr.length k6, .int .i64 (zu : Int), .bool zw] 25)); have HB6 := Lib.hid (Blk.new w6 [.int .u8 (x.k : Int), .int .u64 (x.g : Int), .int .u64 (x.f : Int), .string x.t, .slice q6 zr.length k6, .int .i64 (zu : Int), .bool zw] 25); have T6 := Lib.hid (t6.ext ((Ext.refl w6).alloc (.cells #[.int .u8 (x.k : Int), .int .u64 (x.g : Int), .int .u64 (x.f : Int), .string x.t, .slice q6 zr.length k6, .int .i64 (zu : Int), .bool zw] 25))); clear x6 t6))
        generalize hb6 : w6.heap.size = b6 at *
        generalize (w6.alloc (.cells #[.int .u8 (x.k : Int), .int .u64 (x.g : Int), .int .u64 (x.f : Int), .string x.t, .slice q6 zr.length k6, .int .i64 (zu : Int), .bool zw] 25)) = W6 at *
        have HCs6 := Lib.hid (fun u (hu : Ext W6 u) => HCs5.out u (X6.out.trans hu))
        have HR6 := Lib.hid (fun u (hu : Ext W6 u) => HR5.out u (X6.out.trans hu))
        have HX6 := Lib.hid (HX5.out.trans X6.out)
        clear HCs5 HR5 HX5 X6 hb6 HPk
        clear hszHi hkhi
        go_loopw [14, 15] (fun nv ev wr => ∃ n e : Nat, n ≤ x.r.length ∧ nv = .int .i64 (n : Int) ∧ ev = .int .i64 (e : Int) ∧ hS ≤ e ∧ e ≤ k ∧ Hid (cutF x.r (k - hS) = ((cutF (x.r.drop n) (k - e)).1 + n, (cutF (x.r.drop n) (k - e)).2 + (e - hS))) ∧ W6 = wr) (fun nv _ _ => x.r.length - (intOf nv).toNat)
        case atStart => exact ⟨0, hS, Nat.zero_le _, rfl, rfl, Nat.le_refl _, hkS, Lib.hid (by simp), rfl⟩
        case round =>
          obtain ⟨n, e, hn, rfl, rfl, he1, he2, HC, rfl⟩ := hrel
          obtain ⟨c0, c1, c2, c3, c4, c5, c6⟩ := HCs6.out _ (Ext.refl _)
          have HL60 := HL.out.n
          by_cases hlt : n < x.r.length
          · obtain ⟨t, ht⟩ : ∃ t, x.r[n]? = some t := ⟨_, List.getElem?_eq_getElem hlt⟩
            obtain ⟨a, rfl, ha, hct⟩ := HR6.out _ (Ext.refl _) n t ht
            have ht4 := HL.out.r t (List.mem_of_getElem? ht)
            have hlti : (n : Int) < (x.r.length : Int) := by omega
            by_cases hk2 : e + 16 + t.size ≤ k
            · have hk2i : (e : Int) + 16 + (t.size : Int) ≤ (k : Int) := by omega
              have HY := Lib.hid (cutF_yes (k := k - e) ht (by omega))
              clear ht ha
              go_wp2
              go_roundw
              case rel => exact ⟨n + 1, e + 16 + t.size, hlt, by go_num, by go_num, by omega, hk2, Lib.hid (by rw [HC.out, HY.out, show k - e - (16 + t.size) = k - (e + 16 + t.size) by omega]; congr 1 <;> omega), trivial⟩
              case measure => simp [intOf]; omega
            · have hk2i : ¬ (e : Int) + 16 + (t.size : Int) ≤ (k : Int) := by omega
              have HC3 : Hid (cutF x.r (k - hS) = (n, e - hS)) := Lib.hid (by rw [HC.out, cutF_no (k := k - e) ht (by omega)]; simp)
              clear ht ha
              have hzr2 : zr = x.r.take (n) := by rw [HZR.out, HC3.out]
              have hzu2 : zu = e := by rw [HZU.out, HC3.out]; show hS + (e - hS) = e; omega
              have hzrl : zr.length = n := by rw [hzr2, List.length_take]; omega
              obtain ⟨bw, hbw⟩ : ∃ b, ((e : Int) == (k : Int)) = b := ⟨_, rfl⟩
              have hzw2 : zw = bw := by
                rw [HZW.out, hzu2, ← hbw]
                by_cases h : e = k
                · subst h; simp
                · have h2 : ¬ ((e : Int) = (k : Int)) := by omega
                  rw [beq_eq_false_iff_ne.2 h2]
                  simp [h]
              rw [hzrl, hzu2, hzw2] at HB6
              rw [hzrl]
              rw [hzu2, hzw2]
              have HT6 := Lib.hid T6.out
              have HSame2 := Lib.hid (fun u (hu : Ext W6 u) => same_dec u q6 ((some a)) k6 c (n) (n) zr (x.r.take (n)) hzrl (by rw [List.length_take]; omega) (HT6.out.ext hu) ((HR6.out u hu).take (n)) (by omega) (by omega))
              rw [← hzr2] at HSame2
              simp only [decide_true] at HSame2
              have hwant := texts_head ((some a)) (n) x.r.length c hn hcap.1 hcap.2
              have HKe : Hid (∀ u, Ext W6 u → u.cell? ⟨b6, 3, none⟩ = some (.string x.t) ∧ u.cell? ⟨b6, 4, none⟩ = some (.slice q6 n k6) ∧ u.cell? ⟨b6, 5, none⟩ = some (.int .i64 (e : Int)) ∧ u.cell? ⟨b6, 6, none⟩ = some (.bool bw) ∧ u.cell? ⟨W.heap.size, 3, none⟩ = some (.string x.t) ∧ u.cell? ⟨W.heap.size, 4, none⟩ = some (.slice (some a) x.r.length c) ∧ Ext W6 u) := Lib.hid (fun u hu => ⟨(HB6.out.ext hu).cell 3 _ rfl, (HB6.out.ext hu).cell 4 _ rfl, (HB6.out.ext hu).cell 5 _ rfl, (HB6.out.ext hu).cell 6 _ rfl, (HCs6.out u hu).2.2.2.1, (HCs6.out u hu).2.2.2.2.1, hu⟩)
              clear hzr2 hzu2 hzrl hzw2 HC3 HC T6 hcap
              go_upto_region 18 with (fail)
              have x0 : Ext W6 W6.drew := (Ext.refl W6).drew
              have hS6 := HKe.out _ x0
              clear c0 c1 c2 c3 c4 c5 c6
              go_region_held3 (fun u => u.cell? ⟨b6, 3, none⟩ = some (.string x.t) ∧ u.cell? ⟨b6, 4, none⟩ = some (.slice q6 n k6) ∧ u.cell? ⟨b6, 5, none⟩ = some (.int .i64 (e : Int)) ∧ u.cell? ⟨b6, 6, none⟩ = some (.bool bw) ∧ u.cell? ⟨W.heap.size, 3, none⟩ = some (.string x.t) ∧ u.cell? ⟨W.heap.size, 4, none⟩ = some (.slice (some a) x.r.length c) ∧ Ext W6 u) (first | exact hS6 | exact hS7 | exact hS8 | assumption | go_keep) (first
                | (go_at_call 21; refine (HSame2.out _ (by assumption)).mono ?_; rintro e7 w7 ⟨rfl, x7⟩; have y7 := Ext.trans (a := W6) (by assumption) x7; have hS7 := HKe.out _ y7)
                | (go_at_call 8; refine (alive_any _).mono ?_; rintro e8 w8 ⟨rfl, x8⟩; have y8 := Ext.trans (a := W6) (by assumption) x8; have hS8 := HKe.out _ y8))
              go_wp2
              go_ret
              exact ⟨rfl, HX6.out.trans y8⟩
          · obtain rfl : n = x.r.length := by omega
            have HC3 : Hid (cutF x.r (k - hS) = (x.r.length, e - hS)) := Lib.hid (by rw [HC.out, List.drop_length, cutF]; simp)
            have hzr2 : zr = x.r.take (x.r.length) := by rw [HZR.out, HC3.out]
            have hzu2 : zu = e := by rw [HZU.out, HC3.out]; show hS + (e - hS) = e; omega
            have hzrl : zr.length = x.r.length := by rw [hzr2, List.length_take]; omega
            obtain ⟨bw, hbw⟩ : ∃ b, ((e : Int) == (k : Int)) = b := ⟨_, rfl⟩
            have hzw2 : zw = bw := by
              rw [HZW.out, hzu2, ← hbw]
              by_cases h : e = k
              · subst h; simp
              · have h2 : ¬ ((e : Int) = (k : Int)) := by omega
                rw [beq_eq_false_iff_ne.2 h2]
                simp [h]
            rw [hzrl, hzu2, hzw2] at HB6
            rw [hzrl]
            rw [hzu2, hzw2]
            have HT6 := Lib.hid T6.out
            have HSame2 := Lib.hid (fun u (hu : Ext W6 u) => same_dec u q6 (p) k6 c (x.r.length) (x.r.length) zr (x.r.take (x.r.length)) hzrl (by rw [List.length_take]; omega) (HT6.out.ext hu) ((HR6.out u hu).take (x.r.length)) (by omega) (by omega))
            rw [← hzr2] at HSame2
            simp only [decide_true] at HSame2
            have hwant := texts_head (p) (x.r.length) x.r.length c hn hcap.1 hcap.2
            have HKe : Hid (∀ u, Ext W6 u → u.cell? ⟨b6, 3, none⟩ = some (.string x.t) ∧ u.cell? ⟨b6, 4, none⟩ = some (.slice q6 x.r.length k6) ∧ u.cell? ⟨b6, 5, none⟩ = some (.int .i64 (e : Int)) ∧ u.cell? ⟨b6, 6, none⟩ = some (.bool bw) ∧ u.cell? ⟨W.heap.size, 3, none⟩ = some (.string x.t) ∧ u.cell? ⟨W.heap.size, 4, none⟩ = some (.slice p x.r.length c) ∧ Ext W6 u) := Lib.hid (fun u hu => ⟨(HB6.out.ext hu).cell 3 _ rfl, (HB6.out.ext hu).cell 4 _ rfl, (HB6.out.ext hu).cell 5 _ rfl, (HB6.out.ext hu).cell 6 _ rfl, (HCs6.out u hu).2.2.2.1, (HCs6.out u hu).2.2.2.2.1, hu⟩)
            clear hzr2 hzu2 hzrl hzw2 HC3 HC T6 hcap
            go_upto_region 18 with (fail)
            have x0 : Ext W6 W6.drew := (Ext.refl W6).drew
            have hS6 := HKe.out _ x0
            clear c0 c1 c2 c3 c4 c5 c6
            go_region_held3 (fun u => u.cell? ⟨b6, 3, none⟩ = some (.string x.t) ∧ u.cell? ⟨b6, 4, none⟩ = some (.slice q6 x.r.length k6) ∧ u.cell? ⟨b6, 5, none⟩ = some (.int .i64 (e : Int)) ∧ u.cell? ⟨b6, 6, none⟩ = some (.bool bw) ∧ u.cell? ⟨W.heap.size, 3, none⟩ = some (.string x.t) ∧ u.cell? ⟨W.heap.size, 4, none⟩ = some (.slice p x.r.length c) ∧ Ext W6 u) (first | exact hS6 | exact hS7 | exact hS8 | assumption | go_keep) (first
              | (go_at_call 21; refine (HSame2.out _ (by assumption)).mono ?_; rintro e7 w7 ⟨rfl, x7⟩; have y7 := Ext.trans (a := W6) (by assumption) x7; have hS7 := HKe.out _ y7)
              | (go_at_call 8; refine (alive_any _).mono ?_; rintro e8 w8 ⟨rfl, x8⟩; have y8 := Ext.trans (a := W6) (by assumption) x8; have hS8 := HKe.out _ y8))
            go_wp2
            go_ret
            exact ⟨rfl, HX6.out.trans y8⟩
    · have hbf := bytesF_err he
      rw [hbf] at HBy
      dsimp only at HBy
      generalize headF x.k x.g x.f x.t = hd at *
      obtain ⟨h1, h2⟩ := hd
      dsimp only at HHd
      clear HLt he hbf hW1 HHv hl
      go_wp2_with (first
        | (go_at_call 11; refine (HBy.out _ X1.out).mono ?_; rintro e w2 ⟨rfl, x2⟩; have X2 := Lib.hid (X1.out.trans x2); clear c0 c1 c2 c3 c4 c5 c6; obtain ⟨c0, c1, c2, c3, c4, c5, c6⟩ := HCs.out _ X2.out; clear x2)
        | (go_at_call 9; refine (HHd.out _).mono ?_; rintro e w3 ⟨rfl, x3⟩; have X3 := Lib.hid (X2.out.trans x3); clear c0 c1 c2 c3 c4 c5 c6; clear x3)
        | (go_at_call 8; refine (alive_any _).mono ?_; rintro e w4 ⟨rfl, x4⟩; have X4 := Lib.hid (X3.out.trans x4); clear x4))
      go_ret
      exact ⟨rfl, HX1.out.trans X4.out⟩
  · clear c0 c1 c2 c3 c4 c5 c6
    go_wp2_with (go_at_call 8; refine (alive_any _).mono ?_; rintro e w2 ⟨rfl, x2⟩; have X2 := Lib.hid x2; clear x2)
    go_ret
    exact ⟨rfl, (HX1.out.trans X1.out).trans X2.out⟩
end Go.Proofs.Ythnoegipadnmeaa
