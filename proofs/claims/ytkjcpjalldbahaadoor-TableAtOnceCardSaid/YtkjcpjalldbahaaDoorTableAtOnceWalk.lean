/- The walk of TableAtOnce. -/
import Derived.Test.YtkjcpjalldbahaaDoorAtOnceL
import Derived.Test.YtkjcpjalldbahaaDoorHeavyE18
import Derived.Test.YtkjcpjalldbahaaDoorRSame18
import Derived.Test.YtkjcpjalldbahaaDoorWorks18
import Derived.Deep.RegionLaw
import Derived.Deep.DeepCutAuto
namespace Go.Proofs.YtkjcpjalldbahaaDoor
open Go.RowKit Go.ChangeMaps Go.MapKept

theorem acts_two {w : World} {g : Nat} {T : TypeId} {x y : ActE} (h : Blk w g T (x.cells ++ y.cells)) (hx : EditsP w x.a x.E) (hy : EditsP w y.a y.E) : ActsE w (some ⟨g, 0, none⟩) [x, y] := fun k z hk => by
  match k, hk with
  | 0, hk =>
    simp at hk
    subst hk
    refine ⟨⟨_, rfl, h.lt, fun j v hv => ?_⟩, hx⟩
    rw [Addr.add_mid, Nat.zero_add, Nat.zero_mul, Nat.zero_add]
    refine h.cell j v ?_
    have : j < 4 := (List.getElem?_eq_some_iff.1 hv).1
    rw [List.getElem?_append_left (by simpa [ActE.cells] using this)]
    exact hv
  | 1, hk =>
    simp at hk
    subst hk
    refine ⟨⟨_, rfl, h.lt, fun j v hv => ?_⟩, hy⟩
    rw [Addr.add_mid, Nat.zero_add]
    refine h.cell _ v ?_
    rw [List.getElem?_append_right (by simp [ActE.cells])]
    rw [show 1 * 4 + j - x.cells.length = j by simp [ActE.cells]]
    exact hv
  | n + 2, hk => simp at hk
theorem IsA.first {w : World} {B c : Nat} {p : Option Addr} {x : Nat} (h : IsA w B 38 p c (nuV [x])) : ∃ g, p = some ⟨g, 0, none⟩ ∧ w.cell? ⟨g, 0, none⟩ = some (.int .u64 (x : Int)) := by
  obtain ⟨g, e, _, h3, _⟩ := h.at_ (i := 0) (u := .int .u64 (x : Int)) rfl
  exact ⟨g, e, h3⟩
set_option maxRecDepth 1000000 in
set_option maxHeartbeats 8000000 in
theorem TableAtOnce_walk (w : World) (s0 : Option Addr) (c0 : Nat) (l0 : List EditO) (s1 : Option Addr) (c1 : Nat) (l1 : List EditO) (f0 : EditOsP w s0 l0) (y0 : ∀ x, x ∈ l0 → x.Ok) (z0 : l0.length ≤ 140737488355328) (f1 : EditOsP w s1 l1) (y1 : ∀ x, x ∈ l1 → x.Ok) (z1 : l1.length ≤ 140737488355328) :
    Calls Tryd.prog 3 #[.slice s0 l0.length c0, .slice s1 l1.length c1] w fun e w' => e = .returned (.bool true) ∧ Ext w w' := by
  obtain ⟨AE, hAE⟩ : ∃ A, l0.map EditO.toP = A := ⟨_, rfl⟩
  obtain ⟨LE, hLE⟩ : ∃ A, l1.map EditO.toP = A := ⟨_, rfl⟩
  have g0 := f0.edits; have g1 := f1.edits
  have ok0 := edits_ok y0; have ok1 := edits_ok y1
  obtain ⟨n0, hn0⟩ : ∃ n, l0.length = n := ⟨_, rfl⟩
  obtain ⟨n1, hn1⟩ : ∃ n, l1.length = n := ⟨_, rfl⟩
  have hl0 : AE.length = n0 := by rw [← hAE, List.length_map, hn0]
  have hl1 : LE.length = n1 := by rw [← hLE, List.length_map, hn1]
  rw [hAE] at g0 ok0
  rw [hLE] at g1 ok1
  rw [hn0] at z0 ⊢
  rw [hn1] at z1 ⊢
  clear hAE hLE f0 f1 y0 y1 hn0 hn1 l0 l1
  have HHe : Hid (Calls Tryd.prog 5 #[.slice (some ⟨w.heap.size, 0, none⟩) 2 2] (w.alloc (.cells #[.int .u8 0, .slice s0 n0 c0, .slice none 0 0, .slice none 0 0, .int .u8 0, .slice s1 n1 c1, .slice none 0 0, .slice none 0 0] 27)) (HeavyE18 [⟨0, AE, s0, c0⟩, ⟨0, LE, s1, c1⟩] (w.alloc (.cells #[.int .u8 0, .slice s0 n0 c0, .slice none 0 0, .slice none 0 0, .int .u8 0, .slice s1 n1 c1, .slice none 0 0, .slice none 0 0] 27)))) := Lib.hid (heavyE_any _ _ 2 [⟨0, AE, s0, c0⟩, ⟨0, LE, s1, c1⟩] (acts_two (by
    have := Blk.new w [.int .u8 0, .slice s0 n0 c0, .slice none 0 0, .slice none 0 0, .int .u8 0, .slice s1 n1 c1, .slice none 0 0, .slice none 0 0] 27
    unfold ActE.cells
    dsimp only
    rw [hl0, hl1]
    exact this) (g0.ext ((Ext.refl w).alloc _)) (g1.ext ((Ext.refl w).alloc _))) (by simp) (fun x hx => by
      simp only [List.mem_cons, List.not_mem_nil, or_false] at hx
      rcases hx with rfl | rfl
      · exact ⟨by dsimp only; omega, ok0⟩
      · exact ⟨by dsimp only; omega, ok1⟩))
  have HX0 := Lib.hid ((Ext.refl w).alloc (.cells #[.int .u8 0, .slice s0 n0 c0, .slice none 0 0, .slice none 0 0, .int .u8 0, .slice s1 n1 c1, .slice none 0 0, .slice none 0 0] 27))
  have HW := Lib.hid (fun u => works18_any u)
  have HA0 := Lib.hid g0; have HA1 := Lib.hid g1; have HO0 := Lib.hid ok0; have HO1 := Lib.hid ok1; have HL0 := Lib.hid hl0; have HL1 := Lib.hid hl1
  clear g0 g1 ok0 ok1 hl0 hl1 z0 z1
  go_enter Tryd.func3, Tryd.ntmps3
  go_upto_if 29 with (go_at_call 5; refine HHe.out.mono ?_; rintro e w1 ⟨b, rfl, hb, x1⟩; have HX1 := Lib.hid (HX0.out.trans x1); have HB := Lib.hid hb; clear x1 hb)
  cases b
  case true =>
    go_wp2_with (go_at_call 6; refine (HW.out _).mono ?_; rintro e w2 ⟨rfl, x2⟩)
    go_ret
    exact ⟨rfl, HX1.out.trans x2⟩
  case false =>
    have hcnt := (HB.out rfl).2
    simp only [cntE, List.map_cons, List.map_nil, List.sum_cons, List.sum_nil] at hcnt
    rw [HL0.out, HL1.out] at hcnt
    have hc0 : n0 ≤ 1024 := by omega
    have hc1 : n1 ≤ 1024 := by omega
    clear hcnt
    have HQ := Lib.hid (Blk.new w1 [.int .i64 1048576, .int .i64 1073741824] 31)
    have HX2 := Lib.hid (HX1.out.alloc (.cells #[.int .i64 1048576, .int .i64 1073741824] 31))
    go_upto_region 4 with (fail)
    go_cut [6, 7] (fun av bv wx => ∃ (ta ba tb bb : Nat), av = .pointer (some ⟨ta, 0, none⟩) ∧ bv = .pointer (some ⟨tb, 0, none⟩) ∧ Hid (IsT wx 0 ta ba 1048576 1073741824 []) ∧ Hid (IsT wx 0 tb bb 1048576 1073741824 []) ∧ Hid (ta ≠ tb ∧ ta ≠ bb ∧ ba ≠ tb ∧ ba ≠ bb ∧ w.heap.size ≤ ta ∧ w.heap.size ≤ ba ∧ w.heap.size ≤ tb ∧ w.heap.size ≤ bb) ∧ Hid (Ext w wx))
    case first =>
      have HN1 := Lib.hid (fun u => tnew_any u 1048576 1073741824 0)
      have HN2 := Lib.hid (fun u => tnew_any u 1048576 1073741824 0)
      generalize hV : w1.alloc (.cells #[.int .i64 1048576, .int .i64 1073741824] 31) = V at *
      have d0 : V.drew.cell? ⟨w1.heap.size, 0, none⟩ = _ := HQ.out.drew.cell 0 _ rfl
      have d1 : V.drew.cell? ⟨w1.heap.size, 1, none⟩ = _ := HQ.out.drew.cell 1 _ rfl
      clear hV
      go_region_law (first
        | (go_simp; go_at_call 7; refine (HN1.out _).mono ?_; rintro e w4 ⟨t1, b1, rfl, i1, x4, k1, k1'⟩; have HI1 := Lib.hid i1; have HX4 := Lib.hid ((HX2.out.drew).trans x4); have HK1 : Hid (w.heap.size ≤ t1 ∧ w.heap.size ≤ b1) := Lib.hid ⟨Nat.le_trans HX2.out.drew.size k1, Nat.le_trans HX2.out.drew.size k1'⟩; have q4 := HQ.out.drew.ext x4; have d0 := q4.cell 0 _ rfl; have d1 := q4.cell 1 _ rfl; clear HN1 i1 x4 k1 k1' q4)
        | (go_simp; go_at_call 7; refine (HN2.out _).mono ?_; rintro e w5 ⟨t2, b2, rfl, i2, x5, k2, k2'⟩; have HI2 := Lib.hid i2; have HX5 := Lib.hid (HX4.out.trans x5); have HI1' := Lib.hid (HI1.out.ext x5); have HK2 : Hid (w4.heap.size ≤ t2 ∧ w4.heap.size ≤ b2) := Lib.hid ⟨k2, k2'⟩; clear HN2 i2 x5 k2 k2'))
      all_goals
        go_wp2
        go_meet
        have h1 := HI1.out.blk.lt
        have h2 := HI1.out.map.lt
        obtain ⟨h3, h4⟩ := HK1.out
        obtain ⟨h5, h6⟩ := HK2.out
        first
          | exact ⟨t1, b1, t2, b2, rfl, rfl, HI1', HI2, Lib.hid ⟨by omega, by omega, by omega, by omega, by omega, by omega, by omega, by omega⟩, HX5⟩
          | exact ⟨t2, b2, t1, b1, rfl, rfl, HI2, HI1', Lib.hid ⟨by omega, by omega, by omega, by omega, by omega, by omega, by omega, by omega⟩, HX5⟩
    case rest =>
      obtain ⟨ta, ba, tb, bb, rfl, rfl, HTa, HTb, HNe, HX3⟩ := hcut
      have HSa : Hid (∀ g, TB ta ba g → w.heap.size ≤ g ∧ ¬ TB tb bb g) := Lib.hid (fun g q => by
        obtain ⟨q1, q2, q3, q4, q5, q6, q7, q8⟩ := HNe.out
        rcases q with rfl | rfl
        · exact ⟨q5, fun q => by rcases q with q | q <;> simp_all⟩
        · exact ⟨q6, fun q => by rcases q with q | q <;> simp_all⟩)
      have HSb : Hid (∀ g, TB tb bb g → w.heap.size ≤ g ∧ ¬ TB ta ba g) := Lib.hid (fun g q => by
        obtain ⟨q1, q2, q3, q4, q5, q6, q7, q8⟩ := HNe.out
        rcases q with rfl | rfl
        · exact ⟨q7, fun q => by rcases q with q | q <;> simp_all⟩
        · exact ⟨q8, fun q => by rcases q with q | q <;> simp_all⟩)
      have HSa1 : Hid (¬ TB ta ba tb) := Lib.hid (fun q => (HSa.out tb q).2 (Or.inl rfl))
      have HSa2 : Hid (¬ TB ta ba bb) := Lib.hid (fun q => (HSa.out bb q).2 (Or.inr rfl))
      have HSb1 : Hid (¬ TB tb bb ta) := Lib.hid (fun q => (HSb.out ta q).2 (Or.inl rfl))
      have HSb2 : Hid (¬ TB tb bb ba) := Lib.hid (fun q => (HSb.out ba q).2 (Or.inr rfl))
      clear HNe HQ HX2 HX1 HX0 HHe HB
      go_wp2
      go_loopw [8] (fun iv wr => ∃ (i : Nat) (R : List RowP), i ≤ n0 ∧ iv = .int .i64 (i : Int) ∧ Hid (IsT wr 0 ta ba 1048576 1073741824 R) ∧ Hid (IsT wr 0 tb bb 1048576 1073741824 R) ∧ Hid (R.length ≤ i) ∧ Hid (Ext w wr)) (fun iv _ => n0 - (intOf iv).toNat)
      case atStart => exact ⟨0, [], Nat.zero_le _, rfl, HTa, HTb, Lib.hid (Nat.zero_le _), HX3⟩
      case round =>
        obtain ⟨i, R, hi, rfl, HA, HB, HRl, HX⟩ := hrel
        by_cases hlt : i < n0
        · obtain ⟨⟨ek, ep, ea, ew, en, et⟩, hx⟩ : ∃ x, AE[i]? = some x := ⟨_, List.getElem?_eq_getElem (by have := HL0.out; omega)⟩
          obtain ⟨ep1, ep2⟩ := HO0.out _ (List.mem_of_getElem? hx)
          have HEx := Lib.hid (fun u (x : Ext w u) => HA0.out.six x hx)
          obtain ⟨pa, e0, a0, a1, a2, a3, a4, a5⟩ := HEx.out _ HX.out
          dsimp only at a0 a1 a2 a3 a4 a5 ep1 ep2
          cases e0
          have hOne : ∀ e ∈ [(⟨ek, ep, ea, ew, en, et⟩ : EditP)], e.p.size ≤ 140737488351232 ∧ e.t.size ≤ 140737488351232 := fun e he => by rw [List.mem_singleton] at he; subst he; exact ⟨ep1, ep2⟩
          have HAp := Lib.hid (fun u t b (h : IsT u 0 t b 1048576 1073741824 R) p (hp : EditsP u p [(⟨ek, ep, ea, ew, en, et⟩ : EditP)]) => apply_any u 0 t b 1048576 1073741824 R h (Nat.zero_le _) (by have := HRl.out; omega) p 1 [(⟨ek, ep, ea, ew, en, et⟩ : EditP)] hp (by simp) hOne)
          have hgd := apply_good 1048576 1073741824 HA.out.good [(⟨ek, ep, ea, ew, en, et⟩ : EditP)]
          obtain ⟨⟨te, tat, tD, tv⟩, hTT⟩ : ∃ T, applyR 1048576 1073741824 R [(⟨ek, ep, ea, ew, en, et⟩ : EditP)] = T := ⟨_, rfl⟩
          rw [hTT] at HAp hgd
          dsimp only at HAp hgd
          simp only [List.length_cons, List.length_nil, Nat.zero_add] at HAp
          have HRl2 : Hid (tD.length ≤ i + 1) := Lib.hid (by have := hgd.2.1; have := HRl.out; simp at *; omega)
          generalize tv.length = lv at *
          have HE4 : Hid (EditsP (wr.alloc (.cells #[.int .u8 (ek : Int), .string ep, .bool ea, .int .u64 (ew : Int), .int .u64 (en : Int), .string et] 40)) (some ⟨wr.heap.size, 0, none⟩) [(⟨ek, ep, ea, ew, en, et⟩ : EditP)]) := Lib.hid (Blk.editsP (l := [(⟨ek, ep, ea, ew, en, et⟩ : EditP)]) (Blk.new wr [.int .u8 (ek : Int), .string ep, .bool ea, .int .u64 (ew : Int), .int .u64 (en : Int), .string et] 40))
          have HX4 := Lib.hid ((Ext.refl wr).alloc (.cells #[.int .u8 (ek : Int), .string ep, .bool ea, .int .u64 (ew : Int), .int .u64 (en : Int), .string et] 40))
          clear hx ep1 ep2 hOne hgd hTT
          go_wp2_with (first
            | (go_at_call 8; (with_reducible refine (HAp.out _ ta ba (HA.out.ext HX4.out) _ HE4.out).mono ?_); rintro e w2 ⟨va, cva, rfl, t2, k2, -⟩; have HA2 := Lib.hid t2; have HB2 : Hid (IsT w2 0 tb bb 1048576 1073741824 R) := Lib.hid ((HB.out.ext HX4.out).turn k2 HSa1.out HSa2.out (HA.out.ext HX4.out).noT); have HX5 : Hid (Ext w w2) := Lib.hid (((Turn.ofExt (TB ta ba) (HX.out.trans HX4.out)).trans k2).toExt (fun g q => (HSa.out g q).1)); obtain ⟨pb, e0, b0, b1, b2, b3, b4, b5⟩ := HEx.out _ HX5.out; dsimp only at b0 b1 b2 b3 b4 b5; cases e0; have HE6 : Hid (EditsP (w2.alloc (.cells #[.int .u8 (ek : Int), .string ep, .bool ea, .int .u64 (ew : Int), .int .u64 (en : Int), .string et] 40)) (some ⟨w2.heap.size, 0, none⟩) [(⟨ek, ep, ea, ew, en, et⟩ : EditP)]) := Lib.hid (Blk.editsP (l := [(⟨ek, ep, ea, ew, en, et⟩ : EditP)]) (Blk.new w2 [.int .u8 (ek : Int), .string ep, .bool ea, .int .u64 (ew : Int), .int .u64 (en : Int), .string et] 40)); have HX6 := Lib.hid ((Ext.refl w2).alloc (.cells #[.int .u8 (ek : Int), .string ep, .bool ea, .int .u64 (ew : Int), .int .u64 (en : Int), .string et] 40)); clear t2 k2)
            | (go_at_call 8; (with_reducible refine (HAp.out _ tb bb (HB2.out.ext HX6.out) _ HE6.out).mono ?_); rintro e w3 ⟨vb, cvb, rfl, t3, k3, -⟩; have HB3 := Lib.hid t3; have HA3 : Hid (IsT w3 0 ta ba 1048576 1073741824 tD) := Lib.hid ((HA2.out.ext HX6.out).turn k3 HSb1.out HSb2.out (HB2.out.ext HX6.out).noT); have HX7 : Hid (Ext w w3) := Lib.hid (((Turn.ofExt (TB tb bb) (HX5.out.trans HX6.out)).trans k3).toExt (fun g q => (HSb.out g q).1)); clear t3 k3))
          go_roundw
          case rel => exact ⟨i + 1, tD, hlt, by go_num, HA3, HB3, HRl2, HX7⟩
          case measure => simp [intOf]; omega
        · obtain rfl : i = n0 := by omega
          obtain ⟨rl, hrl⟩ : ∃ rl, R.length = rl := ⟨_, rfl⟩
          have HRL2 := Lib.hid hrl
          have hrli : rl ≤ i := by have := HRl.out; omega
          have HRo := Lib.hid (fun u (x : IsT u 0 ta ba 1048576 1073741824 R) => trows_any u 0 ta ba 1048576 1073741824 R x (by omega))
          rw [hrl] at HRo
          have HgR := Lib.hid HA.out.good
          have HAp := Lib.hid (fun u (x : Ext w u) (h : IsT u 0 ta ba 1048576 1073741824 R) => apply_any u 0 ta ba 1048576 1073741824 R h (Nat.zero_le _) (by omega) s1 c1 LE (HA1.out.ext x) (by have := HL1.out; omega) HO1.out)
          obtain ⟨T, hT⟩ : ∃ T, runE 0 R [] LE = T := ⟨_, rfl⟩
          have hroom := apply_roomy HA.out.good LE (by have := HL1.out; omega)
          rw [hT] at hroom
          have hgT := runE_good LE 0 [] HA.out.good
          rw [hT] at hgT
          obtain ⟨⟨te, tat, tD, tv⟩, hTT⟩ : ∃ T, applyR 1048576 1073741824 R LE = T := ⟨_, rfl⟩
          rw [hTT] at HAp hroom
          rw [HL1.out] at HAp
          dsimp only at HAp
          have HRoom := Lib.hid hroom
          have HT0 := Lib.hid hT
          obtain ⟨lv, hlv⟩ : ∃ lv, tv.length = lv := ⟨_, rfl⟩
          have HLV := Lib.hid hlv
          rw [hlv] at HAp
          clear hrl hT hroom hgT hTT hlv
          go_wp2_with (first
            | (go_at_call 9; (with_reducible refine (HRo.out _ HA.out).mono ?_); rintro e w4 ⟨pw, ⟨cw, M0, rfl, hM0, r0⟩, x4⟩; have HM0 := Lib.hid hM0; have HR0 := Lib.hid r0.rowsP; have HRv := Lib.hid (fun e he => (r0.vers e he).le); have HX4 := Lib.hid (HX.out.trans x4); have HA4 := Lib.hid (HA.out.ext x4); have HB4 := Lib.hid (HB.out.ext x4); clear hM0 r0 x4)
            | (go_at_call 8; (with_reducible refine (HAp.out _ HX4.out HA4.out).mono ?_); rintro e w5 ⟨va, cva, rfl, t5, k5, v5⟩; have HA5 := Lib.hid t5; have HB5 : Hid (IsT w5 0 tb bb 1048576 1073741824 R) := Lib.hid (HB4.out.turn k5 HSa1.out HSa2.out HA4.out.noT); have HX5 : Hid (Ext w w5) := Lib.hid (((Turn.ofExt (TB ta ba) HX4.out).trans k5).toExt (fun g q => (HSa.out g q).1)); have HR5 := Lib.hid (HR0.out.turn k5 HA4.out.noV); have HV5 := Lib.hid v5; clear t5 k5 v5))
          have HL5 := Lib.hid (HA1.out.ext HX5.out)
          go_loopw [19, 20] (fun sv iv wr => ∃ (j : Nat) (D : List RowP) (v : List Nat) (pv : Option Addr) (cv : Nat), j ≤ n1 ∧ iv = .int .i64 (j : Int) ∧ sv = .slice pv j cv ∧ Hid (v.length = j) ∧ Hid (runE j D v (LE.drop j) = T) ∧ Hid (IsT wr 0 tb bb 1048576 1073741824 D) ∧ Hid (D.length ≤ rl + j) ∧ Hid (IsA wr w5.heap.size 38 pv cv (nuV v)) ∧ Hid (Turn (TB tb bb) w5 wr)) (fun _ iv _ => n1 - (intOf iv).toNat)
          case atStart => exact ⟨0, R, [], none, 0, Nat.zero_le _, rfl, rfl, Lib.hid rfl, Lib.hid (by rw [List.drop_zero]; exact HT0.out), HB5, Lib.hid (by rw [HRL2.out]; exact Nat.le_refl _), Lib.hid (IsA.nil _ _ _), Lib.hid (Turn.refl _ _)⟩
          case round =>
            obtain ⟨j, D, v, pv, cv, hj, rfl, rfl, HVl, HRun, HBD, HDl, HW5, HTu⟩ := hrel
            have hj0 : j ≤ 1024 := by omega
            have HAq : Hid (IsT wr 0 ta ba 1048576 1073741824 tD) := Lib.hid (HA5.out.turn HTu.out HSb1.out HSb2.out HB5.out.noT)
            have HLq := Lib.hid (HL5.out.turn HTu.out HB5.out.noV)
            have HRq := Lib.hid (HR5.out.turn HTu.out HB5.out.noV)
            have HVq := Lib.hid (HV5.out.turnN HTu.out (HB5.out.typed (by decide)))
            have HXq : Hid (Ext w wr) := Lib.hid (((Turn.ofExt (TB tb bb) HX5.out).trans HTu.out).toExt (fun g q => (HSb.out g q).1))
            by_cases hlt : j < n1
            · obtain ⟨⟨ek, ep, ea, ew, en, et⟩, hx⟩ : ∃ x, LE[j]? = some x := ⟨_, List.getElem?_eq_getElem (by have := HL1.out; omega)⟩
              have hdrop : LE.drop j = ⟨ek, ep, ea, ew, en, et⟩ :: LE.drop (j + 1) := by
                obtain ⟨q1, q2⟩ := List.getElem?_eq_some_iff.1 hx
                rw [← q2]
                exact List.drop_eq_getElem_cons q1
              have hrun := HRun.out
              rw [hdrop] at hrun
              obtain ⟨ep1, ep2⟩ := HO1.out _ (List.mem_of_getElem? hx)
              obtain ⟨pa, e0, a0, a1, a2, a3, a4, a5⟩ := HLq.out.six (Ext.refl wr) hx
              dsimp only at a0 a1 a2 a3 a4 a5 ep1 ep2
              cases e0
              have hOne : ∀ e ∈ [(⟨ek, ep, ea, ew, en, et⟩ : EditP)], e.p.size ≤ 140737488351232 ∧ e.t.size ≤ 140737488351232 := fun e he => by rw [List.mem_singleton] at he; subst he; exact ⟨ep1, ep2⟩
              have HBp := Lib.hid (fun u (h : IsT u 0 tb bb 1048576 1073741824 D) p (hp : EditsP u p [(⟨ek, ep, ea, ew, en, et⟩ : EditP)]) => apply_any u 0 tb bb 1048576 1073741824 D h (Nat.zero_le _) (by have := HDl.out; omega) p 1 [(⟨ek, ep, ea, ew, en, et⟩ : EditP)] hp (by simp) hOne)
              have hone := apply_one HBD.out.good ⟨ek, ep, ea, ew, en, et⟩ (by have := HDl.out; omega)
              have hel := edit_len HBD.out.good ⟨ek, ep, ea, ew, en, et⟩
              have HE4 : Hid (EditsP (wr.alloc (.cells #[.int .u8 (ek : Int), .string ep, .bool ea, .int .u64 (ew : Int), .int .u64 (en : Int), .string et] 40)) (some ⟨wr.heap.size, 0, none⟩) [(⟨ek, ep, ea, ew, en, et⟩ : EditP)]) := Lib.hid (Blk.editsP (l := [(⟨ek, ep, ea, ew, en, et⟩ : EditP)]) (Blk.new wr [.int .u8 (ek : Int), .string ep, .bool ea, .int .u64 (ew : Int), .int .u64 (en : Int), .string et] 40))
              have HX6 := Lib.hid ((Ext.refl wr).alloc (.cells #[.int .u8 (ek : Int), .string ep, .bool ea, .int .u64 (ew : Int), .int .u64 (en : Int), .string et] 40))
              obtain ⟨⟨⟨er, la, LL⟩, D2⟩, hed⟩ : ∃ q, editR D ⟨ek, ep, ea, ew, en, et⟩ = q := ⟨_, rfl⟩
              rw [hed] at hone hel
              dsimp only at hone hel
              by_cases he : er = 0
              · subst he
                rw [if_pos rfl] at hone
                rw [hone] at HBp
                have HRun2 : Hid (runE (j + 1) D2 (v ++ [la]) (LE.drop (j + 1)) = T) := Lib.hid (by
                  rw [runE_go (by rw [hed]), hed] at hrun
                  exact hrun)
                have HDl2 : Hid (D2.length ≤ rl + (j + 1)) := Lib.hid (by have := HDl.out; omega)
                have hj1 : j + 1 ≤ 1000000000 := by omega
                simp only [List.length_cons, List.length_nil, Nat.zero_add] at HBp
                clear hx hdrop hrun ep1 ep2 hOne hone hel hed
                go_wp2_with (first
                  | (go_at_call 8; (with_reducible refine (HBp.out _ (HBD.out.ext HX6.out) _ HE4.out).mono ?_); rintro e w6 ⟨vb, cvb, rfl, t6, k6, v6⟩; obtain ⟨gx, rfl, cx0⟩ := v6.first; have HB6 := Lib.hid t6; have HTu6 : Hid (Turn (TB tb bb) w5 w6) := Lib.hid ((HTu.out.ext HX6.out).trans k6); have HW6 := Lib.hid ((HW5.out.ext HX6.out).turnN k6 ((HBD.out.ext HX6.out).typed (by decide))); have HW7 := Lib.hid (HW6.out.ext ((Ext.refl w6).alloc (.cells #[.int .u64 (la : Int)] 38))); have HB7 := Lib.hid (HB6.out.ext ((Ext.refl w6).alloc (.cells #[.int .u64 (la : Int)] 38))); have HTu7 := Lib.hid (HTu6.out.alloc (.cells #[.int .u64 (la : Int)] 38)); have HSLB : Hid (Sl (w6.alloc (.cells #[.int .u64 (la : Int)] 38)) (kp pv) 1 1 38 pv j cv (nuV v)) := Lib.hid (by have := HW7.out.sl; rwa [nuV_len, HVl.out] at this); have HSRC := Lib.hid (src_u64 (w6.alloc (.cells #[.int .u64 (la : Int)] 38)) w6.heap.size la ((Blk.new w6 [.int .u64 (la : Int)] 38).cell 0 _ rfl)); have HSZ := Lib.hid HTu7.out.size; clear t6 k6 v6)
                  | (refine wpList_append_sl rfl (.tmp 120) (.tmp 124) 34 34 rfl Tryd.underlying34 infoU64 rfl (by decide) rfl HSLB.out (nuV_one v) _ rfl 1 _ HSRC.out hj1 ?_; intro p4 c4 w8 κ4 s4 f4 e4 x4 o4; have HK := Lib.hid (keepA_of_fr HSLB.out HW7.out.low HSZ.out f4 x4); have HW8 : Hid (IsA w8 w5.heap.size 38 p4 c4 (nuV (v ++ [la]))) := Lib.hid (by rw [nuV_app]; exact isA_grown s4 (by rw [nuV_len, HVl.out]) e4 HW7.out.low HSZ.out); have HB8 := Lib.hid (HB7.out.keepA HK.out (by decide) (by decide)); have HTu8 := Lib.hid (HTu7.out.then_ HK.out.turn (fun g q => .inr q)); clear s4 f4 e4 x4 o4))
                go_roundw
                case rel => exact ⟨j + 1, D2, v ++ [la], p4, c4, hlt, by go_num, rfl, Lib.hid (by rw [List.length_append, HVl.out]; rfl), HRun2, HB8, HDl2, HW8, HTu8⟩
                case measure => simp [intOf]; omega
              · rw [if_neg he] at hone
                rw [hone] at HBp
                have hTe : T = ⟨er, j, D, v⟩ := by
                  rw [runE_stop (by rw [hed]; exact he), hed] at hrun
                  exact hrun.symm
                have hroom := HRoom.out
                rw [hTe] at hroom
                dsimp only at hroom
                rw [if_neg he] at hroom
                simp only [Tri.mk.injEq] at hroom
                obtain ⟨rfl, rfl, rfl, rfl⟩ := hroom
                have hlv := HLV.out
                simp only [List.length_nil] at hlv
                subst hlv
                have hne : ((te : Int) != 0) = true := by have : ¬ (te : Int) = 0 := (by omega); simpa using this
                have HSame := Lib.hid (fun u p cc q dd M K (hM : M.map Ent.row = tD) (hK : K.map Ent.row = tD) (h1 : RowsP u p M) (h2 : RowsP u q K) => rsame18_is u p q cc dd rl rl M K (by rw [← HRL2.out, ← hM, List.length_map]) (by rw [← HRL2.out, ← hK, List.length_map]) h1 h2 (fun e he => by have := (HgR.out.each e.row (by rw [← hM]; exact List.mem_map.2 ⟨e, he, rfl⟩)).len; have h3 : e.L.length ≤ 8 := this; omega) (by omega) (by omega) true (by rw [hM, hK]; simp))
                simp only [List.length_cons, List.length_nil, Nat.zero_add] at HBp
                clear hx hdrop hrun ep1 ep2 hOne hone hel hed hTe he
                go_wp2_with (first
                  | (go_at_call 8; (with_reducible refine (HBp.out _ (HBD.out.ext HX6.out) _ HE4.out).mono ?_); rintro e w6 ⟨vb, cvb, rfl, -, k6, -⟩; have HX7 : Hid (Ext w w6) := Lib.hid (((Turn.ofExt (TB tb bb) (HXq.out.trans HX6.out)).trans k6).toExt (fun g q => (HSb.out g q).1)); have HA7 : Hid (IsT w6 0 ta ba 1048576 1073741824 tD) := Lib.hid ((HAq.out.ext HX6.out).turn k6 HSb1.out HSb2.out (HBD.out.ext HX6.out).noT); have HR7 := Lib.hid ((HRq.out.ext HX6.out).turn k6 (HBD.out.ext HX6.out).noV); clear k6)
                  | (go_at_call 9; (with_reducible refine (HRo.out _ HA7.out).mono ?_); rintro e w8 ⟨p8, ⟨c8, M8, rfl, hM8, r8⟩, x8⟩; have HM8 := Lib.hid hM8; have HR8 := Lib.hid r8.rowsP; have HX8 := Lib.hid (HX7.out.trans x8); have HR8b := Lib.hid (HR7.out.ext x8); clear hM8 r8 x8)
                  | (go_at_call 10; (with_reducible refine (HSame.out _ _ _ _ _ M8 M0 HM8.out HM0.out HR8.out HR8b.out).mono ?_); rintro e w9 ⟨rfl, x9⟩; have HX9 := Lib.hid (HX8.out.trans x9); clear x9)
                  | (go_at_call 6; (with_reducible refine (HW.out _).mono ?_); rintro e wa ⟨rfl, xa⟩; have HXa := Lib.hid (HX9.out.trans xa); clear xa))
                go_ret
                exact ⟨rfl, HXa.out⟩
            · obtain rfl : j = n1 := by omega
              have hTe : T = ⟨0, j, D, v⟩ := by
                have h1 := HRun.out
                rw [List.drop_of_length_le (by rw [HL1.out]; exact Nat.le_refl _), runE_nil] at h1
                exact h1.symm
              have hroom := HRoom.out
              rw [hTe] at hroom
              simp only [if_true, Tri.mk.injEq] at hroom
              obtain ⟨rfl, rfl, rfl, rfl⟩ := hroom
              have hlv := HLV.out
              rw [HVl.out] at hlv
              subst hlv
              obtain ⟨dl, hdl⟩ : ∃ dl, tD.length = dl := ⟨_, rfl⟩
              have hdl2 : dl ≤ 3000 := by have := HDl.out; omega
              have HgD := Lib.hid HBD.out.good
              have HRa := Lib.hid (fun u (x : IsT u 0 ta ba 1048576 1073741824 tD) => trows_any u 0 ta ba 1048576 1073741824 tD x (by omega))
              have HRb := Lib.hid (fun u (x : IsT u 0 tb bb 1048576 1073741824 tD) => trows_any u 0 tb bb 1048576 1073741824 tD x (by omega))
              rw [hdl] at HRa HRb
              have HNu := Lib.hid (fun u p cc q dd (h1 : NumsP u p tv) (h2 : NumsP u q tv) => numbers18_is u p q cc dd j j tv tv HVl.out HVl.out h1 h2 (by omega) (by omega) true (by simp))
              have HSame := Lib.hid (fun u p cc q dd M K (hM : M.map Ent.row = tD) (hK : K.map Ent.row = tD) (h1 : RowsP u p M) (h2 : RowsP u q K) => rsame18_is u p q cc dd dl dl M K (by rw [← hdl, ← hM, List.length_map]) (by rw [← hdl, ← hK, List.length_map]) h1 h2 (fun e he => by have := (HgD.out.each e.row (by rw [← hM]; exact List.mem_map.2 ⟨e, he, rfl⟩)).len; have h3 : e.L.length ≤ 8 := this; omega) (by omega) (by omega) true (by rw [hM, hK]; simp))
              clear hTe hdl
              go_wp2_with (first
                | (go_at_call 11; (with_reducible refine (HNu.out _ va cva pv cv HVq.out.numsP HW5.out.numsP).mono ?_); rintro e w6 ⟨rfl, x6⟩; have HX6 := Lib.hid x6; clear x6)
                | (go_at_call 9; (with_reducible refine (HRa.out _ (HAq.out.ext HX6.out)).mono ?_); rintro e w7 ⟨p7, ⟨c7, M7, rfl, hM7, r7⟩, x7⟩; have HM7 := Lib.hid hM7; have HR7 := Lib.hid r7.rowsP; have HX7 := Lib.hid (HX6.out.trans x7); clear hM7 r7 x7)
                | (go_at_call 9; (with_reducible refine (HRb.out _ (HBD.out.ext HX7.out)).mono ?_); rintro e w8 ⟨p8, ⟨c8, M8, rfl, hM8, r8⟩, x8⟩; have HM8 := Lib.hid hM8; have HR8 := Lib.hid r8.rowsP; have HX8 := Lib.hid (HX7.out.trans x8); have HR8b := Lib.hid (HR7.out.ext x8); clear hM8 r8 x8)
                | (go_at_call 10; (with_reducible refine (HSame.out _ _ _ _ _ M7 M8 HM7.out HM8.out HR8b.out HR8.out).mono ?_); rintro e w9 ⟨rfl, x9⟩; have HX9 := Lib.hid (HX8.out.trans x9); clear x9)
                | (go_at_call 6; (with_reducible refine (HW.out _).mono ?_); rintro e wa ⟨rfl, xa⟩; have HXa := Lib.hid (HXq.out.trans (HX9.out.trans xa)); clear xa))
              go_ret
              exact ⟨rfl, HXa.out⟩
end Go.Proofs.YtkjcpjalldbahaaDoor
