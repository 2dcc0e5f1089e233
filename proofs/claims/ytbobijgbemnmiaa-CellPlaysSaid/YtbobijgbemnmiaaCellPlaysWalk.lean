/- The walk of CellPlays. -/
import Derived.Test.YtbobijgbemnmiaaCellAct
import Derived.Test.YtbobijgbemnmiaaHeavy17
import Derived.Test.YtbobijgbemnmiaaWorks17
import Derived.Deep.DeepCutAuto
namespace Go.Proofs.Ytbobijgbemnmiaa
open Go.RowKit

set_option maxRecDepth 1000000 in
set_option maxHeartbeats 16000000 in
theorem Kin.toNew {w u : World} {p q : Option Addr} {L L' : List Ver} (k : Kin u p L q L') (hp : NewP w p) (h : w.heap.size ≤ u.heap.size) : NewP w q := fun a e => by
  rcases k with ⟨e1, _⟩ | k
  · exact hp a (by rw [← e1]; exact e)
  · exact Nat.le_trans h (k a e)
set_option maxRecDepth 1000000 in
set_option maxHeartbeats 16000000 in
theorem CellPlays_walk (pa : Option Addr) (ca : Nat) (l : List Act17) (nI : Int) (w : World) (ha : Act17sP w pa l) (hok : ∀ x ∈ l, x.Ok) (hal : l.length ≤ 140737488355328) (hnn : 0 ≤ nI ∧ nI ≤ 18446744073709551615) :
    Calls Try.prog 4 #[.slice pa l.length ca, .int .u64 nI] w fun e w' => e = .returned (.bool true) ∧ Ext w w' := by
  obtain ⟨n, rfl⟩ := Int.eq_ofNat_of_zero_le hnn.1
  obtain ⟨K, hK⟩ : ∃ K, l.length = K := ⟨_, rfl⟩
  have HHv := Lib.hid (heavy17_any w 0 none 0 [] (VersP.nil _ _) (fun y hy => by cases hy) (by simp) pa ca l ha hok hal)
  have HA := Lib.hid ha; have HOk := Lib.hid hok; have HK := Lib.hid hK
  rw [hK] at HHv ⊢
  clear ha hok hK hal hnn
  go_enter Try.func4, Try.ntmps4
  go_upto_if 19 with (go_at_call 7; refine HHv.out.mono ?_; rintro e w1 ⟨⟨b, rfl, hb⟩, x1⟩; have HX1 := Lib.hid x1; clear x1; cases b)
  case' true =>
    go_wp2_with (go_at_call 8; refine (works17_any _).mono ?_; rintro e w9 ⟨rfl, x9⟩)
    go_ret
    exact ⟨rfl, HX1.out.trans x9⟩
  case' false =>
    obtain ⟨-, hl60, hsz⟩ : Light17 [] l := by simpa using hb
    have HTx : Hid (∀ x ∈ l, x.Text.size ≤ 32768) := Lib.hid (fun x hx => by have := sumT_mem hx; simp only [sizeL] at hsz; omega)
    have hK60 : K ≤ 60 := by rw [← HK.out]; exact hl60
    have HB0 := Lib.hid (Blk.new w1 [.int .u64 0, .slice none 0 0] 25)
    have HX2 := Lib.hid (HX1.out.alloc (.cells #[.int .u64 0, .slice none 0 0] 25))
    clear hb hl60 hsz
    go_wp2
    go_loopw [6] (fun iv wr => ∃ (j m k c : Nat) (q : Option Addr) (L : List Ver), j ≤ K ∧ iv = .int .i64 (j : Int) ∧ Hid (Blk wr w1.heap.size 25 [.int .u64 (m : Int), .slice q k c]) ∧ Hid (VersP wr q L ∧ L.length = k ∧ mayL m L = true ∧ m < 18446744073709551616) ∧ Hid (Ext w wr)) (fun iv _ => K - (intOf iv).toNat)
    case atStart => exact ⟨0, 0, 0, 0, none, [], Nat.zero_le _, rfl, HB0, Lib.hid ⟨VersP.nil _ _, rfl, may_empty, by decide⟩, HX2⟩
    case round =>
      obtain ⟨j, m, k, c, q, L, hj, rfl, B5, HC, HX⟩ := hrel
      have c0 := B5.out.cell 0 _ rfl
      have c1 := B5.out.cell 1 _ rfl
      by_cases hlt : j < K
      · have hlti : (j : Int) < (K : Int) := by omega
        have hj0 : (0 : Int) ≤ (j : Int) := by omega
        have hkl := HK.out
        obtain ⟨x, hx⟩ : ∃ x, l[j]? = some x := ⟨_, List.getElem?_eq_getElem (by omega)⟩
        have Hx := Lib.hid hx
        obtain ⟨a, rfl, -, -⟩ := HA.out j x hx
        have HAc : Hid (∀ u, Ext w u → u.cell? (a.add (j * 5)) = some (.int .u8 (x.Do : Int)) ∧ u.cell? ⟨(a.add (j * 5)).block, (a.add (j * 5)).off + 1, none⟩ = some (.bool x.Any) ∧ u.cell? ⟨(a.add (j * 5)).block, (a.add (j * 5)).off + 2, none⟩ = some (.int .u64 (x.Want : Int)) ∧ u.cell? ⟨(a.add (j * 5)).block, (a.add (j * 5)).off + 3, none⟩ = some (.int .u64 (x.N : Int)) ∧ u.cell? ⟨(a.add (j * 5)).block, (a.add (j * 5)).off + 4, none⟩ = some (.string x.Text)) := Lib.hid (fun u hu => by
          obtain ⟨a', e', _, hc⟩ := HA.out.ext hu j x Hx.out
          cases e'
          exact ⟨hc 0 _ rfl, act17_at (k := 0) (hc 1 _ rfl), act17_at (k := 1) (hc 2 _ rfl), act17_at (k := 2) (hc 3 _ rfl), act17_at (k := 3) (hc 4 _ rfl)⟩)
        have htx := HTx.out x (List.mem_of_getElem? hx)
        have hdv := (HOk.out x (List.mem_of_getElem? hx)).Do
        clear hx Hx hkl
        generalize x.Do = dv at *
        generalize x.Any = an at *
        generalize x.Want = wt at *
        generalize x.N = xn at *
        generalize x.Text = tx at *
        obtain ⟨⟨er, la, LL⟩, hO⟩ : ∃ O, actL m L dv an wt xn tx = O := ⟨_, rfl⟩
        obtain ⟨nl, hnl⟩ : ∃ nl, LL.length = nl := ⟨_, rfl⟩
        have hk8 : L.length ≤ 8 := (mayL_iff.1 HC.out.2.2.1).1
        have hM := may_act HC.out.2.2.1 HC.out.2.2.2 dv an wt xn tx
        rw [hO] at hM
        have HM := Lib.hid hM
        have HLe : Hid (LL.length ≤ 1000000) := Lib.hid (by have := (mayL_iff.1 hM.1).1; dsimp only at this; omega)
        have HNL := Lib.hid hnl
        have HCp : Hid (∀ u, Ext wr u → Calls Try.prog 11 #[.agg #[.int .u64 (m : Int), .slice q k c]] u fun e w' => ∃ q c', e = .returned (.agg #[.int .u64 (m : Int), .slice q k c']) ∧ IsV w' u.heap.size q c' L ∧ Ext u w') := Lib.hid (fun u y => by
          have := copied_any u m q c L (HC.out.1.ext y) (by omega)
          rwa [HC.out.2.1] at this)
        have HD : Hid (∀ u q c', VersP u q L → Calls Try.prog 9 #[.agg #[.int .u64 (m : Int), .slice q k c'], .agg #[.int .u8 (dv : Int), .bool an, .int .u64 (wt : Int), .int .u64 (xn : Int), .string tx]] u fun e w' => ∃ q3 c3 q5 c5, e = .returned (.tuple #[.agg #[.int .u64 (la : Int), .slice q3 nl c3], .agg #[.int .u64 (la : Int), .slice q5 nl c5], .int .i64 (er : Int), .int .i64 (er : Int)]) ∧ VersP w' q3 LL ∧ VersP w' q5 LL ∧ Kin u q L q3 LL ∧ Kin u q L q5 LL ∧ Ext u w') := Lib.hid (fun u q c' v => by
          have := does17_more u m q c' L v (by omega) HC.out.2.2.2 dv an wt xn tx hdv (by omega)
          rw [hO, HC.out.2.1] at this
          dsimp only at this
          rwa [hnl] at this)
        clear hM hk8 hO hnl hdv htx
        go_upto_region 9 with (first
          | (go_at_call 11; (with_reducible refine (HCp.out _ (Ext.refl _)).mono ?_); rintro e w2 ⟨q2, c2, rfl, v2, x2⟩; have HN2 : Hid (NewP wr q2) := Lib.hid (v2.newP (Nat.le_refl _)); have HV2 := Lib.hid (v2.ext ((Ext.refl w2).alloc (.cells #[.int .u64 (m : Int), .slice q2 k c2] 25))).vers; have HE2 := Lib.hid (x2.alloc (.cells #[.int .u64 (m : Int), .slice q2 k c2] 25)); have C7 := Lib.hid (Blk.new w2 [.int .u64 (m : Int), .slice q2 k c2] 25); have D5 := Lib.hid (B5.out.ext HE2.out); have d0 := D5.out.cell 0 _ rfl; have d1 := D5.out.cell 1 _ rfl; clear v2 x2)
          | (go_at_call 11; (with_reducible refine (HCp.out _ HE2.out).mono ?_); rintro e w4 ⟨q4, c4, rfl, v4, x4⟩; have HV4 := Lib.hid (v4.ext ((Ext.refl w4).alloc (.cells #[.int .u64 (m : Int), .slice q4 k c4] 25))).vers; have HE4 := Lib.hid (x4.alloc (.cells #[.int .u64 (m : Int), .slice q4 k c4] 25)); have C8 := Lib.hid (Blk.new w4 [.int .u64 (m : Int), .slice q4 k c4] 25); have C7b := Lib.hid (C7.out.ext HE4.out); have HV2b := Lib.hid (HV2.out.ext HE4.out); have HX4 := Lib.hid (HX.out.trans (HE2.out.trans HE4.out)); have HX4z : Hid ((w2.alloc (.cells #[.int .u64 (m : Int), .slice q2 k c2] 25)).heap.size ≤ w4.heap.size) := Lib.hid x4.size; have E5 := Lib.hid (D5.out.ext HE4.out); clear v4 x4))
        have HK3 : Hid (∀ u, Ext (w4.alloc (.cells #[.int .u64 (m : Int), .slice q4 k c4] 25)) u → u.cell? ⟨w2.heap.size, 0, none⟩ = some (.int .u64 (m : Int)) ∧ u.cell? ⟨w2.heap.size, 1, none⟩ = some (.slice q2 k c2) ∧ u.cell? (a.add (j * 5)) = some (.int .u8 (dv : Int)) ∧ u.cell? ⟨(a.add (j * 5)).block, (a.add (j * 5)).off + 1, none⟩ = some (.bool an) ∧ u.cell? ⟨(a.add (j * 5)).block, (a.add (j * 5)).off + 2, none⟩ = some (.int .u64 (wt : Int)) ∧ u.cell? ⟨(a.add (j * 5)).block, (a.add (j * 5)).off + 3, none⟩ = some (.int .u64 (xn : Int)) ∧ u.cell? ⟨(a.add (j * 5)).block, (a.add (j * 5)).off + 4, none⟩ = some (.string tx) ∧ Ext (w4.alloc (.cells #[.int .u64 (m : Int), .slice q4 k c4] 25)) u) := Lib.hid (fun u y => by
          obtain ⟨h0, h1, h2, h3, h4⟩ := HAc.out u (HX4.out.trans y)
          exact ⟨(C7b.out.ext y).cell 0 _ rfl, (C7b.out.ext y).cell 1 _ rfl, h0, h1, h2, h3, h4, y⟩)
        have hS0 := HK3.out _ (Ext.refl (w4.alloc (.cells #[.int .u64 (m : Int), .slice q4 k c4] 25)))
        have hS1 := HK3.out _ ((Ext.refl (w4.alloc (.cells #[.int .u64 (m : Int), .slice q4 k c4] 25))).drew)
        have hE : Ext (w4.alloc (.cells #[.int .u64 (m : Int), .slice q4 k c4] 25)) (w4.alloc (.cells #[.int .u64 (m : Int), .slice q4 k c4] 25)).drew := (Ext.refl _).drew
        have hE1 : Ext (w4.alloc (.cells #[.int .u64 (m : Int), .slice q4 k c4] 25)) ((w4.alloc (.cells #[.int .u64 (m : Int), .slice q4 k c4] 25)).alloc (.cells #[.int .u64 0, .slice none 0 0] 25)).drew := ((Ext.refl _).alloc _).drew
        have hE2 : Ext (w4.alloc (.cells #[.int .u64 (m : Int), .slice q4 k c4] 25)) (((w4.alloc (.cells #[.int .u64 (m : Int), .slice q4 k c4] 25)).alloc (.cells #[.int .u64 0, .slice none 0 0] 25)).alloc (.cells #[.int .u64 0, .slice none 0 0] 25)).drew := (((Ext.refl _).alloc _).alloc _).drew
        clear c0 c1 d0 d1
        have hzr : wr.heap.size ≤ w4.heap.size := by have h1 := HE2.out.size; have h2 := HX4z.out; omega
        go_cut [9, 10, 11, 12] (fun v9 v10 v11 v12 wx => ∃ (g9 g10 : Nat) (q3 : Option Addr) (c3 : Nat) (q5 : Option Addr) (c5 : Nat), v9 = .pointer (some ⟨g9, 0, none⟩) ∧ v10 = .pointer (some ⟨g10, 0, none⟩) ∧ v11 = .int .i64 (er : Int) ∧ v12 = .int .i64 (er : Int) ∧ Hid (Blk wx g9 25 [.int .u64 (la : Int), .slice q3 nl c3] ∧ Blk wx g10 25 [.int .u64 (la : Int), .slice q5 nl c5] ∧ VersP wx q3 LL ∧ VersP wx q5 LL ∧ Ext (w4.alloc (.cells #[.int .u64 (m : Int), .slice q4 k c4] 25)) wx ∧ w4.heap.size + 1 ≤ g9 ∧ w4.heap.size + 1 ≤ g10 ∧ NewP wr q3 ∧ NewP wr q5))
        case first =>
          go_region_held3 (fun u => u.cell? ⟨w2.heap.size, 0, none⟩ = some (.int .u64 (m : Int)) ∧ u.cell? ⟨w2.heap.size, 1, none⟩ = some (.slice q2 k c2) ∧ u.cell? (a.add (j * 5)) = some (.int .u8 (dv : Int)) ∧ u.cell? ⟨(a.add (j * 5)).block, (a.add (j * 5)).off + 1, none⟩ = some (.bool an) ∧ u.cell? ⟨(a.add (j * 5)).block, (a.add (j * 5)).off + 2, none⟩ = some (.int .u64 (wt : Int)) ∧ u.cell? ⟨(a.add (j * 5)).block, (a.add (j * 5)).off + 3, none⟩ = some (.int .u64 (xn : Int)) ∧ u.cell? ⟨(a.add (j * 5)).block, (a.add (j * 5)).off + 4, none⟩ = some (.string tx) ∧ Ext (w4.alloc (.cells #[.int .u64 (m : Int), .slice q4 k c4] 25)) u) (first | with_reducible exact hS1 | with_reducible exact hS0 | with_reducible exact hS5 | with_reducible exact HK3.out _ (by repeat' (first | with_reducible exact Ext.refl _ | with_reducible exact HT5.out | with_reducible refine Ext.drew ?_ | with_reducible refine Ext.alloc ?_ _ | with_reducible refine Ext.setCell ?_ ?_ _ | (simp <;> omega)))) (first
            | (go_at_call 9; (with_reducible refine (HD.out (w4.alloc (.cells #[.int .u64 (m : Int), .slice q4 k c4] 25)).drew q2 c2 (HV2b.out.ext hE)).mono ?_); rintro e w5 ⟨q3, c3, q5, c5, rfl, v3, v5, i3, i5, x5⟩; have HI3 := Lib.hid i3; have HI5 := Lib.hid i5; have HT5 := Lib.hid (hE.trans x5); have hS5 := HK3.out _ HT5.out; have hz5 : w4.heap.size + 1 ≤ w5.heap.size := (by have := HT5.out.size; simpa using this); have HV3 := Lib.hid v3; have HV5 := Lib.hid v5; clear v3 v5 i3 i5 x5)
            | (go_at_call 9; (with_reducible refine (HD.out ((w4.alloc (.cells #[.int .u64 (m : Int), .slice q4 k c4] 25)).alloc (.cells #[.int .u64 0, .slice none 0 0] 25)).drew q2 c2 (HV2b.out.ext hE1)).mono ?_); rintro e w5 ⟨q3, c3, q5, c5, rfl, v3, v5, i3, i5, x5⟩; have HI3 := Lib.hid i3; have HI5 := Lib.hid i5; have HT5 := Lib.hid (hE1.trans x5); have hS5 := HK3.out _ HT5.out; have hz5 : w4.heap.size + 1 ≤ w5.heap.size := (by have := HT5.out.size; simpa using this); have HV3 := Lib.hid v3; have HV5 := Lib.hid v5; have R1 := Lib.hid ((Blk.newAt (w4.alloc (.cells #[.int .u64 (m : Int), .slice q4 k c4] 25)) [.int .u64 0, .slice none 0 0] 25 (w4.heap.size + 1) (by simp)).drew.ext x5); have r0 := R1.out.cell 0 _ rfl; have r1 := R1.out.cell 1 _ rfl; have rf0 := R1.out.frozen 0; have rf1 := R1.out.frozen 1; have R1b := Lib.hid (R1.out.alloc (.cells #[.int .u64 0, .slice none 0 0] 25)); have t0 := R1b.out.cell 0 _ rfl; have t1 := R1b.out.cell 1 _ rfl; have tf0 := R1b.out.frozen 0; have tf1 := R1b.out.frozen 1; have R1c : Hid (Blk (((w5.alloc (.cells #[.int .u64 0, .slice none 0 0] 25)).setCell ⟨w4.heap.size + 1, 0, none⟩ (.int .u64 (la : Int))).setCell ⟨w4.heap.size + 1, 1, none⟩ (.slice q3 nl c3)) w5.heap.size 25 [.int .u64 0, .slice none 0 0]) := Lib.hid (((Blk.new w5 [.int .u64 0, .slice none 0 0] 25).other (by have := R1.out.lt; omega) 0 _).other (by have := R1.out.lt; omega) 1 _); have p0 := R1c.out.cell 0 _ rfl; have p1 := R1c.out.cell 1 _ rfl; have pf0 := R1c.out.frozen 0; have pf1 := R1c.out.frozen 1; have R1d := Lib.hid (R1.out.alloc (.cells #[.int .u64 (la : Int), .slice q3 nl c3] 25)); have o0 := R1d.out.cell 0 _ rfl; have o1 := R1d.out.cell 1 _ rfl; have of0 := R1d.out.frozen 0; have of1 := R1d.out.frozen 1; clear v3 v5 i3 i5 x5)
            | (go_at_call 9; (with_reducible refine (HD.out (((w4.alloc (.cells #[.int .u64 (m : Int), .slice q4 k c4] 25)).alloc (.cells #[.int .u64 0, .slice none 0 0] 25)).alloc (.cells #[.int .u64 0, .slice none 0 0] 25)).drew q2 c2 (HV2b.out.ext hE2)).mono ?_); rintro e w5 ⟨q3, c3, q5, c5, rfl, v3, v5, i3, i5, x5⟩; have HI3 := Lib.hid i3; have HI5 := Lib.hid i5; have HT5 := Lib.hid (hE2.trans x5); have hS5 := HK3.out _ HT5.out; have hz5 : w4.heap.size + 1 ≤ w5.heap.size := (by have := HT5.out.size; simpa using this); have HV3 := Lib.hid v3; have HV5 := Lib.hid v5; have R1 := Lib.hid (((Blk.newAt (w4.alloc (.cells #[.int .u64 (m : Int), .slice q4 k c4] 25)) [.int .u64 0, .slice none 0 0] 25 (w4.heap.size + 1) (by simp)).alloc (.cells #[.int .u64 0, .slice none 0 0] 25)).drew.ext x5); have R2 := Lib.hid ((Blk.newAt ((w4.alloc (.cells #[.int .u64 (m : Int), .slice q4 k c4] 25)).alloc (.cells #[.int .u64 0, .slice none 0 0] 25)) [.int .u64 0, .slice none 0 0] 25 (w4.heap.size + 2) (by simp)).drew.ext x5); have r0 := R1.out.cell 0 _ rfl; have r1 := R1.out.cell 1 _ rfl; have rf0 := R1.out.frozen 0; have rf1 := R1.out.frozen 1; have s0 := R2.out.cell 0 _ rfl; have s1 := R2.out.cell 1 _ rfl; have sf0 := R2.out.frozen 0; have sf1 := R2.out.frozen 1; clear v3 v5 i3 i5 x5))
          all_goals
            go_wp2
            go_meet
            first
              | (refine ⟨w5.heap.size, (w5.heap.size + 1), q3, c3, q5, c5, rfl, rfl, rfl, rfl, Lib.hid ⟨?_, ?_, ?_, ?_, ?_, (by first | omega | (simp <;> omega)), (by first | omega | (simp <;> omega)), HI3.out.toNew HN2.out (by first | omega | (simp <;> omega)), HI5.out.toNew HN2.out (by first | omega | (simp <;> omega))⟩⟩; exact ((Blk.new w5 [.int .u64 (la : Int), .slice q3 nl c3] 25).alloc _); exact (Blk.new1V w5 _ [.int .u64 (la : Int), .slice q5 nl c5] 25); exact ((HV3.out.ext ((Ext.refl w5).alloc _)).ext ((Ext.refl _).alloc _)); exact ((HV5.out.ext ((Ext.refl w5).alloc _)).ext ((Ext.refl _).alloc _)); exact ((HT5.out.alloc _).alloc _))
              | (refine ⟨(w5.heap.size + 1), w5.heap.size, q3, c3, q5, c5, rfl, rfl, rfl, rfl, Lib.hid ⟨?_, ?_, ?_, ?_, ?_, (by first | omega | (simp <;> omega)), (by first | omega | (simp <;> omega)), HI3.out.toNew HN2.out (by first | omega | (simp <;> omega)), HI5.out.toNew HN2.out (by first | omega | (simp <;> omega))⟩⟩; exact (Blk.new1V w5 _ [.int .u64 (la : Int), .slice q3 nl c3] 25); exact ((Blk.new w5 [.int .u64 (la : Int), .slice q5 nl c5] 25).alloc _); exact ((HV3.out.ext ((Ext.refl w5).alloc _)).ext ((Ext.refl _).alloc _)); exact ((HV5.out.ext ((Ext.refl w5).alloc _)).ext ((Ext.refl _).alloc _)); exact ((HT5.out.alloc _).alloc _))
              | (refine ⟨(w4.heap.size + 1), w5.heap.size, q3, c3, q5, c5, rfl, rfl, rfl, rfl, Lib.hid ⟨?_, ?_, ?_, ?_, ?_, (by first | omega | (simp <;> omega)), (by first | omega | (simp <;> omega)), HI3.out.toNew HN2.out (by first | omega | (simp <;> omega)), HI5.out.toNew HN2.out (by first | omega | (simp <;> omega))⟩⟩; exact (((((R1.out.alloc (.cells #[.int .u64 0, .slice none 0 0] 25)).set_ 0 _).set_ 1 _).other (g := w5.heap.size) (by have := R1.out.lt; omega) 0 _).other (g := w5.heap.size) (by have := R1.out.lt; omega) 1 _); exact (((((Blk.new w5 [.int .u64 0, .slice none 0 0] 25).other (g := (w4.heap.size + 1)) (by have := R1.out.lt; omega) 0 _).other (g := (w4.heap.size + 1)) (by have := R1.out.lt; omega) 1 _).set_ 0 _).set_ 1 _); exact (((((HV3.out.ext ((Ext.refl w5).alloc _)).box (o := 0) HV2b.out HI3.out (b := (w4.heap.size + 1)) (by simp) (by simp <;> omega) _).box (o := 1) HV2b.out HI3.out (b := (w4.heap.size + 1)) (by simp) (by simp <;> omega) _).box (u := w5.alloc (.cells #[.int .u64 0, .slice none 0 0] 25)) (o := 0) HV3.out (.inl ⟨rfl, rfl⟩) (b := w5.heap.size) (Nat.le_refl _) (by simp) _).box (u := w5.alloc (.cells #[.int .u64 0, .slice none 0 0] 25)) (o := 1) HV3.out (.inl ⟨rfl, rfl⟩) (b := w5.heap.size) (Nat.le_refl _) (by simp) _); exact (((((HV5.out.ext ((Ext.refl w5).alloc _)).box (o := 0) HV2b.out HI5.out (b := (w4.heap.size + 1)) (by simp) (by simp <;> omega) _).box (o := 1) HV2b.out HI5.out (b := (w4.heap.size + 1)) (by simp) (by simp <;> omega) _).box (u := w5.alloc (.cells #[.int .u64 0, .slice none 0 0] 25)) (o := 0) HV5.out (.inl ⟨rfl, rfl⟩) (b := w5.heap.size) (Nat.le_refl _) (by simp) _).box (u := w5.alloc (.cells #[.int .u64 0, .slice none 0 0] 25)) (o := 1) HV5.out (.inl ⟨rfl, rfl⟩) (b := w5.heap.size) (Nat.le_refl _) (by simp) _); exact (((((HT5.out.alloc _).setCell (p := ⟨(w4.heap.size + 1), 0, none⟩) (by simp <;> omega) _).setCell (p := ⟨(w4.heap.size + 1), 1, none⟩) (by simp <;> omega) _).setCell (p := ⟨w5.heap.size, 0, none⟩) (by simp <;> omega) _).setCell (p := ⟨w5.heap.size, 1, none⟩) (by simp <;> omega) _))
              | (refine ⟨(w4.heap.size + 1), (w4.heap.size + 1 + 1), q3, c3, q5, c5, rfl, rfl, rfl, rfl, Lib.hid ⟨?_, ?_, ?_, ?_, ?_, (by first | omega | (simp <;> omega)), (by first | omega | (simp <;> omega)), HI3.out.toNew HN2.out (by first | omega | (simp <;> omega)), HI5.out.toNew HN2.out (by first | omega | (simp <;> omega))⟩⟩; exact ((((R1.out.set_ 0 _).set_ 1 _).other (g := (w4.heap.size + 1 + 1)) (by have := hz5; omega) 0 _).other (g := (w4.heap.size + 1 + 1)) (by have := hz5; omega) 1 _); exact ((((R2.out.other (g := (w4.heap.size + 1)) (by have := hz5; omega) 0 _).other (g := (w4.heap.size + 1)) (by have := hz5; omega) 1 _).set_ 0 _).set_ 1 _); exact ((((HV3.out.box (o := 0) HV2b.out HI3.out (b := (w4.heap.size + 1)) (by simp) (by simp <;> omega) _).box (o := 1) HV2b.out HI3.out (b := (w4.heap.size + 1)) (by simp) (by simp <;> omega) _).box (o := 0) HV2b.out HI3.out (b := (w4.heap.size + 1 + 1)) (by simp <;> omega) (by simp <;> omega) _).box (o := 1) HV2b.out HI3.out (b := (w4.heap.size + 1 + 1)) (by simp <;> omega) (by simp <;> omega) _); exact ((((HV5.out.box (o := 0) HV2b.out HI5.out (b := (w4.heap.size + 1)) (by simp) (by simp <;> omega) _).box (o := 1) HV2b.out HI5.out (b := (w4.heap.size + 1)) (by simp) (by simp <;> omega) _).box (o := 0) HV2b.out HI5.out (b := (w4.heap.size + 1 + 1)) (by simp <;> omega) (by simp <;> omega) _).box (o := 1) HV2b.out HI5.out (b := (w4.heap.size + 1 + 1)) (by simp <;> omega) (by simp <;> omega) _); exact ((((HT5.out.setCell (p := ⟨(w4.heap.size + 1), 0, none⟩) (by simp <;> omega) _).setCell (p := ⟨(w4.heap.size + 1), 1, none⟩) (by simp <;> omega) _).setCell (p := ⟨(w4.heap.size + 1 + 1), 0, none⟩) (by simp <;> omega) _).setCell (p := ⟨(w4.heap.size + 1 + 1), 1, none⟩) (by simp <;> omega) _))
              | (refine ⟨w5.heap.size, (w4.heap.size + 1), q3, c3, q5, c5, rfl, rfl, rfl, rfl, Lib.hid ⟨?_, ?_, ?_, ?_, ?_, (by first | omega | (simp <;> omega)), (by first | omega | (simp <;> omega)), HI3.out.toNew HN2.out (by first | omega | (simp <;> omega)), HI5.out.toNew HN2.out (by first | omega | (simp <;> omega))⟩⟩; exact (((Blk.new w5 [.int .u64 (la : Int), .slice q3 nl c3] 25).other (g := (w4.heap.size + 1)) (by have := R1.out.lt; omega) 0 _).other (g := (w4.heap.size + 1)) (by have := R1.out.lt; omega) 1 _); exact (((R1.out.alloc _).set_ 0 _).set_ 1 _); exact (((HV3.out.ext ((Ext.refl w5).alloc _)).box (o := 0) HV2b.out HI3.out (b := (w4.heap.size + 1)) (by simp) (by simp <;> omega) _).box (o := 1) HV2b.out HI3.out (b := (w4.heap.size + 1)) (by simp) (by simp <;> omega) _); exact (((HV5.out.ext ((Ext.refl w5).alloc _)).box (o := 0) HV2b.out HI5.out (b := (w4.heap.size + 1)) (by simp) (by simp <;> omega) _).box (o := 1) HV2b.out HI5.out (b := (w4.heap.size + 1)) (by simp) (by simp <;> omega) _); exact (((HT5.out.alloc _).setCell (p := ⟨(w4.heap.size + 1), 0, none⟩) (by simp <;> omega) _).setCell (p := ⟨(w4.heap.size + 1), 1, none⟩) (by simp <;> omega) _))
              | (refine ⟨(w4.heap.size + 1 + 1), (w4.heap.size + 1), q3, c3, q5, c5, rfl, rfl, rfl, rfl, Lib.hid ⟨?_, ?_, ?_, ?_, ?_, (by first | omega | (simp <;> omega)), (by first | omega | (simp <;> omega)), HI3.out.toNew HN2.out (by first | omega | (simp <;> omega)), HI5.out.toNew HN2.out (by first | omega | (simp <;> omega))⟩⟩; exact ((((R2.out.set_ 0 _).set_ 1 _).other (g := (w4.heap.size + 1)) (by have := hz5; omega) 0 _).other (g := (w4.heap.size + 1)) (by have := hz5; omega) 1 _); exact ((((R1.out.other (g := (w4.heap.size + 1 + 1)) (by have := hz5; omega) 0 _).other (g := (w4.heap.size + 1 + 1)) (by have := hz5; omega) 1 _).set_ 0 _).set_ 1 _); exact ((((HV3.out.box (o := 0) HV2b.out HI3.out (b := (w4.heap.size + 1 + 1)) (by simp <;> omega) (by simp <;> omega) _).box (o := 1) HV2b.out HI3.out (b := (w4.heap.size + 1 + 1)) (by simp <;> omega) (by simp <;> omega) _).box (o := 0) HV2b.out HI3.out (b := (w4.heap.size + 1)) (by simp) (by simp <;> omega) _).box (o := 1) HV2b.out HI3.out (b := (w4.heap.size + 1)) (by simp) (by simp <;> omega) _); exact ((((HV5.out.box (o := 0) HV2b.out HI5.out (b := (w4.heap.size + 1 + 1)) (by simp <;> omega) (by simp <;> omega) _).box (o := 1) HV2b.out HI5.out (b := (w4.heap.size + 1 + 1)) (by simp <;> omega) (by simp <;> omega) _).box (o := 0) HV2b.out HI5.out (b := (w4.heap.size + 1)) (by simp) (by simp <;> omega) _).box (o := 1) HV2b.out HI5.out (b := (w4.heap.size + 1)) (by simp) (by simp <;> omega) _); exact ((((HT5.out.setCell (p := ⟨(w4.heap.size + 1 + 1), 0, none⟩) (by simp <;> omega) _).setCell (p := ⟨(w4.heap.size + 1 + 1), 1, none⟩) (by simp <;> omega) _).setCell (p := ⟨(w4.heap.size + 1), 0, none⟩) (by simp <;> omega) _).setCell (p := ⟨(w4.heap.size + 1), 1, none⟩) (by simp <;> omega) _))
        case rest =>
          obtain ⟨g9, g10, q3, c3, q5, c5, rfl, rfl, rfl, rfl, HR⟩ := hcut
          have G9 : Hid (Blk wc g9 25 [.int .u64 (la : Int), .slice q3 nl c3]) := Lib.hid HR.out.1
          have G10 : Hid (Blk wc g10 25 [.int .u64 (la : Int), .slice q5 nl c5]) := Lib.hid HR.out.2.1
          have V3 : Hid (VersP wc q3 LL) := Lib.hid HR.out.2.2.1
          have V5 : Hid (VersP wc q5 LL) := Lib.hid HR.out.2.2.2.1
          have HEu : Hid (Ext (w4.alloc (.cells #[.int .u64 (m : Int), .slice q4 k c4] 25)) wc) := Lib.hid HR.out.2.2.2.2.1
          have hg9 : w4.heap.size + 1 ≤ g9 := HR.out.2.2.2.2.2.1
          have hg10 : w4.heap.size + 1 ≤ g10 := HR.out.2.2.2.2.2.2.1
          have HNq3 : Hid (NewP wr q3) := Lib.hid HR.out.2.2.2.2.2.2.2.1
          have HNq5 : Hid (NewP wr q5) := Lib.hid HR.out.2.2.2.2.2.2.2.2
          have hs5 := B5.out.lt
          have hs7 : w2.heap.size < w4.heap.size := by have := HX4z.out; simp at this; omega
          have F5 := Lib.hid (E5.out.ext HEu.out)
          have F7 := Lib.hid (C7b.out.ext HEu.out)
          have F8 := Lib.hid (C8.out.ext HEu.out)
          have X2 := Lib.hid (HV2b.out.ext HEu.out)
          have X4 := Lib.hid (HV4.out.ext HEu.out)
          have HXc := Lib.hid (HX4.out.trans HEu.out)
          obtain ⟨⟨re, rn, rs, rt⟩, hRL⟩ : ∃ r, readL la LL n = r := ⟨_, rfl⟩
          have HRL := Lib.hid hRL
          have HS1 : Hid (∀ u q q' c c', VersP u q LL → VersP u q' LL → Calls Try.prog 13 #[.agg #[.int .u64 (la : Int), .slice q nl c], .agg #[.int .u64 (la : Int), .slice q' nl c']] u fun e w' => e = .returned (.bool true) ∧ Ext u w') := Lib.hid (fun u q q' c c' v v' => by
            have := rsame_any u la la q q' c c' LL LL v v' (Nat.le_trans HLe.out (by decide))
            rw [HNL.out] at this
            simpa using this)
          have HS2 : Hid (∀ u q q' c c', VersP u q L → VersP u q' L → Calls Try.prog 13 #[.agg #[.int .u64 (m : Int), .slice q k c], .agg #[.int .u64 (m : Int), .slice q' k c']] u fun e w' => e = .returned (.bool true) ∧ Ext u w') := Lib.hid (fun u q q' c c' v v' => by
            have := rsame_any u m m q q' c c' L L v v' (Nat.le_trans (mayL_iff.1 HC.out.2.2.1).1 (by decide))
            rw [HC.out.2.1] at this
            simpa using this)
          have HRd : Hid (∀ u q c', VersP u q LL → Calls Try.prog 10 #[.agg #[.int .u64 (la : Int), .slice q nl c'], .int .u64 (n : Int)] u fun e w' => e = .returned (.tuple #[.agg #[.int .u64 (rn : Int), .int .u8 (rs : Int), .string rt], .int .i64 (re : Int)]) ∧ Ext u w') := Lib.hid (fun u q c' v => by
            have := read_any u la n q c' LL v (Nat.le_trans HLe.out (by decide))
            rwa [HRL.out, HNL.out] at this)
          have HRr : Hid (∀ u q c', VersP u q LL → Calls Try.prog 12 #[.agg #[.int .u64 (la : Int), .slice q nl c'], .int .u64 (n : Int)] u fun e w' => e = .returned (.tuple #[.agg #[.int .u64 (rn : Int), .int .u8 (rs : Int), .string rt], .int .i64 (re : Int)]) ∧ Ext u w') := Lib.hid (fun u q c' v => by
            have := rread_any u la n q c' LL v (Nat.le_trans HLe.out (by decide))
            rwa [read_one, HRL.out, HNL.out] at this)
          have HMy : Hid (∀ u q c', VersP u q LL → Calls Try.prog 14 #[.agg #[.int .u64 (la : Int), .slice q nl c']] u fun e w' => e = .returned (.bool true) ∧ Ext u w') := Lib.hid (fun u q c' v => by
            have := may_any u la q c' LL v (Nat.le_trans HLe.out (by decide))
            rwa [HM.out.1, HNL.out] at this)
          have hq : ∀ u, (binOp .neq 35 (.agg #[.int .u64 (rn : Int), .int .u8 (rs : Int), .string rt]) (.agg #[.int .u64 (rn : Int), .int .u8 (rs : Int), .string rt])).run Try.prog u = .ok (.bool false) u := fun u => ver_neq ⟨rn, rs, rt⟩ ⟨rn, rs, rt⟩ false (by simp) u
          have hgd := ver_guard
          have p0 := G9.out.cell 0 _ rfl
          have p1 := G9.out.cell 1 _ rfl
          have q0 := G10.out.cell 0 _ rfl
          have q1 := G10.out.cell 1 _ rfl
          have r0 := F7.out.cell 0 _ rfl
          have r1 := F7.out.cell 1 _ rfl
          have s0 := F8.out.cell 0 _ rfl
          have s1 := F8.out.cell 1 _ rfl
          clear hRL hS0 hS1 hE hE1 hE2
          go_wp2_with (first | (go_at_call 13; (with_reducible refine (HS1.out _ _ _ _ _ V3.out V5.out).mono ?_); rintro e w7 ⟨rfl, x7⟩; have G9a := Lib.hid (G9.out.ext x7); have G10a := Lib.hid (G10.out.ext x7); have F5a := Lib.hid (F5.out.ext x7); have F7a := Lib.hid (F7.out.ext x7); have F8a := Lib.hid (F8.out.ext x7); have V3a := Lib.hid (V3.out.ext x7); have V5a := Lib.hid (V5.out.ext x7); have X2a := Lib.hid (X2.out.ext x7); have X4a := Lib.hid (X4.out.ext x7); have HXa := Lib.hid (HXc.out.trans x7); have r0 := F7a.out.cell 0 _ rfl; have r1 := F7a.out.cell 1 _ rfl; have s0 := F8a.out.cell 0 _ rfl; have s1 := F8a.out.cell 1 _ rfl; clear x7) | (go_at_call 13; (with_reducible refine (HS2.out _ _ _ _ _ X2a.out X4a.out).mono ?_); rintro e w8 ⟨rfl, x8⟩; have G9b := Lib.hid (G9a.out.ext x8); have G10b := Lib.hid (G10a.out.ext x8); have F5b := Lib.hid (F5a.out.ext x8); have V3b := Lib.hid (V3a.out.ext x8); have V5b := Lib.hid (V5a.out.ext x8); have HXb := Lib.hid (HXa.out.trans x8); have q0 := G10b.out.cell 0 _ rfl; have q1 := G10b.out.cell 1 _ rfl; have t0 := F5b.out.cell 0 _ rfl; have t1 := F5b.out.cell 1 _ rfl; have tf0 := F5b.out.frozen 0; have tf1 := F5b.out.frozen 1; have N5b : Hid (Blk ((w8.setCell ⟨w1.heap.size, 0, none⟩ (.int .u64 (la : Int))).setCell ⟨w1.heap.size, 1, none⟩ (.slice q5 nl c5)) w1.heap.size 25 [.int .u64 (la : Int), .slice q5 nl c5]) := Lib.hid ((F5b.out.set_ 0 _).set_ 1 _); have G9c : Hid (Blk ((w8.setCell ⟨w1.heap.size, 0, none⟩ (.int .u64 (la : Int))).setCell ⟨w1.heap.size, 1, none⟩ (.slice q5 nl c5)) g9 25 [.int .u64 (la : Int), .slice q3 nl c3]) := Lib.hid ((G9b.out.other (by omega) 0 _).other (by omega) 1 _); have G10c : Hid (Blk ((w8.setCell ⟨w1.heap.size, 0, none⟩ (.int .u64 (la : Int))).setCell ⟨w1.heap.size, 1, none⟩ (.slice q5 nl c5)) g10 25 [.int .u64 (la : Int), .slice q5 nl c5]) := Lib.hid ((G10b.out.other (by omega) 0 _).other (by omega) 1 _); have Y3b : Hid (VersP ((w8.setCell ⟨w1.heap.size, 0, none⟩ (.int .u64 (la : Int))).setCell ⟨w1.heap.size, 1, none⟩ (.slice q5 nl c5)) q3 LL) := Lib.hid ((V3b.out.setCell (fun a e => Nat.lt_of_lt_of_le hs5 (HNq3.out a e)) _).setCell (fun a e => Nat.lt_of_lt_of_le hs5 (HNq3.out a e)) _); have Y5b : Hid (VersP ((w8.setCell ⟨w1.heap.size, 0, none⟩ (.int .u64 (la : Int))).setCell ⟨w1.heap.size, 1, none⟩ (.slice q5 nl c5)) q5 LL) := Lib.hid ((V5b.out.setCell (fun a e => Nat.lt_of_lt_of_le hs5 (HNq5.out a e)) _).setCell (fun a e => Nat.lt_of_lt_of_le hs5 (HNq5.out a e)) _); have HXw : Hid (Ext w ((w8.setCell ⟨w1.heap.size, 0, none⟩ (.int .u64 (la : Int))).setCell ⟨w1.heap.size, 1, none⟩ (.slice q5 nl c5))) := Lib.hid ((HXb.out.setCell (p := ⟨w1.heap.size, 0, none⟩) HX1.out.size _).setCell (p := ⟨w1.heap.size, 1, none⟩) HX1.out.size _); have p0 := G9c.out.cell 0 _ rfl; have p1 := G9c.out.cell 1 _ rfl; clear x8) | (go_at_call 10; refine (HRd.out _ _ _ Y3b.out).mono ?_; rintro e wd ⟨rfl, xd⟩; have HEd : Ext ((w8.setCell ⟨w1.heap.size, 0, none⟩ (.int .u64 (la : Int))).setCell ⟨w1.heap.size, 1, none⟩ (.slice q5 nl c5)) (wd.alloc (.cells #[.int .u64 (rn : Int), .int .u8 (rs : Int), .string rt] 35)) := xd.alloc _; have N5d := Lib.hid (N5b.out.ext HEd); have G9d := Lib.hid (G9c.out.ext HEd); have G10d := Lib.hid (G10c.out.ext HEd); have Y3d := Lib.hid (Y3b.out.ext HEd); have Y5d := Lib.hid (Y5b.out.ext HEd); have HXd := Lib.hid (HXw.out.trans HEd); have R13 := Lib.hid (Blk.new wd [.int .u64 (rn : Int), .int .u8 (rs : Int), .string rt] 35); have q0 := G10d.out.cell 0 _ rfl; have q1 := G10d.out.cell 1 _ rfl; clear xd HEd) | (go_at_call 12; refine (HRr.out _ _ _ Y5d.out).mono ?_; rintro e we ⟨rfl, xe⟩; have HEe : Ext (wd.alloc (.cells #[.int .u64 (rn : Int), .int .u8 (rs : Int), .string rt] 35)) (we.alloc (.cells #[.int .u64 (rn : Int), .int .u8 (rs : Int), .string rt] 35)) := xe.alloc _; have N5e := Lib.hid (N5d.out.ext HEe); have G9e := Lib.hid (G9d.out.ext HEe); have Y3e := Lib.hid (Y3d.out.ext HEe); have Y5e := Lib.hid (Y5d.out.ext HEe); have HXx := Lib.hid (HXd.out.trans HEe); have R13e := Lib.hid (R13.out.ext HEe); have R15 := Lib.hid (Blk.new we [.int .u64 (rn : Int), .int .u8 (rs : Int), .string rt] 35); have p0 := G9e.out.cell 0 _ rfl; have p1 := G9e.out.cell 1 _ rfl; have y0 := R13e.out.cell 0 _ rfl; have y1 := R13e.out.cell 1 _ rfl; have y2 := R13e.out.cell 2 _ rfl; have z0 := R15.out.cell 0 _ rfl; have z1 := R15.out.cell 1 _ rfl; have z2 := R15.out.cell 2 _ rfl; clear xe HEe) | (go_at_call 14; refine (HMy.out _ _ _ Y3e.out).mono ?_; rintro e wf ⟨rfl, xf⟩; have N5 := Lib.hid (N5e.out.ext xf); have Y5 := Lib.hid (Y5e.out.ext xf); have HXe := Lib.hid (HXx.out.trans xf); clear xf))
          go_roundw
          case rel => exact ⟨j + 1, la, nl, c5, q5, LL, by omega, by go_num, N5, Lib.hid ⟨Y5.out, HNL.out, HM.out.1, HM.out.2⟩, HXe⟩
          case measure => simp [intOf]; omega
      · have hlti : ¬ (j : Int) < (K : Int) := by omega
        go_wp2_with (go_at_call 8; refine (works17_any _).mono ?_; rintro e w9 ⟨rfl, x9⟩)
        go_ret
        exact ⟨rfl, HX.out.trans x9⟩
end Go.Proofs.Ytbobijgbemnmiaa
