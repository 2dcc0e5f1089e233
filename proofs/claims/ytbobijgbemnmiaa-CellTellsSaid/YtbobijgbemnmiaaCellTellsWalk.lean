/- The walk of CellTells. -/
import Derived.Test.YtbobijgbemnmiaaDoes17
import Derived.Test.YtbobijgbemnmiaaHeavy17
import Derived.Test.YtbobijgbemnmiaaWorks17
import Derived.Test.YtbobijgbemnmiaaCellP
import Derived.Deep.DeepCutAuto
namespace Go.Proofs.Ytbobijgbemnmiaa
open Go.RowKit

theorem act17_one {w : World} {g : Nat} {x : Act17} (h : Blk w g 27 x.cells) : Act17sP w (some ⟨g, 0, none⟩) [x] := fun k y hk => by
  match k, hk with
  | 0, hk =>
    simp at hk
    subst hk
    refine ⟨_, rfl, h.lt, fun j v hv => ?_⟩
    rw [Addr.add_mid, Nat.zero_mul, Nat.zero_add, Nat.zero_add]
    exact h.cell j v hv
  | k + 1, hk => simp at hk
theorem actL_len (m : Nat) (L : List Ver) (dv : Nat) (an : Bool) (wt xn : Nat) (tx : ByteArray) : (actL m L dv an wt xn tx).L.length ≤ L.length + 1 := by
  have hg : ∀ s t, (growL m L an wt s t).L.length ≤ L.length + 1 := fun s t => by
    unfold growL
    split
    · exact Nat.le_succ _
    · split
      · exact Nat.le_succ _
      · show (cutL _).length ≤ _
        unfold cutL
        split
        · simp
        · simp
  unfold actL
  split
  · unfold putL
    split
    · split
      · exact Nat.le_succ _
      · exact hg _ _
    · exact Nat.le_succ _
  · split
    · unfold delL
      split
      · split
        · exact Nat.le_succ _
        · exact hg _ _
      · exact Nat.le_succ _
    · unfold desL
      dsimp only
      split
      · simp
      · exact Nat.le_succ _
set_option maxRecDepth 1000000 in
set_option maxHeartbeats 8000000 in
theorem CellTells_walk (m : Nat) (p : Option Addr) (c : Nat) (L : List Ver) (x : Act17) (nI : Int) (w : World) (hm : m < 18446744073709551616) (h : VersP w p L) (hfit : ∀ y ∈ L, y.Fit) (hl : L.length ≤ 140737488355328) (hx : x.Ok) (hn : 0 ≤ nI ∧ nI ≤ 18446744073709551615) :
    Calls Try.prog 3 #[.agg #[.int .u64 (m : Int), .slice p L.length c], .agg (x.cells).toArray, .int .u64 nI] w fun e w' => e = .returned (.bool true) ∧ Ext w w' := by
  obtain ⟨n, rfl⟩ := Int.eq_ofNat_of_zero_le hn.1
  obtain ⟨dv, an, wt, xn, tx⟩ := x
  obtain ⟨k, hk⟩ : ∃ k, L.length = k := ⟨_, rfl⟩
  have HX0 : Hid (Ext w (((w.alloc (.cells #[.int .u64 (m : Int), .slice p k c] 25)).alloc (.cells #[.int .u8 (dv : Int), .bool an, .int .u64 (wt : Int), .int .u64 (xn : Int), .string tx] 27)).alloc (.cells #[.int .u8 (dv : Int), .bool an, .int .u64 (wt : Int), .int .u64 (xn : Int), .string tx] 27))) := Lib.hid ((((Ext.refl w).alloc _).alloc _).alloc _)
  have A1 : Hid (Blk (((w.alloc (.cells #[.int .u64 (m : Int), .slice p k c] 25)).alloc (.cells #[.int .u8 (dv : Int), .bool an, .int .u64 (wt : Int), .int .u64 (xn : Int), .string tx] 27)).alloc (.cells #[.int .u8 (dv : Int), .bool an, .int .u64 (wt : Int), .int .u64 (xn : Int), .string tx] 27)) w.heap.size 25 [.int .u64 (m : Int), .slice p k c]) := Lib.hid (((Blk.new w [.int .u64 (m : Int), .slice p k c] 25).alloc _).alloc _)
  have A2 : Hid (Blk (((w.alloc (.cells #[.int .u64 (m : Int), .slice p k c] 25)).alloc (.cells #[.int .u8 (dv : Int), .bool an, .int .u64 (wt : Int), .int .u64 (xn : Int), .string tx] 27)).alloc (.cells #[.int .u8 (dv : Int), .bool an, .int .u64 (wt : Int), .int .u64 (xn : Int), .string tx] 27)) (w.heap.size + 1) 27 [.int .u8 (dv : Int), .bool an, .int .u64 (wt : Int), .int .u64 (xn : Int), .string tx]) := Lib.hid ((Blk.new1V w _ [.int .u8 (dv : Int), .bool an, .int .u64 (wt : Int), .int .u64 (xn : Int), .string tx] 27).alloc _)
  have A3 : Blk (((w.alloc (.cells #[.int .u64 (m : Int), .slice p k c] 25)).alloc (.cells #[.int .u8 (dv : Int), .bool an, .int .u64 (wt : Int), .int .u64 (xn : Int), .string tx] 27)).alloc (.cells #[.int .u8 (dv : Int), .bool an, .int .u64 (wt : Int), .int .u64 (xn : Int), .string tx] 27)) (w.heap.size + 2) 27 [.int .u8 (dv : Int), .bool an, .int .u64 (wt : Int), .int .u64 (xn : Int), .string tx] := Blk.new2V w _ _ [.int .u8 (dv : Int), .bool an, .int .u64 (wt : Int), .int .u64 (xn : Int), .string tx] 27
  have HHv := Lib.hid (heavy17_any (((w.alloc (.cells #[.int .u64 (m : Int), .slice p k c] 25)).alloc (.cells #[.int .u8 (dv : Int), .bool an, .int .u64 (wt : Int), .int .u64 (xn : Int), .string tx] 27)).alloc (.cells #[.int .u8 (dv : Int), .bool an, .int .u64 (wt : Int), .int .u64 (xn : Int), .string tx] 27)) m p c L (h.ext HX0.out) (fun y hy => Nat.le_trans (hfit y hy).t (by decide)) hl (some ⟨w.heap.size + 2, 0, none⟩) 1 [⟨dv, an, wt, xn, tx⟩] (act17_one A3) (fun y hy => by simp at hy; subst hy; exact hx) (by simp))
  rw [hk] at HHv
  have HV := Lib.hid h; have HK := Lib.hid hk
  rw [hk]
  show Calls Try.prog 3 #[.agg #[.int .u64 (m : Int), .slice p k c], .agg #[.int .u8 (dv : Int), .bool an, .int .u64 (wt : Int), .int .u64 (xn : Int), .string tx], .int .u64 (n : Int)] w _
  obtain ⟨⟨er, la, LL⟩, hO⟩ : ∃ O, actL m L dv an wt xn tx = O := ⟨_, rfl⟩
  obtain ⟨nl, hnl⟩ : ∃ nl, LL.length = nl := ⟨_, rfl⟩
  obtain ⟨⟨re, rn, rs, rt⟩, hR⟩ : ∃ r, readL m L n = r := ⟨_, rfl⟩
  have HO := Lib.hid hO; have HNL := Lib.hid hnl; have HRL := Lib.hid hR
  have hdv := hx.Do
  clear h hk hfit hl hO hnl hR hn A3
  go_enter Try.func3, Try.ntmps3
  go_upto_if 18 with ((go_at_call 7; refine HHv.out.mono ?_; rintro e w1 ⟨⟨b, rfl, hb⟩, x1⟩; have HX1 := Lib.hid (HX0.out.trans x1); have B1 := Lib.hid (A1.out.ext x1); have B2 := Lib.hid (A2.out.ext x1); have bc0 := B1.out.cell 0 _ rfl; have bc1 := B1.out.cell 1 _ rfl; have ba0 := B2.out.cell 0 _ rfl; have ba1 := B2.out.cell 1 _ rfl; have ba2 := B2.out.cell 2 _ rfl; have ba3 := B2.out.cell 3 _ rfl; have ba4 := B2.out.cell 4 _ rfl; clear x1; cases b))
  case' false =>
    obtain ⟨hl20, _, hsz⟩ : Light17 L [⟨dv, an, wt, xn, tx⟩] := by simpa using hb
    have hkk := HK.out
    have hl1 : L.length ≤ 1000000 := by omega
    have htx : tx.size ≤ 32768 := by simp only [sumT] at hsz; omega
    have hsl : sizeL L ≤ 32768 := by omega
    have HD : Hid (∀ u, Ext w u → Calls Try.prog 9 #[.agg #[.int .u64 (m : Int), .slice p k c], .agg #[.int .u8 (dv : Int), .bool an, .int .u64 (wt : Int), .int .u64 (xn : Int), .string tx]] u fun e w' => ∃ q3 c3 q5 c5, e = .returned (.tuple #[.agg #[.int .u64 (la : Int), .slice q3 nl c3], .agg #[.int .u64 (la : Int), .slice q5 nl c5], .int .i64 (er : Int), .int .i64 (er : Int)]) ∧ VersP w' q3 LL ∧ VersP w' q5 LL ∧ Ext u w') := Lib.hid (fun u x => by
      have := does17_any u m p c L (HV.out.ext x) hl1 hm dv an wt xn tx hdv (by omega)
      rw [HO.out, HK.out] at this
      dsimp only at this
      rwa [HNL.out] at this)
    have HCp : Hid (∀ u, Ext w u → Calls Try.prog 11 #[.agg #[.int .u64 (m : Int), .slice p k c]] u fun e w' => ∃ q c', e = .returned (.agg #[.int .u64 (m : Int), .slice q k c']) ∧ IsV w' u.heap.size q c' L ∧ Ext u w') := Lib.hid (fun u x => by
      have := copied_any u m p c L (HV.out.ext x) hl1
      rwa [HK.out] at this)
    have HRd : Hid (∀ u q c', VersP u q L → Calls Try.prog 10 #[.agg #[.int .u64 (m : Int), .slice q k c'], .int .u64 (n : Int)] u fun e w' => e = .returned (.tuple #[.agg #[.int .u64 (rn : Int), .int .u8 (rs : Int), .string rt], .int .i64 (re : Int)]) ∧ Ext u w') := Lib.hid (fun u q c' v => by
      have := read_any u m n q c' L v (by omega)
      rwa [HRL.out, HK.out] at this)
    have HRr : Hid (∀ u, Ext w u → Calls Try.prog 12 #[.agg #[.int .u64 (m : Int), .slice p k c], .int .u64 (n : Int)] u fun e w' => e = .returned (.tuple #[.agg #[.int .u64 (rn : Int), .int .u8 (rs : Int), .string rt], .int .i64 (re : Int)]) ∧ Ext u w') := Lib.hid (fun u x => by
      have := rread_any u m n p c L (HV.out.ext x) (by omega)
      rwa [read_one, HRL.out, HK.out] at this)
    have HMy : Hid (∀ u q c', VersP u q L → Calls Try.prog 14 #[.agg #[.int .u64 (m : Int), .slice q k c']] u fun e w' => e = .returned (.bool (mayL m L)) ∧ Ext u w') := Lib.hid (fun u q c' v => by
      have := may_any u m q c' L v (by omega)
      rwa [HK.out] at this)
    have HMr : Hid (∀ u, Ext w u → Calls Try.prog 15 #[.agg #[.int .u64 (m : Int), .slice p k c]] u fun e w' => e = .returned (.bool (mayL m L)) ∧ Ext u w') := Lib.hid (fun u x => by
      have := rmay_any u m p c L (HV.out.ext x) (by omega)
      rwa [HK.out] at this)
    have HNy : Hid (∀ u q c', VersP u q L → Calls Try.prog 16 #[.agg #[.int .u64 (m : Int), .slice q k c']] u fun e w' => e = .returned (.int .u64 (nowL L : Int)) ∧ Ext u w') := Lib.hid (fun u q c' v => by
      have := now_any u m q c' L v (by omega)
      rwa [HK.out] at this)
    have HNr : Hid (∀ u, Ext w u → Calls Try.prog 17 #[.agg #[.int .u64 (m : Int), .slice p k c]] u fun e w' => e = .returned (.int .u64 (nowL L : Int)) ∧ Ext u w') := Lib.hid (fun u x => by
      have := rnow_any u m p c L (HV.out.ext x) (by omega)
      rwa [HK.out] at this)
    have HZy : Hid (∀ u q c', VersP u q L → Calls Try.prog 18 #[.agg #[.int .u64 (m : Int), .slice q k c']] u fun e w' => e = .returned (.int .i64 (sizeL L : Int)) ∧ Ext u w') := Lib.hid (fun u q c' v => by
      have := size_any u m q c' L v (by omega) (by omega)
      rwa [HK.out] at this)
    have HZr : Hid (∀ u, Ext w u → Calls Try.prog 19 #[.agg #[.int .u64 (m : Int), .slice p k c]] u fun e w' => e = .returned (.int .i64 (sizeL L : Int)) ∧ Ext u w') := Lib.hid (fun u x => by
      have := rsize_any u m p c L (HV.out.ext x) (by omega) (by omega)
      rwa [HK.out] at this)
    have HLL : Hid (LL.length ≤ 140737488355328) := Lib.hid (by have := actL_len m L dv an wt xn tx; rw [HO.out] at this; dsimp only at this; omega)
    have HkL : Hid (L.length ≤ 140737488355328) := Lib.hid (by omega)
    obtain ⟨mb, hmb⟩ : ∃ mb, mayL m L = mb := ⟨_, rfl⟩
    obtain ⟨nb, hnb⟩ : ∃ nb, nowL L = nb := ⟨_, rfl⟩
    obtain ⟨sb, hsb⟩ : ∃ sb, sizeL L = sb := ⟨_, rfl⟩
    obtain ⟨eb, heb⟩ : ∃ eb, decide (m = la ∧ L = LL) = eb := ⟨_, rfl⟩
    have HEB := Lib.hid heb
    rw [hmb] at HMy HMr
    rw [hnb] at HNy HNr
    rw [hsb] at HZy HZr
    have hq : ∀ u, (binOp .eql 35 (.agg #[.int .u64 (rn : Int), .int .u8 (rs : Int), .string rt]) (.agg #[.int .u64 (rn : Int), .int .u8 (rs : Int), .string rt])).run Try.prog u = .ok (.bool true) u := fun u => ver_eql ⟨rn, rs, rt⟩ ⟨rn, rs, rt⟩ true (by simp) u
    have hgd := ver_guard
    clear hl20 hsz hkk hl1 htx hsl hmb hnb hsb heb hb hm hdv
    go_wp2_with (first | (go_at_call 9; refine (HD.out _ HX1.out).mono ?_; rintro e w2 ⟨q3, c3, q5, c5, rfl, v3, v5, x2⟩; have HX2 : Hid (Ext w ((w2.alloc (.cells #[.int .u64 (la : Int), .slice q3 nl c3] 25)).alloc (.cells #[.int .u64 (la : Int), .slice q5 nl c5] 25))) := Lib.hid (((HX1.out.trans x2).alloc _).alloc _); have HE2 : Ext w2 ((w2.alloc (.cells #[.int .u64 (la : Int), .slice q3 nl c3] 25)).alloc (.cells #[.int .u64 (la : Int), .slice q5 nl c5] 25)) := ((Ext.refl w2).alloc _).alloc _; have HV3 := Lib.hid (v3.ext HE2); have HV5 := Lib.hid (v5.ext HE2); have C1 := Lib.hid ((B1.out.ext x2).ext HE2); have C3 : Hid (Blk ((w2.alloc (.cells #[.int .u64 (la : Int), .slice q3 nl c3] 25)).alloc (.cells #[.int .u64 (la : Int), .slice q5 nl c5] 25)) w2.heap.size 25 [.int .u64 (la : Int), .slice q3 nl c3]) := Lib.hid ((Blk.new w2 [.int .u64 (la : Int), .slice q3 nl c3] 25).alloc _); have C5 : Hid (Blk ((w2.alloc (.cells #[.int .u64 (la : Int), .slice q3 nl c3] 25)).alloc (.cells #[.int .u64 (la : Int), .slice q5 nl c5] 25)) (w2.heap.size + 1) 25 [.int .u64 (la : Int), .slice q5 nl c5]) := Lib.hid (Blk.new1V w2 _ [.int .u64 (la : Int), .slice q5 nl c5] 25); have bc0 := C1.out.cell 0 _ rfl; have bc1 := C1.out.cell 1 _ rfl; clear v3 v5 x2 HE2) | (go_at_call 11; refine (HCp.out _ HX2.out).mono ?_; rintro e w4 ⟨q4, c4, rfl, v4, x4⟩; have HX4 := Lib.hid (HX2.out.trans x4); have HV4 := Lib.hid v4; have D1 := Lib.hid (C1.out.ext x4); have D3 := Lib.hid (C3.out.ext x4); have D5 := Lib.hid (C5.out.ext x4); have HW3 := Lib.hid (HV3.out.ext x4); have HW5 := Lib.hid (HV5.out.ext x4); clear v4 x4) | (go_at_call 10; refine (HRd.out _ q4 c4 HV4.out.vers).mono ?_; rintro e w6 ⟨rfl, x6⟩; have HE6 : Ext w4 (w6.alloc (.cells #[.int .u64 (rn : Int), .int .u8 (rs : Int), .string rt] 35)) := x6.alloc _; have HX6 := Lib.hid (HX4.out.trans HE6); have E1 := Lib.hid (D1.out.ext HE6); have E3 := Lib.hid (D3.out.ext HE6); have E5 := Lib.hid (D5.out.ext HE6); have E7 := Lib.hid (Blk.new w6 [.int .u64 (rn : Int), .int .u8 (rs : Int), .string rt] 35); have HY3 := Lib.hid (HW3.out.ext HE6); have HY5 := Lib.hid (HW5.out.ext HE6); have bc0 := E1.out.cell 0 _ rfl; have bc1 := E1.out.cell 1 _ rfl; clear x6 HE6) | (go_at_call 12; refine (HRr.out _ HX6.out).mono ?_; rintro e w8 ⟨rfl, x8⟩; have HE8 : Ext (w6.alloc (.cells #[.int .u64 (rn : Int), .int .u8 (rs : Int), .string rt] 35)) (w8.alloc (.cells #[.int .u64 (rn : Int), .int .u8 (rs : Int), .string rt] 35)) := x8.alloc _; have HX8 := Lib.hid (HX6.out.trans HE8); have F1 := Lib.hid (E1.out.ext HE8); have F3 := Lib.hid (E3.out.ext HE8); have F5 := Lib.hid (E5.out.ext HE8); have F7 := Lib.hid (E7.out.ext HE8); have F9 := Lib.hid (Blk.new w8 [.int .u64 (rn : Int), .int .u8 (rs : Int), .string rt] 35); have HZ3 := Lib.hid (HY3.out.ext HE8); have HZ5 := Lib.hid (HY5.out.ext HE8); clear x8 HE8))
    have HK8 : Hid (∀ u, Ext (w8.alloc (.cells #[.int .u64 (rn : Int), .int .u8 (rs : Int), .string rt] 35)) u → u.cell? ⟨w.heap.size, 0, none⟩ = some (.int .u64 (m : Int)) ∧ u.cell? ⟨w.heap.size, 1, none⟩ = some (.slice p k c) ∧ u.cell? ⟨w2.heap.size, 0, none⟩ = some (.int .u64 (la : Int)) ∧ u.cell? ⟨w2.heap.size, 1, none⟩ = some (.slice q3 nl c3) ∧ u.cell? ⟨w2.heap.size + 1, 0, none⟩ = some (.int .u64 (la : Int)) ∧ u.cell? ⟨w2.heap.size + 1, 1, none⟩ = some (.slice q5 nl c5) ∧ u.cell? ⟨w6.heap.size, 0, none⟩ = some (.int .u64 (rn : Int)) ∧ u.cell? ⟨w6.heap.size, 1, none⟩ = some (.int .u8 (rs : Int)) ∧ u.cell? ⟨w6.heap.size, 2, none⟩ = some (.string rt) ∧ u.cell? ⟨w8.heap.size, 0, none⟩ = some (.int .u64 (rn : Int)) ∧ u.cell? ⟨w8.heap.size, 1, none⟩ = some (.int .u8 (rs : Int)) ∧ u.cell? ⟨w8.heap.size, 2, none⟩ = some (.string rt) ∧ Ext (w8.alloc (.cells #[.int .u64 (rn : Int), .int .u8 (rs : Int), .string rt] 35)) u) := Lib.hid (fun u x => ⟨(F1.out.ext x).cell 0 _ rfl, (F1.out.ext x).cell 1 _ rfl, (F3.out.ext x).cell 0 _ rfl, (F3.out.ext x).cell 1 _ rfl, (F5.out.ext x).cell 0 _ rfl, (F5.out.ext x).cell 1 _ rfl, (F7.out.ext x).cell 0 _ rfl, (F7.out.ext x).cell 1 _ rfl, (F7.out.ext x).cell 2 _ rfl, (F9.out.ext x).cell 0 _ rfl, (F9.out.ext x).cell 1 _ rfl, (F9.out.ext x).cell 2 _ rfl, x⟩)
    have HS1 : Hid (∀ u, Ext (w8.alloc (.cells #[.int .u64 (rn : Int), .int .u8 (rs : Int), .string rt] 35)) u → Calls Try.prog 13 #[.agg #[.int .u64 (la : Int), .slice q3 nl c3], .agg #[.int .u64 (la : Int), .slice q5 nl c5]] u fun e w' => e = .returned (.bool true) ∧ Ext u w') := Lib.hid (fun u x => by
      have := rsame_any u la la q3 q5 c3 c5 LL LL (HZ3.out.ext x) (HZ5.out.ext x) HLL.out
      rw [HNL.out] at this
      simpa using this)
    have HS2 : Hid (∀ u, Ext (w8.alloc (.cells #[.int .u64 (rn : Int), .int .u8 (rs : Int), .string rt] 35)) u → Calls Try.prog 20 #[.agg #[.int .u64 (la : Int), .slice q3 nl c3], .agg #[.int .u64 (la : Int), .slice q5 nl c5]] u fun e w' => e = .returned (.bool true) ∧ Ext u w') := Lib.hid (fun u x => by
      have := same_any u la la q3 q5 c3 c5 LL LL (HZ3.out.ext x) (HZ5.out.ext x) HLL.out
      rw [HNL.out] at this
      simpa using this)
    have HS3 : Hid (∀ u q c', Ext (w8.alloc (.cells #[.int .u64 (rn : Int), .int .u8 (rs : Int), .string rt] 35)) u → VersP u q L → Calls Try.prog 20 #[.agg #[.int .u64 (m : Int), .slice q k c'], .agg #[.int .u64 (la : Int), .slice q3 nl c3]] u fun e w' => e = .returned (.bool eb) ∧ Ext u w') := Lib.hid (fun u q c' x v => by
      have := same_any u m la q q3 c' c3 L LL v (HZ3.out.ext x) HkL.out
      rwa [HNL.out, HK.out, HEB.out] at this)
    have HS4 : Hid (∀ u, Ext (w8.alloc (.cells #[.int .u64 (rn : Int), .int .u8 (rs : Int), .string rt] 35)) u → Calls Try.prog 13 #[.agg #[.int .u64 (m : Int), .slice p k c], .agg #[.int .u64 (la : Int), .slice q5 nl c5]] u fun e w' => e = .returned (.bool eb) ∧ Ext u w') := Lib.hid (fun u x => by
      have := rsame_any u m la p q5 c c5 L LL (HV.out.ext (HX8.out.trans x)) (HZ5.out.ext x) HkL.out
      rwa [HNL.out, HK.out, HEB.out] at this)
    have hE : Ext (w8.alloc (.cells #[.int .u64 (rn : Int), .int .u8 (rs : Int), .string rt] 35)) (w8.alloc (.cells #[.int .u64 (rn : Int), .int .u8 (rs : Int), .string rt] 35)).drew := (Ext.refl _).drew
    have hS0 := HK8.out _ (Ext.refl (w8.alloc (.cells #[.int .u64 (rn : Int), .int .u8 (rs : Int), .string rt] 35)))
    have hS := HK8.out _ hE
    clear bc0 bc1 ba0 ba1 ba2 ba3 ba4
    go_region_held3 (fun u => u.cell? ⟨w.heap.size, 0, none⟩ = some (.int .u64 (m : Int)) ∧ u.cell? ⟨w.heap.size, 1, none⟩ = some (.slice p k c) ∧ u.cell? ⟨w2.heap.size, 0, none⟩ = some (.int .u64 (la : Int)) ∧ u.cell? ⟨w2.heap.size, 1, none⟩ = some (.slice q3 nl c3) ∧ u.cell? ⟨w2.heap.size + 1, 0, none⟩ = some (.int .u64 (la : Int)) ∧ u.cell? ⟨w2.heap.size + 1, 1, none⟩ = some (.slice q5 nl c5) ∧ u.cell? ⟨w6.heap.size, 0, none⟩ = some (.int .u64 (rn : Int)) ∧ u.cell? ⟨w6.heap.size, 1, none⟩ = some (.int .u8 (rs : Int)) ∧ u.cell? ⟨w6.heap.size, 2, none⟩ = some (.string rt) ∧ u.cell? ⟨w8.heap.size, 0, none⟩ = some (.int .u64 (rn : Int)) ∧ u.cell? ⟨w8.heap.size, 1, none⟩ = some (.int .u8 (rs : Int)) ∧ u.cell? ⟨w8.heap.size, 2, none⟩ = some (.string rt) ∧ Ext (w8.alloc (.cells #[.int .u64 (rn : Int), .int .u8 (rs : Int), .string rt] 35)) u) (first | exact hS | exact hS0 | assumption | go_keep) (first | (go_at_call 13; (with_reducible refine (HS1.out _ hE).mono ?_); rintro e wa ⟨rfl, xx⟩; have hE := hE.trans xx; have hS := HK8.out _ hE; clear xx) | (go_at_call 11; refine (HCp.out _ (HX8.out.trans hE)).mono ?_; rintro e wc ⟨qc, cc, rfl, vc, xx⟩; have HVc := Lib.hid vc; have hE := hE.trans xx; have hS := HK8.out _ hE; clear xx vc) | (go_at_call 14; refine (HMy.out _ qc cc HVc.out.vers).mono ?_; rintro e wd ⟨rfl, xx⟩; have hE := hE.trans xx; have hS := HK8.out _ hE; clear xx) | (go_at_call 15; refine (HMr.out _ (HX8.out.trans hE)).mono ?_; rintro e wd ⟨rfl, xx⟩; have hE := hE.trans xx; have hS := HK8.out _ hE; clear xx) | (go_at_call 16; refine (HNy.out _ qc cc HVc.out.vers).mono ?_; rintro e wd ⟨rfl, xx⟩; have hE := hE.trans xx; have hS := HK8.out _ hE; clear xx) | (go_at_call 17; refine (HNr.out _ (HX8.out.trans hE)).mono ?_; rintro e wd ⟨rfl, xx⟩; have hE := hE.trans xx; have hS := HK8.out _ hE; clear xx) | (go_at_call 18; refine (HZy.out _ qc cc HVc.out.vers).mono ?_; rintro e wd ⟨rfl, xx⟩; have hE := hE.trans xx; have hS := HK8.out _ hE; clear xx) | (go_at_call 19; refine (HZr.out _ (HX8.out.trans hE)).mono ?_; rintro e wd ⟨rfl, xx⟩; have hE := hE.trans xx; have hS := HK8.out _ hE; clear xx) | (go_at_call 20; (with_reducible refine (HS2.out _ hE).mono ?_); rintro e wa ⟨rfl, xx⟩; have hE := hE.trans xx; have hS := HK8.out _ hE; clear xx) | (go_at_call 20; (with_reducible refine (HS3.out _ qc cc hE HVc.out.vers).mono ?_); rintro e wa ⟨rfl, xx⟩; have hE := hE.trans xx; have hS := HK8.out _ hE; clear xx) | (go_at_call 13; (with_reducible refine (HS4.out _ hE).mono ?_); rintro e wa ⟨rfl, xx⟩; have hE := hE.trans xx; have hS := HK8.out _ hE; clear xx) | (go_at_call 8; refine (works17_any _).mono ?_; rintro e wd ⟨rfl, xx⟩; have hE := hE.trans xx; have hS := HK8.out _ hE; clear xx))
    all_goals
      go_wp2
      go_ret
      exact ⟨rfl, HX8.out.trans hE⟩
  case' true =>
    go_wp2_with ((go_at_call 8; refine (works17_any _).mono ?_; rintro e w9 ⟨rfl, x9⟩))
    go_ret
    exact ⟨rfl, HX1.out.trans x9⟩
end Go.Proofs.Ytbobijgbemnmiaa
