/- The walk of layer 8's statement WireBack. -/
import Derived.Test.YtcmmcaoidmldkaaWireWritesWalk
import Derived.Test.YtcmmcaoidmldkaaBacks
import Derived.RegionTactic
import Derived.Deep.RegionWith
import Derived.Outline
namespace Go.Proofs.Ytcmmcaoidmldkaa
open Go.RowKit
attribute [local irreducible] wnF numG totG

theorem left_none (w : World) (r : Nat) (h : IsR w r ⟨#[]⟩ 0) : Calls Try.prog 25 #[.pointer (some ⟨r, 0, none⟩)] w fun e w' => e = .returned (.int .i64 0) ∧ w = w' := Left_any w r ⟨#[]⟩ 0 h
set_option maxRecDepth 100000 in
set_option maxHeartbeats 4000000 in
theorem WireBack_walk (s0 : Option Addr) (n0 c0 : Nat) (l0 : List Nat) (s1 : Option Addr) (n1 c1 : Nat) (l1 : List Int) (s2 : Option Addr) (c2 : Nat) (l2 : List ByteArray) (s3 : Option Addr) (n3 c3 : Nat) (l3 : List Bool) (W : World)
    (e0 : l0.length = n0) (f0 : ValsP W s0 (vU l0)) (z0 : n0 ≤ 140737488355328) (y0 : ∀ x, x ∈ l0 → x < 18446744073709551616)
    (e1 : l1.length = n1) (f1 : ValsP W s1 (vI l1)) (z1 : n1 ≤ 140737488355328) (y1 : ∀ x, x ∈ l1 → -9223372036854775808 ≤ x ∧ x ≤ 9223372036854775807)
    (f2 : TextsP W s2 l2) (z2 : l2.length ≤ 140737488355328) (y2 : ∀ s, s ∈ l2 → s.size ≤ 140737488351232)
    (e3 : l3.length = n3) (f3 : ValsP W s3 (vB l3)) (z3 : n3 ≤ 140737488355328) :
    Calls Try.prog 4 #[.slice s0 n0 c0, .slice s1 n1 c1, .slice s2 l2.length c2, .slice s3 n3 c3] W fun e W' => e = .returned (.bool true) ∧ Ext W W' := by
  obtain ⟨n2, e2⟩ : ∃ n2, l2.length = n2 := ⟨_, rfl⟩
  have HTo := Lib.hid (total_any W s2 c2 n2 l2 e2 f2 y2 (by omega))
  have htb := totG_bound l2 y2
  have hts := totG_small l2
  rw [e2] at z2 ⊢
  generalize totG 0 l2 = t at *
  by_cases hh : 200 < n0 + n1 + n2 + n3
  · have hhi : (200 : Int) < (n0 : Int) + (n1 : Int) + (n2 : Int) + (n3 : Int) := by omega
    clear f0 f1 f2 f3 y0 y1 y2 e0 e1 e2 e3 hh hts HTo
    go_enter Try.func4, Try.ntmps4
    go_wp2_with (go_at_call 8; refine (wire_alive _).mono ?_; rintro e w1 ⟨rfl, x1⟩)
    go_ret
    exact ⟨rfl, x1⟩
  · have hhi : ¬ (200 : Int) < (n0 : Int) + (n1 : Int) + (n2 : Int) + (n3 : Int) := by omega
    by_cases ht : 4096 < t
    · have hti : (4096 : Int) < (t : Int) := by omega
      clear f0 f1 f2 f3 y0 y1 y2 e0 e1 e2 e3 hh hts
      go_enter Try.func4, Try.ntmps4
      go_wp2_with (first
        | (go_at_call 7; refine (HTo.out).mono ?_; rintro e w1 ⟨rfl, rfl⟩)
        | (go_at_call 8; refine (wire_alive _).mono ?_; rintro e w1 ⟨rfl, x1⟩))
      go_ret
      exact ⟨rfl, x1⟩
    · have hti : ¬ (4096 : Int) < (t : Int) := by omega
      have htot := hts (by omega)
      have hq2 : ∀ s ∈ l2, s.size ≤ 4096 := fun s hs => Nat.le_trans (tot_mem l2 s hs) htot
      have hU := wn_flat l0; have hI := wz_flat l1; have hB := wb_flat l3; have hT := tot_flat l2
      have E0 := Lib.hid e0; have E1 := Lib.hid e1; have E2 := Lib.hid e2; have E3 := Lib.hid e3
      have F0 := Lib.hid f0; have F1 := Lib.hid f1; have F2 := Lib.hid f2; have F3 := Lib.hid f3
      have Y0 := Lib.hid y0; have Y1 := Lib.hid y1; have Y2 := Lib.hid hq2
      have LU := Lib.hid (show (l0.flatMap wn).length ≤ 2000 by rw [e0] at hU; omega)
      have LI := Lib.hid (show (l1.flatMap fun n => wn (zig n)).length ≤ 2000 by rw [e1] at hI; omega)
      have LB := Lib.hid (show (l3.flatMap wb).length ≤ 200 by rw [e3] at hB; omega)
      have LT := Lib.hid (show (l2.flatMap wt).length ≤ 8192 by rw [e2] at hT; omega)
      obtain ⟨U0, hU0⟩ : ∃ U0 : ByteArray, (⟨(l0.flatMap wn).toArray⟩ : ByteArray) = U0 := ⟨_, rfl⟩
      obtain ⟨I0, hI0⟩ : ∃ I0 : ByteArray, (⟨(l1.flatMap fun n => wn (zig n)).toArray⟩ : ByteArray) = I0 := ⟨_, rfl⟩
      obtain ⟨T0, hT0⟩ : ∃ T0 : ByteArray, (⟨(l2.flatMap wt).toArray⟩ : ByteArray) = T0 := ⟨_, rfl⟩
      obtain ⟨B0, hB0⟩ : ∃ B0 : ByteArray, (⟨(l3.flatMap wb).toArray⟩ : ByteArray) = B0 := ⟨_, rfl⟩
      obtain ⟨L0, hL0⟩ : ∃ L0 : ByteArray, (⟨(wl l2).toArray⟩ : ByteArray) = L0 := ⟨_, rfl⟩
      have CU : Hid (∀ u q d, ValsP u (some q) (vU l0) → Calls Try.prog 12 #[.slice (some q) n0 d] u fun e w' => e = .returned (.string U0) ∧ Ext u w') := Lib.hid (fun u q d h => hU0 ▸ Uints_any u (some q) d n0 l0 E0.out h Y0.out (by have := LU.out; omega) (by omega))
      have CI : Hid (∀ u q d, ValsP u (some q) (vI l1) → Calls Try.prog 13 #[.slice (some q) n1 d] u fun e w' => e = .returned (.string I0) ∧ Ext u w') := Lib.hid (fun u q d h => hI0 ▸ Ints_any u (some q) d n1 l1 E1.out h Y1.out (by have := LI.out; omega) (by omega))
      have CT : Hid (∀ u q d, ValsP u (some q) (vS l2) → Calls Try.prog 14 #[.slice (some q) n2 d] u fun e w' => e = .returned (.string T0) ∧ Ext u w') := Lib.hid (fun u q d h => hT0 ▸ Texts_any u (some q) d n2 l2 E2.out h (fun x hx => by have := Y2.out x hx; omega) (by have := LT.out; omega) (by omega))
      have CB : Hid (∀ u q d, ValsP u (some q) (vB l3) → Calls Try.prog 15 #[.slice (some q) n3 d] u fun e w' => e = .returned (.string B0) ∧ Ext u w') := Lib.hid (fun u q d h => hB0 ▸ Bools_any u (some q) d n3 l3 E3.out h (fun _ _ => trivial) (by have := LB.out; omega) (by omega))
      have CL : Hid (∀ u q d, ValsP u (some q) (vS l2) → Calls Try.prog 16 #[.slice (some q) n2 d] u fun e w' => e = .returned (.string L0) ∧ Ext u w') := Lib.hid (fun u q d h => hL0 ▸ List_any u (some q) d n2 l2 E2.out h (fun x hx => by have := Y2.out x hx; omega) (by have := LT.out; omega) (by omega))
      have hLl : (wl l2).length ≤ 9000 := by unfold wl; rw [List.length_append]; have := (wn_length l2.length).2; have := LT.out; omega
      have hsU : U0.size ≤ 2000 := by rw [← hU0, txt_size]; exact LU.out
      have hsI : I0.size ≤ 2000 := by rw [← hI0, txt_size]; exact LI.out
      have hsT : T0.size ≤ 8192 := by rw [← hT0, txt_size]; exact LT.out
      have hsB : B0.size ≤ 200 := by rw [← hB0, txt_size]; exact LB.out
      have hsL : L0.size ≤ 9000 := by rw [← hL0, txt_size]; exact hLl
      have hS : (((U0 ++ L0) ++ I0) ++ B0) ++ T0 = ⟨(l0.flatMap wn ++ (wl l2 ++ ((l1.flatMap fun n => wn (zig n)) ++ (l3.flatMap wb ++ (l2.flatMap wt ++ []))))).toArray⟩ := by
        rw [← hU0, ← hL0, ← hI0, ← hB0, ← hT0, str_append, str_append, str_append, str_append]
        congr 2
        simp
      have hlen : (l0.flatMap wn ++ (wl l2 ++ ((l1.flatMap fun n => wn (zig n)) ++ (l3.flatMap wb ++ (l2.flatMap wt ++ []))))).length ≤ 30000 := by
        have h1 := LU.out; have h2 := LI.out; have h3 := LB.out; have h4 := LT.out
        simp only [List.length_append, List.length_nil]
        omega
      obtain ⟨R4, hR4⟩ : ∃ R4 : List UInt8, l2.flatMap wt ++ [] = R4 := ⟨_, rfl⟩
      obtain ⟨R3, hR3⟩ : ∃ R3 : List UInt8, l3.flatMap wb ++ R4 = R3 := ⟨_, rfl⟩
      obtain ⟨R2, hR2⟩ : ∃ R2 : List UInt8, (l1.flatMap fun n => wn (zig n)) ++ R3 = R2 := ⟨_, rfl⟩
      obtain ⟨R1, hR1⟩ : ∃ R1 : List UInt8, wl l2 ++ R2 = R1 := ⟨_, rfl⟩
      rw [hR4, hR3, hR2, hR1] at hS hlen
      have HQ1 := Lib.hid hR1; have HQ2 := Lib.hid hR2; have HQ3 := Lib.hid hR3; have HQ4 := Lib.hid hR4
      have hl1 : R1.length ≤ 30000 := by rw [List.length_append] at hlen; omega
      have hl2 : R2.length ≤ 30000 := by rw [← hR1, List.length_append] at hl1; omega
      have hl3 : R3.length ≤ 30000 := by rw [← hR2, List.length_append] at hl2; omega
      have hl4 : R4.length ≤ 30000 := by rw [← hR3, List.length_append] at hl3; omega
      have HL0 := Lib.hid hlen; have HL1 := Lib.hid hl1
      have HL2x : Hid (((l1.flatMap fun n => wn (zig n)) ++ R3).length ≤ 30000) := Lib.hid (by rw [hR2]; exact hl2)
      have HL3x : Hid ((l3.flatMap wb ++ R4).length ≤ 30000) := Lib.hid (by rw [hR3]; exact hl3)
      have HL4x : Hid ((l2.flatMap wt ++ []).length ≤ 30000) := Lib.hid (by rw [hR4]; exact hl4)
      have HS := Lib.hid hS
      clear hR1 hR2 hR3 hR4 hl1 hl2 hl3 hl4
      have hs1 : (U0 ++ L0).size ≤ 11000 := by rw [ByteArray.size_append]; omega
      have hs2 : ((U0 ++ L0) ++ I0).size ≤ 13000 := by rw [ByteArray.size_append]; omega
      have hs3 : (((U0 ++ L0) ++ I0) ++ B0).size ≤ 13200 := by rw [ByteArray.size_append]; omega
      clear hU0 hI0 hT0 hB0 hL0 hS hlen hLl
      clear hU hI hB hT e0 e1 e2 e3 f0 f1 f2 f3 y0 y1 y2 hq2 htot hts hh ht htb
      have X0 := Lib.hid (Ext.refl W)
      go_enter Try.func4, Try.ntmps4
      go_wp2_with (first
        | (go_at_call 7; refine (HTo.out).mono ?_; rintro e w1 ⟨rfl, rfl⟩)
        | (at_builtin; refine wpList_copy (by rfl) (.tmp 33) (.tmp 34) 22 29 rfl Try.underlying22 infoU64 rfl (by decide) _ rfl (heap_alloc_new _ _) s0 _ c0 (vU l0) (by rw [vU_length]; exact E0.out) rfl ((F0.out.ext (X0.out.alloc _))) (oneU l0) (by omega) ?_; intro q1 d1 w1 v1 b1; have V1 := Lib.hid v1; have X1 := Lib.hid ((X0.out.alloc _).trans3 (b1.mono X0.out.size)); clear v1 b1)
        | (go_at_call 12; (with_reducible refine (CU.out _ _ _ V1.out).mono ?_); rintro e w2 ⟨rfl, x2⟩; have X2 := Lib.hid (X1.out.trans x2); clear x2)
        | (at_builtin; refine wpList_copy (by rfl) (.tmp 37) (.tmp 38) 24 9 rfl Try.underlying24 infoS rfl (by decide) _ rfl (heap_alloc_new _ _) s2 _ c2 (vS l2) (by rw [vS_length]; exact E2.out) rfl ((F2.out.ext (X2.out.alloc _)).vals) (oneS l2) (by omega) ?_; intro q3 d3 w3 v3 b3; have V3 := Lib.hid v3; have X3 := Lib.hid ((X2.out.alloc _).trans3 (b3.mono X2.out.size)); clear v3 b3)
        | (go_at_call 16; (with_reducible refine (CL.out _ _ _ V3.out).mono ?_); rintro e w4 ⟨rfl, x4⟩; have X4 := Lib.hid (X3.out.trans x4); clear x4)
        | (at_builtin; refine wpList_copy (by rfl) (.tmp 42) (.tmp 43) 23 2 rfl Try.underlying23 infoI64 rfl (by decide) _ rfl (heap_alloc_new _ _) s1 _ c1 (vI l1) (by rw [vI_length]; exact E1.out) rfl ((F1.out.ext (X4.out.alloc _))) (oneI l1) (by omega) ?_; intro q5 d5 w5 v5 b5; have V5 := Lib.hid v5; have X5 := Lib.hid ((X4.out.alloc _).trans3 (b5.mono X4.out.size)); clear v5 b5)
        | (go_at_call 13; (with_reducible refine (CI.out _ _ _ V5.out).mono ?_); rintro e w6 ⟨rfl, x6⟩; have X6 := Lib.hid (X5.out.trans x6); clear x6)
        | (at_builtin; refine wpList_copy (by rfl) (.tmp 47) (.tmp 48) 25 4 rfl Try.underlying25 infoBo rfl (by decide) _ rfl (heap_alloc_new _ _) s3 _ c3 (vB l3) (by rw [vB_length]; exact E3.out) rfl ((F3.out.ext (X6.out.alloc _))) (oneB l3) (by omega) ?_; intro q7 d7 w7 v7 b7; have V7 := Lib.hid v7; have X7 := Lib.hid ((X6.out.alloc _).trans3 (b7.mono X6.out.size)); clear v7 b7)
        | (go_at_call 15; (with_reducible refine (CB.out _ _ _ V7.out).mono ?_); rintro e w8 ⟨rfl, x8⟩; have X8 := Lib.hid (X7.out.trans x8); clear x8)
        | (at_builtin; refine wpList_copy (by rfl) (.tmp 52) (.tmp 53) 24 9 rfl Try.underlying24 infoS rfl (by decide) _ rfl (heap_alloc_new _ _) s2 _ c2 (vS l2) (by rw [vS_length]; exact E2.out) rfl ((F2.out.ext (X8.out.alloc _)).vals) (oneS l2) (by omega) ?_; intro q9 d9 w9 v9 b9; have V9 := Lib.hid v9; have X9 := Lib.hid ((X8.out.alloc _).trans3 (b9.mono X8.out.size)); clear v9 b9)
        | (go_at_call 14; (with_reducible refine (CT.out _ _ _ V9.out).mono ?_); rintro e w10 ⟨rfl, x10⟩; have X10 := Lib.hid (X9.out.trans x10); clear x10)
        | (go_at_call 17; refine (New_any _ _).mono ?_; rintro e w11 ⟨rfl, hr11, x11⟩; have X11 := Lib.hid (X10.out.trans x11); have hwr := X10.out.size; rw [HS.out] at hr11; generalize w10.heap.size = r at hr11 hwr ⊢; have HR11 := Lib.hid hr11; have HWr := Lib.hid hwr; clear hr11 x11 hwr))
      clear HTo CU CI CT CB CL LU LI LB LT HS X0 X1 X2 X3 X4 X5 X6 X7 X8 X9 X10 V1 V3 V5 V7 V9
      go_loopw [11] (fun i wr => ∃ j : Nat, j ≤ n0 ∧ i = .int .i64 (j : Int) ∧ Hid (IsR wr r ⟨((l0.drop j).flatMap wn ++ R1).toArray⟩ 0) ∧ Hid (Ext W wr)) (fun i _ => n0 - (intOf i).toNat)
      case atStart => exact ⟨0, Nat.zero_le _, rfl, HR11, X11⟩
      case round =>
        obtain ⟨j, hj, rfl, hrd, hx⟩ := hrel
        by_cases hlt : j < n0
        · obtain ⟨x, hxj⟩ : ∃ x, l0[j]? = some x := ⟨_, List.getElem?_eq_getElem (by have := E0.out; omega)⟩
          obtain ⟨a, rfl, _, hc1⟩ := F0.out.ext hx.out j _ (vU_get hxj)
          have HC : Hid (∀ u, Ext W u → u.cell? (a.add j) = some (.int .u64 (x : Int))) := Lib.hid (fun u hu => by obtain ⟨b, e, _, hb⟩ := F0.out.ext hu j _ (vU_get hxj); cases e; exact hb)
          have hq := hrd.out
          have hdl := flat_drop_le wn l0 j
          have hdl2 : ((l0.drop j).flatMap wn ++ R1).length ≤ 1000000 := by have := HL0.out; rw [List.length_append] at this ⊢; omega
          rw [flat_drop wn l0 j x R1 hxj] at hq hdl2
          have hxr := Y0.out x (List.mem_of_getElem? hxj)
          have HT := Lib.hid (fun u (hu : IsR u r _ 0) => Uint_back u r x _ hu hdl2 hxr)
          clear hxr
          have HRD := Lib.hid hq
          clear hq hdl hdl2 hxj hrd
          go_wp2
          go_region_with ((go_at_call 18; refine (HT.out wr.drew HRD.out).mono ?_; rintro e w2 ⟨rfl, hr2, x2⟩; have HR2 := Lib.hid hr2; have X2 := Lib.hid (hx.out.drew.moded x2 HWr.out); have hc2 := HC.out _ X2.out; clear hr2 x2))
          all_goals
            go_wp2
            go_roundw
            case rel => exact ⟨j + 1, hlt, by go_num, HR2, X2⟩
            case measure => simp [intOf]; omega
        · obtain rfl : j = n0 := by omega
          have hq := hrd.out
          rw [List.drop_eq_nil_of_le (by have := E0.out; omega), List.flatMap_nil, List.nil_append] at hq
          rw [← HQ1.out] at hq
          have HQ := Lib.hid hq
          clear hq hrd
          go_wp2_with (first
            | (go_at_call 20; refine (List_ok _ r l2 R2 HQ.out (by have := HL1.out; rw [← HQ1.out] at this; omega) _ E2.out 4096 (by decide) (fun s hs => by have := Y2.out s hs; omega)).mono ?_; rintro e w12 ⟨v, rfl, hb12, hr12, x12⟩; obtain ⟨p12, d12, rfl, ht12, -⟩ := hb12.texts; have HT12 := Lib.hid ht12; have HR12 := Lib.hid hr12; have X12 := Lib.hid (hx.out.moded x12 HWr.out); clear hb12 ht12 hr12 x12)
            | (go_at_call 19; refine (same_is _ p12 s2 d12 c2 _ _ l2 l2 rfl E2.out HT12.out (F2.out.ext X12.out) (by have := E2.out; omega) (by omega) true (by simp)).mono ?_; rintro e w13 ⟨rfl, x13⟩; have X13 := Lib.hid (X12.out.trans x13); have HR13 := Lib.hid (HR12.out.ext x13); clear x13))
          have hq12 := HR13.out
          rw [← HQ2.out] at hq12
          have HQ12 := Lib.hid hq12
          clear hq12
          go_loopw [12] (fun i wr => ∃ j : Nat, j ≤ n1 ∧ i = .int .i64 (j : Int) ∧ Hid (IsR wr r ⟨((l1.drop j).flatMap (fun n => wn (zig n)) ++ R3).toArray⟩ 0) ∧ Hid (Ext W wr)) (fun i _ => n1 - (intOf i).toNat)
          case atStart => exact ⟨0, Nat.zero_le _, rfl, HQ12, X13⟩
          case round =>
            obtain ⟨j, hj, rfl, hrd, hx⟩ := hrel
            by_cases hlt : j < n1
            · obtain ⟨x, hxj⟩ : ∃ x, l1[j]? = some x := ⟨_, List.getElem?_eq_getElem (by have := E1.out; omega)⟩
              obtain ⟨a, rfl, _, hc1⟩ := F1.out.ext hx.out j _ (vI_get hxj)
              have HC : Hid (∀ u, Ext W u → u.cell? (a.add j) = some (.int .i64 x)) := Lib.hid (fun u hu => by obtain ⟨b, e, _, hb⟩ := F1.out.ext hu j _ (vI_get hxj); cases e; exact hb)
              have hq := hrd.out
              have hdl := flat_drop_le (fun n => wn (zig n)) l1 j
              have hdl2 : ((l1.drop j).flatMap (fun n => wn (zig n)) ++ R3).length ≤ 1000000 := by have := HL2x.out; rw [List.length_append] at this ⊢; omega
              rw [flat_drop (fun n => wn (zig n)) l1 j x R3 hxj] at hq hdl2
              have hxr := Y1.out x (List.mem_of_getElem? hxj)
              have HT := Lib.hid (fun u (hu : IsR u r _ 0) => Int_back u r x _ hu hdl2 hxr)
              clear hxr
              have HRD := Lib.hid hq
              clear hq hdl hdl2 hxj hrd
              go_wp2
              go_region_with ((go_at_call 21; refine (HT.out wr.drew HRD.out).mono ?_; rintro e w2 ⟨rfl, hr2, x2⟩; have HR2 := Lib.hid hr2; have X2 := Lib.hid (hx.out.drew.moded x2 HWr.out); have hc2 := HC.out _ X2.out; clear hr2 x2))
              all_goals
                go_wp2
                go_roundw
                case rel => exact ⟨j + 1, hlt, by go_num, HR2, X2⟩
                case measure => simp [intOf]; omega
            · obtain rfl : j = n1 := by omega
              have hq := hrd.out
              rw [List.drop_eq_nil_of_le (by have := E1.out; omega), List.flatMap_nil, List.nil_append] at hq
              rw [← HQ3.out] at hq
              have HQ := Lib.hid hq
              clear hq hrd
              go_wp2
              go_loopw [13] (fun i wr => ∃ j : Nat, j ≤ n3 ∧ i = .int .i64 (j : Int) ∧ Hid (IsR wr r ⟨((l3.drop j).flatMap wb ++ R4).toArray⟩ 0) ∧ Hid (Ext W wr)) (fun i _ => n3 - (intOf i).toNat)
              case atStart => exact ⟨0, Nat.zero_le _, rfl, HQ, hx⟩
              case round =>
                obtain ⟨j, hj, rfl, hrd, hx⟩ := hrel
                by_cases hlt : j < n3
                · obtain ⟨x, hxj⟩ : ∃ x, l3[j]? = some x := ⟨_, List.getElem?_eq_getElem (by have := E3.out; omega)⟩
                  obtain ⟨a, rfl, _, hc1⟩ := F3.out.ext hx.out j _ (vB_get hxj)
                  have HC : Hid (∀ u, Ext W u → u.cell? (a.add j) = some (.bool x)) := Lib.hid (fun u hu => by obtain ⟨b, e, _, hb⟩ := F3.out.ext hu j _ (vB_get hxj); cases e; exact hb)
                  have hq := hrd.out
                  have hdl := flat_drop_le wb l3 j
                  have hdl2 : ((l3.drop j).flatMap wb ++ R4).length ≤ 1000000 := by have := HL3x.out; rw [List.length_append] at this ⊢; omega
                  rw [flat_drop wb l3 j x R4 hxj] at hq hdl2
                  have HT := Lib.hid (fun u (hu : IsR u r _ 0) => Bool_back u r x ((l3.drop (j + 1)).flatMap wb ++ R4) hu)
                  have HRD := Lib.hid hq
                  clear hq hdl hdl2 hxj hrd
                  go_wp2
                  go_region_with ((go_at_call 22; refine (HT.out wr.drew HRD.out).mono ?_; rintro e w2 ⟨rfl, hr2, x2⟩; have HR2 := Lib.hid hr2; have X2 := Lib.hid (hx.out.drew.moded x2 HWr.out); have hc2 := HC.out _ X2.out; clear hr2 x2))
                  all_goals
                    go_wp2
                    go_roundw
                    case rel => exact ⟨j + 1, hlt, by go_num, HR2, X2⟩
                    case measure => simp [intOf]; omega
                · obtain rfl : j = n3 := by omega
                  have hq := hrd.out
                  rw [List.drop_eq_nil_of_le (by have := E3.out; omega), List.flatMap_nil, List.nil_append] at hq
                  rw [← HQ4.out] at hq
                  have HQ := Lib.hid hq
                  clear hq hrd
                  go_wp2
                  go_loopw [14] (fun i wr => ∃ j : Nat, j ≤ n2 ∧ i = .int .i64 (j : Int) ∧ Hid (IsR wr r ⟨((l2.drop j).flatMap wt ++ []).toArray⟩ 0) ∧ Hid (Ext W wr)) (fun i _ => n2 - (intOf i).toNat)
                  case atStart => exact ⟨0, Nat.zero_le _, rfl, HQ, hx⟩
                  case round =>
                    obtain ⟨j, hj, rfl, hrd, hx⟩ := hrel
                    by_cases hlt : j < n2
                    · obtain ⟨x, hxj⟩ : ∃ x, l2[j]? = some x := ⟨_, List.getElem?_eq_getElem (by have := E2.out; omega)⟩
                      obtain ⟨a, rfl, _, hc1⟩ := F2.out.ext hx.out j _ hxj
                      have HC : Hid (∀ u, Ext W u → u.cell? (a.add j) = some (.string x)) := Lib.hid (fun u hu => by obtain ⟨b, e, _, hb⟩ := F2.out.ext hu j _ hxj; cases e; exact hb)
                      have hq := hrd.out
                      have hdl := flat_drop_le wt l2 j
                      have hdl2 : ((l2.drop j).flatMap wt ++ []).length ≤ 1000000 := by have := HL4x.out; rw [List.length_append] at this ⊢; omega
                      rw [flat_drop wt l2 j x [] hxj] at hq hdl2
                      have hxs := Y2.out x (List.mem_of_getElem? hxj)
                      have HT := Lib.hid (fun u (hu : IsR u r _ 0) => Text_back u r x _ hu hdl2 (x.size : Int) (by omega) (Int.le_refl _))
                      have HRD := Lib.hid hq
                      clear hq hdl hdl2 hxj hrd
                      go_wp2
                      go_region_with ((go_at_call 23; refine (HT.out wr.drew HRD.out).mono ?_; rintro e w2 ⟨rfl, hr2, x2⟩; have HR2 := Lib.hid hr2; have X2 := Lib.hid (hx.out.drew.moded x2 HWr.out); have hc2 := HC.out _ X2.out; clear hr2 x2))
                      all_goals
                        go_wp2
                        go_roundw
                        case rel => exact ⟨j + 1, hlt, by go_num, HR2, X2⟩
                        case measure => simp [intOf]; omega
                    · obtain rfl : j = n2 := by omega
                      have hq := hrd.out
                      rw [List.drop_eq_nil_of_le (by have := E2.out; omega), List.flatMap_nil, List.nil_append] at hq
                      have HQ := Lib.hid hq
                      clear hq hrd
                      go_wp2_with (first
                        | (go_at_call 24; refine (Err_any _ r ⟨#[]⟩ 0 HQ.out).mono ?_; rintro e w3 ⟨rfl, rfl⟩)
                        | (go_at_call 25; refine (left_none _ r HQ.out).mono ?_; rintro e w3 ⟨rfl, rfl⟩)
                        | (go_at_call 26; refine (End_ok _ r HQ.out).mono ?_; rintro e w4 ⟨rfl, x4⟩; have X4 := Lib.hid (hx.out.moded x4 HWr.out); clear x4)
                        | (go_at_call 8; refine (wire_alive _).mono ?_; rintro e w5 ⟨rfl, x5⟩; have X5 := Lib.hid (X4.out.trans x5); clear x5))
                      go_ret
                      exact ⟨rfl, X5.out⟩
end Go.Proofs.Ytcmmcaoidmldkaa
