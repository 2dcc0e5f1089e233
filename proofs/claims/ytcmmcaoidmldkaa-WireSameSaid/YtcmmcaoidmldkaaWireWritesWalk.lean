/- The walk of layer 8's statement WireWrites. -/
import Derived.Test.YtcmmcaoidmldkaaWireAlive
import Derived.Test.YtcmmcaoidmldkaaRefW
import Derived.Test.YtcmmcaoidmldkaaSameL
import Derived.Outline
namespace Go.Proofs.Ytcmmcaoidmldkaa
open Go.RowKit
attribute [local irreducible] wnF numG totG

theorem flat_len {α : Type} (f : α → List UInt8) (B : Nat) : ∀ (l : List α), (∀ y ∈ l, (f y).length ≤ B) → (l.flatMap f).length ≤ l.length * B
  | [], _ => by simp
  | x :: r, h => by
    have h1 := h x (by simp)
    have h2 := flat_len f B r (fun y hy => h y (by simp [hy]))
    rw [List.flatMap_cons, List.length_append, List.length_cons, Nat.succ_mul]
    omega
theorem wn_flat (l : List Nat) : (l.flatMap wn).length ≤ l.length * 10 := flat_len wn 10 l (fun _ _ => (wn_length _).2)
theorem wz_flat (l : List Int) : (l.flatMap fun n => wn (zig n)).length ≤ l.length * 10 := flat_len _ 10 l (fun _ _ => (wn_length _).2)
theorem wb_flat (l : List Bool) : (l.flatMap wb).length ≤ l.length * 1 := flat_len wb 1 l (fun _ _ => by simp [wb])
theorem wb_cat (l : List UInt8) (x : Bool) : (⟨l.toArray⟩ : ByteArray) ++ (if x then ⟨#[1]⟩ else ⟨#[0]⟩) = ⟨(l ++ wb x).toArray⟩ := by
  have := str_append l (wb x)
  cases x
  · exact this
  · exact this
set_option maxRecDepth 100000 in
set_option maxHeartbeats 4000000 in
theorem WireWrites_walk (s0 : Option Addr) (n0 c0 : Nat) (l0 : List Nat) (s1 : Option Addr) (n1 c1 : Nat) (l1 : List Int) (s2 : Option Addr) (c2 : Nat) (l2 : List ByteArray) (s3 : Option Addr) (n3 c3 : Nat) (l3 : List Bool) (W : World)
    (e0 : l0.length = n0) (f0 : ValsP W s0 (vU l0)) (z0 : n0 ≤ 140737488355328) (y0 : ∀ x, x ∈ l0 → x < 18446744073709551616)
    (e1 : l1.length = n1) (f1 : ValsP W s1 (vI l1)) (z1 : n1 ≤ 140737488355328) (y1 : ∀ x, x ∈ l1 → -9223372036854775808 ≤ x ∧ x ≤ 9223372036854775807)
    (f2 : TextsP W s2 l2) (z2 : l2.length ≤ 140737488355328) (y2 : ∀ s, s ∈ l2 → s.size ≤ 140737488351232)
    (e3 : l3.length = n3) (f3 : ValsP W s3 (vB l3)) (z3 : n3 ≤ 140737488355328) :
    Calls Try.prog 3 #[.slice s0 n0 c0, .slice s1 n1 c1, .slice s2 l2.length c2, .slice s3 n3 c3] W fun e W' => e = .returned (.bool true) ∧ Ext W W' := by
  obtain ⟨n2, e2⟩ : ∃ n2, l2.length = n2 := ⟨_, rfl⟩
  have HTo := Lib.hid (total_any W s2 c2 n2 l2 e2 f2 y2 (by omega))
  have htb := totG_bound l2 y2
  have hts := totG_small l2
  rw [e2] at z2 ⊢
  generalize totG 0 l2 = t at *
  by_cases hh : 200 < n0 + n1 + n2 + n3
  · have hhi : (200 : Int) < (n0 : Int) + (n1 : Int) + (n2 : Int) + (n3 : Int) := by omega
    clear f0 f1 f2 f3 y0 y1 y2 e0 e1 e2 e3 hh hts HTo
    go_enter Try.func3, Try.ntmps3
    go_wp2_with (go_at_call 8; refine (wire_alive _).mono ?_; rintro e w1 ⟨rfl, x1⟩)
    go_ret
    exact ⟨rfl, x1⟩
  · have hhi : ¬ (200 : Int) < (n0 : Int) + (n1 : Int) + (n2 : Int) + (n3 : Int) := by omega
    by_cases ht : 4096 < t
    · have hti : (4096 : Int) < (t : Int) := by omega
      clear f0 f1 f2 f3 y0 y1 y2 e0 e1 e2 e3 hh hts
      go_enter Try.func3, Try.ntmps3
      go_wp2_with (first
        | (go_at_call 7; refine (HTo.out).mono ?_; rintro e w1 ⟨rfl, rfl⟩)
        | (go_at_call 8; refine (wire_alive _).mono ?_; rintro e w1 ⟨rfl, x1⟩))
      go_ret
      exact ⟨rfl, x1⟩
    · have hti : ¬ (4096 : Int) < (t : Int) := by omega
      have htot := hts (by omega)
      have hq2 : ∀ s ∈ l2, s.size ≤ 4096 := fun s hs => Nat.le_trans (tot_mem l2 s hs) htot
      have hU := wn_flat l0; have hI := wz_flat l1; have hB := wb_flat l3; have hT := tot_flat l2
      have E0 := Lib.hid e0; have E1 := Lib.hid e1; have E2 := Lib.hid e2; have E3 := Lib.hid e3
      have F0 := Lib.hid f0; have F1 := Lib.hid f1; have F2 := Lib.hid f2; have F3 := Lib.hid f3
      have Y0 := Lib.hid y0; have Y1 := Lib.hid y1; have Y2 := Lib.hid hq2
      have LU := Lib.hid (show (l0.flatMap wn).length ≤ 2000 by rw [e0] at hU; omega)
      have LI := Lib.hid (show (l1.flatMap fun n => wn (zig n)).length ≤ 2000 by rw [e1] at hI; omega)
      have LB := Lib.hid (show (l3.flatMap wb).length ≤ 200 by rw [e3] at hB; omega)
      have LT := Lib.hid (show (l2.flatMap wt).length ≤ 8192 by rw [e2] at hT; omega)
      obtain ⟨U0, hU0⟩ : ∃ U0 : ByteArray, (⟨(l0.flatMap wn).toArray⟩ : ByteArray) = U0 := ⟨_, rfl⟩
      obtain ⟨I0, hI0⟩ : ∃ I0 : ByteArray, (⟨(l1.flatMap fun n => wn (zig n)).toArray⟩ : ByteArray) = I0 := ⟨_, rfl⟩
      obtain ⟨T0, hT0⟩ : ∃ T0 : ByteArray, (⟨(l2.flatMap wt).toArray⟩ : ByteArray) = T0 := ⟨_, rfl⟩
      obtain ⟨B0, hB0⟩ : ∃ B0 : ByteArray, (⟨(l3.flatMap wb).toArray⟩ : ByteArray) = B0 := ⟨_, rfl⟩
      obtain ⟨L0, hL0⟩ : ∃ L0 : ByteArray, (⟨(wl l2).toArray⟩ : ByteArray) = L0 := ⟨_, rfl⟩
      obtain ⟨N0, hN0⟩ : ∃ N0 : ByteArray, (⟨(wn n2).toArray⟩ : ByteArray) = N0 := ⟨_, rfl⟩
      have CU : Hid (∀ u q d, ValsP u (some q) (vU l0) → Calls Try.prog 12 #[.slice (some q) n0 d] u fun e w' => e = .returned (.string U0) ∧ Ext u w') := Lib.hid (fun u q d h => hU0 ▸ Uints_any u (some q) d n0 l0 E0.out h Y0.out (by have := LU.out; omega) (by omega))
      have CI : Hid (∀ u q d, ValsP u (some q) (vI l1) → Calls Try.prog 13 #[.slice (some q) n1 d] u fun e w' => e = .returned (.string I0) ∧ Ext u w') := Lib.hid (fun u q d h => hI0 ▸ Ints_any u (some q) d n1 l1 E1.out h Y1.out (by have := LI.out; omega) (by omega))
      have CT : Hid (∀ u q d, ValsP u (some q) (vS l2) → Calls Try.prog 14 #[.slice (some q) n2 d] u fun e w' => e = .returned (.string T0) ∧ Ext u w') := Lib.hid (fun u q d h => hT0 ▸ Texts_any u (some q) d n2 l2 E2.out h (fun x hx => by have := Y2.out x hx; omega) (by have := LT.out; omega) (by omega))
      have CB : Hid (∀ u q d, ValsP u (some q) (vB l3) → Calls Try.prog 15 #[.slice (some q) n3 d] u fun e w' => e = .returned (.string B0) ∧ Ext u w') := Lib.hid (fun u q d h => hB0 ▸ Bools_any u (some q) d n3 l3 E3.out h (fun _ _ => trivial) (by have := LB.out; omega) (by omega))
      have CL : Hid (∀ u q d, ValsP u (some q) (vS l2) → Calls Try.prog 16 #[.slice (some q) n2 d] u fun e w' => e = .returned (.string L0) ∧ Ext u w') := Lib.hid (fun u q d h => hL0 ▸ List_any u (some q) d n2 l2 E2.out h (fun x hx => by have := Y2.out x hx; omega) (by have := LT.out; omega) (by omega))
      have CN : Hid (∀ u, Calls Try.prog 9 #[.int .u64 (n2 : Int)] u fun e w' => e = .returned (.string N0) ∧ Ext u w') := Lib.hid (fun u => hN0 ▸ rUint_any n2 (by omega) u)
      have hcatL : N0 ++ T0 = L0 := by rw [← hN0, ← hT0, ← hL0, str_append]; unfold wl; rw [e2]
      have hsN : N0.size ≤ 10 := by rw [← hN0, txt_size]; exact (wn_length n2).2
      have hsT : T0.size ≤ 8192 := by rw [← hT0, txt_size]; exact LT.out
      have HCL := Lib.hid hcatL; have HSN := Lib.hid hsN; have HST := Lib.hid hsT
      have HU0 := Lib.hid hU0; have HI0 := Lib.hid hI0; have HT0 := Lib.hid hT0; have HB0 := Lib.hid hB0
      clear hU0 hI0 hT0 hB0 hL0 hN0 hcatL hsN hsT
      clear hU hI hB hT e0 e1 e2 e3 f0 f1 f2 f3 y0 y1 y2 hq2 htot hts hh ht htb
      go_enter Try.func3, Try.ntmps3
      go_wp2_with (go_at_call 7; refine (HTo.out).mono ?_; rintro e w1 ⟨rfl, rfl⟩)
      go_loopw [9, 13] (fun v i wr => ∃ j : Nat, j ≤ n0 ∧ i = .int .i64 (j : Int) ∧ v = .string ⟨((l0.take j).flatMap wn).toArray⟩ ∧ Hid (Ext W wr)) (fun _ i _ => n0 - (intOf i).toNat)
      case atStart => exact ⟨0, Nat.zero_le _, rfl, rfl, Lib.hid (Ext.refl _)⟩
      case round =>
        obtain ⟨j, hj, rfl, rfl, hx⟩ := hrel
        by_cases hlt : j < n0
        · obtain ⟨x, hxj⟩ : ∃ x, l0[j]? = some x := ⟨_, List.getElem?_eq_getElem (by have := E0.out; omega)⟩
          obtain ⟨a, rfl, _, hc1⟩ := F0.out.ext hx.out j _ (vU_get hxj)
          have HR := Lib.hid (fun u => rUint_any x (Y0.out x (List.mem_of_getElem? hxj)) u)
          have hcat := str_append ((l0.take j).flatMap wn) (wn x)
          rw [← flat_take wn l0 j x hxj] at hcat
          have hs1 : (⟨((l0.take j).flatMap wn).toArray⟩ : ByteArray).size ≤ 2000 := by rw [txt_size]; exact Nat.le_trans (flat_take_le wn l0 j) LU.out
          have hs2 : (⟨(wn x).toArray⟩ : ByteArray).size ≤ 10 := by rw [txt_size]; exact (wn_length x).2
          clear hxj
          generalize (⟨((l0.take j).flatMap wn).toArray⟩ : ByteArray) = A at *
          generalize (⟨(wn x).toArray⟩ : ByteArray) = B at *
          go_wp2_with (go_at_call 9; refine (HR.out _).mono ?_; rintro e w2 ⟨rfl, x2⟩; have X2 := Lib.hid (hx.out.trans x2); clear x2)
          go_roundw
          case rel => exact ⟨j + 1, hlt, by go_num, rfl, X2⟩
          case measure => simp [intOf]; omega
        · obtain rfl : j = n0 := by omega
          have hall : (⟨((l0.take j).flatMap wn).toArray⟩ : ByteArray) = U0 := by rw [List.take_of_length_le (by have := E0.out; omega)]; exact HU0.out
          rw [hall]
          clear hall
          go_wp2
          go_loopw [10, 14] (fun v i wr => ∃ j : Nat, j ≤ n1 ∧ i = .int .i64 (j : Int) ∧ v = .string ⟨((l1.take j).flatMap fun n => wn (zig n)).toArray⟩ ∧ Hid (Ext W wr)) (fun _ i _ => n1 - (intOf i).toNat)
          case atStart => exact ⟨0, Nat.zero_le _, rfl, rfl, hx⟩
          case round =>
            obtain ⟨j, hj, rfl, rfl, hx⟩ := hrel
            by_cases hlt : j < n1
            · obtain ⟨x, hxj⟩ : ∃ x, l1[j]? = some x := ⟨_, List.getElem?_eq_getElem (by have := E1.out; omega)⟩
              obtain ⟨a, rfl, _, hc1⟩ := F1.out.ext hx.out j _ (vI_get hxj)
              have hxr := Y1.out x (List.mem_of_getElem? hxj)
              have HZ := Lib.hid (fun u => rZig_any x hxr.1 hxr.2 u)
              have HR := Lib.hid (fun u => rUint_any (zig x) (zig_lt x hxr.1 hxr.2) u)
              have hcat := str_append ((l1.take j).flatMap fun n => wn (zig n)) (wn (zig x))
              rw [← flat_take (fun n => wn (zig n)) l1 j x hxj] at hcat
              have hs1 : (⟨((l1.take j).flatMap fun n => wn (zig n)).toArray⟩ : ByteArray).size ≤ 2000 := by rw [txt_size]; exact Nat.le_trans (flat_take_le _ l1 j) LI.out
              have hs2 : (⟨(wn (zig x)).toArray⟩ : ByteArray).size ≤ 10 := by rw [txt_size]; exact (wn_length _).2
              clear hxj hxr
              generalize (⟨((l1.take j).flatMap fun n => wn (zig n)).toArray⟩ : ByteArray) = A at *
              generalize (⟨(wn (zig x)).toArray⟩ : ByteArray) = B at *
              generalize zig x = z at *
              go_wp2_with (first
                | (go_at_call 10; refine (HZ.out _).mono ?_; rintro e w2 ⟨rfl, rfl⟩)
                | (go_at_call 9; refine (HR.out _).mono ?_; rintro e w2 ⟨rfl, x2⟩; have X2 := Lib.hid (hx.out.trans x2); clear x2))
              go_roundw
              case rel => exact ⟨j + 1, hlt, by go_num, rfl, X2⟩
              case measure => simp [intOf]; omega
            · obtain rfl : j = n1 := by omega
              have hall : (⟨((l1.take j).flatMap fun n => wn (zig n)).toArray⟩ : ByteArray) = I0 := by rw [List.take_of_length_le (by have := E1.out; omega)]; exact HI0.out
              rw [hall]
              clear hall
              go_wp2
              go_loopw [11, 15] (fun v i wr => ∃ j : Nat, j ≤ n2 ∧ i = .int .i64 (j : Int) ∧ v = .string ⟨((l2.take j).flatMap wt).toArray⟩ ∧ Hid (Ext W wr)) (fun _ i _ => n2 - (intOf i).toNat)
              case atStart => exact ⟨0, Nat.zero_le _, rfl, rfl, hx⟩
              case round =>
                obtain ⟨j, hj, rfl, rfl, hx⟩ := hrel
                by_cases hlt : j < n2
                · obtain ⟨x, hxj⟩ : ∃ x, l2[j]? = some x := ⟨_, List.getElem?_eq_getElem (by have := E2.out; omega)⟩
                  obtain ⟨a, rfl, _, hc1⟩ := F2.out.ext hx.out j _ hxj
                  have hxs := Y2.out x (List.mem_of_getElem? hxj)
                  have HR := Lib.hid (fun u => rText_any x (by omega) u)
                  have hcat := str_append ((l2.take j).flatMap wt) (wt x)
                  rw [← flat_take wt l2 j x hxj] at hcat
                  have hs1 : (⟨((l2.take j).flatMap wt).toArray⟩ : ByteArray).size ≤ 8192 := by rw [txt_size]; exact Nat.le_trans (flat_take_le _ l2 j) LT.out
                  have hs2 : (⟨(wt x).toArray⟩ : ByteArray).size ≤ 5000 := by rw [txt_size]; unfold wt; rw [List.length_append, size_list]; have := wn_length x.size; omega
                  clear hxj hxs
                  generalize (⟨((l2.take j).flatMap wt).toArray⟩ : ByteArray) = A at *
                  generalize (⟨(wt x).toArray⟩ : ByteArray) = B at *
                  go_wp2_with (go_at_call 11; refine (HR.out _).mono ?_; rintro e w2 ⟨rfl, x2⟩; have X2 := Lib.hid (hx.out.trans x2); clear x2)
                  go_roundw
                  case rel => exact ⟨j + 1, hlt, by go_num, rfl, X2⟩
                  case measure => simp [intOf]; omega
                · obtain rfl : j = n2 := by omega
                  have hall : (⟨((l2.take j).flatMap wt).toArray⟩ : ByteArray) = T0 := by rw [List.take_of_length_le (by have := E2.out; omega)]; exact HT0.out
                  rw [hall]
                  clear hall
                  go_wp2
                  go_loopw [12, 16] (fun v i wr => ∃ j : Nat, j ≤ n3 ∧ i = .int .i64 (j : Int) ∧ v = .string ⟨((l3.take j).flatMap wb).toArray⟩ ∧ Hid (Ext W wr)) (fun _ i _ => n3 - (intOf i).toNat)
                  case atStart => exact ⟨0, Nat.zero_le _, rfl, rfl, hx⟩
                  case round =>
                    obtain ⟨j, hj, rfl, rfl, hx⟩ := hrel
                    by_cases hlt : j < n3
                    · obtain ⟨x, hxj⟩ : ∃ x, l3[j]? = some x := ⟨_, List.getElem?_eq_getElem (by have := E3.out; omega)⟩
                      obtain ⟨a, rfl, _, hc1⟩ := F3.out.ext hx.out j _ (vB_get hxj)
                      have hcat := wb_cat ((l3.take j).flatMap wb) x
                      rw [← flat_take wb l3 j x hxj] at hcat
                      have hs1 : (⟨((l3.take j).flatMap wb).toArray⟩ : ByteArray).size ≤ 200 := by rw [txt_size]; exact Nat.le_trans (flat_take_le _ l3 j) LB.out
                      clear hxj
                      generalize (⟨((l3.take j).flatMap wb).toArray⟩ : ByteArray) = A at *
                      cases x
                      · have hcat0 : A ++ ⟨#[0]⟩ = ⟨((l3.take (j + 1)).flatMap wb).toArray⟩ := hcat
                        clear hcat
                        go_wp2
                        go_roundw
                        case rel => exact ⟨j + 1, hlt, by go_num, rfl, hx⟩
                        case measure => simp [intOf]; omega
                      · have hcat0 : A ++ ⟨#[1]⟩ = ⟨((l3.take (j + 1)).flatMap wb).toArray⟩ := hcat
                        clear hcat
                        go_wp2
                        go_roundw
                        case rel => exact ⟨j + 1, hlt, by go_num, rfl, hx⟩
                        case measure => simp [intOf]; omega
                    · obtain rfl : j = n3 := by omega
                      have hall : (⟨((l3.take j).flatMap wb).toArray⟩ : ByteArray) = B0 := by rw [List.take_of_length_le (by have := E3.out; omega)]; exact HB0.out
                      rw [hall]
                      have hcl := HCL.out
                      have hsn := HSN.out
                      have hst := HST.out
                      clear hall
                      have HX0 := hx
                      clear hx
                      go_wp2_with (first
                        | (at_builtin; refine wpList_copy (by rfl) (.tmp 89) (.tmp 90) 22 29 rfl Try.underlying22 infoU64 rfl (by decide) _ rfl (heap_alloc_new _ _) s0 _ c0 (vU l0) (by rw [vU_length]; exact E0.out) rfl ((F0.out.ext (HX0.out.alloc _))) (oneU l0) (by omega) ?_; intro q1 d1 w1 v1 b1; have V1 := Lib.hid v1; have X1 := Lib.hid ((HX0.out.alloc _).trans3 (b1.mono HX0.out.size)); clear v1 b1)
                        | (go_at_call 12; (with_reducible refine (CU.out _ _ _ V1.out).mono ?_); rintro e w2 ⟨rfl, x2⟩; have X2 := Lib.hid (X1.out.trans x2); clear x2)
                        | (at_builtin; refine wpList_copy (by rfl) (.tmp 96) (.tmp 97) 23 2 rfl Try.underlying23 infoI64 rfl (by decide) _ rfl (heap_alloc_new _ _) s1 _ c1 (vI l1) (by rw [vI_length]; exact E1.out) rfl ((F1.out.ext (X2.out.alloc _))) (oneI l1) (by omega) ?_; intro q3 d3 w3 v3 b3; have V3 := Lib.hid v3; have X3 := Lib.hid ((X2.out.alloc _).trans3 (b3.mono X2.out.size)); clear v3 b3)
                        | (go_at_call 13; (with_reducible refine (CI.out _ _ _ V3.out).mono ?_); rintro e w4 ⟨rfl, x4⟩; have X4 := Lib.hid (X3.out.trans x4); clear x4)
                        | (at_builtin; refine wpList_copy (by rfl) (.tmp 104) (.tmp 105) 24 9 rfl Try.underlying24 infoS rfl (by decide) _ rfl (heap_alloc_new _ _) s2 _ c2 (vS l2) (by rw [vS_length]; exact E2.out) rfl ((F2.out.ext (X4.out.alloc _)).vals) (oneS l2) (by omega) ?_; intro q5 d5 w5 v5 b5; have V5 := Lib.hid v5; have X5 := Lib.hid ((X4.out.alloc _).trans3 (b5.mono X4.out.size)); clear v5 b5)
                        | (go_at_call 14; (with_reducible refine (CT.out _ _ _ V5.out).mono ?_); rintro e w6 ⟨rfl, x6⟩; have X6 := Lib.hid (X5.out.trans x6); clear x6)
                        | (at_builtin; refine wpList_copy (by rfl) (.tmp 112) (.tmp 113) 25 4 rfl Try.underlying25 infoBo rfl (by decide) _ rfl (heap_alloc_new _ _) s3 _ c3 (vB l3) (by rw [vB_length]; exact E3.out) rfl ((F3.out.ext (X6.out.alloc _))) (oneB l3) (by omega) ?_; intro q7 d7 w7 v7 b7; have V7 := Lib.hid v7; have X7 := Lib.hid ((X6.out.alloc _).trans3 (b7.mono X6.out.size)); clear v7 b7)
                        | (go_at_call 15; (with_reducible refine (CB.out _ _ _ V7.out).mono ?_); rintro e w8 ⟨rfl, x8⟩; have X8 := Lib.hid (X7.out.trans x8); clear x8)
                        | (at_builtin; refine wpList_copy (by rfl) (.tmp 120) (.tmp 121) 24 9 rfl Try.underlying24 infoS rfl (by decide) _ rfl (heap_alloc_new _ _) s2 _ c2 (vS l2) (by rw [vS_length]; exact E2.out) rfl ((F2.out.ext (X8.out.alloc _)).vals) (oneS l2) (by omega) ?_; intro q9 d9 w9 v9 b9; have V9 := Lib.hid v9; have X9 := Lib.hid ((X8.out.alloc _).trans3 (b9.mono X8.out.size)); clear v9 b9)
                        | (go_at_call 16; (with_reducible refine (CL.out _ _ _ V9.out).mono ?_); rintro e w10 ⟨rfl, x10⟩; have X10 := Lib.hid (X9.out.trans x10); clear x10)
                        | (go_at_call 9; (with_reducible refine (CN.out _).mono ?_); rintro e w11 ⟨rfl, x11⟩; have X11 := Lib.hid (X10.out.trans x11); clear x11)
                        | (go_at_call 8; refine (wire_alive _).mono ?_; rintro e w12 ⟨rfl, x12⟩; have X12 := Lib.hid (X11.out.trans x12); clear x12))
                      go_ret
                      exact ⟨rfl, X12.out⟩
end Go.Proofs.Ytcmmcaoidmldkaa
