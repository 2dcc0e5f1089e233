/- Contracts: what bytes 0 do, as rows; what rows do; by the program. -/
import Derived.Test.YtnecafoickjleaaPGone
import Derived.Test.YtnecafoickjleaaZero32
import Derived.BigQuiet
import Derived.Deep.QuietTactic
namespace Go.Proofs.Ytnecafoickjleaa
open Go.RowKit

theorem oneZero_any (w : World) : Calls Try.prog 17 #[] w fun e w' => e = .returned (.agg (tab (hfN 8)).toArray) ∧ Ext w w' := by
  have hz := zero_run zero38
  have hr0 : Blk ((w.alloc (.cells zc32 38)).alloc (.cells zc32 38)) w.heap.size 38 z32 := (blk_zero w).alloc _
  have hr1 : Blk ((w.alloc (.cells zc32 38)).alloc (.cells zc32 38)) (w.heap.size + 1) 38 z32 := by
    have := blk_zero (w.alloc (.cells zc32 38))
    simpa using this
  have hx0 : Ext w ((w.alloc (.cells zc32 38)).alloc (.cells zc32 38)) := ((Ext.refl w).alloc _).alloc _
  have HR0 := Lib.hid hr0; have HR1 := Lib.hid hr1; have HX0 := Lib.hid hx0
  clear hr0 hr1 hx0
  go_enter Try.func17, Try.ntmps17
  go_wp2
  go_loopw [2, 3] (fun _ iv wr => ∃ j : Nat, j ≤ 32 ∧ iv = .int .i64 (j : Int) ∧ Blk wr w.heap.size 38 z32 ∧ Blk wr (w.heap.size + 1) 38 (mixV (tab (hfN 8)) z32 j) ∧ Ext w wr) (fun _ iv _ => 32 - (intOf iv).toNat)
  case atStart => exact ⟨0, Nat.zero_le _, rfl, HR0.out, by rw [mixV_zero]; exact HR1.out, HX0.out⟩
  case round =>
    obtain ⟨j, hj, rfl, hb0, hb1, hx⟩ := hrel
    by_cases hlt : j < 32
    · have HG := Lib.hid (gone_any (1#32 <<< j))
      rw [show ((1#32 <<< j).toNat : Int) = 2 ^ j % 4294967296 by rw [BitVec.toNat_shiftLeft]; simp [Nat.shiftLeft_eq]] at HG
      have HC := Lib.hid (tab_at (hfN 8) j hlt)
      have c1 := hb1.cell j _ (by rw [mixV_at (tab_length _) j j (by omega) (Nat.le_refl _)]; exact z32_at j hlt)
      have f1 := hb1.frozen j
      have HB0 := Lib.hid hb0; have HB1 := Lib.hid hb1; have HX := Lib.hid hx
      clear hb0 hb1 hx
      go_wp2_with (go_at_call 15; refine (HG.out _).mono ?_; rintro e w1 ⟨rfl, rfl⟩)
      go_roundw
      case rel => exact ⟨j + 1, by omega, by go_num, HB0.out.other (by omega) _ _, blk_mixV (tab_length _) z32_length j hlt HB1.out _ HC.out, HX.out.setCell (by simp) _⟩
      case measure => simp [intOf]; omega
    · obtain rfl : j = 32 := by omega
      rw [mixV_all (tab_length _) z32_length] at hb1
      have HB0 := Lib.hid hb0; have HB1 := Lib.hid hb1; have HX := Lib.hid hx
      clear hb0 hb1 hx
      go_wp2_with (first
        | (refine wpList_load_row rfl 38 (.tmp 1) rfl _ rfl 38 _ (0, 0) _ HB1.out Try.underlying38 rfl (sizedV (tab_length _)) ?_)
        | (refine wpList_store_row rfl 38 (.tmp 0) (.tmp 12) rfl w.heap.size _ rfl rfl 38 _ HB0.out (sizedV (tab_length _)) (by simp [tab_length, z32_length]) (tab_one _) ?_))
      have hr := (setRow_heap _ _ _ (tab (hfN 8)).toArray _ _ HB0.out)
      exact bodyPost_ret (results_cell_row rfl _ _ w.heap.size 38 _ (0, 0) _ rfl hr Try.underlying38 rfl (sizedV (tab_length _))) rfl ⟨rfl, HX.out.setRow (Nat.le_refl _) _⟩
theorem of_any (F : BitVec 32 → BitVec 32) (hF : Lin F) (c : BitVec 32) (w : World) : Calls Try.prog 18 #[.agg (tab F).toArray, .int .u32 (c.toNat : Int)] w fun e w' => e = .returned (.int .u32 ((F c).toNat : Int)) ∧ Ext w w' := by
  have hr0 : Blk (w.alloc (.cells (tab F).toArray 38)) w.heap.size 38 (tab F) := Blk.new w _ _
  have HR0 := Lib.hid hr0
  have HF : Hid (xsum (fun i => ifB (c.getLsbD i) (F (1#32 <<< i))) 32 = F c) := Lib.hid (hF.rows c)
  have HS := Lib.hid (fun (k : Nat) => (show xsum (fun i => ifB (c.getLsbD i) (F (1#32 <<< i))) (k + 1) = xsum (fun i => ifB (c.getLsbD i) (F (1#32 <<< i))) k ^^^ ifB (c.getLsbD k) (F (1#32 <<< k)) from rfl))
  have HZ : Hid (xsum (fun i => ifB (c.getLsbD i) (F (1#32 <<< i))) 0 = 0#32) := Lib.hid rfl
  generalize xsum (fun i => ifB (c.getLsbD i) (F (1#32 <<< i))) = X at *
  clear hr0
  have HX0 : Hid (Ext w (w.alloc (.cells (tab F).toArray 38))) := Lib.hid ((Ext.refl w).alloc _)
  go_enter Try.func18, Try.ntmps18
  go_wp2
  go_loopw [5, 6, 7] (fun sv _ iv wr => ∃ k : Nat, k ≤ 32 ∧ iv = .int .i64 (k : Int) ∧ sv = .int .u32 ((X k).toNat : Int) ∧ Blk wr w.heap.size 38 (tab F) ∧ Ext w wr) (fun _ _ iv _ => 32 - (intOf iv).toNat)
  case atStart => exact ⟨0, Nat.zero_le _, rfl, by rw [HZ.out]; rfl, HR0.out, HX0.out⟩
  case round =>
    obtain ⟨k, hk, rfl, rfl, hb, hx⟩ := hrel
    by_cases hlt : k < 32
    · have c1 := hb.cell k _ (tab_at F k hlt)
      have HSk := Lib.hid (HS.out k)
      have HB := Lib.hid hb; have HX := Lib.hid hx
      clear hb hx
      have HO := Lib.hid (of_step (X k) (F (1#32 <<< k)) c k)
      rw [← HSk.out] at HO
      go_wp2
      go_quiet (fail)
      go_wp2
      go_roundw
      case rel => exact ⟨k + 1, by omega, by go_num, by rw [← HO.out], HB.out, HX.out.drewN _⟩
      case measure => simp [intOf]; omega
    · obtain rfl : k = 32 := by omega
      go_wp2
      go_ret
      exact ⟨by rw [← HF.out]; rfl, hx⟩
theorem index_tab (F : BitVec 32 → BitVec 32) (i : Nat) (hi : i < 32) (w : World) :
    (Instr.index 38 (.agg (tab F).toArray) (.int .i64 (i : Int))).run Try.prog w = .ok (.int .u32 ((F (1#32 <<< i)).toNat : Int)) w := by
  have hu := Try.underlying38
  have hu2 := Try.underlying22
  have ha := tab_at F i hi
  have hl := tab_length F
  generalize tab F = T at *
  have hs : (Try.prog.info? 22).map (·.size) = some 1 := by kernel_rfl
  cases hq : Try.prog.info? 22 with
  | none => simp [hq] at hs
  | some d =>
    have hd : d.size = 1 := by simpa [hq] using hs
    simp [Instr.index, part, isAgg, run_underlying hu, run_underlying hu2, sizeOf, typeInfo, hq, hd, hl, hi, asIntOf, go_sem]
    rw [List.getElem?_eq_getElem (by omega)] at ha
    exact Option.some.inj ha
theorem times_any (F G : BitVec 32 → BitVec 32) (hF : Lin F) (w : World) : Calls Try.prog 19 #[.agg (tab F).toArray, .agg (tab G).toArray] w fun e w' => e = .returned (.agg (tab fun c => F (G c)).toArray) ∧ Ext w w' := by
  have hz := zero_run zero38
  have HI := Lib.hid (fun i hi u => index_tab G i hi u)
  have HO := Lib.hid (fun (i : Nat) u => of_any F hF (G (1#32 <<< i)) u)
  have HT := Lib.hid (fun i (hi : i < 32) => tab_at (fun c => F (G c)) i hi)
  have HL := Lib.hid (tab_length fun c => F (G c))
  have HN := Lib.hid (tab_one fun c => F (G c))
  have HG := Lib.hid (tab_length G)
  have HF := Lib.hid (tab_length F)
  generalize (tab fun c => F (G c)) = T at *
  generalize tab F = TF at *
  generalize tab G = TG at *
  have hr0 : Blk (((w.alloc (.cells TF.toArray 38)).alloc (.cells TG.toArray 38)).alloc (.cells zc32 38)) w.heap.size 38 TF := ((Blk.new w TF _).alloc _).alloc _
  have hr1 : Blk (((w.alloc (.cells TF.toArray 38)).alloc (.cells TG.toArray 38)).alloc (.cells zc32 38)) (w.heap.size + 1) 38 TG := by
    have := (Blk.new (w.alloc (.cells TF.toArray 38)) TG 38).alloc (.cells zc32 38)
    simpa using this
  have hr2 : Blk (((w.alloc (.cells TF.toArray 38)).alloc (.cells TG.toArray 38)).alloc (.cells zc32 38)) (w.heap.size + 2) 38 z32 := by
    have := blk_zero ((w.alloc (.cells TF.toArray 38)).alloc (.cells TG.toArray 38))
    simpa using this
  have HX0 : Hid (Ext w (((w.alloc (.cells TF.toArray 38)).alloc (.cells TG.toArray 38)).alloc (.cells zc32 38))) := Lib.hid ((((Ext.refl w).alloc _).alloc _).alloc _)
  have HR0 := Lib.hid hr0; have HR1 := Lib.hid hr1; have HR2 := Lib.hid hr2
  clear hr0 hr1 hr2
  go_enter Try.func19, Try.ntmps19
  go_wp2_with (refine wpList_load_row rfl 38 (.tmp 3) rfl (w.heap.size + 1) rfl 38 _ (0, 0) _ HR1.out Try.underlying38 rfl (sizedV HG.out) ?_)
  go_loopw [5, 6, 8] (fun _ _ iv wr => ∃ j : Nat, j ≤ 32 ∧ iv = .int .i64 (j : Int) ∧ Blk wr w.heap.size 38 TF ∧ Blk wr (w.heap.size + 1) 38 (mixV T TG j) ∧ Blk wr (w.heap.size + 2) 38 z32 ∧ Ext w wr) (fun _ _ iv _ => 32 - (intOf iv).toNat)
  case atStart => exact ⟨0, Nat.zero_le _, rfl, HR0.out, by rw [mixV_zero]; exact HR1.out, HR2.out, HX0.out⟩
  case round =>
    obtain ⟨j, hj, rfl, hb0, hb1, hb2, hx⟩ := hrel
    have HB0 := Lib.hid hb0; have HB1 := Lib.hid hb1; have HB2 := Lib.hid hb2; have HX := Lib.hid hx
    by_cases hlt : j < 32
    · have hix := HI.out j hlt
      have HOj := Lib.hid (HO.out j)
      obtain ⟨v0, hv0⟩ : ∃ v, TG[j]? = some v := ⟨_, List.getElem?_eq_getElem (by rw [HG.out]; exact hlt)⟩
      have HTj := Lib.hid (HT.out j hlt)
      have HV0 := Lib.hid hv0
      clear hb0 hb1 hb2 hx hv0
      go_wp2_with (first
        | (refine wpList_load_row rfl 38 (.tmp 2) rfl w.heap.size rfl 38 _ (0, 0) _ HB0.out Try.underlying38 rfl (sizedV HF.out) ?_)
        | (go_at_call 18; refine (HOj.out _).mono ?_; rintro e w1 ⟨rfl, x1⟩
           have HX1 := Lib.hid x1
           have c1 := (HB1.out.ext x1).cell j _ (by rw [mixV_at HL.out j j (by omega) (Nat.le_refl _)]; exact HV0.out)
           have f1 := (HB1.out.ext x1).frozen j
           clear x1))
      go_roundw
      case rel => exact ⟨j + 1, by omega, by go_num, (HB0.out.ext HX1.out).other (by omega) _ _, blk_mixV HL.out HG.out j hlt (HB1.out.ext HX1.out) _ HTj.out, (HB2.out.ext HX1.out).other (by omega) _ _, (HX.out.trans HX1.out).setCell (by simp) _⟩
      case measure => simp [intOf]; omega
    · obtain rfl : j = 32 := by omega
      rw [mixV_all HL.out HG.out] at HB1
      clear hb0 hb1 hb2 hx
      go_wp2_with (first
        | (refine wpList_load_row rfl 38 (.tmp 3) rfl (w.heap.size + 1) rfl 38 _ (0, 0) _ HB1.out Try.underlying38 rfl (sizedV HL.out) ?_)
        | (refine wpList_store_row rfl 38 (.tmp 4) (.tmp 18) rfl (w.heap.size + 2) _ rfl rfl 38 _ HB2.out (sizedV HL.out) (by simp [HL.out, z32_length]) HN.out ?_))
      have hr := (setRow_heap _ _ _ T.toArray _ _ HB2.out)
      exact bodyPost_ret (results_cell_row rfl _ _ (w.heap.size + 2) 38 _ (0, 0) _ rfl hr Try.underlying38 rfl (sizedV HL.out)) rfl ⟨rfl, HX.out.setRow (by omega) _⟩
end Go.Proofs.Ytnecafoickjleaa
