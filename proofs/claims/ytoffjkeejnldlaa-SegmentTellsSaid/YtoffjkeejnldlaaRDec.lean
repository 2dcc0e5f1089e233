/- Contract: the record in front of bytes, by the document's answer. -/
import Derived.Test.YtoffjkeejnldlaaREnc
import Derived.Test.YtoffjkeejnldlaaCutS
import Derived.Test.YtoffjkeejnldlaaBlk
import Derived.Laws.ResultCell
import Derived.Laws.Tables
import Derived.Outline
import Derived.Deep.DeepCutAuto
import Derived.Deep.RegionHeld3
namespace Go.Proofs.Ytoffjkeejnldlaa
open Go.RowKit

theorem rsizeR : (Try.prog.info? 60).map (·.size) = some 2 := by kernel_rfl
theorem rload_rec (w : World) (g : Nat) (t : TypeId) (a b : Value) (fr : Nat × Nat) (hg : w.heap[g]? = some (.cells #[a, b] t fr)) : (loadVar 60 ⟨g, 0, none⟩).run Try.prog w = .ok (.agg #[a, b]) w :=
  run_loadVar_row w g t 60 #[a, b] fr _ hg Try.underlying60 rfl rsizeR
theorem rresults_rec {fn : Func} {p u v : Tmp} (h : fn.results = #[.cell p 60, .tmp u, .tmp v]) (tmps : Array Value) (w : World) (g : Nat) (t : TypeId) (a b : Value) (fr : Nat × Nat)
    (hp : tmps.getD p undef = .pointer (some ⟨g, 0, none⟩)) (hg : w.heap[g]? = some (.cells #[a, b] t fr)) :
    (results fn tmps).run Try.prog w = .ok (.tuple #[.agg #[a, b], tmps.getD u undef, tmps.getD v undef]) w := by
  have hp' : tmps[p]?.getD undef = .pointer (some ⟨g, 0, none⟩) := by simpa using hp
  simp [results, h, hp', asAddr, rload_rec w g t a b fr hg]
set_option maxRecDepth 100000 in
set_option maxHeartbeats 4000000 in
theorem rDecode_short (s : ByteArray) (h : s.size < 16) (w : World) :
    Calls Try.prog 34 #[.string s] w fun e w' => e = .returned (.tuple #[recV Rec.zero, .int .i64 0, .int .i64 100]) ∧ Ext w w' := by
  go_enter Try.func34, Try.ntmps34
  go_wp2
  exact bodyPost_ret (rresults_rec rfl _ _ w.heap.size 60 _ _ (0, 0) rfl (heap_alloc_new w _)) rfl ⟨rfl, (Ext.refl w).alloc _⟩
theorem rnumAt (s : ByteArray) (a c : Nat) : num (s.extract a c).data.toList = numAt s a (c - a) := by unfold numAt; rw [cut_list]
set_option maxRecDepth 100000 in
set_option maxHeartbeats 4000000 in
theorem rDecode_full (s : ByteArray) (h : ¬ s.size < 16) (hs : s.size ≤ 1000000) (w : World) :
    Calls Try.prog 34 #[.string s] w fun e w' => e = .returned (.tuple #[recV (decF s).1, .int .i64 ((decF s).2.1 : Int), .int .i64 ((decF s).2.2 : Int)]) ∧ Ext w w' := by
  have h4 : ∀ u : World, (Instr.slice 9 (.string s) none (some (.int .i64 4)) none).run Try.prog u = .ok (.string (s.extract 0 4)) u := fun u => cut_to s 4 (by omega) u
  have h12 : ∀ u : World, (Instr.slice 9 (.string s) none (some (.int .i64 12)) none).run Try.prog u = .ok (.string (s.extract 0 12)) u := fun u => cut_to s 12 (by omega) u
  have h16 : ∀ u : World, (Instr.slice 9 (.string s) (some (.int .i64 12)) (some (.int .i64 16)) none).run Try.prog u = .ok (.string (s.extract 12 16)) u := fun u => cut_mid s 12 16 (by omega) (by omega) u
  have h8 : ∀ u : World, (Instr.slice 9 (.string s) (some (.int .i64 4)) (some (.int .i64 12)) none).run Try.prog u = .ok (.string (s.extract 4 12)) u := fun u => cut_mid s 4 12 (by omega) (by omega) u
  have HA := Lib.hid (fun u => rNumber_any (s.extract 0 4) (by rw [ByteArray.size_extract]; omega) u)
  have HB := Lib.hid (fun u => rNumber_any (s.extract 12 16) (by rw [ByteArray.size_extract]; omega) u)
  have HC := Lib.hid (fun u => rNumber_any (s.extract 4 12) (by rw [ByteArray.size_extract]; omega) u)
  rw [rnumAt s 0 4] at HA
  rw [rnumAt s 12 16] at HB
  rw [rnumAt s 4 12] at HC
  obtain ⟨W1, hW1⟩ : ∃ W1, w.alloc (.cells #[.int .u64 0, .string ⟨#[]⟩] 60) = W1 := ⟨_, rfl⟩
  have hB1 : Blk W1 w.heap.size 60 [.int .u64 0, .string ⟨#[]⟩] := by rw [← hW1]; exact Blk.new w _ _
  have hX1 : Ext w W1 := by rw [← hW1]; exact (Ext.refl w).alloc _
  have HB1 := Lib.hid hB1; have HX1 := Lib.hid hX1
  have c0 := hB1.cell 0 _ rfl
  have c1 := hB1.cell 1 _ rfl
  have f0 := hB1.frozen 0
  have f1 := hB1.frozen 1
  clear hB1 hX1
  have hm32 := numAt_lt s 0 4 (by omega)
  have hm12 := numAt_lt s 12 4 (by omega)
  have hm4 := numAt_lt s 4 8 (by omega)
  have e4 : (4 : Nat) - 0 = 4 := rfl
  have e12 : (16 : Nat) - 12 = 4 := rfl
  have e8 : (12 : Nat) - 4 = 8 := rfl
  rw [e4] at HA
  rw [e12] at HB
  rw [e8] at HC
  clear e4 e12 e8
  have hwsz : IntKind.u64.wrap (s.size : Int) = (s.size : Int) := IntWalk.u64_in _ ⟨by omega, by omega⟩
  have hwm : IntKind.u64.wrap (16 + (numAt s 0 4 : Int)) = 16 + (numAt s 0 4 : Int) := IntWalk.u64_in _ ⟨by omega, by omega⟩
  go_enter Try.func34, Try.ntmps34
  by_cases h2 : 65536 < numAt s 0 4
  · have HDF := Lib.hid (decF_long h h2)
    generalize numAt s 0 4 = m at *
    generalize numAt s 12 4 = m2 at *
    generalize numAt s 4 8 = m3 at *
    go_wp2_with (with_reducible go_at_call 55; refine (HA.out _).mono ?_; rintro e w4 ⟨rfl, rfl⟩)
    exact bodyPost_ret (rresults_rec rfl _ _ w.heap.size 60 _ _ (0, 0) rfl ((HB1.out.set_ 0 _).set_ 1 _)) rfl ⟨by rw [HDF.out]; rfl, (HX1.out.setCell (p := ⟨w.heap.size, 0, none⟩) (Nat.le_refl _) _).setCell (p := ⟨w.heap.size, 1, none⟩) (Nat.le_refl _) _⟩
  by_cases h3 : s.size < 16 + numAt s 0 4
  · have HDF := Lib.hid (decF_torn h h2 h3)
    generalize numAt s 0 4 = m at *
    generalize numAt s 12 4 = m2 at *
    generalize numAt s 4 8 = m3 at *
    go_wp2_with (with_reducible go_at_call 55; refine (HA.out _).mono ?_; rintro e w4 ⟨rfl, rfl⟩)
    exact bodyPost_ret (rresults_rec rfl _ _ w.heap.size 60 _ _ (0, 0) rfl ((HB1.out.set_ 0 _).set_ 1 _)) rfl ⟨by rw [HDF.out]; rfl, (HX1.out.setCell (p := ⟨w.heap.size, 0, none⟩) (Nat.le_refl _) _).setCell (p := ⟨w.heap.size, 1, none⟩) (Nat.le_refl _) _⟩
  have hwm2 : IntKind.i64.wrap (numAt s 0 4 : Int) = (numAt s 0 4 : Int) := IntWalk.i64_in _ ⟨by omega, by omega⟩
  have hwm3 : IntKind.i64.wrap (16 + (numAt s 0 4 : Int)) = 16 + (numAt s 0 4 : Int) := IntWalk.i64_in _ ⟨by omega, by omega⟩
  have hwm4 : IntKind.u32.wrap (numAt s 12 4 : Int) = (numAt s 12 4 : Int) := IntWalk.u32_in _ ⟨by omega, by omega⟩
  have hcm : ∀ u : World, (Instr.slice 9 (.string s) (some (.int .i64 16)) (some (.int .i64 (16 + (numAt s 0 4 : Int)))) none).run Try.prog u = .ok (.string (s.extract 16 (16 + numAt s 0 4))) u := fun u => by
    have := cut_mid s 16 (16 + numAt s 0 4) (by omega) (by omega) u
    rw [Int.natCast_add] at this
    exact this
  have hsum : (s.extract 0 12 ++ s.extract 16 (16 + numAt s 0 4)).data.toList = s.data.toList.take 12 ++ (s.data.toList.drop 16).take (numAt s 0 4) := by
    rw [ByteArray.data_append, Array.toList_append, cut_list, cut_list, Nat.add_sub_cancel_left]; rfl
  have HSm := Lib.hid (fun u => rsum_any (s.extract 0 12 ++ s.extract 16 (16 + numAt s 0 4)) (by rw [ByteArray.size_append, ByteArray.size_extract, ByteArray.size_extract]; omega) u)
  rw [hsum] at HSm
  have hms := sumN_lt (s.data.toList.take 12 ++ (s.data.toList.drop 16).take (numAt s 0 4))
  have HSd : Hid (Sums s ↔ numAt s 12 4 = sumN (s.data.toList.take 12 ++ (s.data.toList.drop 16).take (numAt s 0 4))) := Lib.hid Iff.rfl
  have hsz2 : ¬ 9223372036854775807 < (s.extract 0 12).size + (s.extract 16 (16 + numAt s 0 4)).size := by rw [ByteArray.size_extract, ByteArray.size_extract]; omega
  have HD := Lib.hid (fun h4 => decF_ok h h2 h3 h4)
  have HE := Lib.hid (fun h4 => decF_sum h h2 h3 h4)
  have HSm2 : Hid (∀ u, Calls Try.prog 45 #[.string (s.extract 0 12 ++ s.extract 16 (16 + numAt s 0 4))] u fun e w' => e = .returned (.int .u32 (sumN (s.data.toList.take 12 ++ (s.data.toList.drop 16).take (numAt s 0 4)) : Int)) ∧ u = w') := HSm
  clear HSm hsum
  generalize sumN (s.data.toList.take 12 ++ (s.data.toList.drop 16).take (numAt s 0 4)) = ms at *
  generalize s.extract 16 (16 + numAt s 0 4) = T at *
  generalize s.extract 0 12 = T12 at *
  generalize s.extract 0 4 = T4 at *
  generalize s.extract 4 12 = T8 at *
  generalize s.extract 12 16 = T16 at *
  generalize numAt s 12 4 = ma at *
  generalize numAt s 4 8 = mn at *
  generalize numAt s 0 4 = m at *
  go_upto_region 9 with (with_reducible go_at_call 55; refine (HA.out _).mono ?_; rintro e w4 ⟨rfl, rfl⟩)
  by_cases h4 : ma = ms
  · have HDF := Lib.hid (HD.out (HSd.out.2 h4))
    subst h4
    clear HE HD HSd
    go_quiet (first
      | ((with_reducible go_at_call 45; exact Calls.quiet_of_same ((HSm2.out _).mono fun _ _ h => ⟨h.1, h.2.symm⟩)))
      | ((with_reducible go_at_call 55; exact Calls.quiet_of_same ((HB.out _).mono fun _ _ h => ⟨h.1, h.2.symm⟩))))
    go_wp2
    go_region_with (with_reducible go_at_call 55; refine (HC.out _).mono ?_; rintro e w4 ⟨rfl, rfl⟩)
    all_goals go_wp2
    all_goals (first
      | exact bodyPost_ret (rresults_rec rfl _ _ w.heap.size 60 _ _ (0, 0) rfl ((HB1.out.set_ 0 _).set_ 1 _)) rfl ⟨by rw [HDF.out]; rfl, ((HX1.out.drewN _).setCell (p := ⟨w.heap.size, 0, none⟩) (Nat.le_refl _) _).setCell (p := ⟨w.heap.size, 1, none⟩) (Nat.le_refl _) _⟩
      | exact bodyPost_ret (rresults_rec rfl _ _ w.heap.size 60 _ _ (0, 0) rfl ((HB1.out.set_ 0 _).set_ 1 _)) rfl ⟨by rw [HDF.out]; rfl, (((HX1.out.drewN _).drew).setCell (p := ⟨w.heap.size, 0, none⟩) (Nat.le_refl _) _).setCell (p := ⟨w.heap.size, 1, none⟩) (Nat.le_refl _) _⟩)
  · have HDF := Lib.hid (HE.out (fun k => h4 (HSd.out.1 k)))
    have hne : ((ms : Int) != (ma : Int)) = true := by
      have q : ¬ (ms : Int) = (ma : Int) := by omega
      simpa using q
    clear HE HD HSd
    go_quiet (first
      | ((with_reducible go_at_call 45; exact Calls.quiet_of_same ((HSm2.out _).mono fun _ _ h => ⟨h.1, h.2.symm⟩)))
      | ((with_reducible go_at_call 55; exact Calls.quiet_of_same ((HB.out _).mono fun _ _ h => ⟨h.1, h.2.symm⟩))))
    go_wp2
    exact bodyPost_ret (rresults_rec rfl _ _ w.heap.size 60 _ _ (0, 0) rfl ((HB1.out.set_ 0 _).set_ 1 _)) rfl ⟨by rw [HDF.out]; rfl, ((HX1.out.drewN _).setCell (p := ⟨w.heap.size, 0, none⟩) (Nat.le_refl _) _).setCell (p := ⟨w.heap.size, 1, none⟩) (Nat.le_refl _) _⟩
theorem rDecode_any (s : ByteArray) (hs : s.size ≤ 1000000) (w : World) :
    Calls Try.prog 34 #[.string s] w fun e w' => e = .returned (.tuple #[recV (decF s).1, .int .i64 ((decF s).2.1 : Int), .int .i64 ((decF s).2.2 : Int)]) ∧ Ext w w' := by
  by_cases h : s.size < 16
  · rw [decF_short h]
    exact rDecode_short s h w
  · exact rDecode_full s h hs w
end Go.Proofs.Ytoffjkeejnldlaa
