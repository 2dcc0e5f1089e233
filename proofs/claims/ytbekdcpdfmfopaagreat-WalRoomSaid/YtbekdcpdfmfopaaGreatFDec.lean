/- Contract: the record in front of bytes, by the program. -/
import Derived.Test.YtbekdcpdfmfopaaGreatM18
import Derived.Test.YtbekdcpdfmfopaaGreatM16
import Derived.Deep.DeepCutAuto
import Derived.Outline
import Derived.Laws.ResultCell
import Derived.Deep.RegionHeld3
namespace Go.Proofs.YtbekdcpdfmfopaaGreat
open Go.RowKit

theorem sizeR : (Tryz.prog.info? 111).map (·.size) = some 2 := by kernel_rfl
theorem load_rec (w : World) (g : Nat) (t : TypeId) (a b : Value) (fr : Nat × Nat) (hg : w.heap[g]? = some (.cells #[a, b] t fr)) : (loadVar 111 ⟨g, 0, none⟩).run Tryz.prog w = .ok (.agg #[a, b]) w :=
  run_loadVar_row w g t 111 #[a, b] fr _ hg Tryz.underlying111 rfl sizeR
theorem results_rec {fn : Func} {p u v : Tmp} (h : fn.results = #[.cell p 111, .tmp u, .tmp v]) (tmps : Array Value) (w : World) (g : Nat) (t : TypeId) (a b : Value) (fr : Nat × Nat)
    (hp : tmps.getD p undef = .pointer (some ⟨g, 0, none⟩)) (hg : w.heap[g]? = some (.cells #[a, b] t fr)) :
    (results fn tmps).run Tryz.prog w = .ok (.tuple #[.agg #[a, b], tmps.getD u undef, tmps.getD v undef]) w := by
  have hp' : tmps[p]?.getD undef = .pointer (some ⟨g, 0, none⟩) := by simpa using hp
  simp [results, h, hp', asAddr, load_rec w g t a b fr hg]
theorem list16' {l : List UInt8} (h : l.length = 16) : ∃ b0 b1 b2 b3 b4 b5 b6 b7 b8 b9 b10 b11 b12 b13 b14 b15, l = [b0, b1, b2, b3, b4, b5, b6, b7, b8, b9, b10, b11, b12, b13, b14, b15] := list16 h
theorem drop_take16 (s : ByteArray) (a k : Nat) (h : a + k ≤ 16) : ((s.data.toList.take 16).drop a).take k = (s.data.toList.drop a).take k := by
  rw [List.drop_take, List.take_take, Nat.min_eq_left (by omega)]
set_option maxRecDepth 100000 in
set_option maxHeartbeats 4000000 in
theorem Decode_short (s : ByteArray) (h : s.size < 16) (w : World) :
    Calls Tryz.prog 86 #[.string s] w fun e w' => e = .returned (.tuple #[recV Rec.zero, .int .i64 0, .int .i64 100]) ∧ Ext w w' := by
  go_enter Tryz.func86, Tryz.ntmps86
  go_wp2
  exact bodyPost_ret (results_rec rfl _ _ w.heap.size 111 _ _ (0, 0) rfl (heap_alloc_new w _)) rfl ⟨rfl, (Ext.refl w).alloc _⟩
theorem array_at (a : Option Addr) (c : Nat) (u : World) : (Instr.arrayAt 150 (.slice a 16 c)).run Tryz.prog u = .ok (.pointer a) u := by
  simp [Instr.arrayAt, run_underlying Tryz.underlying150]
set_option maxRecDepth 100000 in
set_option maxHeartbeats 4000000 in
theorem Decode_full (s : ByteArray) (h : ¬ s.size < 16) (hs : s.size ≤ 1000000) (w : World) :
    Calls Tryz.prog 86 #[.string s] w fun e w' => e = .returned (.tuple #[recV (decF s).1, .int .i64 ((decF s).2.1 : Int), .int .i64 ((decF s).2.2 : Int)]) ∧ Ext w w' := by
  have hz := zero_runF zeroH
  have hc16 : ∀ u : World, (Instr.slice 9 (.string s) none (some (.int .i64 16)) none).run Tryz.prog u = .ok (.string (s.extract 0 16)) u := fun u => cut_to s 16 (by omega) u
  have hsz : (s.extract 0 16).size = 16 := by rw [ByteArray.size_extract]; omega
  have hll : (s.extract 0 16).data.toList = s.data.toList.take 16 := by rw [cut_list]; rfl
  have hl16 : (s.data.toList.take 16).length = 16 := by rw [List.length_take, size_list]; omega
  obtain ⟨W1, hW1⟩ : ∃ W1, w.alloc (.cells #[.int .u64 0, .string ⟨#[]⟩] 111) = W1 := ⟨_, rfl⟩
  have hB1 : Blk W1 w.heap.size 111 [.int .u64 0, .string ⟨#[]⟩] := by rw [← hW1]; exact Blk.new w _ _
  have hX1 : Ext w W1 := by rw [← hW1]; exact (Ext.refl w).alloc _
  obtain ⟨c, W2, hcv, hcc, hx2, hrow⟩ := bytes_of_text W1 (s.extract 0 16)
  rw [hsz] at hcv
  rw [hll] at hrow
  obtain ⟨b0, b1, b2, b3, b4, b5, b6, b7, b8, b9, b10, b11, b12, b13, b14, b15, hL⟩ := list16 hl16
  rw [hL] at hrow
  have d0 : W2.cell? ⟨W1.heap.size, 0, none⟩ = some (.int .u8 (b0.toNat : Int)) := hrow.cell 0 _ rfl
  have d1 : W2.cell? ⟨W1.heap.size, 1, none⟩ = some (.int .u8 (b1.toNat : Int)) := hrow.cell 1 _ rfl
  have d2 : W2.cell? ⟨W1.heap.size, 2, none⟩ = some (.int .u8 (b2.toNat : Int)) := hrow.cell 2 _ rfl
  have d3 : W2.cell? ⟨W1.heap.size, 3, none⟩ = some (.int .u8 (b3.toNat : Int)) := hrow.cell 3 _ rfl
  have d4 : W2.cell? ⟨W1.heap.size, 4, none⟩ = some (.int .u8 (b4.toNat : Int)) := hrow.cell 4 _ rfl
  have d5 : W2.cell? ⟨W1.heap.size, 5, none⟩ = some (.int .u8 (b5.toNat : Int)) := hrow.cell 5 _ rfl
  have d6 : W2.cell? ⟨W1.heap.size, 6, none⟩ = some (.int .u8 (b6.toNat : Int)) := hrow.cell 6 _ rfl
  have d7 : W2.cell? ⟨W1.heap.size, 7, none⟩ = some (.int .u8 (b7.toNat : Int)) := hrow.cell 7 _ rfl
  have d8 : W2.cell? ⟨W1.heap.size, 8, none⟩ = some (.int .u8 (b8.toNat : Int)) := hrow.cell 8 _ rfl
  have d9 : W2.cell? ⟨W1.heap.size, 9, none⟩ = some (.int .u8 (b9.toNat : Int)) := hrow.cell 9 _ rfl
  have d10 : W2.cell? ⟨W1.heap.size, 10, none⟩ = some (.int .u8 (b10.toNat : Int)) := hrow.cell 10 _ rfl
  have d11 : W2.cell? ⟨W1.heap.size, 11, none⟩ = some (.int .u8 (b11.toNat : Int)) := hrow.cell 11 _ rfl
  have d12 : W2.cell? ⟨W1.heap.size, 12, none⟩ = some (.int .u8 (b12.toNat : Int)) := hrow.cell 12 _ rfl
  have d13 : W2.cell? ⟨W1.heap.size, 13, none⟩ = some (.int .u8 (b13.toNat : Int)) := hrow.cell 13 _ rfl
  have d14 : W2.cell? ⟨W1.heap.size, 14, none⟩ = some (.int .u8 (b14.toNat : Int)) := hrow.cell 14 _ rfl
  have d15 : W2.cell? ⟨W1.heap.size, 15, none⟩ = some (.int .u8 (b15.toNat : Int)) := hrow.cell 15 _ rfl
  have hl : [b0, b1, b2, b3, b4, b5, b6, b7, b8, b9, b10, b11, b12, b13, b14, b15].length = 16 := rfl
  have hat := fun u => array_at (some ⟨W1.heap.size, 0, none⟩) c u
  have hB2 := hB1.ext hx2
  have hX2 := hX1.trans hx2
  have HB2 := Lib.hid hB2; have HX2 := Lib.hid hX2
  have hN : ∀ a k, a + k ≤ 16 → num (([b0, b1, b2, b3, b4, b5, b6, b7, b8, b9, b10, b11, b12, b13, b14, b15].drop a).take k) = numAt s a k := fun a k hak => by
    rw [← hL, drop_take16 s a k hak]; rfl
  have HN := Lib.hid hN
  have HT12 : Hid ([b0, b1, b2, b3, b4, b5, b6, b7, b8, b9, b10, b11, b12, b13, b14, b15].take 12 = s.data.toList.take 12) := Lib.hid (by rw [← hL, List.take_take]; rfl)
  clear hrow hB1 hX1 hB2 hX2 hx2 hcc hll hl16 hN
  go_enter Tryz.func86, Tryz.ntmps86
  go_upto_region 4 with (refine wpList_store_row rfl 150 (.tmp 5) (.tmp 17) rfl W2.heap.size ([b0, b1, b2, b3, b4, b5, b6, b7, b8, b9, b10, b11, b12, b13, b14, b15].map cellOf).toArray rfl rfl 150 _ (Row.zH W2 150) (sizedH hl) (by simp) (cells8_one _) ?_)
  obtain ⟨W3, hW3⟩ : ∃ W3, (W2.alloc (.cells zH 150)).setRow W2.heap.size ([b0, b1, b2, b3, b4, b5, b6, b7, b8, b9, b10, b11, b12, b13, b14, b15].map cellOf).toArray = W3 := ⟨_, rfl⟩
  obtain ⟨G, hG⟩ : ∃ G, G = W2.heap.size := ⟨_, rfl⟩
  have hR3 : Row W3 G 150 [b0, b1, b2, b3, b4, b5, b6, b7, b8, b9, b10, b11, b12, b13, b14, b15] := by rw [← hW3, hG]; exact setRow_heap _ _ _ _ _ _ (Row.zH W2 150)
  have hx3 : Ext W2 W3 := by rw [← hW3]; exact ((Ext.refl W2).alloc _).setRow (Nat.le_refl _) _
  have hb3 := HB2.out.ext hx3
  have HX3 := Lib.hid (HX2.out.trans hx3)
  rw [hW3, ← hG]
  simp only [Act.put]
  have HNum := Lib.hid (fun (u : World) (hu : Row u G 150 [b0, b1, b2, b3, b4, b5, b6, b7, b8, b9, b10, b11, b12, b13, b14, b15]) (o k c : Nat) (hk : k ≤ 8) (hok : o + k ≤ 16) => (by have h := number_any G o k c hk 150 [b0, b1, b2, b3, b4, b5, b6, b7, b8, b9, b10, b11, b12, b13, b14, b15] hok u hu; rw [HN.out o k hok] at h; exact h : Calls Tryz.prog 100 #[.slice (some ⟨G, o, none⟩) k c] u fun e w' => e = .returned (.int .u64 (numAt s o k : Int)) ∧ u = w'))
  have c0 := hb3.cell 0 _ rfl
  have c1 := hb3.cell 1 _ rfl
  have f0 := hb3.frozen 0
  have f1 := hb3.frozen 1
  have HB3 := Lib.hid hb3; have HR3 := Lib.hid hR3
  have HSum := Lib.hid (fun (q : ByteArray) (hq : q.size ≤ 1000000) (u : World) => fsum_any [b0, b1, b2, b3, b4, b5, b6, b7, b8, b9, b10, b11, b12, b13, b14, b15] hl q (Nat.le_trans hq (by decide)) u)
  rw [HT12.out] at HSum
  have hm32 := numAt_lt s 0 4 (by omega)
  clear d0 d1 d2 d3 d4 d5 d6 d7 d8 d9 d10 d11 d12 d13 d14 d15 hc16 hsz hcv hat hW3 hG hW1 hb3 hR3 hx3 HB2 HX2 HT12 hL HN hz
  have HA := Lib.hid (HNum.out _ HR3.out 0 4 16 (by decide) (by decide))
  by_cases h2 : 65536 < numAt s 0 4
  · have HDF := Lib.hid (decF_long h h2)
    clear HSum
    generalize numAt s 0 4 = m at *
    go_wp2_with (go_at_call 100; refine (HA.out).mono ?_; rintro e w4 ⟨rfl, rfl⟩)
    exact bodyPost_ret (results_rec rfl _ _ w.heap.size 111 _ _ (0, 0) rfl ((HB3.out.set_ 0 _).set_ 1 _)) rfl ⟨by rw [HDF.out]; rfl, (HX3.out.setCell (p := ⟨w.heap.size, 0, none⟩) (Nat.le_refl _) _).setCell (p := ⟨w.heap.size, 1, none⟩) (Nat.le_refl _) _⟩
  by_cases h3 : s.size < 16 + numAt s 0 4
  · have HDF := Lib.hid (decF_torn h h2 h3)
    clear HSum
    have hm : numAt s 0 4 < 65537 := by omega
    have hwm : IntKind.i64.wrap (numAt s 0 4 : Int) = (numAt s 0 4 : Int) := IntWalk.i64_in _ ⟨by omega, by omega⟩
    generalize numAt s 0 4 = m at *
    go_wp2_with (go_at_call 100; refine (HA.out).mono ?_; rintro e w4 ⟨rfl, rfl⟩)
    exact bodyPost_ret (results_rec rfl _ _ w.heap.size 111 _ _ (0, 0) rfl ((HB3.out.set_ 0 _).set_ 1 _)) rfl ⟨by rw [HDF.out]; rfl, (HX3.out.setCell (p := ⟨w.heap.size, 0, none⟩) (Nat.le_refl _) _).setCell (p := ⟨w.heap.size, 1, none⟩) (Nat.le_refl _) _⟩
  have hm : numAt s 0 4 < 65537 := by omega
  have hwm : IntKind.i64.wrap (numAt s 0 4 : Int) = (numAt s 0 4 : Int) := IntWalk.i64_in _ ⟨by omega, by omega⟩
  have hcm : ∀ u : World, (Instr.slice 9 (.string s) (some (.int .i64 16)) (some (.int .i64 (16 + (numAt s 0 4 : Int)))) none).run Tryz.prog u = .ok (.string (s.extract 16 (16 + numAt s 0 4))) u := fun u => by
    have := cut_mid s 16 (16 + numAt s 0 4) (by omega) (by omega) u
    rw [Int.natCast_add] at this
    exact this
  have hlt : (s.extract 16 (16 + numAt s 0 4)).data.toList = (s.data.toList.drop 16).take (numAt s 0 4) := by rw [cut_list, Nat.add_sub_cancel_left]
  have HSm := Lib.hid (fun u => HSum.out (s.extract 16 (16 + numAt s 0 4)) (by rw [ByteArray.size_extract]; omega) u)
  rw [hlt] at HSm
  have HCl := Lib.hid (fun u => copied (s.extract 16 (16 + numAt s 0 4)) (by rw [ByteArray.size_extract]; omega) u)
  have HSd : Hid (Sums s ↔ numAt s 12 4 = sumN (s.data.toList.take 12 ++ (s.data.toList.drop 16).take (numAt s 0 4))) := Lib.hid Iff.rfl
  have HD := Lib.hid (fun h4 => decF_ok h h2 h3 h4)
  have HE := Lib.hid (fun h4 => decF_sum h h2 h3 h4)
  have hau := Tryz.underlying150
  have hszz : (Tryz.prog.info? 150).map (·.size) = some ([b0, b1, b2, b3, b4, b5, b6, b7, b8, b9, b10, b11, b12, b13, b14, b15].map cellOf).length := sizeH
  have HRg := Lib.hid (fun u (hu : Row u G 150 [b0, b1, b2, b3, b4, b5, b6, b7, b8, b9, b10, b11, b12, b13, b14, b15]) => hu.blk.range 0 ([b0, b1, b2, b3, b4, b5, b6, b7, b8, b9, b10, b11, b12, b13, b14, b15].map cellOf) (fun j v hv => by rw [Nat.zero_add]; exact hv))
  have HN12 := Lib.hid (fun u hu => HNum.out u hu 12 4 4 (by decide) (by decide))
  have HN8 := Lib.hid (fun u hu => HNum.out u hu 4 8 12 (by decide) (by decide))
  unfold headV at HSm
  clear HSum hlt HNum
  generalize hms : sumN (s.data.toList.take 12 ++ (s.data.toList.drop 16).take (numAt s 0 4)) = ms at *
  clear hms
  generalize s.extract 16 (16 + numAt s 0 4) = T at *
  generalize numAt s 12 4 = ma at *
  generalize numAt s 4 8 = mn at *
  generalize numAt s 0 4 = m at *
  go_upto_region 11 with (go_at_call 100; refine (HA.out).mono ?_; rintro e w4 ⟨rfl, rfl⟩)
  have hS : W3.drew.rangeAt G 0 ([b0, b1, b2, b3, b4, b5, b6, b7, b8, b9, b10, b11, b12, b13, b14, b15].map cellOf) ∧ Row W3.drew G 150 [b0, b1, b2, b3, b4, b5, b6, b7, b8, b9, b10, b11, b12, b13, b14, b15] ∧ Ext W3 W3.drew := ⟨HRg.out _ HR3.out.drew, HR3.out.drew, (Ext.refl W3).drew⟩
  clear c0 c1 f0 f1
  go_region_held3 (fun u => u.rangeAt G 0 ([b0, b1, b2, b3, b4, b5, b6, b7, b8, b9, b10, b11, b12, b13, b14, b15].map cellOf) ∧ Row u G 150 [b0, b1, b2, b3, b4, b5, b6, b7, b8, b9, b10, b11, b12, b13, b14, b15] ∧ Ext W3 u) (first | exact hS | exact hS5 | assumption | go_keep) (first
    | (go_at_call 100; refine (HN12.out _ (by assumption)).mono ?_; rintro e w5 ⟨rfl, rfl⟩)
    | (go_at_call 101; refine (HSm.out _).mono ?_; rintro e w5 ⟨rfl, x5⟩; have hS5 : w5.rangeAt G 0 ([b0, b1, b2, b3, b4, b5, b6, b7, b8, b9, b10, b11, b12, b13, b14, b15].map cellOf) ∧ Row w5 G 150 [b0, b1, b2, b3, b4, b5, b6, b7, b8, b9, b10, b11, b12, b13, b14, b15] ∧ Ext W3 w5 := ⟨HRg.out _ (hS.2.1.ext x5), hS.2.1.ext x5, hS.2.2.trans x5⟩))
  have HX5 := Lib.hid (HX3.out.trans hS5.2.2)
  have HR5 := Lib.hid hS5.2.1
  have hb5 := HB3.out.ext hS5.2.2
  clear hS hS5 x5
  have c0 := hb5.cell 0 _ rfl
  have c1 := hb5.cell 1 _ rfl
  have f0 := hb5.frozen 0
  have f1 := hb5.frozen 1
  have HB5 := Lib.hid hb5
  clear hb5
  by_cases h4 : ma = ms
  · have HDF := Lib.hid (HD.out (HSd.out.2 h4))
    subst h4
    clear HE HD HSd HRg HN12 HSm hau hszz
    go_wp2_with (first
      | (go_at_call 100; refine (HN8.out _ HR5.out).mono ?_; rintro e w6 ⟨rfl, rfl⟩)
      | (go_at_call 97; refine (HCl.out _).mono ?_; rintro e w7 ⟨rfl, x7⟩; have hb7 := HB5.out.ext x7; have k0 := hb7.cell 0 _ rfl; have k1 := hb7.cell 1 _ rfl; have q0 := hb7.frozen 0; have q1 := hb7.frozen 1; have HB7 := Lib.hid hb7; have HX7 := Lib.hid (HX5.out.trans x7); clear c0 c1 f0 f1 hb7 x7))
    exact bodyPost_ret (results_rec rfl _ _ w.heap.size 111 _ _ (0, 0) rfl ((HB7.out.set_ 0 _).set_ 1 _)) rfl ⟨by rw [HDF.out]; rfl, (HX7.out.setCell (p := ⟨w.heap.size, 0, none⟩) (Nat.le_refl _) _).setCell (p := ⟨w.heap.size, 1, none⟩) (Nat.le_refl _) _⟩
  · have HDF := Lib.hid (HE.out (fun k => h4 (HSd.out.1 k)))
    have hne : ((ma : Int) != (ms : Int)) = true := by
      have q : ¬ (ma : Int) = (ms : Int) := by omega
      simpa using q
    clear HE HD HSd HRg HN12 HSm hau hszz
    go_wp2
    exact bodyPost_ret (results_rec rfl _ _ w.heap.size 111 _ _ (0, 0) rfl ((HB5.out.set_ 0 _).set_ 1 _)) rfl ⟨by rw [HDF.out]; rfl, (HX5.out.setCell (p := ⟨w.heap.size, 0, none⟩) (Nat.le_refl _) _).setCell (p := ⟨w.heap.size, 1, none⟩) (Nat.le_refl _) _⟩
theorem Decode_any (s : ByteArray) (hs : s.size ≤ 1000000) (w : World) :
    Calls Tryz.prog 86 #[.string s] w fun e w' => e = .returned (.tuple #[recV (decF s).1, .int .i64 ((decF s).2.1 : Int), .int .i64 ((decF s).2.2 : Int)]) ∧ Ext w w' := by
  by_cases h : s.size < 16
  · rw [decF_short h]
    exact Decode_short s h w
  · exact Decode_full s h hs w
end Go.Proofs.YtbekdcpdfmfopaaGreat
