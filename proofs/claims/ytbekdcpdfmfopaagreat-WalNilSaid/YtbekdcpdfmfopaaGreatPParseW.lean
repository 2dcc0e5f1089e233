/- Contract: the segment in front of bytes, by the program: its records. -/
import Derived.Test.YtbekdcpdfmfopaaGreatM23
namespace Go.Proofs.YtbekdcpdfmfopaaGreat
open Go.RowKit

set_option maxRecDepth 100000 in
set_option maxHeartbeats 8000000 in
theorem Parse_ok (s : ByteArray) (hs : s.size ≤ 1000000) (r0 : Rec) (u0 : Nat) (hd : decF s = (r0, u0, 0)) (k g : Nat) (t : ByteArray) (hb0 : begF r0 = some (k, g, t)) (w : World) :
    Calls Tryz.prog 68 #[.string s] w fun e w' => ∃ p c, e = .returned (.tuple #[segV (segP s r0.n u0 k g t) (.slice p (segP s r0.n u0 k g t).r.length c), .int .i64 0]) ∧ Ext w w' ∧ TextsP w' p (segP s r0.n u0 k g t).r := by
  have HD := Lib.hid (fun u => Decode_any s hs u)
  have hsz := (decF_itm s).1
  have hn64 := (decF_itm s).2.1
  have hus := (decF_used s (by rw [hd])).2.1
  rw [hd] at HD hsz hn64 hus
  dsimp only at HD hsz hn64 hus
  unfold recV at HD
  rw [show ((0 : Nat) : Int) = 0 from rfl] at HD
  have HG := Lib.hid (fun u => begun_any r0.n r0.t (by omega) u)
  rw [show (⟨r0.n, r0.t⟩ : Rec) = r0 from rfl, hb0] at HG
  unfold begV segV at HG
  dsimp only at HG
  have hcut := fun u => cut_from s u0 hus u
  have HSc := Lib.hid (fun u => Scan_any u (s.extract u0 s.size) (by rw [ByteArray.size_extract]; omega) r0.n hn64)
  have hLl : (scanF (s.extract u0 s.size) r0.n).1.length ≤ 1000000 := Nat.le_trans (scanF_length _ _) (by rw [ByteArray.size_extract]; omega)
  have HLs := Lib.hid (scanF_size (s.extract u0 s.size) r0.n)
  have HLn := Lib.hid (scanF_num (s.extract u0 s.size) r0.n)
  obtain ⟨X, hX⟩ : ∃ X, X = segP s r0.n u0 k g t := ⟨_, rfl⟩
  rw [← hX]
  have HX := Lib.hid hX
  clear hX hb0 hd
  have hb : Blk (w.alloc (.cells zero7.toArray 119)) w.heap.size 119 zero7 := Blk.new w _ _
  have HB := Lib.hid hb
  have HE := Lib.hid ((Ext.refl w).alloc (.cells zero7.toArray 119))
  clear hb
  unfold zero7 at HB HE
  go_enter Tryz.func68, Tryz.ntmps68
  go_wp2_with (first
    | (go_at_call 86; refine (HD.out _).mono ?_; rintro e w1 ⟨rfl, x1⟩; have HB1 := Lib.hid ((HB.out.ext x1).alloc (.cells #[.int .u64 (r0.n : Int), .string r0.t] 111)); have X1 := Lib.hid (HE.out.trans x1); have hr1 := Blk.new w1 [.int .u64 (r0.n : Int), .string r0.t] 111; have q0 := hr1.cell 0 _ rfl; have q1 := hr1.cell 1 _ rfl; clear x1 hr1)
    | (go_at_call 87; refine (HG.out _).mono ?_; rintro e w2 ⟨rfl, x2⟩; have HXB := Lib.hid (Nat.lt_of_lt_of_le HB1.out.lt x2.size); have HB2 := Lib.hid ((HB1.out.ext x2).alloc (.cells #[.int .u8 (k : Int), .int .u64 (g : Int), .int .u64 (r0.n : Int), .string t, .slice none 0 0, .int .i64 (u0 : Int), .bool false] 119)); have X2 := Lib.hid (((X1.out.alloc (.cells #[.int .u64 (r0.n : Int), .string r0.t] 111)).trans x2).alloc (.cells #[.int .u8 (k : Int), .int .u64 (g : Int), .int .u64 (r0.n : Int), .string t, .slice none 0 0, .int .i64 (u0 : Int), .bool false] 119)); have HZ2 := Lib.hid (Blk.new w2 [.int .u8 (k : Int), .int .u64 (g : Int), .int .u64 (r0.n : Int), .string t, .slice none 0 0, .int .i64 (u0 : Int), .bool false] 119); clear x2))
  have HXS : Hid (w2.heap.size < (w2.alloc (.cells #[.int .u8 (k : Int), .int .u64 (g : Int), .int .u64 (r0.n : Int), .string t, .slice none 0 0, .int .i64 (u0 : Int), .bool false] 119)).heap.size) := Lib.hid (by simp)
  generalize (w2.alloc (.cells #[.int .u8 (k : Int), .int .u64 (g : Int), .int .u64 (r0.n : Int), .string t, .slice none 0 0, .int .i64 (u0 : Int), .bool false] 119)) = W3 at *
  generalize w2.heap.size = XB at *
  have x0 : Ext W3 W3.drew := (Ext.refl W3).drew
  have q2 := HZ2.out.cell 2 _ rfl
  have hS : W3.drew.cell? ⟨XB, 2, none⟩ = some (.int .u64 (r0.n : Int)) ∧ Ext W3 W3.drew := ⟨q2, x0⟩
  obtain ⟨R, hR⟩ : ∃ R, R = (scanF (s.extract u0 s.size) r0.n) := ⟨_, rfl⟩
  rw [← hR] at HSc hLl HLs HLn
  have HR := Lib.hid hR
  clear hR q0 q1
  obtain ⟨L, ra, rb⟩ := R
  dsimp only at HSc hLl HLs HLn
  clear HB1 X1
  go_region_held3 (fun u => u.cell? ⟨XB, 2, none⟩ = some (.int .u64 (r0.n : Int)) ∧ Ext W3 u) (first | exact hS | exact hS4 | assumption | go_keep) (first
    | (go_at_call 88; refine (HSc.out _).mono ?_; rintro e w4 ⟨v, rfl, x4, hv4⟩; obtain ⟨p, c, rfl, hp4, hpB⟩ := hv4.recs; have y4 := Ext.trans (a := W3) (by assumption) x4; have hS4 := (⟨(HZ2.out.ext y4).cell 2 _ rfl, y4⟩ : w4.cell? ⟨XB, 2, none⟩ = some (.int .u64 (r0.n : Int)) ∧ Ext W3 w4)))
  have HPB : Hid (∀ q, p = some q → XB < q.block) := Lib.hid (fun q hq => Nat.lt_of_lt_of_le HXS.out (hpB q hq))
  clear hpB
  have HP4 := Lib.hid hp4; have X4 := Lib.hid (X2.out.trans y4); have HB4 := Lib.hid (HB2.out.ext y4); have HZ4 := Lib.hid (HZ2.out.ext y4)
  have HS4 := Lib.hid (Nat.lt_of_lt_of_le HXS.out y4.size)
  clear hS hS4 hp4 hv4 x4 x0 q2 y4 HB2 HZ2 X2 HXS
  go_wp2
  have HB0 : Hid (XB < w4.heap.size) := HS4
  obtain ⟨B, hBd⟩ : ∃ B, B = w4.heap.size := ⟨_, rfl⟩
  have HBd := Lib.hid hBd
  rw [← hBd] at HB0 HS4
  clear hBd
  go_loopw [46] (fun i wr => ∃ (j uj : Nat) (q : Option Addr) (c' : Nat), j ≤ L.length ∧ i = .int .i64 (j : Int) ∧ Hid (∀ i r, i < j → L[i]? = some r → r.n ≤ 281474976710656) ∧ Hid (uj = u0 + lenRs (L.take j)) ∧
    Hid (Blk wr XB 119 [.int .u8 (k : Int), .int .u64 (g : Int), .int .u64 (r0.n : Int), .string t, .slice q j c', .int .i64 (uj : Int), .bool false]) ∧ Hid (BufS wr B (.slice q j c') (txtR (L.take j))) ∧
    Hid (Blk wr w.heap.size 119 zero7) ∧ Hid (Ext w wr) ∧ Hid (∀ g, XB < g → g < B → wr.heap[g]? = w4.heap[g]?) ∧ Hid (B ≤ wr.heap.size)) (fun i _ => L.length - (intOf i).toNat)
  case atStart => exact ⟨0, u0, none, 0, Nat.zero_le _, rfl, Lib.hid (fun i r hi => by omega), Lib.hid (by simp [lenRs]), HZ4, Lib.hid (BufS.nil _ _), HB4, X4, Lib.hid (fun _ _ _ => rfl), Lib.hid (Nat.le_of_eq HBd.out)⟩
  case round =>
    obtain ⟨j, uj, q, c', hj, rfl, hlo, huj, hz, hs', hb, hx, hmid, hBw⟩ := hrel
    by_cases hlt : j < L.length
    · obtain ⟨r, hr⟩ : ∃ r, L[j]? = some r := ⟨_, List.getElem?_eq_getElem hlt⟩
      obtain ⟨pq, rfl, hq4, e0, e1⟩ := HP4.out j r hr
      have hqX := HPB.out _ rfl
      have hqm := hmid.out pq hqX (by rw [HBd.out]; exact hq4)
      have m0 := (World.cell?_of_block (a := ⟨pq, j * 2, none⟩) hqm).trans e0
      have m1 := (World.cell?_of_block (a := ⟨pq, j * 2 + 1, none⟩) hqm).trans e1
      have HSnoc := Lib.hid (take_snoc' L j r hr)
      have hrs := HLs.out r (List.mem_of_getElem? hr)
      have HRr := Lib.hid hr
      have hbx := Blk.new wr [.int .u64 (r.n : Int), .string r.t] 111
      have HOwn : Hid (∀ b, (Value.slice q j c').ownBlock = some b → b < wr.heap.size) := Lib.hid (fun b hb' => (World.ownsRow.lt hs'.out b hb').2)
      have HZ1 := Lib.hid (hz.out.alloc (.cells #[.int .u64 (r.n : Int), .string r.t] 111))
      have HS1 := Lib.hid (hs'.out.ext ((Ext.refl wr).alloc (.cells #[.int .u64 (r.n : Int), .string r.t] 111)))
      have HB1 := Lib.hid (hb.out.alloc (.cells #[.int .u64 (r.n : Int), .string r.t] 111))
      have HX1 := Lib.hid (hx.out.alloc (.cells #[.int .u64 (r.n : Int), .string r.t] 111))
      have HM1 : Hid (∀ g, XB < g → g < B → (wr.alloc (.cells #[.int .u64 (r.n : Int), .string r.t] 111)).heap[g]? = w4.heap[g]?) := Lib.hid (fun g h1 h2 => (Below.heap_alloc wr _ g (Nat.lt_of_lt_of_le h2 hBw.out)).trans (hmid.out g h1 h2))
      have HW1 : Hid (B ≤ (wr.alloc (.cells #[.int .u64 (r.n : Int), .string r.t] 111)).heap.size) := Lib.hid (by have := hBw.out; simp; omega)
      have HBX := Lib.hid hbx
      have HBB := Lib.hid hBw.out
      have k0 := hbx.cell 0 _ rfl
      clear hr hqX hqm e0 e1 hbx
      go_upto_region 12 with (fail)
      clear m0 m1 hz hs' hb hx hmid hBw hq4
      generalize (wr.alloc (.cells #[.int .u64 (r.n : Int), .string r.t] 111)) = W1 at *
      generalize wr.heap.size = BX at *
      by_cases hbig : r.n ≤ 281474976710656
      · have hbi : ¬ (281474976710656 : Int) < (r.n : Int) := by omega
        have hlj : (txtR (L.take j)).length = j := by rw [txtR_length, List.length_take, Nat.min_eq_left hj]
        have HLJ := Lib.hid hlj
        have HSz := Lib.hid (fun u => Size_any r.t (by omega) u)
        have k1 := HBX.out.cell 1 _ rfl
        have c4 := HZ1.out.cell 4 _ rfl
        obtain ⟨uj2, huj2⟩ : ∃ u, u = uj + (16 + r.t.size) := ⟨_, rfl⟩
        have hul := lenRs_le (L.take j) (fun x hx => HLs.out x (List.mem_of_mem_take hx))
        have hujo := huj.out
        have hLj : (L.take j).length ≤ 1000000 := by rw [List.length_take]; omega
        have hws : IntKind.i64.wrap ((uj : Int) + (16 + (r.t.size : Int))) = (uj2 : Int) := by
          rw [IntWalk.i64_in _ ⟨by omega, by omega⟩]; omega
        have HU2 : Hid (uj2 = u0 + lenRs (L.take (j + 1))) := Lib.hid (by rw [HSnoc.out, lenRs_snoc]; omega)
        have HLo2 : Hid (∀ i r, i < j + 1 → L[i]? = some r → r.n ≤ 281474976710656) := Lib.hid (fun i x hi hx => by
          by_cases hij : i = j
          · rw [hij, HRr.out] at hx; cases hx; exact hbig
          · exact hlo.out i x (by omega) hx)
        have HZ2 := Lib.hid (HZ1.out.alloc (.cells #[.string r.t] 9))
        have hj6 : j ≤ 1000000 := by omega
        clear hul hujo hLj huj2 hlj hlo huj hbig
        go_wp2_with (refine append_textG rfl (.tmp 54) (.tmp 57) rfl B (.slice q j c') (txtR (L.take j)) rfl (HS1.out.ext ((Ext.refl W1).alloc (.cells #[.string r.t] 9))) W1.heap.size r.t rfl (Blk.cell (Blk.new W1 [.string r.t] 9) 0 _ rfl) (by rw [HLJ.out]; exact hj6) (by have := HW1.out; simp; omega) ?_; intro p2 c2 w5 hb5 ht5 hx5 hg5; rw [HLJ.out] at hb5 ⊢; have hz5 := HZ2.out.below hx5 HB0.out; have f4 := hz5.frozen 4; have l4 := hz5.cell 4 _ rfl; have hz6 := hz5.set_ 4 (.slice p2 (j + 1) c2); have n5 := hz6.cell 5 _ rfl; have nf5 := hz6.frozen 5; have hb6 : Blk w5 BX 111 [.int .u64 (r.n : Int), .string r.t] := (hg5.block BX (by have := HBX.out.lt; simp; omega) (fun e => by have := HOwn.out BX e.symm; omega)).trans (HBX.out.alloc _); have hb7 := hb6.other (g := XB) (by have h1 := HBB.out; have h2 := HB0.out; omega) 4 (.slice p2 (j + 1) c2); have n1 := hb7.cell 1 _ rfl; have HB5 := Lib.hid hb5; have HX5 := Lib.hid hx5; have HZ6 := Lib.hid hz6; clear hb5 ht5 hx5 hz5 hz6 hg5 hb6 hb7 k0 k1 c4)
        have HS6 : Hid (BufS (w5.setCell ⟨XB, 4, none⟩ (.slice p2 (j + 1) c2)) B (.slice p2 (j + 1) c2) (txtR (L.take j) ++ [r.t])) := Lib.hid (BufS.low HB5.out HB0.out 4 _)
        have HB6 : Hid (Blk (w5.setCell ⟨XB, 4, none⟩ (.slice p2 (j + 1) c2)) w.heap.size 119 zero7) := Lib.hid (((HB1.out.alloc _).below HX5.out (Nat.lt_trans HXB.out HB0.out)).other (Nat.ne_of_lt HXB.out) 4 _)
        have HX6 : Hid (Ext w (w5.setCell ⟨XB, 4, none⟩ (.slice p2 (j + 1) c2))) := Lib.hid (((HX1.out.alloc _).trans3 (Below.mono HX5.out (Nat.le_of_lt (Nat.lt_trans HXB.out HB0.out)))).setCell (p := ⟨XB, 4, none⟩) (Nat.le_of_lt HXB.out) _)
        have HM6 : Hid (∀ g, XB < g → g < B → (w5.setCell ⟨XB, 4, none⟩ (.slice p2 (j + 1) c2)).heap[g]? = w4.heap[g]?) := Lib.hid (fun g h1 h2 =>
          (Below.heap_setCell _ ⟨XB, 4, none⟩ _ g (by show g ≠ XB; omega)).trans ((HX5.out.block g h2).trans ((Below.heap_alloc W1 _ g (Nat.lt_of_lt_of_le h2 HW1.out)).trans (HM1.out g h1 h2))))
        have HW6 : Hid (B ≤ (w5.setCell ⟨XB, 4, none⟩ (.slice p2 (j + 1) c2)).heap.size) := Lib.hid (by
          have h1 := HX5.out.size
          have h2 := HW1.out
          simp [World.setCell] at h1 ⊢
          omega)
        clear l4 f4
        generalize (w5.setCell ⟨XB, 4, none⟩ (.slice p2 (j + 1) c2)) = W6 at *
        go_still_tail 7, (by kernel_rfl)
        still_call ((HSz.out _).mono (fun e w' h => ⟨h.1, h.2.symm⟩))
        repeat still_step
        refine wpStill_nil ?_
        change wpList _ _ _ _ _ W6.drew
        go_wp2
        go_roundw
        case rel =>
          refine ⟨j + 1, uj2, p2, c2, hlt, by go_num, HLo2, HU2, Lib.hid ((HZ6.out.set_ 5 _).drew), Lib.hid ?_, Lib.hid ?_, Lib.hid ?_, Lib.hid ?_, Lib.hid ?_⟩
          · rw [HSnoc.out, txtR_snoc]
            exact BufS.low (w := W6) HS6.out HB0.out 5 _
          · exact (HB6.out.other (Nat.ne_of_lt HXB.out) 5 _).drew
          · exact (HX6.out.setCell (p := ⟨XB, 5, none⟩) (Nat.le_of_lt HXB.out) _).drew
          · exact fun g h1 h2 => (Below.heap_setCell _ ⟨XB, 5, none⟩ _ g (by show g ≠ XB; omega)).trans (HM6.out g h1 h2)
          · have h1 := HW6.out
            simp [World.setCell]
            omega
        case measure => simp [intOf]; omega
      · have hbi : (281474976710656 : Int) < (r.n : Int) := by omega
        have HLow := Lib.hid (lowR_take L j hlo.out (.inr ⟨r, HRr.out, hbig⟩))
        clear hbig
        have hZ6 : Blk (W1.setCell ⟨XB, 6, none⟩ (.bool (decide (uj = s.size)))) XB 119 [.int .u8 (k : Int), .int .u64 (g : Int), .int .u64 (r0.n : Int), .string t, .slice q j c', .int .i64 (uj : Int), .bool (decide (uj = s.size))] := HZ1.out.set_ 6 _
        have hB6 := HB1.out.other (g := XB) (by have := HXB.out; omega) 6 (.bool (decide (uj = s.size)))
        have HXX : Hid (X = ⟨k, g, r0.n, t, txtR (L.take j), (uj : Int), decide (uj = s.size)⟩) := Lib.hid (by
          rw [HX.out]
          unfold segP
          rw [← HR.out]
          dsimp only
          rw [HLow.out, huj.out])
        have hbe : ((uj : Int) == (s.size : Int)) = decide (uj = s.size) := by rw [Bool.eq_iff_iff, beq_iff_eq, decide_eq_true_iff]; omega
        have a5 := HZ1.out.cell 5 _ rfl
        have a6 := HZ1.out.frozen 6
        have a6c := HZ1.out.cell 6 _ rfl
        have z0 := hZ6.cell 0 _ rfl
        have z1 := hZ6.cell 1 _ rfl
        have z2 := hZ6.cell 2 _ rfl
        have z3 := hZ6.cell 3 _ rfl
        have z4 := hZ6.cell 4 _ rfl
        have z5 := hZ6.cell 5 _ rfl
        have z6 := hZ6.cell 6 _ rfl
        have t0 := hB6.cell 0 _ rfl
        have t1 := hB6.cell 1 _ rfl
        have t2 := hB6.cell 2 _ rfl
        have t3 := hB6.cell 3 _ rfl
        have t4 := hB6.cell 4 _ rfl
        have t5 := hB6.cell 5 _ rfl
        have t6 := hB6.cell 6 _ rfl
        have g0 := hB6.frozen 0
        have g1 := hB6.frozen 1
        have g2 := hB6.frozen 2
        have g3 := hB6.frozen 3
        have g4 := hB6.frozen 4
        have g5 := hB6.frozen 5
        have g6 := hB6.frozen 6
        have HB6 := Lib.hid hB6
        clear hB6 hZ6
        generalize decide (uj = s.size) = be at *
        go_wp2
        refine bodyPost_ret (results_seg rfl _ _ w.heap.size 119 _ _ _ _ _ _ _ (0, 0) rfl (Blk.set7 HB6.out _ _ _ _ _ _ _)) rfl ⟨q, c', ?_, Ext.set7 (HX1.out.setCell (p := ⟨XB, 6, none⟩) (Nat.le_of_lt HXB.out) _) (Nat.le_refl _) _ _ _ _ _ _ _, ?_⟩
        · rw [HXX.out]
          unfold segV
          dsimp only
          rw [txtR_length, List.length_take, Nat.min_eq_left hj]
          rfl
        · rw [HXX.out]
          obtain ⟨q2, c2, e2, ht2, hq2, _⟩ := BufS.texts HS1.out
          obtain ⟨rfl, _, _⟩ := Value.slice.inj e2
          exact texts_kept ht2 (fun a ha => (hq2 a ha).1) XB w.heap.size HB0.out HXB.out _ _ _ _ _ _ _ _
    · have HJL := Lib.hid (show j = L.length by omega)
      have hlti : ¬ (j : Int) < (L.length : Int) := by omega
      have HLow := Lib.hid (lowR_take L j hlo.out (.inl HJL.out))
      have hZ6 : Blk (wr.setCell ⟨XB, 6, none⟩ (.bool (decide (uj = s.size)))) XB 119 [.int .u8 (k : Int), .int .u64 (g : Int), .int .u64 (r0.n : Int), .string t, .slice q j c', .int .i64 (uj : Int), .bool (decide (uj = s.size))] := hz.out.set_ 6 _
      have hB6 := hb.out.other (g := XB) (by have := HXB.out; omega) 6 (.bool (decide (uj = s.size)))
      have HXX : Hid (X = ⟨k, g, r0.n, t, txtR (L.take j), (uj : Int), decide (uj = s.size)⟩) := Lib.hid (by
        rw [HX.out]
        unfold segP
        rw [← HR.out]
        dsimp only
        rw [HLow.out, huj.out])
      have hbe : ((uj : Int) == (s.size : Int)) = decide (uj = s.size) := by rw [Bool.eq_iff_iff, beq_iff_eq, decide_eq_true_iff]; omega
      have a5 := hz.out.cell 5 _ rfl
      have a6 := hz.out.frozen 6
      have a6c := hz.out.cell 6 _ rfl
      have z0 := hZ6.cell 0 _ rfl
      have z1 := hZ6.cell 1 _ rfl
      have z2 := hZ6.cell 2 _ rfl
      have z3 := hZ6.cell 3 _ rfl
      have z4 := hZ6.cell 4 _ rfl
      have z5 := hZ6.cell 5 _ rfl
      have z6 := hZ6.cell 6 _ rfl
      have t0 := hB6.cell 0 _ rfl
      have t1 := hB6.cell 1 _ rfl
      have t2 := hB6.cell 2 _ rfl
      have t3 := hB6.cell 3 _ rfl
      have t4 := hB6.cell 4 _ rfl
      have t5 := hB6.cell 5 _ rfl
      have t6 := hB6.cell 6 _ rfl
      have g0 := hB6.frozen 0
      have g1 := hB6.frozen 1
      have g2 := hB6.frozen 2
      have g3 := hB6.frozen 3
      have g4 := hB6.frozen 4
      have g5 := hB6.frozen 5
      have g6 := hB6.frozen 6
      have HB6 := Lib.hid hB6
      clear hB6 hZ6
      generalize decide (uj = s.size) = be at *
      go_wp2
      refine bodyPost_ret (results_seg rfl _ _ w.heap.size 119 _ _ _ _ _ _ _ (0, 0) rfl (Blk.set7 HB6.out _ _ _ _ _ _ _)) rfl ⟨q, ⟨c', ?_⟩, Ext.set7 (hx.out.setCell (p := ⟨XB, 6, none⟩) (Nat.le_of_lt HXB.out) _) (Nat.le_refl _) _ _ _ _ _ _ _, ?_⟩
      · rw [HXX.out]
        unfold segV
        dsimp only
        rw [txtR_length, List.length_take, Nat.min_eq_left hj]
        rfl
      · rw [HXX.out]
        obtain ⟨q2, c2, e2, ht2, hq2, _⟩ := BufS.texts hs'.out
        obtain ⟨rfl, _, _⟩ := Value.slice.inj e2
        exact texts_kept ht2 (fun a ha => (hq2 a ha).1) XB w.heap.size HB0.out HXB.out _ _ _ _ _ _ _ _
theorem Parse_any (s : ByteArray) (hs : s.size ≤ 1000000) (w : World) :
    Calls Tryz.prog 68 #[.string s] w fun e w' => ∃ p c, e = .returned (.tuple #[segV (parseF s).1 (.slice p (parseF s).1.r.length c), .int .i64 ((parseF s).2 : Int)]) ∧ Ext w w' ∧ TextsP w' p (parseF s).1.r := by
  obtain ⟨r0, u0, e0, hd⟩ : ∃ r0 u0 e0, decF s = (r0, u0, e0) := ⟨_, _, _, rfl⟩
  by_cases he : e0 = 0
  · subst he
    cases hb : begF r0 with
    | none =>
      rw [parseF_form (by rw [hd]) (by rw [hd]; exact hb)]
      refine (Parse_form s hs r0 u0 hd hb w).mono ?_
      rintro e w' ⟨rfl, hx⟩
      exact ⟨none, 0, rfl, hx, TextsP.none _⟩
    | some o =>
      obtain ⟨k, g, t⟩ := o
      rw [parseF_ok (k := k) (g := g) (t := t) (by rw [hd]) (by rw [hd]; exact hb), hd]
      exact Parse_ok s hs r0 u0 hd k g t hb w
  · rw [parseF_bad (by rw [hd]; exact he), hd]
    refine (Parse_bad s hs e0 he r0 u0 hd w).mono ?_
    rintro e w' ⟨rfl, hx⟩
    exact ⟨none, 0, rfl, hx, TextsP.none _⟩
end Go.Proofs.YtbekdcpdfmfopaaGreat
