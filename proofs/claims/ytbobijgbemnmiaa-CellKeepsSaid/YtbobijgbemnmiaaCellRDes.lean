/- Contract: the document's Destroy. -/
import Derived.Test.YtbobijgbemnmiaaCellRPut
namespace Go.Proofs.Ytbobijgbemnmiaa
open Go.RowKit

set_option maxRecDepth 100000 in
set_option maxHeartbeats 4000000 in
theorem rdes_any (w : World) (m : Nat) (p : Option Addr) (c : Nat) (L : List Ver) (h : VersP w p L) (hl : L.length ≤ 1000000) (x : Nat) :
    Calls Try.prog 26 #[.agg #[.int .u64 (m : Int), .slice p L.length c], .int .u64 (x : Int)] w fun e w' => ∃ q, (∃ c', e = .returned (.tuple #[.agg #[.int .u64 ((desL m L x).last : Int), .slice q (desL m L x).L.length c'], .int .i64 ((desL m L x).e : Int)])) ∧ VersP w' q (desL m L x).L ∧ Kin w p L q (desL m L x).L ∧ Ext w w' := by
  obtain ⟨n, hn⟩ : ∃ n, L.length = n := ⟨_, rfl⟩
  have HX0 := Lib.hid (((Ext.refl w).alloc (.cells #[.int .u64 (m : Int), .slice p n c] 25)).alloc (.cells #[.int .u64 0, .slice none 0 0] 25))
  have HB1 := Lib.hid ((Blk.new w [.int .u64 (m : Int), .slice p n c] 25).alloc (.cells #[.int .u64 0, .slice none 0 0] 25))
  have HB2 := Lib.hid (Blk.new1V w (.cells #[.int .u64 (m : Int), .slice p n c] 25) [.int .u64 0, .slice none 0 0] 25)
  have HM := Lib.hid (rmay_any _ m p c L (h.ext HX0.out) (by omega))
  have HV := Lib.hid h
  have HNL := Lib.hid hn
  have HA : Hid (∀ u, Ext w u → Calls Try.prog 28 #[.agg #[.int .u64 (m : Int), .slice p n c], .int .u64 (x : Int)] u fun e w' => e = .returned (.int .i64 (atI x L)) ∧ Ext u w') := Lib.hid (fun u y => by
    have := rat_any u m x p c L (h.ext y) (by omega)
    rwa [hn] at this)
  rw [hn] at HM ⊢
  cases hm1 : mayL m L with
  | false =>
    have HF : Hid (desL m L x = ⟨2, m, L⟩) := Lib.hid (by simp [desL, findL_bad hm1])
    rw [hm1] at HM
    clear h hn hm1 hl
    go_enter Try.func26, Try.ntmps26
    go_wp2_with ((go_at_call 15; refine HM.out.mono ?_; rintro e w1 ⟨rfl, x1⟩; have HX1 := Lib.hid (HX0.out.trans x1); have A1 := Lib.hid (HB1.out.ext x1); have A2 := Lib.hid (HB2.out.ext x1); have a0 := A1.out.cell 0 _ rfl; have a1 := A1.out.cell 1 _ rfl; have b0 := A2.out.cell 0 _ rfl; have b1 := A2.out.cell 1 _ rfl; have bf0 := A2.out.frozen 0; have bf1 := A2.out.frozen 1; clear x1))
    exact bodyPost_ret (resV_row_tmp rfl _ _ (w.heap.size + 1) #[.int .u64 (m : Int), .slice p n c] rfl (load_cell _ _ _ _ _ _ ((A2.out.set_ 0 _).set_ 1 _))) rfl ⟨p, ⟨c, by rw [HF.out, HNL.out]; rfl⟩, by rw [HF.out]; exact HV.out.ext ((HX1.out.setCell (p := ⟨w.heap.size + 1, 0, none⟩) (Nat.le_succ _) _).setCell (p := ⟨w.heap.size + 1, 1, none⟩) (Nat.le_succ _) _), .inl ⟨rfl, by rw [HF.out]⟩, (HX1.out.setCell (p := ⟨w.heap.size + 1, 0, none⟩) (Nat.le_succ _) _).setCell (p := ⟨w.heap.size + 1, 1, none⟩) (Nat.le_succ _) _⟩
  | true =>
    rw [hm1] at HM
    cases hp : posL x L with
    | none =>
      have HF : Hid (desL m L x = ⟨3, m, L⟩) := Lib.hid (by simp [desL, findL_none hm1 hp])
      have HI := Lib.hid (atI_none hp)
      rw [HI.out] at HA
      clear h hn hm1 hl hp
      go_enter Try.func26, Try.ntmps26
      go_wp2_with (first | (go_at_call 15; refine HM.out.mono ?_; rintro e w1 ⟨rfl, x1⟩; have HX1 := Lib.hid (HX0.out.trans x1); have A1 := Lib.hid (HB1.out.ext x1); have A2 := Lib.hid (HB2.out.ext x1); have a0 := A1.out.cell 0 _ rfl; have a1 := A1.out.cell 1 _ rfl; have b0 := A2.out.cell 0 _ rfl; have b1 := A2.out.cell 1 _ rfl; have bf0 := A2.out.frozen 0; have bf1 := A2.out.frozen 1; clear x1) | (go_at_call 28; refine (HA.out _ HX1.out).mono ?_; rintro e w2 ⟨rfl, x2⟩; replace HX1 := Lib.hid (HX1.out.trans x2); replace A1 := Lib.hid (A1.out.ext x2); replace A2 := Lib.hid (A2.out.ext x2); have a0 := A1.out.cell 0 _ rfl; have a1 := A1.out.cell 1 _ rfl; have b0 := A2.out.cell 0 _ rfl; have b1 := A2.out.cell 1 _ rfl; have bf0 := A2.out.frozen 0; have bf1 := A2.out.frozen 1; clear x2))
      exact bodyPost_ret (resV_row_tmp rfl _ _ (w.heap.size + 1) #[.int .u64 (m : Int), .slice p n c] rfl (load_cell _ _ _ _ _ _ ((A2.out.set_ 0 _).set_ 1 _))) rfl ⟨p, ⟨c, by rw [HF.out, HNL.out]; rfl⟩, by rw [HF.out]; exact HV.out.ext ((HX1.out.setCell (p := ⟨w.heap.size + 1, 0, none⟩) (Nat.le_succ _) _).setCell (p := ⟨w.heap.size + 1, 1, none⟩) (Nat.le_succ _) _), .inl ⟨rfl, by rw [HF.out]⟩, (HX1.out.setCell (p := ⟨w.heap.size + 1, 0, none⟩) (Nat.le_succ _) _).setCell (p := ⟨w.heap.size + 1, 1, none⟩) (Nat.le_succ _) _⟩
    | some k =>
      obtain ⟨v, hv, -, hkl⟩ := posL_get hp
      have hf := findL_at hm1 hp hv
      have hkn : k < n := by omega
      have HI := Lib.hid (atI_some hp)
      rw [HI.out] at HA
      have Hv := Lib.hid hv
      obtain ⟨ga, rfl, _⟩ := h.three (Ext.refl w) hv
      have hk0 : ¬ (k : Int) < 0 := by omega
      obtain ⟨vn, vs, vt⟩ := v
      by_cases hs : vs = 1
      · have hs1 : (vs : Int) = 1 := by omega
        have HF : Hid (desL m L x = ⟨0, m, L.set k ⟨x, 3, ⟨#[]⟩⟩⟩) := Lib.hid (by simp only [desL]; rw [hf, if_pos hs]; rfl)
        have hn0 : 0 + n ≤ 1000000000 := by omega
        clear h hn hm1 hl hp hf hv hs hkl
        go_enter Try.func26, Try.ntmps26
        go_wp2_with (first | (go_at_call 15; refine HM.out.mono ?_; rintro e w1 ⟨rfl, x1⟩; have HX1 := Lib.hid (HX0.out.trans x1); have A1 := Lib.hid (HB1.out.ext x1); have A2 := Lib.hid (HB2.out.ext x1); have a0 := A1.out.cell 0 _ rfl; have a1 := A1.out.cell 1 _ rfl; have b0 := A2.out.cell 0 _ rfl; have b1 := A2.out.cell 1 _ rfl; have bf0 := A2.out.frozen 0; have bf1 := A2.out.frozen 1; clear x1) | (go_at_call 28; refine (HA.out _ HX1.out).mono ?_; rintro e w2 ⟨rfl, x2⟩; replace HX1 := Lib.hid (HX1.out.trans x2); replace A1 := Lib.hid (A1.out.ext x2); replace A2 := Lib.hid (A2.out.ext x2); have a0 := A1.out.cell 0 _ rfl; have a1 := A1.out.cell 1 _ rfl; have b0 := A2.out.cell 0 _ rfl; have b1 := A2.out.cell 1 _ rfl; have bf0 := A2.out.frozen 0; have bf1 := A2.out.frozen 1; obtain ⟨ga, e', k0, k1, k2⟩ := HV.out.three HX1.out Hv.out; cases e'; have B1 : Hid (Blk (w2.alloc (.cells #[.int .u64 (m : Int), .slice none 0 0] 25)) (w.heap.size + 1) 25 [.int .u64 0, .slice none 0 0]) := Lib.hid (A2.out.alloc _); have B3 : Hid (Blk (w2.alloc (.cells #[.int .u64 (m : Int), .slice none 0 0] 25)) w2.heap.size 25 [.int .u64 (m : Int), .slice none 0 0]) := Lib.hid (Blk.new w2 [.int .u64 (m : Int), .slice none 0 0] 25); have HXB : Hid (Ext w (w2.alloc (.cells #[.int .u64 (m : Int), .slice none 0 0] 25))) := Lib.hid (HX1.out.alloc _); have HSZ : Hid ((w2.alloc (.cells #[.int .u64 (m : Int), .slice none 0 0] 25)).heap.size = w2.heap.size + 1) := Lib.hid (by simp); have HS : Hid (Src Try.prog 3 23 (.slice (some ga) n c) n (vsCells L) (w2.alloc (.cells #[.int .u64 (m : Int), .slice none 0 0] 25))) := Lib.hid (by have := (HV.out.ext HXB.out).src c; rwa [HNL.out] at this); have hlt2 := A2.out.lt; have aB := (A1.out.alloc (.cells #[.int .u64 (m : Int), .slice none 0 0] 25)).cell 1 _ rfl; have n3 : ¬ w.heap.size = w2.heap.size := (by omega); have n3' : ¬ w2.heap.size = w.heap.size := (by omega); clear x2) | (refine wpList_append_sl rfl (.tmp 30) (.tmp 32) 23 23 rfl Try.underlying23 infoV rfl (by decide) rfl (Sl.nil _ (kp none) 1 3 _) (fun u hu => by cases hu) _ rfl n _ HS.out hn0 ?_; intro p4 c4 w4 κ4 s4 f4 e4 x4 o4; rw [Nat.zero_add, List.nil_append] at s4; have HX4 := Lib.hid (x4 rfl); have HV4 : Hid (IsV w4 (w2.heap.size + 1) p4 c4 L) := Lib.hid (isV_new HNL.out s4 (by have := e4; rwa [HSZ.out] at this)); have C1 := Lib.hid (B1.out.ext HX4.out); have C3 := Lib.hid (B3.out.ext HX4.out); have r0 := C1.out.cell 0 _ rfl; have r1 := C1.out.cell 1 _ rfl; have rf0 := C1.out.frozen 0; have rf1 := C1.out.frozen 1; have d0 := C3.out.cell 0 _ rfl; have d1 := C3.out.cell 1 _ rfl; have df0 := C3.out.frozen 0; have df1 := C3.out.frozen 1; have HV5 := Lib.hid (HV4.out.setCell (a := ⟨w2.heap.size, 1, none⟩) (by show w2.heap.size < _; omega) (.slice p4 n c4)); obtain ⟨a', ea, _⟩ := HV5.out.vers.three (Ext.refl _) Hv.out; cases ea; obtain ⟨g, ea, hlow⟩ := HV5.out.block; cases ea; obtain ⟨⟨q0, q1, q2⟩, ⟨l0, l1, l2⟩, j1, j2⟩ := HV5.out.lit (x := ⟨x, 3, ⟨#[]⟩⟩) Hv.out; obtain ⟨⟨r0', r1', r2'⟩, ⟨m0', m1', m2'⟩, _⟩ := HV4.out.lit (x := ⟨x, 3, ⟨#[]⟩⟩) Hv.out; have HV6 := Lib.hid j1; have HK6 := Lib.hid j2; have n0 : ¬ g = w.heap.size + 1 := (by omega); have n0' : ¬ w.heap.size + 1 = g := (by omega); have n1 : ¬ g = w2.heap.size := (by omega); have n1' : ¬ w2.heap.size = g := (by omega); have n2 : ¬ w2.heap.size = w.heap.size + 1 := (by omega); have n2' : ¬ w.heap.size + 1 = w2.heap.size := (by omega); clear s4 f4 e4 x4 o4 j1 j2; rw [Nat.zero_add]))
        exact bodyPost_ret (resV_row_tmp rfl _ _ (w.heap.size + 1) #[.int .u64 (m : Int), .slice (some ⟨g, 0, none⟩) n c4] rfl (load_cell _ _ _ _ _ _ ((((C1.out.other n2' 1 _).keepV HK6.out (by decide)).set_ 0 _).set_ 1 _))) rfl ⟨some ⟨g, 0, none⟩, ⟨c4, by rw [HF.out]; dsimp only; rw [List.length_set, HNL.out]; rfl⟩, by rw [HF.out]; exact ((HV6.out.setCell (a := ⟨w.heap.size + 1, 0, none⟩) (by show w.heap.size + 1 < w2.heap.size + 1; omega) _).setCell (a := ⟨w.heap.size + 1, 1, none⟩) (by show w.heap.size + 1 < w2.heap.size + 1; omega) _).vers, .inr (fun a e => by cases e; show w.heap.size ≤ g; omega), ((((HXB.out.trans HX4.out).setCell (p := ⟨w2.heap.size, 1, none⟩) (by show w.heap.size ≤ w2.heap.size; omega) _).keptV (HK6.out.base (by omega))).setCell (p := ⟨w.heap.size + 1, 0, none⟩) (Nat.le_succ _) _).setCell (p := ⟨w.heap.size + 1, 1, none⟩) (Nat.le_succ _) _⟩
      · have hs1 : ((vs : Int) != 1) = true := by have : ¬ (vs : Int) = 1 := (by omega); simpa using this
        have HF : Hid (desL m L x = ⟨171, m, L⟩) := Lib.hid (by simp only [desL]; rw [hf, if_neg hs]; rfl)
        clear h hn hm1 hl hp hf hv hs hkl
        go_enter Try.func26, Try.ntmps26
        go_wp2_with (first | (go_at_call 15; refine HM.out.mono ?_; rintro e w1 ⟨rfl, x1⟩; have HX1 := Lib.hid (HX0.out.trans x1); have A1 := Lib.hid (HB1.out.ext x1); have A2 := Lib.hid (HB2.out.ext x1); have a0 := A1.out.cell 0 _ rfl; have a1 := A1.out.cell 1 _ rfl; have b0 := A2.out.cell 0 _ rfl; have b1 := A2.out.cell 1 _ rfl; have bf0 := A2.out.frozen 0; have bf1 := A2.out.frozen 1; clear x1) | (go_at_call 28; refine (HA.out _ HX1.out).mono ?_; rintro e w2 ⟨rfl, x2⟩; replace HX1 := Lib.hid (HX1.out.trans x2); replace A1 := Lib.hid (A1.out.ext x2); replace A2 := Lib.hid (A2.out.ext x2); have a0 := A1.out.cell 0 _ rfl; have a1 := A1.out.cell 1 _ rfl; have b0 := A2.out.cell 0 _ rfl; have b1 := A2.out.cell 1 _ rfl; have bf0 := A2.out.frozen 0; have bf1 := A2.out.frozen 1; obtain ⟨ga, e', k0, k1, k2⟩ := HV.out.three HX1.out Hv.out; cases e'; clear x2))
        exact bodyPost_ret (resV_row_tmp rfl _ _ (w.heap.size + 1) #[.int .u64 (m : Int), .slice (some ga) n c] rfl (load_cell _ _ _ _ _ _ ((A2.out.set_ 0 _).set_ 1 _))) rfl ⟨some ga, ⟨c, by rw [HF.out, HNL.out]; rfl⟩, by rw [HF.out]; exact HV.out.ext ((HX1.out.setCell (p := ⟨w.heap.size + 1, 0, none⟩) (Nat.le_succ _) _).setCell (p := ⟨w.heap.size + 1, 1, none⟩) (Nat.le_succ _) _), .inl ⟨rfl, by rw [HF.out]⟩, (HX1.out.setCell (p := ⟨w.heap.size + 1, 0, none⟩) (Nat.le_succ _) _).setCell (p := ⟨w.heap.size + 1, 1, none⟩) (Nat.le_succ _) _⟩
end Go.Proofs.Ytbobijgbemnmiaa
