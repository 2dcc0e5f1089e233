/- Contracts: the document's Put, Delete, Destroy. -/
import Derived.Test.YtkjcpjalldbahaaGreatDoorM26
import Derived.Test.YtkjcpjalldbahaaGreatDoorM15
section
namespace Go.Proofs.YtkjcpjalldbahaaGreatDoor
open Go.RowKit

set_option maxRecDepth 100000 in
set_option maxHeartbeats 4000000 in
theorem rput_any (w : World) (m : Nat) (p : Option Addr) (c : Nat) (L : List Ver) (h : VersP w p L) (hl : L.length ≤ 1000000) (hm : m < 18446744073709551616) (any : Bool) (want : Nat) (t : ByteArray) (ht : t.size ≤ 140737488355328) :
    Calls Tryz.prog 77 #[.agg #[.int .u64 (m : Int), .slice p L.length c], .bool any, .int .u64 (want : Int), .string t] w fun e w' => ∃ q, (∃ c', e = .returned (.tuple #[.agg #[.int .u64 ((putL m L any want t).last : Int), .slice q (putL m L any want t).L.length c'], .int .i64 ((putL m L any want t).e : Int)])) ∧ VersP w' q (putL m L any want t).L ∧ Kin w p L q (putL m L any want t).L ∧ Ext w w' := by
  obtain ⟨n, hn⟩ : ∃ n, L.length = n := ⟨_, rfl⟩
  have HX0 := Lib.hid (((Ext.refl w).alloc (.cells #[.int .u64 (m : Int), .slice p n c] 55)).alloc (.cells #[.int .u64 0, .slice none 0 0] 55))
  have HB1 := Lib.hid ((Blk.new w [.int .u64 (m : Int), .slice p n c] 55).alloc (.cells #[.int .u64 0, .slice none 0 0] 55))
  have HB2 := Lib.hid (Blk.new1V w (.cells #[.int .u64 (m : Int), .slice p n c] 55) [.int .u64 0, .slice none 0 0] 55)
  have HM := Lib.hid (rmay_any _ m p c L (h.ext HX0.out) (by omega))
  have HV := Lib.hid h
  have HNL := Lib.hid hn
  have HN : Hid (∀ u, Ext w u → Calls Tryz.prog 41 #[.agg #[.int .u64 (m : Int), .slice p n c]] u fun e w' => e = .returned (.int .u64 (nowL L : Int)) ∧ Ext u w') := Lib.hid (fun u x => by
    have := rnow_any u m p c L (h.ext x) (by omega)
    rwa [hn] at this)
  rw [hn] at HM ⊢
  cases hm1 : mayL m L with
  | false =>
    have HF : Hid (putL m L any want t = ⟨2, m, L⟩) := Lib.hid (putL_bad hm1)
    rw [hm1] at HM
    clear h hn hm1 hm hl
    go_enter Tryz.func77, Tryz.ntmps77
    go_wp2_with ((go_at_call 55; refine HM.out.mono ?_; rintro e w1 ⟨rfl, x1⟩; have HX1 := Lib.hid (HX0.out.trans x1); have A1 := Lib.hid (HB1.out.ext x1); have A2 := Lib.hid (HB2.out.ext x1); have a0 := A1.out.cell 0 _ rfl; have a1 := A1.out.cell 1 _ rfl; have b0 := A2.out.cell 0 _ rfl; have b1 := A2.out.cell 1 _ rfl; have bf0 := A2.out.frozen 0; have bf1 := A2.out.frozen 1; clear x1))
    exact bodyPost_ret (resV_row_tmp rfl _ _ (w.heap.size + 1) #[.int .u64 (m : Int), .slice p n c] rfl (load_cell _ _ _ _ _ _ ((A2.out.set_ 0 _).set_ 1 _))) rfl ⟨p, ⟨c, by rw [HF.out, HNL.out]; rfl⟩, by rw [HF.out]; exact HV.out.ext ((HX1.out.setCell (p := ⟨w.heap.size + 1, 0, none⟩) (Nat.le_succ _) _).setCell (p := ⟨w.heap.size + 1, 1, none⟩) (Nat.le_succ _) _), .inl ⟨rfl, by rw [HF.out]⟩, (HX1.out.setCell (p := ⟨w.heap.size + 1, 0, none⟩) (Nat.le_succ _) _).setCell (p := ⟨w.heap.size + 1, 1, none⟩) (Nat.le_succ _) _⟩
  | true =>
    rw [hm1] at HM
    by_cases hlong : 4096 < t.size
    · have hl2 : (4096 : Int) < (t.size : Int) := by omega
      have HF : Hid (putL m L any want t = ⟨5, m, L⟩) := Lib.hid (putL_long hm1 hlong)
      clear h hn hm1 hm hl hlong
      go_enter Tryz.func77, Tryz.ntmps77
      go_wp2_with ((go_at_call 55; refine HM.out.mono ?_; rintro e w1 ⟨rfl, x1⟩; have HX1 := Lib.hid (HX0.out.trans x1); have A1 := Lib.hid (HB1.out.ext x1); have A2 := Lib.hid (HB2.out.ext x1); have a0 := A1.out.cell 0 _ rfl; have a1 := A1.out.cell 1 _ rfl; have b0 := A2.out.cell 0 _ rfl; have b1 := A2.out.cell 1 _ rfl; have bf0 := A2.out.frozen 0; have bf1 := A2.out.frozen 1; clear x1))
      exact bodyPost_ret (resV_row_tmp rfl _ _ (w.heap.size + 1) #[.int .u64 (m : Int), .slice p n c] rfl (load_cell _ _ _ _ _ _ ((A2.out.set_ 0 _).set_ 1 _))) rfl ⟨p, ⟨c, by rw [HF.out, HNL.out]; rfl⟩, by rw [HF.out]; exact HV.out.ext ((HX1.out.setCell (p := ⟨w.heap.size + 1, 0, none⟩) (Nat.le_succ _) _).setCell (p := ⟨w.heap.size + 1, 1, none⟩) (Nat.le_succ _) _), .inl ⟨rfl, by rw [HF.out]⟩, (HX1.out.setCell (p := ⟨w.heap.size + 1, 0, none⟩) (Nat.le_succ _) _).setCell (p := ⟨w.heap.size + 1, 1, none⟩) (Nat.le_succ _) _⟩
    · have hl2 : ¬ (4096 : Int) < (t.size : Int) := by omega
      obtain ⟨nw, hnw⟩ : ∃ nw, nowL L = nw := ⟨_, rfl⟩
      have h8 : L.length ≤ 8 := (mayL_iff.1 hm1).1
      by_cases hst : any = false ∧ want ≠ nw
      · obtain ⟨rfl, hne⟩ := hst
        have hq : ((want : Int) != (nw : Int)) = true := by have : ¬ (want : Int) = (nw : Int) := (by omega); simpa using this
        have HF : Hid (putL m L false want t = ⟨170, m, L⟩) := Lib.hid ((putL_go hm1 hlong).trans (by simp [growL, hnw, hne]))
        rw [hnw] at HN
        clear h hn hm1 hm hl hnw hne h8 hlong
        go_enter Tryz.func77, Tryz.ntmps77
        go_wp2_with (first | (go_at_call 55; refine HM.out.mono ?_; rintro e w1 ⟨rfl, x1⟩; have HX1 := Lib.hid (HX0.out.trans x1); have A1 := Lib.hid (HB1.out.ext x1); have A2 := Lib.hid (HB2.out.ext x1); have a0 := A1.out.cell 0 _ rfl; have a1 := A1.out.cell 1 _ rfl; have b0 := A2.out.cell 0 _ rfl; have b1 := A2.out.cell 1 _ rfl; have bf0 := A2.out.frozen 0; have bf1 := A2.out.frozen 1; clear x1) | (go_at_call 41; refine (HN.out _ HX1.out).mono ?_; rintro e w2 ⟨rfl, x2⟩; replace HX1 := Lib.hid (HX1.out.trans x2); replace A1 := Lib.hid (A1.out.ext x2); replace A2 := Lib.hid (A2.out.ext x2); have a0 := A1.out.cell 0 _ rfl; have a1 := A1.out.cell 1 _ rfl; have b0 := A2.out.cell 0 _ rfl; have b1 := A2.out.cell 1 _ rfl; have bf0 := A2.out.frozen 0; have bf1 := A2.out.frozen 1; clear x2))
        exact bodyPost_ret (resV_row_tmp rfl _ _ (w.heap.size + 1) #[.int .u64 (m : Int), .slice p n c] rfl (load_cell _ _ _ _ _ _ ((A2.out.set_ 0 _).set_ 1 _))) rfl ⟨p, ⟨c, by rw [HF.out, HNL.out]; rfl⟩, by rw [HF.out]; exact HV.out.ext ((HX1.out.setCell (p := ⟨w.heap.size + 1, 0, none⟩) (Nat.le_succ _) _).setCell (p := ⟨w.heap.size + 1, 1, none⟩) (Nat.le_succ _) _), .inl ⟨rfl, by rw [HF.out]⟩, (HX1.out.setCell (p := ⟨w.heap.size + 1, 0, none⟩) (Nat.le_succ _) _).setCell (p := ⟨w.heap.size + 1, 1, none⟩) (Nat.le_succ _) _⟩
      · by_cases hmx : m = 18446744073709551615
        · have hmi : ((m : Int) == 18446744073709551615) = true := by have : (m : Int) = 18446744073709551615 := (by omega); simpa using this
          have HF : Hid (putL m L any want t = ⟨4, m, L⟩) := Lib.hid ((putL_go hm1 hlong).trans (by simp [growL, hnw, hst, hmx]))
          rw [hnw] at HN
          cases any
          · have hq : ((want : Int) != (nw : Int)) = false := by have : (want : Int) = (nw : Int) := (by simp at hst; omega); simpa using this
            clear h hn hm1 hm hl hnw hst hmx h8 hlong
            go_enter Tryz.func77, Tryz.ntmps77
            go_wp2_with (first | (go_at_call 55; refine HM.out.mono ?_; rintro e w1 ⟨rfl, x1⟩; have HX1 := Lib.hid (HX0.out.trans x1); have A1 := Lib.hid (HB1.out.ext x1); have A2 := Lib.hid (HB2.out.ext x1); have a0 := A1.out.cell 0 _ rfl; have a1 := A1.out.cell 1 _ rfl; have b0 := A2.out.cell 0 _ rfl; have b1 := A2.out.cell 1 _ rfl; have bf0 := A2.out.frozen 0; have bf1 := A2.out.frozen 1; clear x1) | (go_at_call 41; refine (HN.out _ HX1.out).mono ?_; rintro e w2 ⟨rfl, x2⟩; replace HX1 := Lib.hid (HX1.out.trans x2); replace A1 := Lib.hid (A1.out.ext x2); replace A2 := Lib.hid (A2.out.ext x2); have a0 := A1.out.cell 0 _ rfl; have a1 := A1.out.cell 1 _ rfl; have b0 := A2.out.cell 0 _ rfl; have b1 := A2.out.cell 1 _ rfl; have bf0 := A2.out.frozen 0; have bf1 := A2.out.frozen 1; clear x2))
            exact bodyPost_ret (resV_row_tmp rfl _ _ (w.heap.size + 1) #[.int .u64 (m : Int), .slice p n c] rfl (load_cell _ _ _ _ _ _ ((A2.out.set_ 0 _).set_ 1 _))) rfl ⟨p, ⟨c, by rw [HF.out, HNL.out]; rfl⟩, by rw [HF.out]; exact HV.out.ext ((HX1.out.setCell (p := ⟨w.heap.size + 1, 0, none⟩) (Nat.le_succ _) _).setCell (p := ⟨w.heap.size + 1, 1, none⟩) (Nat.le_succ _) _), .inl ⟨rfl, by rw [HF.out]⟩, (HX1.out.setCell (p := ⟨w.heap.size + 1, 0, none⟩) (Nat.le_succ _) _).setCell (p := ⟨w.heap.size + 1, 1, none⟩) (Nat.le_succ _) _⟩
          · clear h hn hm1 hm hl hnw hst hmx h8 hlong
            go_enter Tryz.func77, Tryz.ntmps77
            go_wp2_with (first | (go_at_call 55; refine HM.out.mono ?_; rintro e w1 ⟨rfl, x1⟩; have HX1 := Lib.hid (HX0.out.trans x1); have A1 := Lib.hid (HB1.out.ext x1); have A2 := Lib.hid (HB2.out.ext x1); have a0 := A1.out.cell 0 _ rfl; have a1 := A1.out.cell 1 _ rfl; have b0 := A2.out.cell 0 _ rfl; have b1 := A2.out.cell 1 _ rfl; have bf0 := A2.out.frozen 0; have bf1 := A2.out.frozen 1; clear x1) | (go_at_call 41; refine (HN.out _ HX1.out).mono ?_; rintro e w2 ⟨rfl, x2⟩; replace HX1 := Lib.hid (HX1.out.trans x2); replace A1 := Lib.hid (A1.out.ext x2); replace A2 := Lib.hid (A2.out.ext x2); have a0 := A1.out.cell 0 _ rfl; have a1 := A1.out.cell 1 _ rfl; have b0 := A2.out.cell 0 _ rfl; have b1 := A2.out.cell 1 _ rfl; have bf0 := A2.out.frozen 0; have bf1 := A2.out.frozen 1; clear x2))
            exact bodyPost_ret (resV_row_tmp rfl _ _ (w.heap.size + 1) #[.int .u64 (m : Int), .slice p n c] rfl (load_cell _ _ _ _ _ _ ((A2.out.set_ 0 _).set_ 1 _))) rfl ⟨p, ⟨c, by rw [HF.out, HNL.out]; rfl⟩, by rw [HF.out]; exact HV.out.ext ((HX1.out.setCell (p := ⟨w.heap.size + 1, 0, none⟩) (Nat.le_succ _) _).setCell (p := ⟨w.heap.size + 1, 1, none⟩) (Nat.le_succ _) _), .inl ⟨rfl, by rw [HF.out]⟩, (HX1.out.setCell (p := ⟨w.heap.size + 1, 0, none⟩) (Nat.le_succ _) _).setCell (p := ⟨w.heap.size + 1, 1, none⟩) (Nat.le_succ _) _⟩
        · have hmi : ((m : Int) == 18446744073709551615) = false := by have : ¬ (m : Int) = 18446744073709551615 := (by omega); simpa using this
          obtain ⟨m1, hm1'⟩ : ∃ m1, m + 1 = m1 := ⟨_, rfl⟩
          obtain ⟨LL, hLL⟩ : ∃ LL, cutL (L ++ [(⟨m1, 1, t⟩ : Ver)]) = LL := ⟨_, rfl⟩
          obtain ⟨nl, hnl⟩ : ∃ nl, LL.length = nl := ⟨_, rfl⟩
          have HF : Hid (putL m L any want t = ⟨0, m1, LL⟩) := Lib.hid ((putL_go hm1 hlong).trans (by rw [← hLL]; simp [growL, hnw, hst, hmx, hm1']))
          have HNN := Lib.hid hnl
          have HCM : Hid (∀ u, Ext w u → Calls Tryz.prog 97 #[.agg #[.int .u64 (m : Int), .slice p n c], .int .u8 1, .string t] u fun e w' => ∃ q c', e = .returned (.agg #[.int .u64 (m1 : Int), .slice q nl c']) ∧ VersP w' q LL ∧ NewP u q ∧ Ext u w') := Lib.hid (fun u x => by
            have := comes_any u m p c L (h.ext x) h8 (by omega) 1 t
            rwa [hm1', hLL, hnl, hn] at this)
          rw [hnw] at HN
          cases any
          · have hq : ((want : Int) != (nw : Int)) = false := by have : (want : Int) = (nw : Int) := (by simp at hst; omega); simpa using this
            clear h hn hm1 hm hl hnw hst hmx h8 hm1' hLL hlong
            go_enter Tryz.func77, Tryz.ntmps77
            go_wp2_with (first | (go_at_call 55; refine HM.out.mono ?_; rintro e w1 ⟨rfl, x1⟩; have HX1 := Lib.hid (HX0.out.trans x1); have A1 := Lib.hid (HB1.out.ext x1); have A2 := Lib.hid (HB2.out.ext x1); have a0 := A1.out.cell 0 _ rfl; have a1 := A1.out.cell 1 _ rfl; have b0 := A2.out.cell 0 _ rfl; have b1 := A2.out.cell 1 _ rfl; have bf0 := A2.out.frozen 0; have bf1 := A2.out.frozen 1; clear x1) | (go_at_call 41; refine (HN.out _ HX1.out).mono ?_; rintro e w2 ⟨rfl, x2⟩; replace HX1 := Lib.hid (HX1.out.trans x2); replace A1 := Lib.hid (A1.out.ext x2); replace A2 := Lib.hid (A2.out.ext x2); have a0 := A1.out.cell 0 _ rfl; have a1 := A1.out.cell 1 _ rfl; have b0 := A2.out.cell 0 _ rfl; have b1 := A2.out.cell 1 _ rfl; have bf0 := A2.out.frozen 0; have bf1 := A2.out.frozen 1; clear x2) | (go_at_call 97; refine (HCM.out _ HX1.out).mono ?_; rintro e w3 ⟨q3, c3, rfl, v3, n3, x3⟩; have HV3 := Lib.hid v3; have HN3 : Hid (∀ a, q3 = some a → w.heap.size + 1 < a.block) := Lib.hid (fun a e => Nat.lt_of_lt_of_le A2.out.lt (n3 a e)); have HX3 := Lib.hid (HX1.out.trans x3); have C2 := Lib.hid (A2.out.ext x3); have c0 := C2.out.cell 0 _ rfl; have c1 := C2.out.cell 1 _ rfl; have cf0 := C2.out.frozen 0; have cf1 := C2.out.frozen 1; clear v3 n3 x3))
            exact bodyPost_ret (resV_row_tmp rfl _ _ (w.heap.size + 1) #[.int .u64 (m1 : Int), .slice q3 nl c3] rfl (load_cell _ _ _ _ _ _ ((C2.out.set_ 0 _).set_ 1 _))) rfl ⟨q3, ⟨c3, by rw [HF.out]; dsimp only; rw [HNN.out]; rfl⟩, by rw [HF.out]; exact (HV3.out.setCell HN3.out _).setCell HN3.out _, .inr (fun a e => by have := HN3.out a e; omega), (HX3.out.setCell (p := ⟨w.heap.size + 1, 0, none⟩) (Nat.le_succ _) _).setCell (p := ⟨w.heap.size + 1, 1, none⟩) (Nat.le_succ _) _⟩
          · clear h hn hm1 hm hl hnw hst hmx h8 hm1' hLL hlong
            go_enter Tryz.func77, Tryz.ntmps77
            go_wp2_with (first | (go_at_call 55; refine HM.out.mono ?_; rintro e w1 ⟨rfl, x1⟩; have HX1 := Lib.hid (HX0.out.trans x1); have A1 := Lib.hid (HB1.out.ext x1); have A2 := Lib.hid (HB2.out.ext x1); have a0 := A1.out.cell 0 _ rfl; have a1 := A1.out.cell 1 _ rfl; have b0 := A2.out.cell 0 _ rfl; have b1 := A2.out.cell 1 _ rfl; have bf0 := A2.out.frozen 0; have bf1 := A2.out.frozen 1; clear x1) | (go_at_call 41; refine (HN.out _ HX1.out).mono ?_; rintro e w2 ⟨rfl, x2⟩; replace HX1 := Lib.hid (HX1.out.trans x2); replace A1 := Lib.hid (A1.out.ext x2); replace A2 := Lib.hid (A2.out.ext x2); have a0 := A1.out.cell 0 _ rfl; have a1 := A1.out.cell 1 _ rfl; have b0 := A2.out.cell 0 _ rfl; have b1 := A2.out.cell 1 _ rfl; have bf0 := A2.out.frozen 0; have bf1 := A2.out.frozen 1; clear x2) | (go_at_call 97; refine (HCM.out _ HX1.out).mono ?_; rintro e w3 ⟨q3, c3, rfl, v3, n3, x3⟩; have HV3 := Lib.hid v3; have HN3 : Hid (∀ a, q3 = some a → w.heap.size + 1 < a.block) := Lib.hid (fun a e => Nat.lt_of_lt_of_le A2.out.lt (n3 a e)); have HX3 := Lib.hid (HX1.out.trans x3); have C2 := Lib.hid (A2.out.ext x3); have c0 := C2.out.cell 0 _ rfl; have c1 := C2.out.cell 1 _ rfl; have cf0 := C2.out.frozen 0; have cf1 := C2.out.frozen 1; clear v3 n3 x3))
            exact bodyPost_ret (resV_row_tmp rfl _ _ (w.heap.size + 1) #[.int .u64 (m1 : Int), .slice q3 nl c3] rfl (load_cell _ _ _ _ _ _ ((C2.out.set_ 0 _).set_ 1 _))) rfl ⟨q3, ⟨c3, by rw [HF.out]; dsimp only; rw [HNN.out]; rfl⟩, by rw [HF.out]; exact (HV3.out.setCell HN3.out _).setCell HN3.out _, .inr (fun a e => by have := HN3.out a e; omega), (HX3.out.setCell (p := ⟨w.heap.size + 1, 0, none⟩) (Nat.le_succ _) _).setCell (p := ⟨w.heap.size + 1, 1, none⟩) (Nat.le_succ _) _⟩
set_option maxRecDepth 100000 in
set_option maxHeartbeats 4000000 in
theorem rdel_any (w : World) (m : Nat) (p : Option Addr) (c : Nat) (L : List Ver) (h : VersP w p L) (hl : L.length ≤ 1000000) (hm : m < 18446744073709551616) (any : Bool) (want : Nat) :
    Calls Tryz.prog 78 #[.agg #[.int .u64 (m : Int), .slice p L.length c], .bool any, .int .u64 (want : Int)] w fun e w' => ∃ q, (∃ c', e = .returned (.tuple #[.agg #[.int .u64 ((delL m L any want).last : Int), .slice q (delL m L any want).L.length c'], .int .i64 ((delL m L any want).e : Int)])) ∧ VersP w' q (delL m L any want).L ∧ Kin w p L q (delL m L any want).L ∧ Ext w w' := by
  obtain ⟨n, hn⟩ : ∃ n, L.length = n := ⟨_, rfl⟩
  have HX0 := Lib.hid (((Ext.refl w).alloc (.cells #[.int .u64 (m : Int), .slice p n c] 55)).alloc (.cells #[.int .u64 0, .slice none 0 0] 55))
  have HB1 := Lib.hid ((Blk.new w [.int .u64 (m : Int), .slice p n c] 55).alloc (.cells #[.int .u64 0, .slice none 0 0] 55))
  have HB2 := Lib.hid (Blk.new1V w (.cells #[.int .u64 (m : Int), .slice p n c] 55) [.int .u64 0, .slice none 0 0] 55)
  have HM := Lib.hid (rmay_any _ m p c L (h.ext HX0.out) (by omega))
  have HV := Lib.hid h
  have HNL := Lib.hid hn
  have HN : Hid (∀ u, Ext w u → Calls Tryz.prog 41 #[.agg #[.int .u64 (m : Int), .slice p n c]] u fun e w' => e = .returned (.int .u64 (nowL L : Int)) ∧ Ext u w') := Lib.hid (fun u x => by
    have := rnow_any u m p c L (h.ext x) (by omega)
    rwa [hn] at this)
  rw [hn] at HM ⊢
  cases hm1 : mayL m L with
  | false =>
    have HF : Hid (delL m L any want = ⟨2, m, L⟩) := Lib.hid (delL_bad hm1)
    rw [hm1] at HM
    clear h hn hm1 hm hl
    go_enter Tryz.func78, Tryz.ntmps78
    go_wp2_with ((go_at_call 55; refine HM.out.mono ?_; rintro e w1 ⟨rfl, x1⟩; have HX1 := Lib.hid (HX0.out.trans x1); have A1 := Lib.hid (HB1.out.ext x1); have A2 := Lib.hid (HB2.out.ext x1); have a0 := A1.out.cell 0 _ rfl; have a1 := A1.out.cell 1 _ rfl; have b0 := A2.out.cell 0 _ rfl; have b1 := A2.out.cell 1 _ rfl; have bf0 := A2.out.frozen 0; have bf1 := A2.out.frozen 1; clear x1))
    exact bodyPost_ret (resV_row_tmp rfl _ _ (w.heap.size + 1) #[.int .u64 (m : Int), .slice p n c] rfl (load_cell _ _ _ _ _ _ ((A2.out.set_ 0 _).set_ 1 _))) rfl ⟨p, ⟨c, by rw [HF.out, HNL.out]; rfl⟩, by rw [HF.out]; exact HV.out.ext ((HX1.out.setCell (p := ⟨w.heap.size + 1, 0, none⟩) (Nat.le_succ _) _).setCell (p := ⟨w.heap.size + 1, 1, none⟩) (Nat.le_succ _) _), .inl ⟨rfl, by rw [HF.out]⟩, (HX1.out.setCell (p := ⟨w.heap.size + 1, 0, none⟩) (Nat.le_succ _) _).setCell (p := ⟨w.heap.size + 1, 1, none⟩) (Nat.le_succ _) _⟩
  | true =>
    rw [hm1] at HM
    by_cases hnz : nowL L = 0
    · have HF : Hid (delL m L any want = ⟨3, m, L⟩) := Lib.hid (delL_none hm1 hnz)
      rw [hnz] at HN
      clear h hn hm1 hm hl hnz
      go_enter Tryz.func78, Tryz.ntmps78
      go_wp2_with (first | (go_at_call 55; refine HM.out.mono ?_; rintro e w1 ⟨rfl, x1⟩; have HX1 := Lib.hid (HX0.out.trans x1); have A1 := Lib.hid (HB1.out.ext x1); have A2 := Lib.hid (HB2.out.ext x1); have a0 := A1.out.cell 0 _ rfl; have a1 := A1.out.cell 1 _ rfl; have b0 := A2.out.cell 0 _ rfl; have b1 := A2.out.cell 1 _ rfl; have bf0 := A2.out.frozen 0; have bf1 := A2.out.frozen 1; clear x1) | (go_at_call 41; refine (HN.out _ HX1.out).mono ?_; rintro e w2 ⟨rfl, x2⟩; replace HX1 := Lib.hid (HX1.out.trans x2); replace A1 := Lib.hid (A1.out.ext x2); replace A2 := Lib.hid (A2.out.ext x2); have a0 := A1.out.cell 0 _ rfl; have a1 := A1.out.cell 1 _ rfl; have b0 := A2.out.cell 0 _ rfl; have b1 := A2.out.cell 1 _ rfl; have bf0 := A2.out.frozen 0; have bf1 := A2.out.frozen 1; clear x2))
      exact bodyPost_ret (resV_row_tmp rfl _ _ (w.heap.size + 1) #[.int .u64 (m : Int), .slice p n c] rfl (load_cell _ _ _ _ _ _ ((A2.out.set_ 0 _).set_ 1 _))) rfl ⟨p, ⟨c, by rw [HF.out, HNL.out]; rfl⟩, by rw [HF.out]; exact HV.out.ext ((HX1.out.setCell (p := ⟨w.heap.size + 1, 0, none⟩) (Nat.le_succ _) _).setCell (p := ⟨w.heap.size + 1, 1, none⟩) (Nat.le_succ _) _), .inl ⟨rfl, by rw [HF.out]⟩, (HX1.out.setCell (p := ⟨w.heap.size + 1, 0, none⟩) (Nat.le_succ _) _).setCell (p := ⟨w.heap.size + 1, 1, none⟩) (Nat.le_succ _) _⟩
    · have hnq : ((nowL L : Int) == 0) = false := by have : ¬ (nowL L : Int) = 0 := (by omega); simpa using this
      obtain ⟨nw, hnw⟩ : ∃ nw, nowL L = nw := ⟨_, rfl⟩
      rw [hnw] at hnq
      have h8 : L.length ≤ 8 := (mayL_iff.1 hm1).1
      by_cases hst : any = false ∧ want ≠ nw
      · obtain ⟨rfl, hne⟩ := hst
        have hq : ((want : Int) != (nw : Int)) = true := by have : ¬ (want : Int) = (nw : Int) := (by omega); simpa using this
        have HF : Hid (delL m L false want = ⟨170, m, L⟩) := Lib.hid ((delL_go hm1 hnz).trans (by simp [growL, hnw, hne]))
        rw [hnw] at HN
        clear h hn hm1 hm hl hnw hne h8 hnz
        go_enter Tryz.func78, Tryz.ntmps78
        go_wp2_with (first | (go_at_call 55; refine HM.out.mono ?_; rintro e w1 ⟨rfl, x1⟩; have HX1 := Lib.hid (HX0.out.trans x1); have A1 := Lib.hid (HB1.out.ext x1); have A2 := Lib.hid (HB2.out.ext x1); have a0 := A1.out.cell 0 _ rfl; have a1 := A1.out.cell 1 _ rfl; have b0 := A2.out.cell 0 _ rfl; have b1 := A2.out.cell 1 _ rfl; have bf0 := A2.out.frozen 0; have bf1 := A2.out.frozen 1; clear x1) | (go_at_call 41; refine (HN.out _ HX1.out).mono ?_; rintro e w2 ⟨rfl, x2⟩; replace HX1 := Lib.hid (HX1.out.trans x2); replace A1 := Lib.hid (A1.out.ext x2); replace A2 := Lib.hid (A2.out.ext x2); have a0 := A1.out.cell 0 _ rfl; have a1 := A1.out.cell 1 _ rfl; have b0 := A2.out.cell 0 _ rfl; have b1 := A2.out.cell 1 _ rfl; have bf0 := A2.out.frozen 0; have bf1 := A2.out.frozen 1; clear x2))
        exact bodyPost_ret (resV_row_tmp rfl _ _ (w.heap.size + 1) #[.int .u64 (m : Int), .slice p n c] rfl (load_cell _ _ _ _ _ _ ((A2.out.set_ 0 _).set_ 1 _))) rfl ⟨p, ⟨c, by rw [HF.out, HNL.out]; rfl⟩, by rw [HF.out]; exact HV.out.ext ((HX1.out.setCell (p := ⟨w.heap.size + 1, 0, none⟩) (Nat.le_succ _) _).setCell (p := ⟨w.heap.size + 1, 1, none⟩) (Nat.le_succ _) _), .inl ⟨rfl, by rw [HF.out]⟩, (HX1.out.setCell (p := ⟨w.heap.size + 1, 0, none⟩) (Nat.le_succ _) _).setCell (p := ⟨w.heap.size + 1, 1, none⟩) (Nat.le_succ _) _⟩
      · by_cases hmx : m = 18446744073709551615
        · have hmi : ((m : Int) == 18446744073709551615) = true := by have : (m : Int) = 18446744073709551615 := (by omega); simpa using this
          have HF : Hid (delL m L any want = ⟨4, m, L⟩) := Lib.hid ((delL_go hm1 hnz).trans (by simp [growL, hnw, hst, hmx]))
          rw [hnw] at HN
          cases any
          · have hq : ((want : Int) != (nw : Int)) = false := by have : (want : Int) = (nw : Int) := (by simp at hst; omega); simpa using this
            clear h hn hm1 hm hl hnw hst hmx h8 hnz
            go_enter Tryz.func78, Tryz.ntmps78
            go_wp2_with (first | (go_at_call 55; refine HM.out.mono ?_; rintro e w1 ⟨rfl, x1⟩; have HX1 := Lib.hid (HX0.out.trans x1); have A1 := Lib.hid (HB1.out.ext x1); have A2 := Lib.hid (HB2.out.ext x1); have a0 := A1.out.cell 0 _ rfl; have a1 := A1.out.cell 1 _ rfl; have b0 := A2.out.cell 0 _ rfl; have b1 := A2.out.cell 1 _ rfl; have bf0 := A2.out.frozen 0; have bf1 := A2.out.frozen 1; clear x1) | (go_at_call 41; refine (HN.out _ HX1.out).mono ?_; rintro e w2 ⟨rfl, x2⟩; replace HX1 := Lib.hid (HX1.out.trans x2); replace A1 := Lib.hid (A1.out.ext x2); replace A2 := Lib.hid (A2.out.ext x2); have a0 := A1.out.cell 0 _ rfl; have a1 := A1.out.cell 1 _ rfl; have b0 := A2.out.cell 0 _ rfl; have b1 := A2.out.cell 1 _ rfl; have bf0 := A2.out.frozen 0; have bf1 := A2.out.frozen 1; clear x2))
            exact bodyPost_ret (resV_row_tmp rfl _ _ (w.heap.size + 1) #[.int .u64 (m : Int), .slice p n c] rfl (load_cell _ _ _ _ _ _ ((A2.out.set_ 0 _).set_ 1 _))) rfl ⟨p, ⟨c, by rw [HF.out, HNL.out]; rfl⟩, by rw [HF.out]; exact HV.out.ext ((HX1.out.setCell (p := ⟨w.heap.size + 1, 0, none⟩) (Nat.le_succ _) _).setCell (p := ⟨w.heap.size + 1, 1, none⟩) (Nat.le_succ _) _), .inl ⟨rfl, by rw [HF.out]⟩, (HX1.out.setCell (p := ⟨w.heap.size + 1, 0, none⟩) (Nat.le_succ _) _).setCell (p := ⟨w.heap.size + 1, 1, none⟩) (Nat.le_succ _) _⟩
          · clear h hn hm1 hm hl hnw hst hmx h8 hnz
            go_enter Tryz.func78, Tryz.ntmps78
            go_wp2_with (first | (go_at_call 55; refine HM.out.mono ?_; rintro e w1 ⟨rfl, x1⟩; have HX1 := Lib.hid (HX0.out.trans x1); have A1 := Lib.hid (HB1.out.ext x1); have A2 := Lib.hid (HB2.out.ext x1); have a0 := A1.out.cell 0 _ rfl; have a1 := A1.out.cell 1 _ rfl; have b0 := A2.out.cell 0 _ rfl; have b1 := A2.out.cell 1 _ rfl; have bf0 := A2.out.frozen 0; have bf1 := A2.out.frozen 1; clear x1) | (go_at_call 41; refine (HN.out _ HX1.out).mono ?_; rintro e w2 ⟨rfl, x2⟩; replace HX1 := Lib.hid (HX1.out.trans x2); replace A1 := Lib.hid (A1.out.ext x2); replace A2 := Lib.hid (A2.out.ext x2); have a0 := A1.out.cell 0 _ rfl; have a1 := A1.out.cell 1 _ rfl; have b0 := A2.out.cell 0 _ rfl; have b1 := A2.out.cell 1 _ rfl; have bf0 := A2.out.frozen 0; have bf1 := A2.out.frozen 1; clear x2))
            exact bodyPost_ret (resV_row_tmp rfl _ _ (w.heap.size + 1) #[.int .u64 (m : Int), .slice p n c] rfl (load_cell _ _ _ _ _ _ ((A2.out.set_ 0 _).set_ 1 _))) rfl ⟨p, ⟨c, by rw [HF.out, HNL.out]; rfl⟩, by rw [HF.out]; exact HV.out.ext ((HX1.out.setCell (p := ⟨w.heap.size + 1, 0, none⟩) (Nat.le_succ _) _).setCell (p := ⟨w.heap.size + 1, 1, none⟩) (Nat.le_succ _) _), .inl ⟨rfl, by rw [HF.out]⟩, (HX1.out.setCell (p := ⟨w.heap.size + 1, 0, none⟩) (Nat.le_succ _) _).setCell (p := ⟨w.heap.size + 1, 1, none⟩) (Nat.le_succ _) _⟩
        · have hmi : ((m : Int) == 18446744073709551615) = false := by have : ¬ (m : Int) = 18446744073709551615 := (by omega); simpa using this
          obtain ⟨m1, hm1'⟩ : ∃ m1, m + 1 = m1 := ⟨_, rfl⟩
          obtain ⟨LL, hLL⟩ : ∃ LL, cutL (L ++ [(⟨m1, 2, ⟨#[]⟩⟩ : Ver)]) = LL := ⟨_, rfl⟩
          obtain ⟨nl, hnl⟩ : ∃ nl, LL.length = nl := ⟨_, rfl⟩
          have HF : Hid (delL m L any want = ⟨0, m1, LL⟩) := Lib.hid ((delL_go hm1 hnz).trans (by rw [← hLL]; simp [growL, hnw, hst, hmx, hm1']))
          have HNN := Lib.hid hnl
          have HCM : Hid (∀ u, Ext w u → Calls Tryz.prog 97 #[.agg #[.int .u64 (m : Int), .slice p n c], .int .u8 2, .string ⟨#[]⟩] u fun e w' => ∃ q c', e = .returned (.agg #[.int .u64 (m1 : Int), .slice q nl c']) ∧ VersP w' q LL ∧ NewP u q ∧ Ext u w') := Lib.hid (fun u x => by
            have := comes_any u m p c L (h.ext x) h8 (by omega) 2 ⟨#[]⟩
            rwa [hm1', hLL, hnl, hn] at this)
          rw [hnw] at HN
          cases any
          · have hq : ((want : Int) != (nw : Int)) = false := by have : (want : Int) = (nw : Int) := (by simp at hst; omega); simpa using this
            clear h hn hm1 hm hl hnw hst hmx h8 hm1' hLL hnz
            go_enter Tryz.func78, Tryz.ntmps78
            go_wp2_with (first | (go_at_call 55; refine HM.out.mono ?_; rintro e w1 ⟨rfl, x1⟩; have HX1 := Lib.hid (HX0.out.trans x1); have A1 := Lib.hid (HB1.out.ext x1); have A2 := Lib.hid (HB2.out.ext x1); have a0 := A1.out.cell 0 _ rfl; have a1 := A1.out.cell 1 _ rfl; have b0 := A2.out.cell 0 _ rfl; have b1 := A2.out.cell 1 _ rfl; have bf0 := A2.out.frozen 0; have bf1 := A2.out.frozen 1; clear x1) | (go_at_call 41; refine (HN.out _ HX1.out).mono ?_; rintro e w2 ⟨rfl, x2⟩; replace HX1 := Lib.hid (HX1.out.trans x2); replace A1 := Lib.hid (A1.out.ext x2); replace A2 := Lib.hid (A2.out.ext x2); have a0 := A1.out.cell 0 _ rfl; have a1 := A1.out.cell 1 _ rfl; have b0 := A2.out.cell 0 _ rfl; have b1 := A2.out.cell 1 _ rfl; have bf0 := A2.out.frozen 0; have bf1 := A2.out.frozen 1; clear x2) | (go_at_call 97; refine (HCM.out _ HX1.out).mono ?_; rintro e w3 ⟨q3, c3, rfl, v3, n3, x3⟩; have HV3 := Lib.hid v3; have HN3 : Hid (∀ a, q3 = some a → w.heap.size + 1 < a.block) := Lib.hid (fun a e => Nat.lt_of_lt_of_le A2.out.lt (n3 a e)); have HX3 := Lib.hid (HX1.out.trans x3); have C2 := Lib.hid (A2.out.ext x3); have c0 := C2.out.cell 0 _ rfl; have c1 := C2.out.cell 1 _ rfl; have cf0 := C2.out.frozen 0; have cf1 := C2.out.frozen 1; clear v3 n3 x3))
            exact bodyPost_ret (resV_row_tmp rfl _ _ (w.heap.size + 1) #[.int .u64 (m1 : Int), .slice q3 nl c3] rfl (load_cell _ _ _ _ _ _ ((C2.out.set_ 0 _).set_ 1 _))) rfl ⟨q3, ⟨c3, by rw [HF.out]; dsimp only; rw [HNN.out]; rfl⟩, by rw [HF.out]; exact (HV3.out.setCell HN3.out _).setCell HN3.out _, .inr (fun a e => by have := HN3.out a e; omega), (HX3.out.setCell (p := ⟨w.heap.size + 1, 0, none⟩) (Nat.le_succ _) _).setCell (p := ⟨w.heap.size + 1, 1, none⟩) (Nat.le_succ _) _⟩
          · clear h hn hm1 hm hl hnw hst hmx h8 hm1' hLL hnz
            go_enter Tryz.func78, Tryz.ntmps78
            go_wp2_with (first | (go_at_call 55; refine HM.out.mono ?_; rintro e w1 ⟨rfl, x1⟩; have HX1 := Lib.hid (HX0.out.trans x1); have A1 := Lib.hid (HB1.out.ext x1); have A2 := Lib.hid (HB2.out.ext x1); have a0 := A1.out.cell 0 _ rfl; have a1 := A1.out.cell 1 _ rfl; have b0 := A2.out.cell 0 _ rfl; have b1 := A2.out.cell 1 _ rfl; have bf0 := A2.out.frozen 0; have bf1 := A2.out.frozen 1; clear x1) | (go_at_call 41; refine (HN.out _ HX1.out).mono ?_; rintro e w2 ⟨rfl, x2⟩; replace HX1 := Lib.hid (HX1.out.trans x2); replace A1 := Lib.hid (A1.out.ext x2); replace A2 := Lib.hid (A2.out.ext x2); have a0 := A1.out.cell 0 _ rfl; have a1 := A1.out.cell 1 _ rfl; have b0 := A2.out.cell 0 _ rfl; have b1 := A2.out.cell 1 _ rfl; have bf0 := A2.out.frozen 0; have bf1 := A2.out.frozen 1; clear x2) | (go_at_call 97; refine (HCM.out _ HX1.out).mono ?_; rintro e w3 ⟨q3, c3, rfl, v3, n3, x3⟩; have HV3 := Lib.hid v3; have HN3 : Hid (∀ a, q3 = some a → w.heap.size + 1 < a.block) := Lib.hid (fun a e => Nat.lt_of_lt_of_le A2.out.lt (n3 a e)); have HX3 := Lib.hid (HX1.out.trans x3); have C2 := Lib.hid (A2.out.ext x3); have c0 := C2.out.cell 0 _ rfl; have c1 := C2.out.cell 1 _ rfl; have cf0 := C2.out.frozen 0; have cf1 := C2.out.frozen 1; clear v3 n3 x3))
            exact bodyPost_ret (resV_row_tmp rfl _ _ (w.heap.size + 1) #[.int .u64 (m1 : Int), .slice q3 nl c3] rfl (load_cell _ _ _ _ _ _ ((C2.out.set_ 0 _).set_ 1 _))) rfl ⟨q3, ⟨c3, by rw [HF.out]; dsimp only; rw [HNN.out]; rfl⟩, by rw [HF.out]; exact (HV3.out.setCell HN3.out _).setCell HN3.out _, .inr (fun a e => by have := HN3.out a e; omega), (HX3.out.setCell (p := ⟨w.heap.size + 1, 0, none⟩) (Nat.le_succ _) _).setCell (p := ⟨w.heap.size + 1, 1, none⟩) (Nat.le_succ _) _⟩
end Go.Proofs.YtkjcpjalldbahaaGreatDoor
end
