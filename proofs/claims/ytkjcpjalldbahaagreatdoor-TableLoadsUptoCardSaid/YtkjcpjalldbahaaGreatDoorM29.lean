/- Contract: the document's Destroy. Contracts: pieces, prefixes, what is under what, children, by the document. -/
import Derived.Test.YtkjcpjalldbahaaGreatDoorM28
import Derived.Test.YtkjcpjalldbahaaGreatDoorM17
import Derived.Test.YtkjcpjalldbahaaGreatDoorM16
import Derived.Deep.QuietTactic
import Derived.BigQuiet
section
namespace Go.Proofs.YtkjcpjalldbahaaGreatDoor
open Go.RowKit

set_option maxRecDepth 100000 in
set_option maxHeartbeats 4000000 in
theorem rdes_any (w : World) (m : Nat) (p : Option Addr) (c : Nat) (L : List Ver) (h : VersP w p L) (hl : L.length ≤ 1000000) (x : Nat) :
    Calls Tryz.prog 79 #[.agg #[.int .u64 (m : Int), .slice p L.length c], .int .u64 (x : Int)] w fun e w' => ∃ q, (∃ c', e = .returned (.tuple #[.agg #[.int .u64 ((desL m L x).last : Int), .slice q (desL m L x).L.length c'], .int .i64 ((desL m L x).e : Int)])) ∧ VersP w' q (desL m L x).L ∧ Kin w p L q (desL m L x).L ∧ Ext w w' := by
  obtain ⟨n, hn⟩ : ∃ n, L.length = n := ⟨_, rfl⟩
  have HX0 := Lib.hid (((Ext.refl w).alloc (.cells #[.int .u64 (m : Int), .slice p n c] 55)).alloc (.cells #[.int .u64 0, .slice none 0 0] 55))
  have HB1 := Lib.hid ((Blk.new w [.int .u64 (m : Int), .slice p n c] 55).alloc (.cells #[.int .u64 0, .slice none 0 0] 55))
  have HB2 := Lib.hid (Blk.new1V w (.cells #[.int .u64 (m : Int), .slice p n c] 55) [.int .u64 0, .slice none 0 0] 55)
  have HM := Lib.hid (rmay_any _ m p c L (h.ext HX0.out) (by omega))
  have HV := Lib.hid h
  have HNL := Lib.hid hn
  have HA : Hid (∀ u, Ext w u → Calls Tryz.prog 63 #[.agg #[.int .u64 (m : Int), .slice p n c], .int .u64 (x : Int)] u fun e w' => e = .returned (.int .i64 (atI x L)) ∧ Ext u w') := Lib.hid (fun u y => by
    have := rat_any u m x p c L (h.ext y) (by omega)
    rwa [hn] at this)
  rw [hn] at HM ⊢
  cases hm1 : mayL m L with
  | false =>
    have HF : Hid (desL m L x = ⟨2, m, L⟩) := Lib.hid (by simp [desL, findL_bad hm1])
    rw [hm1] at HM
    clear h hn hm1 hl
    go_enter Tryz.func79, Tryz.ntmps79
    go_wp2_with ((go_at_call 55; refine HM.out.mono ?_; rintro e w1 ⟨rfl, x1⟩; have HX1 := Lib.hid (HX0.out.trans x1); have A1 := Lib.hid (HB1.out.ext x1); have A2 := Lib.hid (HB2.out.ext x1); have a0 := A1.out.cell 0 _ rfl; have a1 := A1.out.cell 1 _ rfl; have b0 := A2.out.cell 0 _ rfl; have b1 := A2.out.cell 1 _ rfl; have bf0 := A2.out.frozen 0; have bf1 := A2.out.frozen 1; clear x1))
    exact bodyPost_ret (resV_row_tmp rfl _ _ (w.heap.size + 1) #[.int .u64 (m : Int), .slice p n c] rfl (load_cell _ _ _ _ _ _ ((A2.out.set_ 0 _).set_ 1 _))) rfl ⟨p, ⟨c, by rw [HF.out, HNL.out]; rfl⟩, by rw [HF.out]; exact HV.out.ext ((HX1.out.setCell (p := ⟨w.heap.size + 1, 0, none⟩) (Nat.le_succ _) _).setCell (p := ⟨w.heap.size + 1, 1, none⟩) (Nat.le_succ _) _), .inl ⟨rfl, by rw [HF.out]⟩, (HX1.out.setCell (p := ⟨w.heap.size + 1, 0, none⟩) (Nat.le_succ _) _).setCell (p := ⟨w.heap.size + 1, 1, none⟩) (Nat.le_succ _) _⟩
  | true =>
    rw [hm1] at HM
    cases hp : posL x L with
    | none =>
      have HF : Hid (desL m L x = ⟨3, m, L⟩) := Lib.hid (by simp [desL, findL_none hm1 hp])
      have HI := Lib.hid (atI_none hp)
      rw [HI.out] at HA
      clear h hn hm1 hl hp
      go_enter Tryz.func79, Tryz.ntmps79
      go_wp2_with (first | (go_at_call 55; refine HM.out.mono ?_; rintro e w1 ⟨rfl, x1⟩; have HX1 := Lib.hid (HX0.out.trans x1); have A1 := Lib.hid (HB1.out.ext x1); have A2 := Lib.hid (HB2.out.ext x1); have a0 := A1.out.cell 0 _ rfl; have a1 := A1.out.cell 1 _ rfl; have b0 := A2.out.cell 0 _ rfl; have b1 := A2.out.cell 1 _ rfl; have bf0 := A2.out.frozen 0; have bf1 := A2.out.frozen 1; clear x1) | (go_at_call 63; refine (HA.out _ HX1.out).mono ?_; rintro e w2 ⟨rfl, x2⟩; replace HX1 := Lib.hid (HX1.out.trans x2); replace A1 := Lib.hid (A1.out.ext x2); replace A2 := Lib.hid (A2.out.ext x2); have a0 := A1.out.cell 0 _ rfl; have a1 := A1.out.cell 1 _ rfl; have b0 := A2.out.cell 0 _ rfl; have b1 := A2.out.cell 1 _ rfl; have bf0 := A2.out.frozen 0; have bf1 := A2.out.frozen 1; clear x2))
      exact bodyPost_ret (resV_row_tmp rfl _ _ (w.heap.size + 1) #[.int .u64 (m : Int), .slice p n c] rfl (load_cell _ _ _ _ _ _ ((A2.out.set_ 0 _).set_ 1 _))) rfl ⟨p, ⟨c, by rw [HF.out, HNL.out]; rfl⟩, by rw [HF.out]; exact HV.out.ext ((HX1.out.setCell (p := ⟨w.heap.size + 1, 0, none⟩) (Nat.le_succ _) _).setCell (p := ⟨w.heap.size + 1, 1, none⟩) (Nat.le_succ _) _), .inl ⟨rfl, by rw [HF.out]⟩, (HX1.out.setCell (p := ⟨w.heap.size + 1, 0, none⟩) (Nat.le_succ _) _).setCell (p := ⟨w.heap.size + 1, 1, none⟩) (Nat.le_succ _) _⟩
    | some k =>
      obtain ⟨v, hv, -, hkl⟩ := posL_get hp
      have hf := findL_at hm1 hp hv
      have hkn : k < n := by omega
      have HI := Lib.hid (atI_some hp)
      rw [HI.out] at HA
      have Hv := Lib.hid hv
      obtain ⟨ga, rfl, _⟩ := h.three (Ext.refl w) hv
      have hk0 : ¬ (k : Int) < 0 := by omega
      obtain ⟨vn, vs, vt⟩ := v
      by_cases hs : vs = 1
      · have hs1 : (vs : Int) = 1 := by omega
        have HF : Hid (desL m L x = ⟨0, m, L.set k ⟨x, 3, ⟨#[]⟩⟩⟩) := Lib.hid (by simp only [desL]; rw [hf, if_pos hs]; rfl)
        have hn0 : 0 + n ≤ 1000000000 := by omega
        clear h hn hm1 hl hp hf hv hs hkl
        go_enter Tryz.func79, Tryz.ntmps79
        go_wp2_with (first | (go_at_call 55; refine HM.out.mono ?_; rintro e w1 ⟨rfl, x1⟩; have HX1 := Lib.hid (HX0.out.trans x1); have A1 := Lib.hid (HB1.out.ext x1); have A2 := Lib.hid (HB2.out.ext x1); have a0 := A1.out.cell 0 _ rfl; have a1 := A1.out.cell 1 _ rfl; have b0 := A2.out.cell 0 _ rfl; have b1 := A2.out.cell 1 _ rfl; have bf0 := A2.out.frozen 0; have bf1 := A2.out.frozen 1; clear x1) | (go_at_call 63; refine (HA.out _ HX1.out).mono ?_; rintro e w2 ⟨rfl, x2⟩; replace HX1 := Lib.hid (HX1.out.trans x2); replace A1 := Lib.hid (A1.out.ext x2); replace A2 := Lib.hid (A2.out.ext x2); have a0 := A1.out.cell 0 _ rfl; have a1 := A1.out.cell 1 _ rfl; have b0 := A2.out.cell 0 _ rfl; have b1 := A2.out.cell 1 _ rfl; have bf0 := A2.out.frozen 0; have bf1 := A2.out.frozen 1; obtain ⟨ga, e', k0, k1, k2⟩ := HV.out.three HX1.out Hv.out; cases e'; have B1 : Hid (Blk (w2.alloc (.cells #[.int .u64 (m : Int), .slice none 0 0] 55)) (w.heap.size + 1) 55 [.int .u64 0, .slice none 0 0]) := Lib.hid (A2.out.alloc _); have B3 : Hid (Blk (w2.alloc (.cells #[.int .u64 (m : Int), .slice none 0 0] 55)) w2.heap.size 55 [.int .u64 (m : Int), .slice none 0 0]) := Lib.hid (Blk.new w2 [.int .u64 (m : Int), .slice none 0 0] 55); have HXB : Hid (Ext w (w2.alloc (.cells #[.int .u64 (m : Int), .slice none 0 0] 55))) := Lib.hid (HX1.out.alloc _); have HSZ : Hid ((w2.alloc (.cells #[.int .u64 (m : Int), .slice none 0 0] 55)).heap.size = w2.heap.size + 1) := Lib.hid (by simp); have HS : Hid (Src Tryz.prog 3 53 (.slice (some ga) n c) n (vsCells L) (w2.alloc (.cells #[.int .u64 (m : Int), .slice none 0 0] 55))) := Lib.hid (by have := (HV.out.ext HXB.out).src c; rwa [HNL.out] at this); have hlt2 := A2.out.lt; have aB := (A1.out.alloc (.cells #[.int .u64 (m : Int), .slice none 0 0] 55)).cell 1 _ rfl; have n3 : ¬ w.heap.size = w2.heap.size := (by omega); have n3' : ¬ w2.heap.size = w.heap.size := (by omega); clear x2) | (refine wpList_append_sl rfl (.tmp 30) (.tmp 32) 53 53 rfl Tryz.underlying53 infoV rfl (by decide) rfl (Sl.nil _ (kp none) 1 3 _) (fun u hu => by cases hu) _ rfl n _ HS.out hn0 ?_; intro p4 c4 w4 κ4 s4 f4 e4 x4 o4; rw [Nat.zero_add, List.nil_append] at s4; have HX4 := Lib.hid (x4 rfl); have HV4 : Hid (IsV w4 (w2.heap.size + 1) p4 c4 L) := Lib.hid (isV_new HNL.out s4 (by have := e4; rwa [HSZ.out] at this)); have C1 := Lib.hid (B1.out.ext HX4.out); have C3 := Lib.hid (B3.out.ext HX4.out); have r0 := C1.out.cell 0 _ rfl; have r1 := C1.out.cell 1 _ rfl; have rf0 := C1.out.frozen 0; have rf1 := C1.out.frozen 1; have d0 := C3.out.cell 0 _ rfl; have d1 := C3.out.cell 1 _ rfl; have df0 := C3.out.frozen 0; have df1 := C3.out.frozen 1; have HV5 := Lib.hid (HV4.out.setCell (a := ⟨w2.heap.size, 1, none⟩) (by show w2.heap.size < _; omega) (.slice p4 n c4)); obtain ⟨a', ea, _⟩ := HV5.out.vers.three (Ext.refl _) Hv.out; cases ea; obtain ⟨g, ea, hlow⟩ := HV5.out.block; cases ea; obtain ⟨⟨q0, q1, q2⟩, ⟨l0, l1, l2⟩, j1, j2⟩ := HV5.out.lit (x := ⟨x, 3, ⟨#[]⟩⟩) Hv.out; obtain ⟨⟨r0', r1', r2'⟩, ⟨m0', m1', m2'⟩, _⟩ := HV4.out.lit (x := ⟨x, 3, ⟨#[]⟩⟩) Hv.out; have HV6 := Lib.hid j1; have HK6 := Lib.hid j2; have n0 : ¬ g = w.heap.size + 1 := (by omega); have n0' : ¬ w.heap.size + 1 = g := (by omega); have n1 : ¬ g = w2.heap.size := (by omega); have n1' : ¬ w2.heap.size = g := (by omega); have n2 : ¬ w2.heap.size = w.heap.size + 1 := (by omega); have n2' : ¬ w.heap.size + 1 = w2.heap.size := (by omega); clear s4 f4 e4 x4 o4 j1 j2; rw [Nat.zero_add]))
        exact bodyPost_ret (resV_row_tmp rfl _ _ (w.heap.size + 1) #[.int .u64 (m : Int), .slice (some ⟨g, 0, none⟩) n c4] rfl (load_cell _ _ _ _ _ _ ((((C1.out.other n2' 1 _).keepV HK6.out (by decide)).set_ 0 _).set_ 1 _))) rfl ⟨some ⟨g, 0, none⟩, ⟨c4, by rw [HF.out]; dsimp only; rw [List.length_set, HNL.out]; rfl⟩, by rw [HF.out]; exact ((HV6.out.setCell (a := ⟨w.heap.size + 1, 0, none⟩) (by show w.heap.size + 1 < w2.heap.size + 1; omega) _).setCell (a := ⟨w.heap.size + 1, 1, none⟩) (by show w.heap.size + 1 < w2.heap.size + 1; omega) _).vers, .inr (fun a e => by cases e; show w.heap.size ≤ g; omega), ((((HXB.out.trans HX4.out).setCell (p := ⟨w2.heap.size, 1, none⟩) (by show w.heap.size ≤ w2.heap.size; omega) _).keptV (HK6.out.base (by omega))).setCell (p := ⟨w.heap.size + 1, 0, none⟩) (Nat.le_succ _) _).setCell (p := ⟨w.heap.size + 1, 1, none⟩) (Nat.le_succ _) _⟩
      · have hs1 : ((vs : Int) != 1) = true := by have : ¬ (vs : Int) = 1 := (by omega); simpa using this
        have HF : Hid (desL m L x = ⟨171, m, L⟩) := Lib.hid (by simp only [desL]; rw [hf, if_neg hs]; rfl)
        clear h hn hm1 hl hp hf hv hs hkl
        go_enter Tryz.func79, Tryz.ntmps79
        go_wp2_with (first | (go_at_call 55; refine HM.out.mono ?_; rintro e w1 ⟨rfl, x1⟩; have HX1 := Lib.hid (HX0.out.trans x1); have A1 := Lib.hid (HB1.out.ext x1); have A2 := Lib.hid (HB2.out.ext x1); have a0 := A1.out.cell 0 _ rfl; have a1 := A1.out.cell 1 _ rfl; have b0 := A2.out.cell 0 _ rfl; have b1 := A2.out.cell 1 _ rfl; have bf0 := A2.out.frozen 0; have bf1 := A2.out.frozen 1; clear x1) | (go_at_call 63; refine (HA.out _ HX1.out).mono ?_; rintro e w2 ⟨rfl, x2⟩; replace HX1 := Lib.hid (HX1.out.trans x2); replace A1 := Lib.hid (A1.out.ext x2); replace A2 := Lib.hid (A2.out.ext x2); have a0 := A1.out.cell 0 _ rfl; have a1 := A1.out.cell 1 _ rfl; have b0 := A2.out.cell 0 _ rfl; have b1 := A2.out.cell 1 _ rfl; have bf0 := A2.out.frozen 0; have bf1 := A2.out.frozen 1; obtain ⟨ga, e', k0, k1, k2⟩ := HV.out.three HX1.out Hv.out; cases e'; clear x2))
        exact bodyPost_ret (resV_row_tmp rfl _ _ (w.heap.size + 1) #[.int .u64 (m : Int), .slice (some ga) n c] rfl (load_cell _ _ _ _ _ _ ((A2.out.set_ 0 _).set_ 1 _))) rfl ⟨some ga, ⟨c, by rw [HF.out, HNL.out]; rfl⟩, by rw [HF.out]; exact HV.out.ext ((HX1.out.setCell (p := ⟨w.heap.size + 1, 0, none⟩) (Nat.le_succ _) _).setCell (p := ⟨w.heap.size + 1, 1, none⟩) (Nat.le_succ _) _), .inl ⟨rfl, by rw [HF.out]⟩, (HX1.out.setCell (p := ⟨w.heap.size + 1, 0, none⟩) (Nat.le_succ _) _).setCell (p := ⟨w.heap.size + 1, 1, none⟩) (Nat.le_succ _) _⟩
end Go.Proofs.YtkjcpjalldbahaaGreatDoor
end

section
namespace Go.Proofs.YtkjcpjalldbahaaGreatDoor
open Go.RowKit

set_option maxRecDepth 100000 in
set_option maxHeartbeats 1000000 in
theorem rPieces_any (s : ByteArray) (hs : s.size ≤ 140737488351232) (w : World) : Calls Tryz.prog 36 #[.string s] w (TextsR (piecesB s) w) := by
  by_cases h1 : 128 < s.size
  · have e : mayB s.data.toList = false := by unfold mayB; rw [size_list, decide_eq_false (by omega)]; rfl
    rw [piecesB_no e]
    clear e
    go_enter Tryz.func36, Tryz.ntmps36; go_wp2; go_ret; exact ⟨none, 0, rfl, TextsP.none _, Ext.refl w⟩
  have HC := Lib.hid (fun u => rcut_any s (by omega) u)
  have HLe := Lib.hid (cutsB_le s)
  have hLn := cutsB_len_le s
  by_cases h8 : 8 < (cutsB s).length
  · have e : mayB s.data.toList = false := by unfold mayB; rw [cutsB_length] at h8; rw [decide_eq_false (p := (cuts s.data.toList).length ≤ 8) (by omega)]; simp
    rw [piecesB_no e]
    clear e
    generalize cutsB s = L at *
    go_enter Tryz.func36, Tryz.ntmps36
    go_wp2_with (go_at_call 61; refine (HC.out _).mono ?_; rintro e w1 ⟨v, rfl, hb, x1⟩; have X := Lib.hid x1; obtain ⟨p, c, rfl, ht, -⟩ := hb.texts; clear hb ht x1)
    go_ret
    exact ⟨none, 0, rfl, TextsP.none _, X.out⟩
  have HN := Lib.hid (fun x (h : x ∈ cutsB s) hx => piecesB_no (may_no s x h hx))
  have HA := Lib.hid (fun (hx : ∀ x ∈ cutsB s, pieceB x.data.toList = true) => piecesB_of (s := s) ((may_all s (by omega) hx).trans (decide_eq_true (by omega))))
  generalize cutsB s = L at *
  generalize piecesB s = R at *
  go_enter Tryz.func36, Tryz.ntmps36
  go_wp2_with (go_at_call 61; refine (HC.out _).mono ?_; rintro e w1 ⟨v, rfl, hb, x1⟩; have X := Lib.hid x1; obtain ⟨p, c, rfl, ht, -⟩ := hb.texts; have HT := Lib.hid ht; clear hb ht x1)
  go_loop [4] (fun i => ∃ k : Nat, k ≤ L.length ∧ i = .int .i64 k ∧ Hid (∀ x ∈ L.take k, pieceB x.data.toList = true)) (fun i => L.length - (intOf i).toNat)
  case atStart => exact ⟨0, Nat.zero_le _, rfl, Lib.hid (by simp)⟩
  case round =>
    obtain ⟨k, hk, rfl, hall⟩ := hrel
    by_cases hlt : k < L.length
    · obtain ⟨x, hx⟩ : ∃ x, L[k]? = some x := ⟨_, List.getElem?_eq_getElem hlt⟩
      obtain ⟨a, rfl, _, hc⟩ := HT.out k x hx
      have HX := Lib.hid hx
      have hxs := HLe.out x (List.mem_of_getElem? hx)
      clear hx
      cases hi : pieceB x.data.toList with
      | true =>
        have HI := Lib.hid hi
        clear hi
        go_wp2_with (go_at_call 62; refine (rpiece_any _ (by omega) _).mono ?_; rintro e w' ⟨rfl, rfl⟩; rw [HI.out])
        go_round
        case rel =>
          refine ⟨k + 1, by omega, by go_num, Lib.hid ?_⟩
          intro y hy
          rw [List.take_add_one, HX.out] at hy
          rcases List.mem_append.1 hy with hy | hy
          · exact hall.out y hy
          · simp at hy; subst hy; exact HI.out
        case measure => simp [intOf]; omega
      | false =>
        have HI := Lib.hid hi
        obtain rfl : R = [] := HN.out x (List.mem_of_getElem? HX.out) hi
        clear hi
        go_wp2_with (go_at_call 62; refine (rpiece_any _ (by omega) _).mono ?_; rintro e w' ⟨rfl, rfl⟩; rw [HI.out])
        go_ret
        exact ⟨none, 0, rfl, TextsP.none _, X.out⟩
    · obtain rfl : k = L.length := by omega
      have e := hall.out
      rw [List.take_of_length_le (Nat.le_refl _)] at e
      obtain rfl : R = L := HA.out e
      clear e
      go_wp2
      go_ret
      exact ⟨p, c, rfl, HT.out, X.out⟩
theorem rPrefix_any (s : ByteArray) (hs : s.size ≤ 140737488351232) (w : World) : Calls Tryz.prog 103 #[.string s] w fun e w' => e = .returned (.bool (prefB s.data.toList)) ∧ Ext w w' := by
  rcases str_cases s with rfl | ⟨h1, h2, h3⟩
  · go_enter Tryz.func103, Tryz.ntmps103
    go_wp2
    go_ret
    exact ⟨rfl, Ext.refl w⟩
  · have e : prefB s.data.toList = decide (0 < (piecesB s).length) := by unfold prefB; rw [h2, piecesB_may]; rfl
    rw [e]
    have HM := Lib.hid (fun u => rPieces_any s hs u)
    have h8 := piecesB_len s
    clear h2 h3 e
    generalize piecesB s = L at *
    go_enter Tryz.func103, Tryz.ntmps103
    go_wp2_with (go_at_call 36; refine (HM.out _).mono ?_; rintro e w1 ⟨p, c, rfl, _, x1⟩; have X := Lib.hid x1; clear x1)
    go_ret
    exact ⟨rfl, X.out⟩
set_option maxRecDepth 100000 in
set_option maxHeartbeats 2000000 in
theorem rUnder_any (p s : ByteArray) (hp : p.size ≤ 140737488351232) (hs : s.size ≤ 140737488351232) (w : World) :
    Calls Tryz.prog 87 #[.string p, .string s] w fun e w' => e = .returned (.bool (underT p s)) ∧ Ext w w' := by
  have HP := Lib.hid (fun u => rPieces_any p hp u)
  have HS := Lib.hid (fun u => rPieces_any s hs u)
  have HF := Lib.hid (fun u => rPrefix_any p hp u)
  have hu := under_iff p s
  have hp8 := piecesB_len p
  have hs8 := piecesB_len s
  generalize piecesB p = P at *
  generalize piecesB s = L at *
  obtain ⟨U, hU⟩ : ∃ U, underT p s = U := ⟨_, rfl⟩
  rw [hU] at hu ⊢
  clear hU
  have HU := Lib.hid hu
  clear hu
  cases hpr : prefB p.data.toList with
  | false =>
    obtain rfl : U = false := by rw [← Bool.not_eq_true, HU.out, hpr]; simp
    rw [hpr] at HF
    clear hpr
    go_enter Tryz.func87, Tryz.ntmps87
    go_wp2_with (first
      | (go_at_call 36; ((with_reducible refine (HP.out _).mono ?_); rintro e w1 ⟨pp, cp, rfl, t1, x1⟩; have X := Lib.hid x1; clear x1 t1))
      | (go_at_call 36; ((with_reducible refine (HS.out _).mono ?_); rintro e w2 ⟨ps, cs, rfl, t2, x2⟩; have X2 := Lib.hid x2; clear x2 t2))
      | (go_at_call 103; refine (HF.out _).mono ?_; rintro e w3 ⟨rfl, x3⟩; have X3 := Lib.hid x3; clear x3))
    go_ret
    exact ⟨rfl, (X.out.trans X2.out).trans X3.out⟩
  | true =>
    rw [hpr] at HF
    have HU2 : Hid (U = true ↔ P.length < L.length ∧ ∀ i, i < P.length → P[i]? = L[i]?) := Lib.hid (by rw [HU.out, hpr]; simp)
    clear hpr HU
    by_cases hlen : P.length < L.length
    · go_enter Tryz.func87, Tryz.ntmps87
      go_wp2_with (first
        | (go_at_call 36; ((with_reducible refine (HP.out _).mono ?_); rintro e w1 ⟨pp, cp, rfl, t1, x1⟩; have X := Lib.hid x1; have T1 := Lib.hid t1; clear x1 t1))
        | (go_at_call 36; ((with_reducible refine (HS.out _).mono ?_); rintro e w2 ⟨ps, cs, rfl, t2, x2⟩; have X2 := Lib.hid x2; have T2 := Lib.hid t2; clear x2 t2))
        | (go_at_call 103; refine (HF.out _).mono ?_; rintro e w3 ⟨rfl, x3⟩; have X3 := Lib.hid x3; clear x3))
      have HXX := Lib.hid ((X.out.trans X2.out).trans X3.out)
      have HTP := Lib.hid (fun u (hu : Ext w3 u) => T1.out.ext ((X2.out.trans X3.out).trans hu))
      have HTS := Lib.hid (fun u (hu : Ext w3 u) => T2.out.ext (X3.out.trans hu))
      go_loopw [7] (fun iv wr => ∃ k : Nat, k ≤ P.length ∧ iv = .int .i64 k ∧ Hid (∀ i, i < k → P[i]? = L[i]?) ∧ Hid (Ext w3 wr)) (fun iv _ => P.length - (intOf iv).toNat)
      case atStart => exact ⟨0, Nat.zero_le _, rfl, Lib.hid (fun i hi => by omega), Lib.hid (Ext.refl _)⟩
      case round =>
        obtain ⟨k, hk, rfl, hall, hx⟩ := hrel
        by_cases hlt : k < P.length
        · obtain ⟨x, hxk⟩ : ∃ x, P[k]? = some x := ⟨_, List.getElem?_eq_getElem hlt⟩
          obtain ⟨y, hyk⟩ : ∃ y, L[k]? = some y := ⟨_, List.getElem?_eq_getElem (by omega)⟩
          obtain ⟨a1, rfl, _, hc1⟩ := HTP.out _ hx.out k x hxk
          obtain ⟨a2, rfl, _, hc2⟩ := HTS.out _ hx.out k y hyk
          have HX := Lib.hid hxk; have HY := Lib.hid hyk
          clear hxk hyk
          by_cases hxy : x = y
          · subst hxy
            go_wp2
            go_quiet (fail)
            go_wp2
            go_roundw
            case rel =>
              refine ⟨k + 1, hlt, by go_num, Lib.hid fun i hi => ?_, Lib.hid (hx.out.drewN _)⟩
              by_cases hik : i = k
              · subst hik; rw [HX.out, HY.out]
              · exact hall.out i (by omega)
            case measure => simp [intOf]; omega
          · have hne : (x.toList == y.toList) = false := by
              rw [beq_eq_false_iff_ne]
              intro e
              rw [Lib.toList_data, Lib.toList_data] at e
              exact hxy (by rw [← toB_of x, e, toB_of])
            have hne2 : (x.toList != y.toList) = true := by rw [bne, hne]; rfl
            obtain rfl : U = false := by
              rw [← Bool.not_eq_true, HU2.out]
              rintro ⟨_, h⟩
              have := h k hlt
              rw [HX.out, HY.out] at this
              exact hxy (Option.some.inj this)
            clear hxy
            go_wp2
            go_quiet (fail)
            go_wp2
            go_ret
            exact ⟨rfl, HXX.out.trans (hx.out.drewN _)⟩
        · obtain rfl : k = P.length := by omega
          obtain rfl : U = true := HU2.out.2 ⟨hlen, hall.out⟩
          go_wp2
          go_ret
          exact ⟨rfl, HXX.out.trans hx.out⟩
    · obtain rfl : U = false := by rw [← Bool.not_eq_true, HU2.out]; exact fun h => hlen h.1
      go_enter Tryz.func87, Tryz.ntmps87
      go_wp2_with (first
        | (go_at_call 36; ((with_reducible refine (HP.out _).mono ?_); rintro e w1 ⟨pp, cp, rfl, t1, x1⟩; have X := Lib.hid x1; clear x1 t1))
        | (go_at_call 36; ((with_reducible refine (HS.out _).mono ?_); rintro e w2 ⟨ps, cs, rfl, t2, x2⟩; have X2 := Lib.hid x2; clear x2 t2))
        | (go_at_call 103; refine (HF.out _).mono ?_; rintro e w3 ⟨rfl, x3⟩; have X3 := Lib.hid x3; clear x3))
      go_ret
      exact ⟨rfl, (X.out.trans X2.out).trans X3.out⟩
set_option maxRecDepth 100000 in
set_option maxHeartbeats 2000000 in
theorem rChild_any (p s : ByteArray) (hp : p.size ≤ 140737488351232) (hs : s.size ≤ 140737488351232) (w : World) :
    Calls Tryz.prog 68 #[.string p, .string s] w fun e w' => e = .returned (.string (childB p s)) ∧ Ext w w' := by
  have HP := Lib.hid (fun u => rPieces_any p hp u)
  have HS := Lib.hid (fun u => rPieces_any s hs u)
  have HF := Lib.hid (fun u => rUnder_any p s hp hs u)
  cases hu : underT p s with
  | false =>
    have e : childB p s = ⟨#[]⟩ := by
      unfold childB childL
      unfold underT at hu
      rw [hu]; rfl
    rw [e]
    rw [hu] at HF
    clear hu e
    go_enter Tryz.func68, Tryz.ntmps68
    go_wp2_with (go_at_call 87; refine (HF.out _).mono ?_; rintro e w3 ⟨rfl, x3⟩; have X3 := Lib.hid x3; clear x3)
    go_ret
    exact ⟨rfl, X3.out⟩
  | true =>
    rw [hu] at HF
    obtain ⟨x, hx, hc⟩ := child_at p s hu
    have hp8 := piecesB_len p
    have hs8 := piecesB_len s
    have hlt : (piecesB p).length < (piecesB s).length := (List.getElem?_eq_some_iff.1 hx).1
    have hxs := piecesB_size s x (List.mem_of_getElem? hx)
    clear hu
    generalize piecesB p = P at *
    generalize piecesB s = L at *
    generalize childB p s = C at *
    have HX := Lib.hid hx
    clear hx
    by_cases h2 : P.length + 1 < L.length
    · rw [if_pos h2] at hc
      subst hc
      go_enter Tryz.func68, Tryz.ntmps68
      go_wp2_with (first
        | (go_at_call 87; refine (HF.out _).mono ?_; rintro e w3 ⟨rfl, x3⟩; have X3 := Lib.hid x3; clear x3)
        | (go_at_call 36; ((with_reducible refine (HP.out _).mono ?_); rintro e w1 ⟨pp, cp, rfl, t1, x1⟩; have X := Lib.hid x1; clear x1 t1))
        | (go_at_call 36; ((with_reducible refine (HS.out _).mono ?_); rintro e w2 ⟨ps, cs, rfl, t2, x2⟩; have X2 := Lib.hid x2; obtain ⟨a, rfl, _, hcl⟩ := t2 _ _ HX.out; clear x2 t2)))
      go_ret
      exact ⟨rfl, (X3.out.trans X.out).trans X2.out⟩
    · rw [if_neg h2] at hc
      subst hc
      go_enter Tryz.func68, Tryz.ntmps68
      go_wp2_with (first
        | (go_at_call 87; refine (HF.out _).mono ?_; rintro e w3 ⟨rfl, x3⟩; have X3 := Lib.hid x3; clear x3)
        | (go_at_call 36; ((with_reducible refine (HP.out _).mono ?_); rintro e w1 ⟨pp, cp, rfl, t1, x1⟩; have X := Lib.hid x1; clear x1 t1))
        | (go_at_call 36; ((with_reducible refine (HS.out _).mono ?_); rintro e w2 ⟨ps, cs, rfl, t2, x2⟩; have X2 := Lib.hid x2; obtain ⟨a, rfl, _, hcl⟩ := t2 _ _ HX.out; clear x2 t2)))
      go_ret
      exact ⟨rfl, (X3.out.trans X.out).trans X2.out⟩
end Go.Proofs.YtkjcpjalldbahaaGreatDoor
end
