/- Contracts: what is read: the program's Read, and the document's. Plain: versions that rise; what both sides' Read answer is one. -/
import Derived.Test.YtkjcpjalldbahaaGreatDoorM03
import Derived.Test.YtkjcpjalldbahaaGreatDoorM04
section
namespace Go.Proofs.YtkjcpjalldbahaaGreatDoor
open Go.RowKit

theorem resV_row_tmp {fn : Func} {p u : Tmp} {ty : TypeId} (h : fn.results = #[.cell p ty, .tmp u]) (tmps : Array Value) (w : World) (g : Nat) (cs : Array Value)
    (hp : tmps.getD p undef = .pointer (some ⟨g, 0, none⟩)) (hl : (loadVar ty ⟨g, 0, none⟩).run Tryz.prog w = .ok (.agg cs) w) :
    (results fn tmps).run Tryz.prog w = .ok (.tuple #[.agg cs, tmps.getD u undef]) w := by
  rw [results_cell_tmp h, hp]
  simp [asAddr, hl, Result.andThen]
theorem ver_info : (Tryz.prog.info? 41).map (·.size) = some 3 := by kernel_rfl
theorem load_ver (w : World) (g : Nat) (a b : Int) (S : ByteArray) (h : Blk w g 41 [.int .u64 a, .int .u8 b, .string S]) :
    (loadVar 41 ⟨g, 0, none⟩).run Tryz.prog w = .ok (.agg #[.int .u64 a, .int .u8 b, .string S]) w :=
  run_loadVar_row w g 41 41 #[.int .u64 a, .int .u8 b, .string S] (0, 0) _ h Tryz.underlying41 rfl ver_info
theorem cell_info : (Tryz.prog.info? 55).map (·.size) = some 2 := by kernel_rfl
theorem load_cell (w : World) (g : Nat) (a : Int) (p : Option Addr) (n c : Nat) (h : Blk w g 55 [.int .u64 a, .slice p n c]) :
    (loadVar 55 ⟨g, 0, none⟩).run Tryz.prog w = .ok (.agg #[.int .u64 a, .slice p n c]) w :=
  run_loadVar_row w g 55 55 #[.int .u64 a, .slice p n c] (0, 0) _ h Tryz.underlying55 rfl cell_info
/-- What the document's Read answers. -/
def rreadL (last : Nat) (L : List Ver) (n : Nat) : Nat × Ver :=
  if mayL last L then
    if n = 0 then if nowL L = 0 then (3, ⟨0, 0, ⟨#[]⟩⟩) else (0, (L[L.length - 1]?).getD ⟨0, 0, ⟨#[]⟩⟩)
    else let r := findL last L n; if r.1 = 0 then (0, (L[r.2]?).getD ⟨0, 0, ⟨#[]⟩⟩) else (r.1, ⟨0, 0, ⟨#[]⟩⟩)
  else (2, ⟨0, 0, ⟨#[]⟩⟩)
theorem readL_err {m n e k mm : Nat} {L : List Ver} (hm : mm = if n = 0 then nowL L else n) (h : findL m L mm = (e, k)) (he : e ≠ 0) : readL m L n = (e, ⟨0, 0, ⟨#[]⟩⟩) := by
  simp [readL, ← hm, h, he]
theorem readL_ok {m n k mm : Nat} {L : List Ver} {v : Ver} (hm : mm = if n = 0 then nowL L else n) (h : findL m L mm = (0, k)) (hv : L[k]? = some v) : readL m L n = (0, v) := by
  simp [readL, ← hm, h, hv]
set_option maxRecDepth 100000 in
set_option maxHeartbeats 2000000 in
theorem read_any (w : World) (m n : Nat) (p : Option Addr) (c : Nat) (L : List Ver) (h : VersP w p L) (hl : L.length ≤ 140737488355328) :
    Calls Tryz.prog 35 #[.agg #[.int .u64 (m : Int), .slice p L.length c], .int .u64 (n : Int)] w fun e w' => e = .returned (.tuple #[.agg #[.int .u64 ((readL m L n).2.n : Int), .int .u8 ((readL m L n).2.s : Int), .string (readL m L n).2.t], .int .i64 ((readL m L n).1 : Int)]) ∧ Ext w w' := by
  obtain ⟨k, hk⟩ : ∃ k, L.length = k := ⟨_, rfl⟩
  have HX0 := Lib.hid (((Ext.refl w).alloc (.cells #[.int .u64 (m : Int), .slice p k c] 55)).alloc (.cells #[.int .u64 0, .int .u8 0, .string ⟨#[]⟩] 41))
  have HB1 := Lib.hid ((Blk.new w [.int .u64 (m : Int), .slice p k c] 55).alloc (.cells #[.int .u64 0, .int .u8 0, .string ⟨#[]⟩] 41))
  have HB2 := Lib.hid (Blk.new1V w (.cells #[.int .u64 (m : Int), .slice p k c] 55) [.int .u64 0, .int .u8 0, .string ⟨#[]⟩] 41)
  have HN := Lib.hid (now_any _ m p c L (h.ext HX0.out) hl)
  have HL := Lib.hid h
  rw [hk] at HN
  obtain ⟨mm, hmm⟩ : ∃ mm, mm = if n = 0 then nowL L else n := ⟨_, rfl⟩
  obtain ⟨⟨er, j⟩, hf⟩ : ∃ r, findL m L mm = r := ⟨_, rfl⟩
  have HF : Hid (∀ u, Ext w u → Calls Tryz.prog 60 #[.agg #[.int .u64 (m : Int), .slice p k c], .int .u64 (mm : Int)] u fun e w' => e = .returned (.tuple #[.int .i64 (j : Int), .int .i64 (er : Int)]) ∧ Ext u w') := Lib.hid (fun u x => by
    have := find_any u m mm p c L (h.ext x) hl
    rwa [hf, hk] at this)
  rw [hk] at hl ⊢
  by_cases he : er = 0
  · subst he
    obtain ⟨v, hv, -, -, -⟩ := findL_ok hf
    have HR := Lib.hid (readL_ok hmm hf hv)
    have Hv := Lib.hid hv
    have hjk : j < k := by have := (List.getElem?_eq_some_iff.1 hv).1; omega
    obtain ⟨g, rfl, _⟩ := HL.out.three (Ext.refl w) hv
    obtain ⟨vn, vs, vt⟩ := v
    by_cases hn : n = 0
    · subst hn
      obtain rfl : mm = nowL L := by simpa using hmm
      generalize nowL L = mm at *
      clear h hk hf hmm hv
      go_enter Tryz.func35, Tryz.ntmps35
      go_wp2_with (first
        | (go_at_call 39; refine HN.out.mono ?_; rintro e w1 ⟨rfl, x1⟩; have HX1 := Lib.hid (HX0.out.trans x1); have HB3 := Lib.hid (HB1.out.ext x1); have b1 := HB3.out.cell 0 _ rfl; have b2 := HB3.out.cell 1 _ rfl; have HB4 := Lib.hid (HB2.out.ext x1); clear x1)
        | (go_at_call 60; refine (HF.out _ HX1.out).mono ?_; rintro e w2 ⟨rfl, x2⟩; have HX2 := Lib.hid (HX1.out.trans x2); have HB5 := Lib.hid (HB3.out.ext x2); have d1 := HB5.out.cell 1 _ rfl; have HB6 := Lib.hid (HB4.out.ext x2); have f0 := HB6.out.cell 0 _ rfl; have f1 := HB6.out.cell 1 _ rfl; have f2 := HB6.out.cell 2 _ rfl; have z0 := HB6.out.frozen 0; have z1 := HB6.out.frozen 1; have z2 := HB6.out.frozen 2; obtain ⟨g', e', c0, c1, c2⟩ := HL.out.three (HX1.out.trans x2) Hv.out; cases e'; clear x2))
      exact bodyPost_ret (resV_row_tmp rfl _ _ (w.heap.size + 1) #[.int .u64 (vn : Int), .int .u8 (vs : Int), .string vt] rfl (load_ver _ _ _ _ _ (((HB6.out.set_ 0 _).set_ 1 _).set_ 2 _))) rfl ⟨by rw [HR.out]; rfl, ((HX2.out.setCell (p := ⟨w.heap.size + 1, 0, none⟩) (Nat.le_succ _) _).setCell (p := ⟨w.heap.size + 1, 1, none⟩) (Nat.le_succ _) _).setCell (p := ⟨w.heap.size + 1, 2, none⟩) (Nat.le_succ _) _⟩
    · have hn2 : ((n : Int) == 0) = false := by have : ¬ (n : Int) = 0 := (by omega); simpa using this
      obtain rfl : mm = n := by rw [hmm, if_neg hn]
      have HX1 := HX0; have HB3 := HB1; have HB4 := HB2
      clear h hk hf hmm hv hn
      go_enter Tryz.func35, Tryz.ntmps35
      go_wp2_with (first
        | (go_at_call 60; refine (HF.out _ HX1.out).mono ?_; rintro e w2 ⟨rfl, x2⟩; have HX2 := Lib.hid (HX1.out.trans x2); have HB5 := Lib.hid (HB3.out.ext x2); have d1 := HB5.out.cell 1 _ rfl; have HB6 := Lib.hid (HB4.out.ext x2); have f0 := HB6.out.cell 0 _ rfl; have f1 := HB6.out.cell 1 _ rfl; have f2 := HB6.out.cell 2 _ rfl; have z0 := HB6.out.frozen 0; have z1 := HB6.out.frozen 1; have z2 := HB6.out.frozen 2; obtain ⟨g', e', c0, c1, c2⟩ := HL.out.three (HX1.out.trans x2) Hv.out; cases e'; clear x2))
      exact bodyPost_ret (resV_row_tmp rfl _ _ (w.heap.size + 1) #[.int .u64 (vn : Int), .int .u8 (vs : Int), .string vt] rfl (load_ver _ _ _ _ _ (((HB6.out.set_ 0 _).set_ 1 _).set_ 2 _))) rfl ⟨by rw [HR.out]; rfl, ((HX2.out.setCell (p := ⟨w.heap.size + 1, 0, none⟩) (Nat.le_succ _) _).setCell (p := ⟨w.heap.size + 1, 1, none⟩) (Nat.le_succ _) _).setCell (p := ⟨w.heap.size + 1, 2, none⟩) (Nat.le_succ _) _⟩
  · have HR := Lib.hid (readL_err hmm hf he)
    have he2 : ((er : Int) != 0) = true := by have : ¬ (er : Int) = 0 := (by omega); simpa using this
    by_cases hn : n = 0
    · subst hn
      obtain rfl : mm = nowL L := by simpa using hmm
      generalize nowL L = mm at *
      clear h hk hf hmm he
      go_enter Tryz.func35, Tryz.ntmps35
      go_wp2_with (first
        | (go_at_call 39; refine HN.out.mono ?_; rintro e w1 ⟨rfl, x1⟩; have HX1 := Lib.hid (HX0.out.trans x1); have HB3 := Lib.hid (HB1.out.ext x1); have b1 := HB3.out.cell 0 _ rfl; have b2 := HB3.out.cell 1 _ rfl; have HB4 := Lib.hid (HB2.out.ext x1); clear x1)
        | (go_at_call 60; refine (HF.out _ HX1.out).mono ?_; rintro e w2 ⟨rfl, x2⟩; have HX2 := Lib.hid (HX1.out.trans x2); have HB5 := Lib.hid (HB3.out.ext x2); have d1 := HB5.out.cell 1 _ rfl; have HB6 := Lib.hid (HB4.out.ext x2); have f0 := HB6.out.cell 0 _ rfl; have f1 := HB6.out.cell 1 _ rfl; have f2 := HB6.out.cell 2 _ rfl; have z0 := HB6.out.frozen 0; have z1 := HB6.out.frozen 1; have z2 := HB6.out.frozen 2; clear x2))
      exact bodyPost_ret (resV_row_tmp rfl _ _ (w.heap.size + 1) #[.int .u64 0, .int .u8 0, .string ⟨#[]⟩] rfl (load_ver _ _ _ _ _ (((HB6.out.set_ 0 _).set_ 1 _).set_ 2 _))) rfl ⟨by rw [HR.out]; rfl, ((HX2.out.setCell (p := ⟨w.heap.size + 1, 0, none⟩) (Nat.le_succ _) _).setCell (p := ⟨w.heap.size + 1, 1, none⟩) (Nat.le_succ _) _).setCell (p := ⟨w.heap.size + 1, 2, none⟩) (Nat.le_succ _) _⟩
    · have hn2 : ((n : Int) == 0) = false := by have : ¬ (n : Int) = 0 := (by omega); simpa using this
      obtain rfl : mm = n := by rw [hmm, if_neg hn]
      have HX1 := HX0; have HB3 := HB1; have HB4 := HB2
      clear h hk hf hmm hn he
      go_enter Tryz.func35, Tryz.ntmps35
      go_wp2_with (first
        | (go_at_call 60; refine (HF.out _ HX1.out).mono ?_; rintro e w2 ⟨rfl, x2⟩; have HX2 := Lib.hid (HX1.out.trans x2); have HB5 := Lib.hid (HB3.out.ext x2); have d1 := HB5.out.cell 1 _ rfl; have HB6 := Lib.hid (HB4.out.ext x2); have f0 := HB6.out.cell 0 _ rfl; have f1 := HB6.out.cell 1 _ rfl; have f2 := HB6.out.cell 2 _ rfl; have z0 := HB6.out.frozen 0; have z1 := HB6.out.frozen 1; have z2 := HB6.out.frozen 2; clear x2))
      exact bodyPost_ret (resV_row_tmp rfl _ _ (w.heap.size + 1) #[.int .u64 0, .int .u8 0, .string ⟨#[]⟩] rfl (load_ver _ _ _ _ _ (((HB6.out.set_ 0 _).set_ 1 _).set_ 2 _))) rfl ⟨by rw [HR.out]; rfl, ((HX2.out.setCell (p := ⟨w.heap.size + 1, 0, none⟩) (Nat.le_succ _) _).setCell (p := ⟨w.heap.size + 1, 1, none⟩) (Nat.le_succ _) _).setCell (p := ⟨w.heap.size + 1, 2, none⟩) (Nat.le_succ _) _⟩

theorem rreadL_bad {m n : Nat} {L : List Ver} (h : mayL m L = false) : rreadL m L n = (2, ⟨0, 0, ⟨#[]⟩⟩) := by simp [rreadL, h]
theorem rreadL_now0 {m : Nat} {L : List Ver} (h : mayL m L = true) (hn : nowL L = 0) : rreadL m L 0 = (3, ⟨0, 0, ⟨#[]⟩⟩) := by simp [rreadL, h, hn]
theorem rreadL_now {m : Nat} {L : List Ver} {v : Ver} (h : mayL m L = true) (hn : nowL L ≠ 0) (hv : L[L.length - 1]? = some v) : rreadL m L 0 = (0, v) := by simp [rreadL, h, hn, hv]
theorem rreadL_err {m n e k : Nat} {L : List Ver} (h : mayL m L = true) (hn : n ≠ 0) (hf : findL m L n = (e, k)) (he : e ≠ 0) : rreadL m L n = (e, ⟨0, 0, ⟨#[]⟩⟩) := by simp [rreadL, h, hn, hf, he]
theorem rreadL_ok {m n k : Nat} {L : List Ver} {v : Ver} (h : mayL m L = true) (hn : n ≠ 0) (hf : findL m L n = (0, k)) (hv : L[k]? = some v) : rreadL m L n = (0, v) := by simp [rreadL, h, hn, hf, hv]
set_option maxRecDepth 100000 in
set_option maxHeartbeats 2000000 in
theorem rread_any (w : World) (m n : Nat) (p : Option Addr) (c : Nat) (L : List Ver) (h : VersP w p L) (hl : L.length ≤ 140737488355328) :
    Calls Tryz.prog 38 #[.agg #[.int .u64 (m : Int), .slice p L.length c], .int .u64 (n : Int)] w fun e w' => e = .returned (.tuple #[.agg #[.int .u64 ((rreadL m L n).2.n : Int), .int .u8 ((rreadL m L n).2.s : Int), .string (rreadL m L n).2.t], .int .i64 ((rreadL m L n).1 : Int)]) ∧ Ext w w' := by
  obtain ⟨k, hk⟩ : ∃ k, L.length = k := ⟨_, rfl⟩
  have HX0 := Lib.hid (((Ext.refl w).alloc (.cells #[.int .u64 (m : Int), .slice p k c] 55)).alloc (.cells #[.int .u64 0, .int .u8 0, .string ⟨#[]⟩] 41))
  have HB1 := Lib.hid ((Blk.new w [.int .u64 (m : Int), .slice p k c] 55).alloc (.cells #[.int .u64 0, .int .u8 0, .string ⟨#[]⟩] 41))
  have HB2 := Lib.hid (Blk.new1V w (.cells #[.int .u64 (m : Int), .slice p k c] 55) [.int .u64 0, .int .u8 0, .string ⟨#[]⟩] 41)
  have HM := Lib.hid (rmay_any _ m p c L (h.ext HX0.out) hl)
  have HL := Lib.hid h
  have HN : Hid (∀ u, Ext w u → Calls Tryz.prog 41 #[.agg #[.int .u64 (m : Int), .slice p k c]] u fun e w' => e = .returned (.int .u64 (nowL L : Int)) ∧ Ext u w') := Lib.hid (fun u x => by
    have := rnow_any u m p c L (h.ext x) hl
    rwa [hk] at this)
  have HA : Hid (∀ u, Ext w u → Calls Tryz.prog 63 #[.agg #[.int .u64 (m : Int), .slice p k c], .int .u64 (n : Int)] u fun e w' => e = .returned (.int .i64 (atI n L)) ∧ Ext u w') := Lib.hid (fun u x => by
    have := rat_any u m n p c L (h.ext x) hl
    rwa [hk] at this)
  rw [hk] at HM
  have HK := Lib.hid hk
  rw [hk] at hl ⊢
  clear hk
  cases hm : mayL m L with
  | false =>
    have HR := Lib.hid (rreadL_bad (n := n) hm)
    rw [hm] at HM
    clear h hm
    go_enter Tryz.func38, Tryz.ntmps38
    go_wp2_with ((go_at_call 55; refine HM.out.mono ?_; rintro e w1 ⟨rfl, x1⟩; have HX2 := Lib.hid (HX0.out.trans x1); have HB3 := Lib.hid (HB1.out.ext x1); have b0 := HB3.out.cell 0 _ rfl; have b1 := HB3.out.cell 1 _ rfl; have HB6 := Lib.hid (HB2.out.ext x1); have f0 := HB6.out.cell 0 _ rfl; have f1 := HB6.out.cell 1 _ rfl; have f2 := HB6.out.cell 2 _ rfl; have z0 := HB6.out.frozen 0; have z1 := HB6.out.frozen 1; have z2 := HB6.out.frozen 2; clear x1))
    exact bodyPost_ret (resV_row_tmp rfl _ _ (w.heap.size + 1) #[.int .u64 0, .int .u8 0, .string ⟨#[]⟩] rfl (load_ver _ _ _ _ _ (((HB6.out.set_ 0 _).set_ 1 _).set_ 2 _))) rfl ⟨by rw [HR.out]; rfl, ((HX2.out.setCell (p := ⟨w.heap.size + 1, 0, none⟩) (Nat.le_succ _) _).setCell (p := ⟨w.heap.size + 1, 1, none⟩) (Nat.le_succ _) _).setCell (p := ⟨w.heap.size + 1, 2, none⟩) (Nat.le_succ _) _⟩
  | true =>
    rw [hm] at HM
    by_cases hn : n = 0
    · subst hn
      by_cases hw : nowL L = 0
      · have HR := Lib.hid (rreadL_now0 hm hw)
        rw [hw] at HN
        clear h hm hw
        go_enter Tryz.func38, Tryz.ntmps38
        go_wp2_with (first | (go_at_call 55; refine HM.out.mono ?_; rintro e w1 ⟨rfl, x1⟩; have HX2 := Lib.hid (HX0.out.trans x1); have HB3 := Lib.hid (HB1.out.ext x1); have b0 := HB3.out.cell 0 _ rfl; have b1 := HB3.out.cell 1 _ rfl; have HB6 := Lib.hid (HB2.out.ext x1); have f0 := HB6.out.cell 0 _ rfl; have f1 := HB6.out.cell 1 _ rfl; have f2 := HB6.out.cell 2 _ rfl; have z0 := HB6.out.frozen 0; have z1 := HB6.out.frozen 1; have z2 := HB6.out.frozen 2; clear x1) | (go_at_call 41; refine (HN.out _ HX2.out).mono ?_; rintro e w2 ⟨rfl, x2⟩; have HX2 := Lib.hid (HX2.out.trans x2); have d1 := (HB3.out.ext x2).cell 1 _ rfl; have HB6 := Lib.hid (HB6.out.ext x2); have f0 := HB6.out.cell 0 _ rfl; have f1 := HB6.out.cell 1 _ rfl; have f2 := HB6.out.cell 2 _ rfl; have z0 := HB6.out.frozen 0; have z1 := HB6.out.frozen 1; have z2 := HB6.out.frozen 2; clear x2))
        exact bodyPost_ret (resV_row_tmp rfl _ _ (w.heap.size + 1) #[.int .u64 0, .int .u8 0, .string ⟨#[]⟩] rfl (load_ver _ _ _ _ _ (((HB6.out.set_ 0 _).set_ 1 _).set_ 2 _))) rfl ⟨by rw [HR.out]; rfl, ((HX2.out.setCell (p := ⟨w.heap.size + 1, 0, none⟩) (Nat.le_succ _) _).setCell (p := ⟨w.heap.size + 1, 1, none⟩) (Nat.le_succ _) _).setCell (p := ⟨w.heap.size + 1, 2, none⟩) (Nat.le_succ _) _⟩
      · have hne : L ≠ [] := fun e => hw (by rw [e]; rfl)
        have hpos : 0 < L.length := List.length_pos_iff.2 hne
        obtain ⟨j, hj⟩ : ∃ j, k = j + 1 := ⟨k - 1, by have := HK.out; omega⟩
        obtain ⟨v, hv⟩ : ∃ v, L[j]? = some v := ⟨_, List.getElem?_eq_getElem (by have := HK.out; omega)⟩
        have HR := Lib.hid (rreadL_now hm hw (v := v) (by rw [HK.out, hj, Nat.add_sub_cancel]; exact hv))
        have Hv := Lib.hid hv
        obtain ⟨g, rfl, _⟩ := HL.out.three (Ext.refl w) hv
        have hw2 : ((nowL L : Int) == 0) = false := by have : ¬ (nowL L : Int) = 0 := (by omega); simpa using this
        generalize nowL L = z at *
        subst hj
        obtain ⟨vn, vs, vt⟩ := v
        have hw1 : IntKind.i64.wrap (j : Int) = (j : Int) := IntWalk.i64_in _ ⟨by omega, by omega⟩
        clear h hm hw hne hpos hv
        go_enter Tryz.func38, Tryz.ntmps38
        go_wp2_with (first | (go_at_call 55; refine HM.out.mono ?_; rintro e w1 ⟨rfl, x1⟩; have HX2 := Lib.hid (HX0.out.trans x1); have HB3 := Lib.hid (HB1.out.ext x1); have b0 := HB3.out.cell 0 _ rfl; have b1 := HB3.out.cell 1 _ rfl; have HB6 := Lib.hid (HB2.out.ext x1); have f0 := HB6.out.cell 0 _ rfl; have f1 := HB6.out.cell 1 _ rfl; have f2 := HB6.out.cell 2 _ rfl; have z0 := HB6.out.frozen 0; have z1 := HB6.out.frozen 1; have z2 := HB6.out.frozen 2; clear x1) | (go_at_call 41; refine (HN.out _ HX2.out).mono ?_; rintro e w2 ⟨rfl, x2⟩; have HX2 := Lib.hid (HX2.out.trans x2); have d1 := (HB3.out.ext x2).cell 1 _ rfl; have HB6 := Lib.hid (HB6.out.ext x2); have f0 := HB6.out.cell 0 _ rfl; have f1 := HB6.out.cell 1 _ rfl; have f2 := HB6.out.cell 2 _ rfl; have z0 := HB6.out.frozen 0; have z1 := HB6.out.frozen 1; have z2 := HB6.out.frozen 2; obtain ⟨g', e', c0, c1, c2⟩ := HL.out.three HX2.out Hv.out; cases e'; clear x2))
        exact bodyPost_ret (resV_row_tmp rfl _ _ (w.heap.size + 1) #[.int .u64 (vn : Int), .int .u8 (vs : Int), .string vt] rfl (load_ver _ _ _ _ _ (((HB6.out.set_ 0 _).set_ 1 _).set_ 2 _))) rfl ⟨by rw [HR.out]; rfl, ((HX2.out.setCell (p := ⟨w.heap.size + 1, 0, none⟩) (Nat.le_succ _) _).setCell (p := ⟨w.heap.size + 1, 1, none⟩) (Nat.le_succ _) _).setCell (p := ⟨w.heap.size + 1, 2, none⟩) (Nat.le_succ _) _⟩
    · have hn2 : ((n : Int) == 0) = false := by have : ¬ (n : Int) = 0 := (by omega); simpa using this
      cases hp : posL n L with
      | none =>
        have HR := Lib.hid (rreadL_err hm hn (findL_none hm hp) (by decide))
        have HI := Lib.hid (atI_none hp)
        rw [HI.out] at HA
        clear h hm hp hn
        go_enter Tryz.func38, Tryz.ntmps38
        go_wp2_with (first | (go_at_call 55; refine HM.out.mono ?_; rintro e w1 ⟨rfl, x1⟩; have HX2 := Lib.hid (HX0.out.trans x1); have HB3 := Lib.hid (HB1.out.ext x1); have b0 := HB3.out.cell 0 _ rfl; have b1 := HB3.out.cell 1 _ rfl; have HB6 := Lib.hid (HB2.out.ext x1); have f0 := HB6.out.cell 0 _ rfl; have f1 := HB6.out.cell 1 _ rfl; have f2 := HB6.out.cell 2 _ rfl; have z0 := HB6.out.frozen 0; have z1 := HB6.out.frozen 1; have z2 := HB6.out.frozen 2; clear x1) | (go_at_call 63; refine (HA.out _ HX2.out).mono ?_; rintro e w2 ⟨rfl, x2⟩; have HX2 := Lib.hid (HX2.out.trans x2); have d1 := (HB3.out.ext x2).cell 1 _ rfl; have HB6 := Lib.hid (HB6.out.ext x2); have f0 := HB6.out.cell 0 _ rfl; have f1 := HB6.out.cell 1 _ rfl; have f2 := HB6.out.cell 2 _ rfl; have z0 := HB6.out.frozen 0; have z1 := HB6.out.frozen 1; have z2 := HB6.out.frozen 2; clear x2))
        exact bodyPost_ret (resV_row_tmp rfl _ _ (w.heap.size + 1) #[.int .u64 0, .int .u8 0, .string ⟨#[]⟩] rfl (load_ver _ _ _ _ _ (((HB6.out.set_ 0 _).set_ 1 _).set_ 2 _))) rfl ⟨by rw [HR.out]; rfl, ((HX2.out.setCell (p := ⟨w.heap.size + 1, 0, none⟩) (Nat.le_succ _) _).setCell (p := ⟨w.heap.size + 1, 1, none⟩) (Nat.le_succ _) _).setCell (p := ⟨w.heap.size + 1, 2, none⟩) (Nat.le_succ _) _⟩
      | some j =>
        obtain ⟨v, hv, -, hjk⟩ := posL_get hp
        have hf := findL_at hm hp hv
        have hjk' : j < k := by have := HK.out; omega
        have HI := Lib.hid (atI_some hp)
        rw [HI.out] at HA
        have Hv := Lib.hid hv
        obtain ⟨g, rfl, _⟩ := HL.out.three (Ext.refl w) hv
        obtain ⟨vn, vs, vt⟩ := v
        by_cases hs : vs = 1
        · have hs1 : (vs : Int) = 1 := by omega
          have HR := Lib.hid (rreadL_ok hm hn (by rw [hf, if_pos hs]) hv)
          rw [hs] at HR
          clear h hm hp hn hf hs hjk hv
          go_enter Tryz.func38, Tryz.ntmps38
          go_wp2_with (first | (go_at_call 55; refine HM.out.mono ?_; rintro e w1 ⟨rfl, x1⟩; have HX2 := Lib.hid (HX0.out.trans x1); have HB3 := Lib.hid (HB1.out.ext x1); have b0 := HB3.out.cell 0 _ rfl; have b1 := HB3.out.cell 1 _ rfl; have HB6 := Lib.hid (HB2.out.ext x1); have f0 := HB6.out.cell 0 _ rfl; have f1 := HB6.out.cell 1 _ rfl; have f2 := HB6.out.cell 2 _ rfl; have z0 := HB6.out.frozen 0; have z1 := HB6.out.frozen 1; have z2 := HB6.out.frozen 2; clear x1) | (go_at_call 63; refine (HA.out _ HX2.out).mono ?_; rintro e w2 ⟨rfl, x2⟩; have HX2 := Lib.hid (HX2.out.trans x2); have d1 := (HB3.out.ext x2).cell 1 _ rfl; have HB6 := Lib.hid (HB6.out.ext x2); have f0 := HB6.out.cell 0 _ rfl; have f1 := HB6.out.cell 1 _ rfl; have f2 := HB6.out.cell 2 _ rfl; have z0 := HB6.out.frozen 0; have z1 := HB6.out.frozen 1; have z2 := HB6.out.frozen 2; obtain ⟨g', e', c0, c1, c2⟩ := HL.out.three HX2.out Hv.out; cases e'; clear x2))
          exact bodyPost_ret (resV_row_tmp rfl _ _ (w.heap.size + 1) #[.int .u64 (vn : Int), .int .u8 1, .string vt] rfl (load_ver _ _ _ _ _ (((HB6.out.set_ 0 _).set_ 1 _).set_ 2 _))) rfl ⟨by rw [HR.out]; rfl, ((HX2.out.setCell (p := ⟨w.heap.size + 1, 0, none⟩) (Nat.le_succ _) _).setCell (p := ⟨w.heap.size + 1, 1, none⟩) (Nat.le_succ _) _).setCell (p := ⟨w.heap.size + 1, 2, none⟩) (Nat.le_succ _) _⟩
        · have hs1 : ((vs : Int) != 1) = true := by have : ¬ (vs : Int) = 1 := (by omega); simpa using this
          have HR := Lib.hid (rreadL_err hm hn (by rw [hf, if_neg hs]) (by decide))
          clear h hm hp hn hf hs hjk hv
          go_enter Tryz.func38, Tryz.ntmps38
          go_wp2_with (first | (go_at_call 55; refine HM.out.mono ?_; rintro e w1 ⟨rfl, x1⟩; have HX2 := Lib.hid (HX0.out.trans x1); have HB3 := Lib.hid (HB1.out.ext x1); have b0 := HB3.out.cell 0 _ rfl; have b1 := HB3.out.cell 1 _ rfl; have HB6 := Lib.hid (HB2.out.ext x1); have f0 := HB6.out.cell 0 _ rfl; have f1 := HB6.out.cell 1 _ rfl; have f2 := HB6.out.cell 2 _ rfl; have z0 := HB6.out.frozen 0; have z1 := HB6.out.frozen 1; have z2 := HB6.out.frozen 2; clear x1) | (go_at_call 63; refine (HA.out _ HX2.out).mono ?_; rintro e w2 ⟨rfl, x2⟩; have HX2 := Lib.hid (HX2.out.trans x2); have d1 := (HB3.out.ext x2).cell 1 _ rfl; have HB6 := Lib.hid (HB6.out.ext x2); have f0 := HB6.out.cell 0 _ rfl; have f1 := HB6.out.cell 1 _ rfl; have f2 := HB6.out.cell 2 _ rfl; have z0 := HB6.out.frozen 0; have z1 := HB6.out.frozen 1; have z2 := HB6.out.frozen 2; obtain ⟨g', e', c0, c1, c2⟩ := HL.out.three HX2.out Hv.out; cases e'; clear x2))
          exact bodyPost_ret (resV_row_tmp rfl _ _ (w.heap.size + 1) #[.int .u64 0, .int .u8 0, .string ⟨#[]⟩] rfl (load_ver _ _ _ _ _ (((HB6.out.set_ 0 _).set_ 1 _).set_ 2 _))) rfl ⟨by rw [HR.out]; rfl, ((HX2.out.setCell (p := ⟨w.heap.size + 1, 0, none⟩) (Nat.le_succ _) _).setCell (p := ⟨w.heap.size + 1, 1, none⟩) (Nat.le_succ _) _).setCell (p := ⟨w.heap.size + 1, 2, none⟩) (Nat.le_succ _) _⟩
end Go.Proofs.YtkjcpjalldbahaaGreatDoor
end

section
namespace Go.Proofs.YtkjcpjalldbahaaGreatDoor
open Go.RowKit

theorem rise_step {v : Ver} {r : List Ver} {a b : Nat} (h : rise a (v :: r) = some b) : a < v.n ∧ okV v = true ∧ rise v.n r = some b := by
  unfold rise at h
  by_cases h1 : v.n ≤ a
  · rw [if_pos h1] at h; cases h
  · rw [if_neg h1] at h
    cases h2 : okV v with
    | false => rw [h2] at h; cases h
    | true => rw [h2] at h; exact ⟨by omega, rfl, h⟩
theorem rise_le : ∀ {L : List Ver} {a b : Nat}, rise a L = some b → a ≤ b
  | [], a, b, h => by simp [rise] at h; omega
  | v :: r, a, b, h => by
    obtain ⟨h1, _, h3⟩ := rise_step h
    have := rise_le h3
    omega
theorem rise_mem : ∀ {L : List Ver} {a b : Nat}, rise a L = some b → ∀ x ∈ L, a < x.n ∧ x.n ≤ b ∧ okV x = true
  | [], a, b, h, x, hx => by cases hx
  | v :: r, a, b, h, x, hx => by
    obtain ⟨h1, h2, h3⟩ := rise_step h
    rcases List.mem_cons.1 hx with rfl | hx
    · exact ⟨h1, rise_le h3, h2⟩
    · obtain ⟨q1, q2, q3⟩ := rise_mem h3 x hx
      exact ⟨by omega, q2, q3⟩
theorem rise_lt : ∀ {L : List Ver} {a b : Nat}, rise a L = some b → ∀ {i j : Nat} {x y : Ver}, L[i]? = some x → L[j]? = some y → i < j → x.n < y.n
  | [], a, b, h, i, j, x, y, hx, _, _ => by simp at hx
  | v :: r, a, b, h, i, j, x, y, hx, hy, hij => by
    obtain ⟨h1, h2, h3⟩ := rise_step h
    obtain ⟨j', rfl⟩ : ∃ j', j = j' + 1 := ⟨j - 1, by omega⟩
    rw [List.getElem?_cons_succ] at hy
    cases i with
    | zero =>
      simp at hx
      subst hx
      exact (rise_mem h3 y (List.mem_of_getElem? hy)).1
    | succ i => 
      rw [List.getElem?_cons_succ] at hx
      exact rise_lt h3 hx hy (by omega)
theorem rise_last {L : List Ver} {a b : Nat} (h : rise a L = some b) {j : Nat} {x : Ver} (hl : L.length = j + 1) (hx : L[j]? = some x) : x.n = b := by
  have e : L.take j ++ [x] = L := by
    have h1 := List.take_add_one (l := L) (i := j)
    rw [hx] at h1
    have h2 : L.take (j + 1) = L := List.take_of_length_le (by omega)
    rw [h2] at h1
    exact h1.symm
  rw [← e, rise_app] at h
  cases hr : rise a (L.take j) with
  | none => rw [hr] at h; cases h
  | some q =>
    rw [hr] at h
    have := rise_step (r := []) h
    simpa [rise] using this.2.2
theorem posL_at {L : List Ver} {a b : Nat} (h : rise a L = some b) {k : Nat} {x : Ver} (hx : L[k]? = some x) : posL x.n L = some k :=
  posL_some hx rfl fun j y hj hy => by
    have := rise_lt h hy hx hj
    omega
/-- One answer. -/
theorem read_one (m n : Nat) (L : List Ver) : rreadL m L n = readL m L n := by
  cases hm : mayL m L with
  | false => simp [rreadL_bad hm, readL, findL_bad hm]
  | true =>
    obtain ⟨_, hr⟩ := mayL_iff.1 hm
    by_cases hn : n = 0
    · subst hn
      by_cases hw : nowL L = 0
      · have hp : posL 0 L = none := posL_none fun j x hx => by
          have := (rise_mem hr x (List.mem_of_getElem? hx)).1
          omega
        rw [rreadL_now0 hm hw]
        exact (readL_err (mm := 0) (by rw [if_pos rfl, hw]) (findL_none hm hp) (by decide)).symm
      · have hne : L ≠ [] := fun e => hw (by rw [e]; rfl)
        have hpos : 0 < L.length := List.length_pos_iff.2 hne
        obtain ⟨j, hj⟩ : ∃ j, L.length = j + 1 := ⟨L.length - 1, by omega⟩
        obtain ⟨v, hv⟩ : ∃ v, L[j]? = some v := ⟨_, List.getElem?_eq_getElem (by omega)⟩
        rw [rreadL_now hm hw (v := v) (by rw [hj, Nat.add_sub_cancel]; exact hv)]
        have e1 := nowL_last hj hv
        by_cases hs : v.s = 1
        · rw [if_pos hs] at e1
          refine (readL_ok (mm := v.n) (by rw [if_pos rfl, e1]) ?_ hv).symm
          rw [findL_at hm (posL_at hr hv) hv, if_pos hs]
        · rw [if_neg hs] at e1
          exact absurd e1 hw
    · cases hf : findL m L n with
      | mk e k =>
        by_cases he : e = 0
        · subst he
          obtain ⟨v, hv, _⟩ := findL_ok hf
          rw [rreadL_ok hm hn hf hv]
          exact (readL_ok (by rw [if_neg hn]) hf hv).symm
        · rw [rreadL_err hm hn hf he]
          exact (readL_err (by rw [if_neg hn]) hf he).symm
end Go.Proofs.YtkjcpjalldbahaaGreatDoor
end
