/- Contract: Load of any rows, by the program. Contract: the law's copied: rows with lists of their own. -/
import Derived.Test.YtkjcpjalldbahaaDoorM33
import Derived.Test.YtkjcpjalldbahaaDoorOpenRow
import Derived.Test.YtkjcpjalldbahaaDoorM31
section
namespace Go.Proofs.YtkjcpjalldbahaaDoor
open Go.RowKit Go.ChangeMaps Go.MapKept

theorem loadR_len {R l : List RowP} (h : RisesR R) : (loadR R l).2.length ≤ R.length + l.length := by
  unfold loadR
  split
  · split
    · dsimp only; omega
    · exact layR_len l h
  · dsimp only; omega
theorem tload_any (w : World) (lo t b : Nat) (qp qb : Int) (R : List RowP) (h : IsT w lo t b qp qb R) (hlo : lo ≤ w.heap.size) (hl : R.length ≤ 800000) (p : Option Addr) (c : Nat) (M : List Ent) (hM : RowsP w p M) (hf : ∀ e ∈ M, e.Fit) (hn : M.length ≤ 5000) :
    Calls Tryd.prog 12 #[.pointer (some ⟨t, 0, none⟩), .slice p M.length c] w fun e w' => e = .returned (.int .i64 ((loadR R (M.map Ent.row)).1 : Int)) ∧ IsT w' lo t b qp qb (loadR R (M.map Ent.row)).2 ∧ Turn (TB t b) w w' := by
  cases ha : (M.map Ent.row).all okR with
  | false =>
    refine (tload_bad w t b h.cell p c M hM (fun e he => ?_) (by omega) ha).mono ?_
    · have := hf e he
      have h1 := this.p; have h2 := this.n
      exact ⟨by omega, by omega⟩
    · rintro e w' ⟨rfl, x⟩
      unfold loadR
      rw [ha]
      exact ⟨rfl, h.ext x, Turn.ofExt _ x⟩
  | true =>
    have hok : ∀ e ∈ M, OkR e.row := fun e he => (okR_iff (hf e he).m).1 (List.all_eq_true.1 ha e.row (List.mem_map.2 ⟨e, he, rfl⟩))
    refine (tload_ok w lo t b qp qb R h hlo hl p c M hM hok hn).mono ?_
    intro e w' hp
    unfold loadR
    rw [ha]
    cases hd : dupR R [] (M.map Ent.row) with
    | true =>
      obtain ⟨rfl, x⟩ := hp.twice hd
      exact ⟨rfl, h.ext x, Turn.ofExt _ x⟩
    | false =>
      obtain ⟨rfl, h1, h2⟩ := hp.fine hd
      exact ⟨rfl, h1, h2⟩
end Go.Proofs.YtkjcpjalldbahaaDoor
end

section
namespace Go.Proofs.YtkjcpjalldbahaaDoor
open Go.RowKit Go.ChangeMaps Go.MapKept

set_option maxRecDepth 100000 in
set_option maxHeartbeats 4000000 in
theorem copied18_any (w : World) (p : Option Addr) (c : Nat) (M : List Ent) (hM : RowsP w p M) (hf : ∀ e ∈ M, e.L.length * 32 ≤ 140737488351232) (hn : M.length ≤ 5000) :
    Calls Tryd.prog 13 #[.slice p M.length c] w fun e w' => ∃ q c' K, e = .returned (.slice q M.length c') ∧ K.map Ent.row = M.map Ent.row ∧ IsRows w' w.heap.size q c' K ∧ Ext w w' := by
  have HP := Lib.hid hM
  have HF := Lib.hid hf
  obtain ⟨n, hnn⟩ : ∃ n, M.length = n := ⟨_, rfl⟩
  have HN := Lib.hid hnn
  rw [hnn] at hn ⊢
  clear hM hf hnn
  go_enter Tryd.func13, Tryd.ntmps13
  go_wp2
  go_loopw [3, 4] (fun sv iv wr => ∃ (j : Nat) (K : List Ent) (pv : Option Addr) (cv : Nat), j ≤ n ∧ iv = .int .i64 (j : Int) ∧ sv = .slice pv j cv ∧ Hid (K.length = j ∧ K.map Ent.row = (M.take j).map Ent.row) ∧ Hid (IsRows wr w.heap.size pv cv K) ∧ Hid (Ext w wr)) (fun _ iv _ => n - (intOf iv).toNat)
  case atStart => exact ⟨0, [], none, 0, Nat.zero_le _, rfl, rfl, Lib.hid ⟨rfl, rfl⟩, Lib.hid (IsRows.nil _ _), Lib.hid (Ext.refl _)⟩
  case round =>
    obtain ⟨j, K, pv, cv, hj, rfl, rfl, HK0, HRo, HX⟩ := hrel
    by_cases hlt : j < n
    · obtain ⟨⟨rp, rm, rL, ra, rc⟩, hx⟩ : ∃ x, M[j]? = some x := ⟨_, List.getElem?_eq_getElem (by have := HN.out; omega)⟩
      have hv := HP.out.2 _ (List.mem_of_getElem? hx)
      have hfl := HF.out _ (List.mem_of_getElem? hx)
      obtain ⟨pa, rfl, g0, g1, g2⟩ := HP.out.three HX.out hx
      dsimp only at hv hfl g0 g1 g2
      obtain ⟨nl, hnl⟩ : ∃ nl, rL.length = nl := ⟨_, rfl⟩
      have HNL := Lib.hid hnl
      rw [hnl] at hfl g2
      have HB1 := Lib.hid (Blk.new wr [.string rp, .int .u64 (rm : Int), .slice ra nl rc] 56)
      have HX1 := Lib.hid ((Ext.refl wr).alloc (.cells #[.string rp, .int .u64 (rm : Int), .slice ra nl rc] 56))
      have HS := Lib.hid ((hv.ext (HX.out.trans HX1.out)).src rc)
      rw [hnl] at HS
      obtain ⟨cs, hcs⟩ : ∃ cs, vsCells rL = cs := ⟨_, rfl⟩
      have HC := Lib.hid hcs
      rw [hcs] at HS
      have HTake : Hid ((M.take (j + 1)).map Ent.row = (M.take j).map Ent.row ++ [⟨rp, rm, rL⟩]) := Lib.hid (by rw [List.take_add_one, hx]; simp [Ent.row])
      have hj1 : j + 1 ≤ 1000000000 := by omega
      have hl2 : 0 + nl ≤ 140737488355328 := by omega
      have hl3 : (0 + nl) * 32 ≤ 140737488355328 := by omega
      clear hx hv hnl hcs
      go_wp2_with (first
        | (refine wpList_append_slB rfl (.const (.slice none 0 0)) (.tmp 18) 52 52 rfl Tryd.underlying52 infoV rfl rfl (Sl.nil _ (kp none) 1 3 _) (fun u hu => by cases hu) _ rfl nl cs HS.out hl2 hl3 ?_; intro q c1 w3 κ1 s1 f1 e1 x1 o1; rw [Nat.zero_add, List.nil_append] at s1; have HX3 : Hid (Ext wr w3) := Lib.hid (HX1.out.trans (x1 rfl)); have B1 := Lib.hid (HB1.out.ext (x1 rfl)); have b0 := B1.out.cell 0 _ rfl; have b1 := B1.out.cell 1 _ rfl; have b2 := B1.out.cell 2 _ rfl; have bf2 := B1.out.frozen 2; have HV3 : Hid (IsV w3 w.heap.size q c1 rL) := Lib.hid ((isV_new HNL.out (by rw [HC.out]; exact s1) e1).base (HX.out.trans HX1.out).size); have HV4 : Hid (IsV ((w3.setCell ⟨wr.heap.size, 2, none⟩ (.slice q nl c1)).alloc (.cells #[.string rp, .int .u64 (rm : Int), .slice q nl c1] 56)) w.heap.size q c1 rL) := Lib.hid ((HV3.out.parted B1.out (by decide) _).ext ((Ext.refl _).alloc _)); have HXa : Hid (Ext wr (w3.setCell ⟨wr.heap.size, 2, none⟩ (.slice q nl c1))) := Lib.hid (HX3.out.setCell (p := ⟨wr.heap.size, 2, none⟩) (Nat.le_refl _) _); have HX4 : Hid (Ext wr ((w3.setCell ⟨wr.heap.size, 2, none⟩ (.slice q nl c1)).alloc (.cells #[.string rp, .int .u64 (rm : Int), .slice q nl c1] 56))) := Lib.hid (HXa.out.alloc _); have HR4 := Lib.hid (HRo.out.ext HX4.out); have HSLB : Hid (Sl ((w3.setCell ⟨wr.heap.size, 2, none⟩ (.slice q nl c1)).alloc (.cells #[.string rp, .int .u64 (rm : Int), .slice q nl c1] 56)) (kp pv) 1 3 56 pv j cv (entCells K)) := Lib.hid (by have := HR4.out.sl; rwa [HK0.out.1] at this); have HSRC : Hid (Src Tryd.prog 3 24 (.slice (some ⟨w3.heap.size, 0, none⟩) 1 1) 1 (entCells [⟨rp, rm, rL, q, c1⟩]) ((w3.setCell ⟨wr.heap.size, 2, none⟩ (.slice q nl c1)).alloc (.cells #[.string rp, .int .u64 (rm : Int), .slice q nl c1] 56))) := Lib.hid (src_row _ _ ⟨rp, rm, rL, q, c1⟩ (by have := Blk.new (w3.setCell ⟨wr.heap.size, 2, none⟩ (.slice q nl c1)) [.string rp, .int .u64 (rm : Int), .slice q nl c1] 56; simp only [World.setCell, Array.size_modify] at this; unfold Ent.cells; dsimp only; rw [HNL.out]; exact this)); have HSZ : Hid (w.heap.size ≤ ((w3.setCell ⟨wr.heap.size, 2, none⟩ (.slice q nl c1)).alloc (.cells #[.string rp, .int .u64 (rm : Int), .slice q nl c1] 56)).heap.size) := Lib.hid (HX.out.trans HX4.out).size; clear s1 f1 e1 x1 o1; rw [Nat.zero_add])
        | (refine wpList_append_sl rfl (.tmp 22) (.tmp 24) 24 24 rfl Tryd.underlying24 infoRow rfl (by decide) rfl HSLB.out (entCells_one K) _ rfl 1 _ HSRC.out hj1 ?_; intro p4 c4 w5 κ4 s4 f4 e4 x4 o4; have HK := Lib.hid (keepA_of_frZ HSLB.out HR4.out.low HSZ.out f4 x4); have HR5 : Hid (IsRows w5 w.heap.size p4 c4 (K ++ [⟨rp, rm, rL, q, c1⟩])) := Lib.hid (isRows_grown s4 HK0.out.1 e4 HR4.out.low HSZ.out (fun x hx => (HR4.out.vers x hx).keepA HK.out (by decide)) (HV4.out.keepA HK.out (by decide))); clear s4 f4 e4 x4 o4))
      go_roundw
      case rel => exact ⟨j + 1, K ++ [⟨rp, rm, rL, q, c1⟩], p4, c4, hlt, by go_num, rfl, Lib.hid ⟨by rw [List.length_append, HK0.out.1]; rfl, by rw [List.map_append, HK0.out.2, HTake.out]; rfl⟩, HR5, Lib.hid ((HX.out.trans HX4.out).trans3 HK.out.below)⟩
      case measure => simp [intOf]; omega
    · obtain rfl : j = n := by omega
      go_wp2
      go_ret
      exact ⟨pv, cv, K, rfl, by rw [HK0.out.2, List.take_of_length_le (by rw [HN.out]; exact Nat.le_refl _)], HRo.out, HX.out⟩
end Go.Proofs.YtkjcpjalldbahaaDoor
end
