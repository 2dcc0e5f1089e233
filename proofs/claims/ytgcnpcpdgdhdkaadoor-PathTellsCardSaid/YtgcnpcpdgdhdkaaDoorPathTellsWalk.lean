/- The walk of PathTells. -/
import Derived.Test.YtgcnpcpdgdhdkaaDoorPathWk
import Derived.Test.YtgcnpcpdgdhdkaaDoorPathR
import Derived.Test.YtgcnpcpdgdhdkaaDoorHeavy16
namespace Go.Proofs.YtgcnpcpdgdhdkaaDoor
open Go.RowKit

theorem heavy_two (w : World) (p s : ByteArray) (hp : p.size ≤ 140737488351232) (hs : s.size ≤ 140737488351232) (b : Bool) (hb : b = true ↔ Heavy [p, s]) : Calls Tryd.prog 7 #[.slice (some ⟨w.heap.size, 0, none⟩) 2 2] (w.alloc (.cells #[.string p, .string s] 9)) fun e w' =>
    e = .returned (.bool b) ∧ Ext w w' :=
  (heavy_is _ (some ⟨w.heap.size, 0, none⟩) 2 [p, s] (blk_texts (Blk.new w ([p, s].map Value.string) 9)) (by intro x hx; simp only [List.mem_cons, List.mem_nil_iff, or_false] at hx; rcases hx with rfl | rfl <;> assumption) (by simp) b hb).mono fun _ _ ⟨he, hx⟩ => ⟨he, by subst hx; exact (Ext.refl w).alloc _⟩
theorem child_empty (p s : ByteArray) : (childB p s).toList.isEmpty = !underT p s := by
  rw [Lib.toList_data]
  unfold childB underT
  rw [toB_data, child_is, Bool.not_not]
set_option maxRecDepth 100000 in
set_option maxHeartbeats 4000000 in
theorem PathTells_walk (w : World) (p s : ByteArray) (hp : p.size ≤ 140737488351232) (hs : s.size ≤ 140737488351232) :
    Calls Tryd.prog 3 #[.string p, .string s] w fun e w' => e = .returned (.bool true) ∧ Ext w w' := by
  have HW := Lib.hid (fun u => works16 u)
  by_cases hh : Heavy [p, s]
  · have HV := Lib.hid (fun u => heavy_two u p s hp hs true (by simp [hh]))
    clear hh
    go_enter Tryd.func3, Tryd.ntmps3
    go_wp2_with (first
      | (go_at_call 7; refine (HV.out _).mono ?_; rintro e w1 ⟨rfl, x1⟩; have X1 := Lib.hid x1; clear x1)
      | (go_at_call 8; refine (HW.out _).mono ?_; rintro e w2 ⟨rfl, x2⟩; have X2 := Lib.hid x2; clear x2))
    go_ret
    exact ⟨rfl, X1.out.trans X2.out⟩
  · have HV := Lib.hid (fun u => heavy_two u p s hp hs false (by simp [hh]))
    have HRP := Lib.hid (fun u => rPieces_any s hs u)
    have HPP := Lib.hid (fun u => Pieces_any s hs u)
    have HC := Lib.hid (fun u => Child_any p s hp hs u)
    have HRC := Lib.hid (fun u => rChild_any p s hp hs u)
    have HM := Lib.hid (fun u => May_any s hs u)
    have HP := Lib.hid (fun u => Prefix_any s hs u)
    have HRF := Lib.hid (fun u => rPrefix_any s hs u)
    have HU := Lib.hid (fun u => Under_any p s hp hs u)
    have HRU := Lib.hid (fun u => rUnder_any p s hp hs u)
    have u0 := child_empty p s
    have d1 : decide (0 < (piecesB s).length) = mayB s.data.toList := (piecesB_may s).symm
    have d0 : decide ((0 : Int) < ((piecesB s).length : Int)) = mayB s.data.toList := by rw [← d1, decide_eq_decide]; omega
    have h8 := piecesB_len s
    clear hh
    generalize childB p s = C at *
    generalize underT p s = U at *
    generalize piecesB s = L at *
    generalize mayB s.data.toList = R at *
    generalize prefB s.data.toList = F at *
    go_enter Tryd.func3, Tryd.ntmps3
    go_wp2_with (first
      | (go_at_call 7; refine (HV.out _).mono ?_; rintro e w1 ⟨rfl, x1⟩; have X1 := Lib.hid x1; clear x1)
      | (go_at_call 9; refine (HRP.out _).mono ?_; rintro e w2 ⟨pa, ca, rfl, t2, x2⟩; have X2 := Lib.hid (X1.out.trans x2); have T2 := Lib.hid t2; clear x2 t2)
      | (go_at_call 10; refine (HC.out _).mono ?_; rintro e w3 ⟨rfl, x3⟩; have X3 := Lib.hid x3; clear x3)
      | (go_at_call 11; refine (HRC.out _).mono ?_; rintro e w4 ⟨rfl, x4⟩; have X4 := Lib.hid x4; clear x4)
      | (go_at_call 12; refine (HM.out _).mono ?_; rintro e w5 ⟨rfl, x5⟩; have X5 := Lib.hid x5; clear x5)
      | (go_at_call 14; refine (HPP.out _).mono ?_; rintro e w6 ⟨pb, cb, rfl, t6, x6⟩; have X6 := Lib.hid x6; have T6 := Lib.hid t6; clear x6 t6)
      | (go_at_call 13; refine (same_is _ _ _ _ _ _ _ L L rfl rfl T6.out (T2.out.ext (((X3.out.trans X4.out).trans X5.out).trans X6.out)) (by omega) (by omega) true (by simp)).mono ?_; rintro e w7 ⟨rfl, x7⟩; have X7 := Lib.hid x7; clear x7)
      | (go_at_call 15; refine (HP.out _).mono ?_; rintro e w8 ⟨rfl, x8⟩; have X8 := Lib.hid x8; clear x8)
      | (go_at_call 16; refine (HRF.out _).mono ?_; rintro e w9 ⟨rfl, x9⟩; have X9 := Lib.hid x9; clear x9)
      | (go_at_call 17; refine (HU.out _).mono ?_; rintro e wa ⟨rfl, xa⟩; have Xa := Lib.hid xa; clear xa)
      | (go_at_call 18; refine (HRU.out _).mono ?_; rintro e wb ⟨rfl, xb⟩; have Xb := Lib.hid xb; clear xb)
      | (go_at_call 8; refine (HW.out _).mono ?_; rintro e wc ⟨rfl, xc⟩; have Xc := Lib.hid xc; clear xc))
    go_ret
    exact ⟨rfl, (((((((((X2.out.trans X3.out).trans X4.out).trans X5.out).trans X6.out).trans X7.out).trans X8.out).trans X9.out).trans Xa.out).trans Xb.out).trans Xc.out⟩
end Go.Proofs.YtgcnpcpdgdhdkaaDoor
