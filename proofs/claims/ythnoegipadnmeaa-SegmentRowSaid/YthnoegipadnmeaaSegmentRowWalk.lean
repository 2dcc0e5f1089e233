/- The walk of layer 11's statement SegmentRow. -/
import Derived.Test.YthnoegipadnmeaaSHeavy
import Derived.Test.YthnoegipadnmeaaSegBase
import Derived.Test.YthnoegipadnmeaaRRowW
import Derived.Test.YthnoegipadnmeaaSegsC
import Derived.Deep.DeepCutAuto
namespace Go.Proofs.Ythnoegipadnmeaa
open Go.RowKit

set_option maxRecDepth 100000 in
set_option maxHeartbeats 8000000 in
theorem SegmentRow_walk (p : Option Addr) (c : Nat) (L : List Seg) (W : World) (hS : SegsP W p L) (hok : ∀ x, x ∈ L → x.Ok) (hl : L.length ≤ 140737488355328) :
    Calls Try.prog 4 #[.slice p L.length c] W fun e W' => e = .returned (.bool true) ∧ Ext W W' := by
  by_cases h40 : L.length ≤ 40
  · have HH := Lib.hid (fun u (hu : Ext W u) => hS.ext hu)
    have HOk := Lib.hid hok
    have HRow := Lib.hid (fun u (q : Option Addr) (d : Nat) (hu : SegsP u q L) => row_any u q d L hu (by omega) (fun x hx => ⟨(hok x hx).f, (hok x hx).n⟩))
    have HRRow := Lib.hid (fun u (q : Option Addr) (d : Nat) (hu : SegsP u q L) => rRow_any u q d L hu (by omega) (fun x hx => ⟨(hok x hx).f, (hok x hx).n⟩))
    have HLen : Hid ((rowS L).1.length ≤ 1000000) := Lib.hid (by
      unfold rowS
      cases newF L L.length with
      | none => simp
      | some ag =>
        obtain ⟨a, g⟩ := ag
        have : ∀ f a T, (rowG L g f a T).length ≤ f := by
          intro f
          induction f with
          | zero => intro a T; simp [rowG]
          | succ f ih =>
            intro a T
            rw [rowG]
            split
            · simp
            · split
              · split
                · simp
                · rw [List.length_cons]; have := ih; simp only [Nat.succ_le_succ_iff]; exact this _ _
              · simp
        have h1 := this (L.length + 1) a []
        simp only [List.length_cons]
        omega)
    have HPl := Lib.hid (fun u (q1 q2 : Option Addr) (d1 d2 : Nat) (h1 : ValsP u q1 (vN (rowS L).1)) (h2 : ValsP u q2 (vN (rowS L).1)) => places_dec u q1 q2 d1 d2 _ _ h1 h2 HLen.out HLen.out)
    simp only [decide_true] at HPl
    clear hS hok
    go_enter Try.func4, Try.ntmps4
    go_wp2
    go_loopw [3] (fun iv wr => ∃ j : Nat, j ≤ L.length ∧ iv = .int .i64 (j : Int) ∧ Hid (Ext W wr)) (fun iv _ => L.length - (intOf iv).toNat)
    case atStart => exact ⟨0, Nat.zero_le _, rfl, Lib.hid (Ext.refl _)⟩
    case round =>
      obtain ⟨j, hj, rfl, hx⟩ := hrel
      by_cases hlt : j < L.length
      · obtain ⟨x, hxj⟩ : ∃ x, L[j]? = some x := ⟨_, List.getElem?_eq_getElem hlt⟩
        obtain ⟨ad, q0, c2, rfl, ha, hr, hc⟩ := HH.out _ hx.out j x hxj
        have k0 : wr.cell? (ad.add (j * 7)) = some (.int .u8 (x.k : Int)) := hc 0 _ rfl
        have k1 := seven_at (k := 0) (hc 1 _ rfl)
        have k2 := seven_at (k := 1) (hc 2 _ rfl)
        have k3 := seven_at (k := 2) (hc 3 _ rfl)
        have k4 := seven_at (k := 3) (hc 4 _ rfl)
        have k5 := seven_at (k := 4) (hc 5 _ rfl)
        have k6 := seven_at (k := 5) (hc 6 _ rfl)
        have ok := HOk.out x (List.mem_of_getElem? hxj)
        have HHv := Lib.hid (heavy_any x q0 c2 wr hr ok.t ok.r ok.n)
        unfold segV at HHv
        clear hxj hc ha hr ok
        go_upto_if 22 with (go_at_call 7; refine (HHv.out).mono ?_; rintro e w1 ⟨b, rfl, x1, _⟩; have X1 := Lib.hid (hx.out.trans x1); clear x1 k0 k1 k2 k3 k4 k5 k6; cases b)
        · go_wp2
          go_roundw
          case rel => exact ⟨j + 1, hlt, by go_num, X1⟩
          case measure => simp [intOf]; omega
        · go_wp2_with (go_at_call 8; refine (alive_any _).mono ?_; rintro e w2 ⟨rfl, x2⟩; have X2 := Lib.hid (X1.out.trans x2); clear x2)
          go_ret
          exact ⟨rfl, X2.out⟩
      · obtain rfl : j = L.length := by omega
        have HSg := Lib.hid (HH.out wr hx.out)
        generalize rowS L = R at *
        obtain ⟨r1, r2⟩ := R
        dsimp only at HRow HRRow HPl HLen
        go_wp2_with (first
          | (at_builtin; refine wpList_copySegs rfl (.tmp 25) (.tmp 26) rfl wr.heap.size rfl _ _ _ L rfl rfl (HSg.out.ext ((Ext.refl _).alloc _)) (by omega) ?_; intro q1 c1 w1 h1 x1; have H1 := Lib.hid h1; have X1 := Lib.hid ((hx.out.alloc _).trans x1); clear h1 x1)
          | (go_at_call 18; refine (HRow.out _ _ _ H1.out).mono ?_; rintro e w2 ⟨q2, c2, rfl, h2, x2⟩; have H2 := Lib.hid h2; have X2 := Lib.hid (X1.out.trans x2); have HSg2 := Lib.hid (HH.out _ X2.out); clear h2 x2)
          | (go_at_call 19; refine (HRRow.out _ _ _ HSg2.out).mono ?_; rintro e w3 ⟨q3, c3, rfl, h3, x3⟩; have H3 := Lib.hid h3; have X3 := Lib.hid (X2.out.trans x3); have H23 := Lib.hid (H2.out.ext x3); clear h3 x3)
          | (go_at_call 20; refine (HPl.out _ _ _ _ _ H23.out H3.out).mono ?_; rintro e w4 ⟨rfl, x4⟩; have X4 := Lib.hid (X3.out.trans x4); clear x4)
          | (go_at_call 8; refine (alive_any _).mono ?_; rintro e w5 ⟨rfl, x5⟩; have X5 := Lib.hid (X4.out.trans x5); clear x5))
        go_ret
        exact ⟨rfl, X5.out⟩
  · go_enter Try.func4, Try.ntmps4
    go_wp2_with (go_at_call 8; refine (alive_any _).mono ?_; rintro e w2 ⟨rfl, x2⟩; have X2 := Lib.hid x2; clear x2)
    go_ret
    exact ⟨rfl, X2.out⟩
end Go.Proofs.Ythnoegipadnmeaa
