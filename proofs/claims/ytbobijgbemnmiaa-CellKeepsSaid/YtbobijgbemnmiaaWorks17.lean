/- Contract: the document's example: the laws of layer 17. -/
import Derived.Test.YtbobijgbemnmiaaCellPut
import Derived.Outline
namespace Go.Proofs.Ytbobijgbemnmiaa
open Go.RowKit

def exA : Ver := ⟨1, 1, ⟨#[97]⟩⟩
def exB : Ver := ⟨2, 1, ⟨#[98]⟩⟩
def exC : Ver := ⟨3, 2, ⟨#[]⟩⟩
theorem ex_put1 : putL 0 [] true 0 ⟨#[97]⟩ = ⟨0, 1, [exA]⟩ := by rfl
theorem ex_put2 : putL 1 [exA] false 1 ⟨#[98]⟩ = ⟨0, 2, [exA, exB]⟩ := by rfl
theorem ex_del : delL 2 [exA, exB] true 0 = ⟨0, 3, [exA, exB, exC]⟩ := by rfl
theorem ex_read0 : readL 3 [exA, exB, exC] 0 = (3, ⟨0, 0, ⟨#[]⟩⟩) := by rfl
theorem ex_read1 : readL 3 [exA, exB, exC] 1 = (0, exA) := by rfl
theorem ex_now : nowL [exA, exB, exC] = 0 := by rfl
theorem ex_size : sizeL [exA, exB, exC] = 2 := by rfl
set_option maxRecDepth 100000 in
set_option maxHeartbeats 4000000 in
theorem works17_any (w : World) : Calls Try.prog 8 #[] w fun e w' => e = .returned (.bool true) ∧ Ext w w' := by
  have HP1 : Hid (Calls Try.prog 21 #[.agg #[.int .u64 0, .slice none 0 0], .bool true, .int .u64 0, .string ⟨#[97]⟩] w fun e w' => ∃ q c', e = .returned (.tuple #[.agg #[.int .u64 1, .slice q 1 c'], .int .i64 0]) ∧ IsV w' w.heap.size q c' [exA] ∧ Ext w w') := Lib.hid (by
    have := put_any w 0 none 0 [] (VersP.nil _ _) (by decide) (by decide) true 0 ⟨#[97]⟩ (by decide)
    rw [ex_put1] at this
    exact this)
  have HP2 : Hid (∀ u q c', VersP u q [exA] → Calls Try.prog 21 #[.agg #[.int .u64 1, .slice q 1 c'], .bool false, .int .u64 1, .string ⟨#[98]⟩] u fun e w' => ∃ q c', e = .returned (.tuple #[.agg #[.int .u64 2, .slice q 2 c'], .int .i64 0]) ∧ IsV w' u.heap.size q c' [exA, exB] ∧ Ext u w') := Lib.hid (fun u q c' v => by
    have := put_any u 1 q c' [exA] v (by decide) (by decide) false 1 ⟨#[98]⟩ (by decide)
    rw [ex_put2] at this
    exact this)
  have HP3 : Hid (∀ u q c', VersP u q [exA, exB] → Calls Try.prog 22 #[.agg #[.int .u64 2, .slice q 2 c'], .bool true, .int .u64 0] u fun e w' => ∃ q c', e = .returned (.tuple #[.agg #[.int .u64 3, .slice q 3 c'], .int .i64 0]) ∧ IsV w' u.heap.size q c' [exA, exB, exC] ∧ Ext u w') := Lib.hid (fun u q c' v => by
    have := delV_any u 2 q c' [exA, exB] v (by decide) (by decide) true 0
    rw [ex_del] at this
    exact this)
  have HR0 : Hid (∀ u q c', VersP u q [exA, exB, exC] → Calls Try.prog 10 #[.agg #[.int .u64 3, .slice q 3 c'], .int .u64 0] u fun e w' => e = .returned (.tuple #[.agg #[.int .u64 0, .int .u8 0, .string ⟨#[]⟩], .int .i64 3]) ∧ Ext u w') := Lib.hid (fun u q c' v => by
    have := read_any u 3 0 q c' [exA, exB, exC] v (by decide)
    rw [ex_read0] at this
    exact this)
  have HR1 : Hid (∀ u q c', VersP u q [exA, exB, exC] → Calls Try.prog 10 #[.agg #[.int .u64 3, .slice q 3 c'], .int .u64 1] u fun e w' => e = .returned (.tuple #[.agg #[.int .u64 1, .int .u8 1, .string ⟨#[97]⟩], .int .i64 0]) ∧ Ext u w') := Lib.hid (fun u q c' v => by
    have := read_any u 3 1 q c' [exA, exB, exC] v (by decide)
    rw [ex_read1] at this
    exact this)
  have HN : Hid (∀ u q c', VersP u q [exA, exB, exC] → Calls Try.prog 16 #[.agg #[.int .u64 3, .slice q 3 c']] u fun e w' => e = .returned (.int .u64 0) ∧ Ext u w') := Lib.hid (fun u q c' v => by
    have := now_any u 3 q c' [exA, exB, exC] v (by decide)
    rw [ex_now] at this
    exact this)
  have HZ : Hid (∀ u q c', VersP u q [exA, exB, exC] → Calls Try.prog 18 #[.agg #[.int .u64 3, .slice q 3 c']] u fun e w' => e = .returned (.int .i64 2) ∧ Ext u w') := Lib.hid (fun u q c' v => by
    have := size_any u 3 q c' [exA, exB, exC] v (by decide) (by decide)
    rw [ex_size] at this
    exact this)
  have hq : ∀ u, (binOp .eql 35 (.agg #[.int .u64 1, .int .u8 1, .string ⟨#[97]⟩]) (.agg #[.int .u64 1, .int .u8 1, .string ⟨#[97]⟩])).run Try.prog u = .ok (.bool true) u := fun u => ver_eql exA exA true (by simp) u
  have hgd := ver_guard
  go_enter Try.func8, Try.ntmps8
  go_wp2_with (first
    | (go_at_call 21; (with_reducible refine HP1.out.mono ?_); rintro e w1 ⟨q1, c1, rfl, v1, x1⟩; have HX := Lib.hid (x1.alloc (.cells #[.int .u64 1, .slice q1 1 c1] 25)); have HB := Lib.hid (Blk.new w1 [.int .u64 1, .slice q1 1 c1] 25); have HV := Lib.hid ((v1.ext ((Ext.refl w1).alloc (.cells #[.int .u64 1, .slice q1 1 c1] 25))).vers); have hsz : ¬ w1.heap.size < w.heap.size := (by have := x1.size; omega); have HL := Lib.hid (show w1.heap.size < (w1.alloc (.cells #[.int .u64 1, .slice q1 1 c1] 25)).heap.size by simp); clear v1 x1)
    | (go_at_call 21; (with_reducible refine (HP2.out _ _ _ HV.out).mono ?_); rintro e w2 ⟨q2, c2, rfl, v2, x2⟩; have HB2 := Lib.hid (HB.out.ext x2); have b0 := HB2.out.cell 0 _ rfl; have b1 := HB2.out.cell 1 _ rfl; have f0 := HB2.out.frozen 0; have f1 := HB2.out.frozen 1; have HB3 := Lib.hid ((HB2.out.set_ 0 (.int .u64 2)).set_ 1 (.slice q2 2 c2)); have HV2 := Lib.hid ((v2.setCell (a := ⟨w1.heap.size, 0, none⟩) HL.out (.int .u64 2)).setCell (a := ⟨w1.heap.size, 1, none⟩) HL.out (.slice q2 2 c2)).vers; have HX2 := Lib.hid (((HX.out.trans x2).setCell (p := ⟨w1.heap.size, 0, none⟩) (by show w.heap.size ≤ w1.heap.size; omega) (.int .u64 2)).setCell (p := ⟨w1.heap.size, 1, none⟩) (by show w.heap.size ≤ w1.heap.size; omega) (.slice q2 2 c2)); clear v2 x2)
    | (go_at_call 22; refine (HP3.out _ _ _ HV2.out).mono ?_; rintro e w3 ⟨q3, c3, rfl, v3, x3⟩; have HL3 := HB3.out.lt; have HB4 := Lib.hid (HB3.out.ext x3); have b0 := HB4.out.cell 0 _ rfl; have b1 := HB4.out.cell 1 _ rfl; have f0 := HB4.out.frozen 0; have f1 := HB4.out.frozen 1; have HB5 := Lib.hid ((HB4.out.set_ 0 (.int .u64 3)).set_ 1 (.slice q3 3 c3)); have HV3 := Lib.hid ((v3.setCell (a := ⟨w1.heap.size, 0, none⟩) HL3 (.int .u64 3)).setCell (a := ⟨w1.heap.size, 1, none⟩) HL3 (.slice q3 3 c3)).vers; have HX3 := Lib.hid (((HX2.out.trans x3).setCell (p := ⟨w1.heap.size, 0, none⟩) (by show w.heap.size ≤ w1.heap.size; omega) (.int .u64 3)).setCell (p := ⟨w1.heap.size, 1, none⟩) (by show w.heap.size ≤ w1.heap.size; omega) (.slice q3 3 c3)); clear v3 x3 HL3)
    | (go_at_call 10; (with_reducible refine (HR0.out _ _ _ HV3.out).mono ?_); rintro e w4 ⟨rfl, x4⟩; have HX4 := Lib.hid ((HX3.out.trans x4).alloc (.cells #[.int .u64 0, .int .u8 0, .string ⟨#[]⟩] 35)); have HB6 := Lib.hid ((HB5.out.ext x4).alloc (.cells #[.int .u64 0, .int .u8 0, .string ⟨#[]⟩] 35)); have g0 := HB6.out.cell 0 _ rfl; have g1 := HB6.out.cell 1 _ rfl; have HV4 := Lib.hid (HV3.out.ext (x4.alloc (.cells #[.int .u64 0, .int .u8 0, .string ⟨#[]⟩] 35))); clear x4)
    | (go_at_call 10; (with_reducible refine (HR1.out _ _ _ HV4.out).mono ?_); rintro e w5 ⟨rfl, x5⟩; have HX5 := Lib.hid ((HX4.out.trans x5).alloc (.cells #[.int .u64 1, .int .u8 1, .string ⟨#[97]⟩] 35)); have HB7 := Lib.hid ((HB6.out.ext x5).alloc (.cells #[.int .u64 1, .int .u8 1, .string ⟨#[97]⟩] 35)); have g0 := HB7.out.cell 0 _ rfl; have g1 := HB7.out.cell 1 _ rfl; have HV5 := Lib.hid (HV4.out.ext (x5.alloc (.cells #[.int .u64 1, .int .u8 1, .string ⟨#[97]⟩] 35))); clear x5)
    | (go_at_call 16; refine (HN.out _ _ _ HV5.out).mono ?_; rintro e w6 ⟨rfl, x6⟩; have HX6 := Lib.hid (HX5.out.trans x6); have HB8 := Lib.hid (HB7.out.ext x6); have g0 := HB8.out.cell 0 _ rfl; have g1 := HB8.out.cell 1 _ rfl; have HV6 := Lib.hid (HV5.out.ext x6); clear x6)
    | (go_at_call 18; refine (HZ.out _ _ _ HV6.out).mono ?_; rintro e w7 ⟨rfl, x7⟩; have HX7 := Lib.hid (HX6.out.trans x7); clear x7))
  go_ret
  exact ⟨rfl, HX7.out⟩
end Go.Proofs.Ytbobijgbemnmiaa
