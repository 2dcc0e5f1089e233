/- The walk of layer 7's statement CrcGoes. -/
import Derived.Test.YtnecafoickjleaaCrcTellsWalk
namespace Go.Proofs.Ytnecafoickjleaa
open Go.RowKit

theorem list_cat (a b : ByteArray) : (a ++ b).data.toList = a.data.toList ++ b.data.toList := by
  rw [ByteArray.data_append]; simp
theorem size_cat (a b : ByteArray) : (a ++ b).size = a.size + b.size := by simp
set_option maxRecDepth 100000 in
set_option maxHeartbeats 2000000 in
theorem CrcGoes_walk (s t u : ByteArray) (a : Int) (W : World) (z0 : s.size ≤ 140737488351232) (z1 : t.size ≤ 140737488351232) (z2 : u.size ≤ 140737488351232) (za : 0 ≤ a ∧ a ≤ 4294967295) :
    Calls Try.prog 4 #[.string s, .string t, .string u, .int .u32 a] W fun e W' => e = .returned (.bool true) ∧ Ext W W' := by
  by_cases hh : 8192 < s.size + t.size + u.size
  · have hhi : (8192 : Int) < (s.size : Int) + (t.size : Int) + (u.size : Int) := by omega
    go_enter Try.func4, Try.ntmps4
    go_wp2_with (go_at_call 7; refine (alive_any _).mono ?_; rintro e w1 ⟨rfl, h1⟩)
    go_ret
    exact ⟨rfl, h1⟩
  · have hhi : (s.size : Int) + (t.size : Int) + (u.size : Int) ≤ 8192 := by omega
    obtain ⟨A, rfl⟩ := bv_of a za
    have HS := Lib.hid (sum_any s z0)
    have HT := Lib.hid (sum_any t z1)
    have HU := Lib.hid (sum_any u z2)
    have hst := sum_any (s ++ t) (by rw [size_cat]; omega)
    rw [list_cat] at hst
    have HST := Lib.hid hst
    have hm := more_any (moreC 0#32 s.data.toList) t z1
    rw [moreC_append] at hm
    have HM := Lib.hid hm
    have hj := join_any (moreC 0#32 s.data.toList) (moreC 0#32 t.data.toList) t.size (by omega)
    rw [show t.size = t.data.toList.length from (size_list t).symm, join_sum, size_list] at hj
    have HJ := Lib.hid hj
    have hm0 := more_any A ⟨#[]⟩ (by decide)
    rw [show (⟨#[]⟩ : ByteArray).data.toList = [] from rfl, moreC_nil] at hm0
    have HM0 := Lib.hid hm0
    have HMA := Lib.hid (more_any A s z0)
    have hmt := more_any (moreC A s.data.toList) t z1
    rw [moreC_append] at hmt
    have HMT := Lib.hid hmt
    have hma := more_any A (s ++ t) (by rw [size_cat]; omega)
    rw [list_cat] at hma
    have HMST := Lib.hid hma
    have HG1 := Lib.hid (join_any (moreC 0#32 (s.data.toList ++ t.data.toList)) (moreC 0#32 u.data.toList) u.size (by omega))
    have HJ2 := Lib.hid (join_any (moreC 0#32 t.data.toList) (moreC 0#32 u.data.toList) u.size (by omega))
    have hg2 := join_any (moreC 0#32 s.data.toList) (joinC (moreC 0#32 t.data.toList) (moreC 0#32 u.data.toList) u.size) (t.size + u.size) (by omega)
    have eg : joinC (moreC 0#32 s.data.toList) (joinC (moreC 0#32 t.data.toList) (moreC 0#32 u.data.toList) u.size) (t.size + u.size) = joinC (moreC 0#32 (s.data.toList ++ t.data.toList)) (moreC 0#32 u.data.toList) u.size := by
      rw [← join_sum, size_list, join_group]
    rw [eg, show ((t.size + u.size : Nat) : Int) = (t.size : Int) + (u.size : Int) by omega] at hg2
    have HG2 := Lib.hid hg2
    have HJ0 := Lib.hid (fun w => (show Calls Try.prog 12 #[.int .u32 0, .int .u32 ((moreC 0#32 t.data.toList).toNat : Int), .int .u64 (t.size : Int)] w fun e w' => e = .returned (.int .u32 ((joinC 0#32 (moreC 0#32 t.data.toList) t.size).toNat : Int)) ∧ Ext w w' from join_any 0#32 (moreC 0#32 t.data.toList) t.size (by omega) w))
    have HJX := Lib.hid (fun w => (show Calls Try.prog 12 #[.int .u32 ((moreC 0#32 s.data.toList).toNat : Int), .int .u32 0, .int .u64 (t.size : Int)] w fun e w' => e = .returned (.int .u32 ((joinC (moreC 0#32 s.data.toList) 0#32 t.size).toNat : Int)) ∧ Ext w w' from join_any (moreC 0#32 s.data.toList) 0#32 t.size (by omega) w))
    have hx := bx (moreC 0#32 (s.data.toList ++ t.data.toList)) (joinC 0#32 (moreC 0#32 t.data.toList) t.size)
    have ex : moreC 0#32 (s.data.toList ++ t.data.toList) ^^^ joinC 0#32 (moreC 0#32 t.data.toList) t.size = joinC (moreC 0#32 s.data.toList) 0#32 t.size := by
      rw [← join_sum, size_list, join_parts]
    rw [ex] at hx
    clear hst hm hj hm0 hmt hma hg2 eg ex
    generalize (joinC 0#32 (moreC 0#32 t.data.toList) t.size).toNat = y1 at *
    generalize (joinC (moreC 0#32 s.data.toList) 0#32 t.size).toNat = y2 at *
    generalize (joinC (moreC 0#32 (s.data.toList ++ t.data.toList)) (moreC 0#32 u.data.toList) u.size).toNat = y3 at *
    generalize (joinC (moreC 0#32 t.data.toList) (moreC 0#32 u.data.toList) u.size).toNat = y4 at *
    generalize (moreC 0#32 (s.data.toList ++ t.data.toList)).toNat = y5 at *
    generalize (moreC A (s.data.toList ++ t.data.toList)).toNat = y6 at *
    generalize (moreC A s.data.toList).toNat = y7 at *
    generalize (moreC 0#32 s.data.toList).toNat = y8 at *
    generalize (moreC 0#32 t.data.toList).toNat = y9 at *
    generalize (moreC 0#32 u.data.toList).toNat = y10 at *
    generalize A.toNat = a at *
    clear hh
    go_enter Try.func4, Try.ntmps4
    have x0 := Ext.refl W
    go_wp2_with (first
      | (go_at_call 8; (with_reducible refine (HS.out _).mono ?_); rintro e w1 ⟨rfl, x1⟩; replace x0 := x0.trans x1; clear x1)
      | (go_at_call 8; (with_reducible refine (HT.out _).mono ?_); rintro e w1 ⟨rfl, x1⟩; replace x0 := x0.trans x1; clear x1)
      | (go_at_call 8; (with_reducible refine (HU.out _).mono ?_); rintro e w1 ⟨rfl, x1⟩; replace x0 := x0.trans x1; clear x1)
      | (go_at_call 8; (with_reducible refine (HST.out _).mono ?_); rintro e w1 ⟨rfl, x1⟩; replace x0 := x0.trans x1; clear x1)
      | (go_at_call 10; (with_reducible refine (HM.out _).mono ?_); rintro e w1 ⟨rfl, x1⟩; replace x0 := x0.trans x1; clear x1)
      | (go_at_call 10; (with_reducible refine (HM0.out _).mono ?_); rintro e w1 ⟨rfl, x1⟩; replace x0 := x0.trans x1; clear x1)
      | (go_at_call 10; (with_reducible refine (HMA.out _).mono ?_); rintro e w1 ⟨rfl, x1⟩; replace x0 := x0.trans x1; clear x1)
      | (go_at_call 10; (with_reducible refine (HMT.out _).mono ?_); rintro e w1 ⟨rfl, x1⟩; replace x0 := x0.trans x1; clear x1)
      | (go_at_call 10; (with_reducible refine (HMST.out _).mono ?_); rintro e w1 ⟨rfl, x1⟩; replace x0 := x0.trans x1; clear x1)
      | (go_at_call 12; (with_reducible refine (HJ.out _).mono ?_); rintro e w1 ⟨rfl, x1⟩; replace x0 := x0.trans x1; clear x1)
      | (go_at_call 12; (with_reducible refine (HG1.out _).mono ?_); rintro e w1 ⟨rfl, x1⟩; replace x0 := x0.trans x1; clear x1)
      | (go_at_call 12; (with_reducible refine (HJ2.out _).mono ?_); rintro e w1 ⟨rfl, x1⟩; replace x0 := x0.trans x1; clear x1)
      | (go_at_call 12; (with_reducible refine (HG2.out _).mono ?_); rintro e w1 ⟨rfl, x1⟩; replace x0 := x0.trans x1; clear x1)
      | (go_at_call 12; (with_reducible refine (HJ0.out _).mono ?_); rintro e w1 ⟨rfl, x1⟩; replace x0 := x0.trans x1; clear x1)
      | (go_at_call 12; (with_reducible refine (HJX.out _).mono ?_); rintro e w1 ⟨rfl, x1⟩; replace x0 := x0.trans x1; clear x1)
      | (go_at_call 7; refine (alive_any _).mono ?_; rintro e w1 ⟨rfl, x1⟩; replace x0 := x0.trans x1; clear x1))
    go_ret
    exact ⟨rfl, x0⟩
end Go.Proofs.Ytnecafoickjleaa
