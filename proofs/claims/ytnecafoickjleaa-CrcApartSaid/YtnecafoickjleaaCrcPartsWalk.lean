/- The walk of layer 7's statement CrcParts. -/
import Derived.Test.YtnecafoickjleaaCrcGoesWalk
import Derived.Test.YtnecafoickjleaaTxt
import Derived.RegionTactic
import Derived.ChangeAlike
import Derived.BigRegion
import Derived.Deep.DeepCutAuto
import Derived.Deep.RegionWith
namespace Go.Proofs.Ytnecafoickjleaa
open Go.RowKit

theorem xor8 (x y : UInt8) : bits BinOp.xor IntKind.u8 (x.toNat : Int) (y.toNat : Int) = ((x ^^^ y).toNat : Int) := by
  rw [u8_xor_nat _ _ x.toNat_lt y.toNat_lt, UInt8.toNat_xor]
theorem run_min3 (ts : Array TypeId) (t : TypeId) (a b c n : Nat) (hn : n = min (min a b) c) (u : World) : (Builtin.min_ ts t #[.int .i64 (a : Int), .int .i64 (b : Int), .int .i64 (c : Int)]).run Try.prog u = .ok (.int .i64 (n : Int)) u := by
  simp [Builtin.min_, Builtin.min2]
  split <;> split <;> omega
/-- Three texts' bytes, either or. -/
def xor3 (a b c : List UInt8) : List UInt8 := List.zipWith (· ^^^ ·) (List.zipWith (· ^^^ ·) a b) c
theorem xor3_length {a b c : List UInt8} {n : Nat} (h1 : a.length = n) (h2 : b.length = n) (h3 : c.length = n) : (xor3 a b c).length = n := by
  unfold xor3; rw [List.length_zipWith, List.length_zipWith]; omega
theorem xor3_at {a b c : List UInt8} {j : Nat} {x y z : UInt8} (h1 : a[j]? = some x) (h2 : b[j]? = some y) (h3 : c[j]? = some z) : (xor3 a b c)[j]? = some (x ^^^ y ^^^ z) := by
  unfold xor3; rw [List.getElem?_zipWith, List.getElem?_zipWith, h1, h2, h3]
theorem list_cut (s : ByteArray) (n : Nat) : (s.extract 0 n).data.toList = s.data.toList.take n := by simp
theorem size_cut (s : ByteArray) (n : Nat) (h : n ≤ s.size) : (s.extract 0 n).size = n := by simp; omega
theorem take_at (s : ByteArray) (n j : Nat) (h : j < n) (hn : n ≤ s.size) : ∃ x, (s.data.toList.take n)[j]? = some x ∧ s.data.toList[j]? = some x := by
  have hj : j < s.size := by omega
  exact ⟨s[j], by rw [List.getElem?_take, if_pos h]; exact byte_at s j hj, byte_at s j hj⟩
set_option maxRecDepth 100000 in
set_option maxHeartbeats 4000000 in
theorem CrcParts_walk (s t u : ByteArray) (W : World) (_z0 : s.size ≤ 140737488351232) (_z1 : t.size ≤ 140737488351232) (_z2 : u.size ≤ 140737488351232) :
    Calls Try.prog 6 #[.string s, .string t, .string u] W fun e W' => e = .returned (.bool true) ∧ Ext W W' := by
  obtain ⟨n, hn⟩ : ∃ n, n = min (min s.size t.size) u.size := ⟨_, rfl⟩
  have hmin := fun ts ty w => run_min3 ts ty s.size t.size u.size n hn w
  have n0 : n ≤ s.size := by omega
  have n1 : n ≤ t.size := by omega
  have n2 : n ≤ u.size := by omega
  clear hn
  by_cases hh : 4096 < n
  · have hhi : (4096 : Int) < (n : Int) := by omega
    go_enter Try.func6, Try.ntmps6
    go_wp2_with (go_at_call 7; refine (alive_any _).mono ?_; rintro e w1 ⟨rfl, h1⟩)
    go_ret
    exact ⟨rfl, h1⟩
  · have hhi : (n : Int) ≤ 4096 := by omega
    have hmk := make_bytes n (by omega)
    have hl1 : (s.data.toList.take n).length = n := by rw [List.length_take, size_list]; omega
    have hl2 : (t.data.toList.take n).length = n := by rw [List.length_take, size_list]; omega
    have hl3 : (u.data.toList.take n).length = n := by rw [List.length_take, size_list]; omega
    have HPl := Lib.hid (xor3_length hl1 hl2 hl3)
    have hs1 := slice_upto s n n0
    have hs2 := slice_upto t n n1
    have hs3 := slice_upto u n n2
    have hq1 := sum_any (s.extract 0 n) (by rw [size_cut s n n0]; omega)
    have hq2 := sum_any (t.extract 0 n) (by rw [size_cut t n n1]; omega)
    have hq3 := sum_any (u.extract 0 n) (by rw [size_cut u n n2]; omega)
    rw [list_cut] at hq1 hq2 hq3
    have HS := Lib.hid hq1; have HT := Lib.hid hq2; have HU := Lib.hid hq3
    have hq4 := sum_any ⟨(xor3 (s.data.toList.take n) (t.data.toList.take n) (u.data.toList.take n)).toArray⟩ (by rw [txt_size, HPl.out]; omega)
    rw [show (⟨(xor3 (s.data.toList.take n) (t.data.toList.take n) (u.data.toList.take n)).toArray⟩ : ByteArray).data.toList = xor3 (s.data.toList.take n) (t.data.toList.take n) (u.data.toList.take n) by simp] at hq4
    have hp : moreC 0#32 (xor3 (s.data.toList.take n) (t.data.toList.take n) (u.data.toList.take n)) = moreC 0#32 (s.data.toList.take n) ^^^ moreC 0#32 (t.data.toList.take n) ^^^ moreC 0#32 (u.data.toList.take n) := parts3 _ _ _ (by rw [hl1, hl2]) (by rw [hl2, hl3])
    have hx1 := bx (moreC 0#32 (s.data.toList.take n)) (moreC 0#32 (t.data.toList.take n))
    have hx2 := bx (moreC 0#32 (s.data.toList.take n) ^^^ moreC 0#32 (t.data.toList.take n)) (moreC 0#32 (u.data.toList.take n))
    rw [← hp] at hx2
    have HB := Lib.hid hq4
    have HAt := Lib.hid (fun j (hj : j < n) => take_at s n j hj n0)
    have HBt := Lib.hid (fun j (hj : j < n) => take_at t n j hj n1)
    have HCt := Lib.hid (fun j (hj : j < n) => take_at u n j hj n2)
    clear hl1 hl2 hl3 hq1 hq2 hq3 hq4 hp hh
    generalize s.extract 0 n = s' at *
    generalize t.extract 0 n = t' at *
    generalize u.extract 0 n = u' at *
    generalize (moreC 0#32 (s.data.toList.take n) ^^^ moreC 0#32 (t.data.toList.take n)).toNat = y1 at *
    generalize (moreC 0#32 (s.data.toList.take n)).toNat = y2 at *
    generalize (moreC 0#32 (t.data.toList.take n)).toNat = y3 at *
    generalize (moreC 0#32 (u.data.toList.take n)).toNat = y4 at *
    generalize (moreC 0#32 (xor3 (s.data.toList.take n) (t.data.toList.take n) (u.data.toList.take n))).toNat = y5 at *
    go_enter Try.func6, Try.ntmps6
    go_wp2
    go_loopw [9] (fun i wr => ∃ j : Nat, j ≤ n ∧ i = .int .i64 (j : Int) ∧ Row wr W.heap.size 5 ((xor3 (s.data.toList.take n) (t.data.toList.take n) (u.data.toList.take n)).take j ++ List.replicate (n - j) 0) ∧ Ext W wr) (fun i _ => n - (intOf i).toNat)
    case atStart => exact ⟨0, Nat.zero_le _, rfl, by simpa using Row.made W 5 n, (Ext.refl W).alloc _⟩
    case round =>
      obtain ⟨j, hj, rfl, hrow, hext⟩ := hrel
      by_cases hlt : j < n
      · have hc := fill_cell hrow HPl.out hlt
        have hf := hrow.frozen j
        obtain ⟨x, hx1', hx⟩ := HAt.out j hlt
        obtain ⟨y, hy1', hy⟩ := HBt.out j hlt
        obtain ⟨z, hz1', hz⟩ := HCt.out j hlt
        have i1 := fun w => index_text s j x hx w
        have i2 := fun w => index_text t j y hy w
        have i3 := fun w => index_text u j z hz w
        have b1 := xor8 x y
        have b2 := xor8 (x ^^^ y) z
        have HR := Lib.hid hrow; have HE := Lib.hid hext
        have HX3 := Lib.hid (xor3_at hx1' hy1' hz1')
        clear hx hx1' hy hy1' hz hz1' hrow hext
        go_wp2
        go_region
        go_wp2
        go_roundw
        case rel => exact ⟨j + 1, by omega, by go_num, (fill_step HR.out HPl.out hlt _ _ HX3.out b2).drew, (HE.out.setCell (Nat.le_refl _) _).drew⟩
        case measure => simp [intOf]; omega
      · obtain rfl : j = n := by omega
        have hrw := fill_done hrow HPl.out
        have HTX := Lib.hid (fun u (hu : Ext wr u) => (hrw.ext hu).text (P := Try.prog) 32 5 9 Try.underlying32 Try.underlying5 Try.underlying9 j j HPl.out)
        have HE := Lib.hid hext
        have x0 : Ext wr wr.drew := (Ext.refl wr).drew
        have ht := HTX.out wr.drew x0
        clear hrow hrw hext
        generalize (⟨(xor3 (s.data.toList.take j) (t.data.toList.take j) (u.data.toList.take j)).toArray⟩ : ByteArray) = B' at *
        go_wp2
        go_region_with (first
          | (go_at_call 8; (with_reducible refine (HB.out _).mono ?_); rintro e w1 ⟨rfl, x1⟩; replace x0 := x0.trans x1; replace ht := HTX.out _ x0; clear x1)
          | (go_at_call 8; (with_reducible refine (HS.out _).mono ?_); rintro e w1 ⟨rfl, x1⟩; replace x0 := x0.trans x1; replace ht := HTX.out _ x0; clear x1)
          | (go_at_call 8; (with_reducible refine (HT.out _).mono ?_); rintro e w1 ⟨rfl, x1⟩; replace x0 := x0.trans x1; replace ht := HTX.out _ x0; clear x1)
          | (go_at_call 8; (with_reducible refine (HU.out _).mono ?_); rintro e w1 ⟨rfl, x1⟩; replace x0 := x0.trans x1; replace ht := HTX.out _ x0; clear x1)
          | (go_at_call 7; refine (alive_any _).mono ?_; rintro e w1 ⟨rfl, x1⟩; replace x0 := x0.trans x1; clear x1))
        all_goals
          go_wp2
          go_ret
          exact ⟨rfl, HE.out.trans x0⟩
end Go.Proofs.Ytnecafoickjleaa
