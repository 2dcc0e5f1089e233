/- Contract: a record's frame, by the document's answer. -/
import Derived.Test.YthoajlajcmcabaaREnc
import Derived.Test.YthoajlajcmcabaaBlk
import Derived.Deep.RegionHeld3
namespace Go.Proofs.Ythoajlajcmcabaa
open Go.RowKit

theorem head_text (k n : Nat) : (⟨(be 4 k).toArray⟩ : ByteArray) ++ ⟨(be 8 n).toArray⟩ = ⟨(headL k n).toArray⟩ := str_append _ _
theorem sum_text (k n : Nat) (t : ByteArray) : (⟨(headL k n).toArray⟩ : ByteArray) ++ t = ⟨(headL k n ++ t.data.toList).toArray⟩ := by
  rw [← str_append]
theorem frame_text (k n : Nat) (t : ByteArray) : (⟨(headL k n).toArray⟩ : ByteArray) ++ ⟨(be 4 (sumN (headL k n ++ t.data.toList))).toArray⟩ = ⟨(headS k n t.data.toList).toArray⟩ := str_append _ _
theorem frame_text2 (r : Rec) : (⟨(headS r.t.size r.n r.t.data.toList).toArray⟩ : ByteArray) ++ r.t = frameT r := by
  unfold frameT frameL
  rw [← str_append]
set_option maxRecDepth 100000 in
set_option maxHeartbeats 2000000 in
theorem rEncode_any (r : Rec) (hr : r.n < 18446744073709551616) (hs : r.t.size ≤ 1000000) (w : World) :
    Calls Try.prog 13 #[recV r] w fun e w' => e = .returned (.tuple #[.string (encF r).1, .int .i64 ((encF r).2 : Int)]) ∧ Ext w w' := by
  obtain ⟨n, t⟩ := r
  dsimp only at hr hs ⊢
  unfold recV
  dsimp only
  have hb : Blk (w.alloc (.cells #[.int .u64 (n : Int), .string t] 24)) w.heap.size 24 [.int .u64 (n : Int), .string t] := Blk.new w _ _
  have hx : Ext w (w.alloc (.cells #[.int .u64 (n : Int), .string t] 24)) := (Ext.refl w).alloc _
  by_cases h : 65536 < t.size
  · have he : encF ⟨n, t⟩ = (⟨#[]⟩, 5) := by unfold encF; rw [if_pos h]
    rw [he]
    have c1 := hb.cell 1 _ rfl
    clear hb
    go_enter Try.func13, Try.ntmps13
    go_wp2
    go_ret2
    exact ⟨rfl, hx⟩
  · have he : encF ⟨n, t⟩ = (frameT ⟨n, t⟩, 0) := by unfold encF; rw [if_neg h]
    rw [he]
    have HX := Lib.hid hx
    have hwn : IntKind.u64.wrap (t.size : Int) = (t.size : Int) := IntWalk.u64_in _ ⟨by omega, by omega⟩
    have HK := Lib.hid (fun u (hu : Ext (w.alloc (.cells #[.int .u64 (n : Int), .string t] 24)) u) => (⟨(hb.ext hu).cell 0 _ rfl, (hb.ext hu).cell 1 _ rfl⟩ : u.cell? ⟨w.heap.size, 0, none⟩ = some (.int .u64 (n : Int)) ∧ u.cell? ⟨w.heap.size, 1, none⟩ = some (.string t)))
    have H4 := Lib.hid (fun u => rBytes4_any t.size (by omega) u)
    have H8 := Lib.hid (fun u => rBytes8_any n hr u)
    have hT1 := head_text t.size n
    have hT2 := sum_text t.size n t
    have HS := Lib.hid (fun u => rsum_any ((⟨(headL t.size n).toArray⟩ : ByteArray) ++ t) (by rw [hT2]; show (headL t.size n ++ t.data.toList).length ≤ _; rw [List.length_append, headL_length, size_list]; omega) u)
    have e2 : (((⟨(headL t.size n).toArray⟩ : ByteArray) ++ t).data.toList) = headL t.size n ++ t.data.toList := by rw [hT2]
    rw [e2] at HS
    have hT3 := frame_text t.size n t
    have hT4 := frame_text2 ⟨n, t⟩
    dsimp only at hT4
    have hm := sumN_lt (headL t.size n ++ t.data.toList)
    have HS2 : Hid (∀ u, Calls Try.prog 24 #[.string ((⟨(headL t.size n).toArray⟩ : ByteArray) ++ t)] u fun e w' => e = .returned (.int .u32 (sumN (headL t.size n ++ t.data.toList) : Int)) ∧ u = w') := HS
    have HB4 := Lib.hid (fun u => rBytes4_any (sumN (headL t.size n ++ t.data.toList)) (by omega) u)
    clear HS e2 hT2 hb hx he
    have z1 : (⟨(be 4 t.size).toArray⟩ : ByteArray).size = 4 := by rw [txt_size, be_length]
    have z2 : (⟨(be 8 n).toArray⟩ : ByteArray).size = 8 := by rw [txt_size, be_length]
    have z3 : (⟨(be 4 (sumN (headL t.size n ++ t.data.toList))).toArray⟩ : ByteArray).size = 4 := by rw [txt_size, be_length]
    have z4 : (⟨(headL t.size n).toArray⟩ : ByteArray).size = 12 := by rw [txt_size, headL_length]
    have z5 : (⟨(headS t.size n t.data.toList).toArray⟩ : ByteArray).size = 16 := by rw [txt_size, headS_length]
    obtain ⟨F, hF⟩ : ∃ F, F = frameT ⟨n, t⟩ := ⟨_, rfl⟩
    rw [← hF] at hT4 ⊢
    generalize sumN (headL t.size n ++ t.data.toList) = m at *
    generalize (⟨(headS t.size n t.data.toList).toArray⟩ : ByteArray) = Z3 at *
    generalize (⟨(headL t.size n).toArray⟩ : ByteArray) = Z2 at *
    generalize (⟨(be 4 t.size).toArray⟩ : ByteArray) = A4 at *
    generalize (⟨(be 8 n).toArray⟩ : ByteArray) = A8 at *
    generalize (⟨(be 4 m).toArray⟩ : ByteArray) = M4 at *
    generalize hW0 : (w.alloc (.cells #[.int .u64 (n : Int), .string t] 24)) = W0 at HX HK
    have hk0 := HK.out W0 (Ext.refl _)
    obtain ⟨c0, c1⟩ := hk0
    go_enter Try.func13, Try.ntmps13
    go_wp2_with fail
    have x0 : Ext W0 W0.drew := (Ext.refl W0).drew
    have hS : W0.drew.cell? ⟨w.heap.size, 0, none⟩ = some (.int .u64 (n : Int)) ∧ W0.drew.cell? ⟨w.heap.size, 1, none⟩ = some (.string t) ∧ Ext W0 W0.drew := ⟨c0, c1, x0⟩
    go_region_held3 (fun u => u.cell? ⟨w.heap.size, 0, none⟩ = some (.int .u64 (n : Int)) ∧ u.cell? ⟨w.heap.size, 1, none⟩ = some (.string t) ∧ Ext W0 u) (first | exact hS | exact hS3 | exact hS4 | assumption | go_keep) (first
      | (go_at_call 11; (with_reducible refine (H4.out _).mono ?_); rintro e w3 ⟨rfl, x3⟩; have y3 := Ext.trans (a := W0) (by assumption) x3; have hS3 := (⟨(HK.out _ y3).1, (HK.out _ y3).2, y3⟩ : w3.cell? ⟨w.heap.size, 0, none⟩ = some (.int .u64 (n : Int)) ∧ w3.cell? ⟨w.heap.size, 1, none⟩ = some (.string t) ∧ Ext W0 w3))
      | (go_at_call 11; (with_reducible refine (H8.out _).mono ?_); rintro e w4 ⟨rfl, x4⟩; have y4 := Ext.trans (a := W0) (by assumption) x4; have hS4 := (⟨(HK.out _ y4).1, (HK.out _ y4).2, y4⟩ : w4.cell? ⟨w.heap.size, 0, none⟩ = some (.int .u64 (n : Int)) ∧ w4.cell? ⟨w.heap.size, 1, none⟩ = some (.string t) ∧ Ext W0 w4)))
    have HY4 := Lib.hid y4
    have ht1 : ¬ 9223372036854775807 < Z2.size + t.size := by omega
    have ht2 : ¬ 9223372036854775807 < Z3.size + t.size := by omega
    have ht3 : ¬ 9223372036854775807 < Z2.size + M4.size := by omega
    clear z1 z2 z3 z4 z5
    have hwm : IntKind.u64.wrap (m : Int) = (m : Int) := IntWalk.u64_in _ ⟨by omega, by omega⟩
    clear hS hS3 hS4 x0 x3 x4 y3 y4 c0 c1 H4 H8
    have hk4 := HK.out w4 HY4.out
    obtain ⟨c0, c1⟩ := hk4
    go_wp2_with fail
    have x0 : Ext W0 w4.drew := HY4.out.drew
    have hS : w4.drew.cell? ⟨w.heap.size, 1, none⟩ = some (.string t) ∧ Ext W0 w4.drew := ⟨c1, x0⟩
    go_region_held3 (fun u => u.cell? ⟨w.heap.size, 1, none⟩ = some (.string t) ∧ Ext W0 u) (first | exact hS | exact hS5 | exact hS6 | assumption | go_keep) (first
      | (go_at_call 24; (with_reducible refine (HS2.out _).mono ?_); rintro e w5 ⟨rfl, rfl⟩)
      | (go_at_call 11; (with_reducible refine (HB4.out _).mono ?_); rintro e w6 ⟨rfl, x6⟩; have y6 := Ext.trans (a := W0) (by assumption) x6; have hS6 := (⟨(HK.out _ y6).2, y6⟩ : w6.cell? ⟨w.heap.size, 1, none⟩ = some (.string t) ∧ Ext W0 w6)))
    have HY6 := Lib.hid y6
    clear hS hS6 x0 x6 y6 c0 c1
    go_wp2
    go_ret2
    exact ⟨by rw [hF]; rfl, HX.out.trans HY6.out⟩
end Go.Proofs.Ythoajlajcmcabaa
