/- Contract: a record's frame, by the program. -/
import Derived.Test.YthoajlajcmcabaaHead
namespace Go.Proofs.Ythoajlajcmcabaa
open Go.RowKit

theorem frame_text2P (r : Rec) : (⟨(headS r.t.size r.n r.t.data.toList).toArray⟩ : ByteArray) ++ r.t = frameT r := by
  unfold frameT frameL
  rw [← str_append]
set_option maxRecDepth 100000 in
set_option maxHeartbeats 2000000 in
theorem Encode_any (r : Rec) (hr : r.n < 18446744073709551616) (hs : r.t.size ≤ 1000000) (w : World) :
    Calls Try.prog 12 #[recV r] w fun e w' => e = .returned (.tuple #[.string (encF r).1, .int .i64 ((encF r).2 : Int)]) ∧ Ext w w' := by
  have HHd := Lib.hid (fun u => headOf_any r hr (Nat.le_trans hs (by decide)) u)
  obtain ⟨n, t⟩ := r
  dsimp only at hr hs HHd ⊢
  unfold recV at HHd ⊢
  dsimp only at HHd ⊢
  have hb : Blk (w.alloc (.cells #[.int .u64 (n : Int), .string t] 24)) w.heap.size 24 [.int .u64 (n : Int), .string t] := Blk.new w _ _
  have hx : Ext w (w.alloc (.cells #[.int .u64 (n : Int), .string t] 24)) := (Ext.refl w).alloc _
  have c0 := hb.cell 0 _ rfl
  have c1 := hb.cell 1 _ rfl
  by_cases h : 65536 < t.size
  · have he : encF ⟨n, t⟩ = (⟨#[]⟩, 5) := by unfold encF; rw [if_pos h]
    rw [he]
    clear hb HHd
    go_enter Try.func12, Try.ntmps12
    go_wp2
    go_ret2
    exact ⟨rfl, hx⟩
  · have he : encF ⟨n, t⟩ = (frameT ⟨n, t⟩, 0) := by unfold encF; rw [if_neg h]
    rw [he]
    have hz := zero_runF zeroH
    have HX := Lib.hid hx; have HB := Lib.hid hb
    have hl16 := headS_length t.size n t.data.toList
    have hT4 := frame_text2P ⟨n, t⟩
    dsimp only at hT4
    obtain ⟨F, hF⟩ : ∃ F, F = frameT ⟨n, t⟩ := ⟨_, rfl⟩
    rw [← hF] at hT4 ⊢
    have ht1 : ¬ 9223372036854775807 < (⟨(headS t.size n t.data.toList).toArray⟩ : ByteArray).size + t.size := by rw [txt_size, hl16]; omega
    have HZ3 : Hid ((⟨(headS t.size n t.data.toList).toArray⟩ : ByteArray) = ⟨(headS t.size n t.data.toList).toArray⟩) := Lib.hid rfl
    unfold headV at HHd
    generalize headS t.size n t.data.toList = l at *
    clear hb hx he hF
    go_enter Try.func12, Try.ntmps12
    go_wp2_with (first
      | (go_at_call 23; (with_reducible refine (HHd.out _).mono ?_); rintro e w1 ⟨rfl, x1⟩; have X1 := Lib.hid (HX.out.trans x1); have hb1 := HB.out.ext x1; have HB1 := Lib.hid hb1; clear c0 c1 x1 hb1)
      | (refine wpList_store_row rfl 62 (.tmp 4) (.tmp 10) rfl w1.heap.size _ rfl rfl 62 _ (Row.zH w1 62) (sizedH hl16) (by simp [hl16]) (cells8_one _) ?_))
    have hr0 : Row ((w1.alloc (.cells zH 62)).setRow w1.heap.size (l.map cellOf).toArray) w1.heap.size 62 l := setRow_heap _ _ _ _ _ _ (Row.zH w1 62)
    have HB2 : Hid (Blk ((w1.alloc (.cells zH 62)).setRow w1.heap.size (l.map cellOf).toArray) w.heap.size 24 [.int .u64 (n : Int), .string t]) := Lib.hid (HB1.out.ext (((Ext.refl w1).alloc _).setRow (Nat.le_refl _) _))
    have HX2 := Lib.hid ((X1.out.alloc (.cells zH 62)).setRow (g := w1.heap.size) X1.out.size (l.map cellOf).toArray)
    generalize ((w1.alloc (.cells zH 62)).setRow w1.heap.size (l.map cellOf).toArray) = W2 at *
    have ht := fun q => (hr0.drewN q).text_to 16 16 (by omega)
    rw [List.take_of_length_le (by omega)] at ht
    have c1 := HB2.out.cell 1 _ rfl
    have HRw := Lib.hid hr0
    clear hr0 HHd HZ3
    generalize (⟨l.toArray⟩ : ByteArray) = T at *
    simp only [Act.put]
    go_quiet (fail)
    go_wp2
    go_ret2
    exact ⟨rfl, HX2.out.drewN _⟩
end Go.Proofs.Ythoajlajcmcabaa
