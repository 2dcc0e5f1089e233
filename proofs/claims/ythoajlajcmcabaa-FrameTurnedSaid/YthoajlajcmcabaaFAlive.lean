/- Contracts: some answers that the document fixes; what is more than a statement writes; rows of frames. -/
import Derived.Test.YthoajlajcmcabaaFrameP
import Derived.Test.YthoajlajcmcabaaFEnc
import Derived.Test.YthoajlajcmcabaaFScan
import Derived.Test.YthoajlajcmcabaaRecEq
import Derived.Test.YthoajlajcmcabaaTextsP
namespace Go.Proofs.Ythoajlajcmcabaa
open Go.RowKit

def recA : Rec := ⟨1, ⟨#[97]⟩⟩
theorem encA (w : World) : Calls Try.prog 12 #[.agg #[.int .u64 1, .string ⟨#[97]⟩]] w fun e w' => e = .returned (.tuple #[.string (frameT recA), .int .i64 0]) ∧ Ext w w' := by
  have h := Encode_any recA (by decide) (by decide) w
  rw [show encF recA = (frameT recA, 0) from by unfold encF; rw [if_neg (by decide)]] at h
  exact h
theorem frameT_cat (r : Rec) (l : List UInt8) : frameT r ++ ⟨l.toArray⟩ = ⟨(frameL r ++ l).toArray⟩ := by
  rw [txt_cat, frameT_list]
theorem decA (w : World) : Calls Try.prog 14 #[.string (frameT recA ++ ⟨#[120]⟩)] w fun e w' => e = .returned (.tuple #[.agg #[.int .u64 1, .string ⟨#[97]⟩], .int .i64 17, .int .i64 0]) ∧ Ext w w' := by
  have e : frameT recA ++ ⟨#[120]⟩ = ⟨(frameL recA ++ [120]).toArray⟩ := frameT_cat recA [120]
  have h := Decode_any (frameT recA ++ ⟨#[120]⟩) (by rw [e, fr_size]; decide) w
  rw [e, decF_frame recA [120] (by decide) (by decide)] at h
  rw [e]
  exact h
theorem scanA (w : World) : Calls Try.prog 16 #[.string (frameT recA ++ frameT recA), .int .u64 1] w fun e w' => ∃ p c, e = .returned (.tuple #[.slice p 1 c, .int .i64 17, .int .i64 7]) ∧ Ext w w' := by
  have e : frameT recA ++ frameT recA = ⟨(frameL recA ++ (frameL recA ++ [])).toArray⟩ := by rw [List.append_nil]; exact frameT_cat recA (frameL recA)
  have h := Scan_any w (frameT recA ++ frameT recA) (by rw [e, fr_size, List.append_nil, frameL_length]; decide) 1 (by decide)
  have hd := decF_frame recA (frameL recA ++ []) (by decide) (by decide)
  have hd2 := decF_frame recA [] (by decide) (by decide)
  have hs : scanF (frameT recA ++ frameT recA) 1 = ([recA], 17, 7) := by
    rw [e, scanF_more (by rw [fr_size]; decide) (by rw [hd]) (by rw [hd]; rfl), hd]
    dsimp only
    rw [extract_rest _ _ _ (frameL_length recA), scanF_form (by rw [fr_size]; decide) (by rw [hd2]) (by rw [hd2]; decide)]
    rfl
  rw [hs] at h
  refine h.mono ?_
  rintro e' w' ⟨v, rfl, hx, hb⟩
  obtain ⟨p, c, rfl, _, _⟩ := hb.recs
  exact ⟨p, c, rfl, hx⟩
theorem cutA (w : World) : Calls Try.prog 14 #[.string ((frameT recA).extract 0 16)] w fun e w' => e = .returned (.tuple #[.agg #[.int .u64 0, .string ⟨#[]⟩], .int .i64 0, .int .i64 100]) ∧ Ext w w' := by
  have e : (frameT recA).extract 0 16 = ⟨((frameL recA).take 16).toArray⟩ := by unfold frameT; rw [txt_extract']; rfl
  have h := Decode_any ((frameT recA).extract 0 16) (by rw [ByteArray.size_extract]; omega) w
  rw [e, decF_cut recA (by decide) 16 (by decide)] at h
  rw [e]
  exact h
theorem headA : (frameT recA).extract 0 12 = ⟨#[0, 0, 0, 1, 0, 0, 0, 0, 0, 0, 0, 1]⟩ := by
  unfold frameT
  rw [txt_extract']
  have h := fr_head recA []
  rw [List.append_nil] at h
  show (⟨((frameL recA).take 12).toArray⟩ : ByteArray) = _
  rw [h]
  rfl
set_option maxRecDepth 100000 in
set_option maxHeartbeats 2000000 in
theorem alive_any (w : World) : Calls Try.prog 8 #[] w fun e w' => e = .returned (.bool true) ∧ Ext w w' := by
  have HE := Lib.hid encA; have HD := Lib.hid decA; have HS := Lib.hid scanA; have HC := Lib.hid cutA
  have hsz : (frameT recA).size = 17 := by rw [frameT_size]; decide
  have h16 : ∀ u : World, (Instr.slice 9 (.string (frameT recA)) none (some (.int .i64 16)) none).run Try.prog u = .ok (.string ((frameT recA).extract 0 16)) u := fun u => cut_to _ 16 (by omega) u
  have h12 : ∀ u : World, (Instr.slice 9 (.string (frameT recA)) none (some (.int .i64 12)) none).run Try.prog u = .ok (.string ⟨#[0, 0, 0, 1, 0, 0, 0, 0, 0, 0, 0, 1]⟩) u := fun u => by
    have := cut_to (frameT recA) 12 (by omega) u
    rw [headA] at this
    exact this
  have HZ := Lib.hid (fun u => Size_any ⟨#[97]⟩ (by decide) u)
  have hq : ∀ u, (binOp .eql 24 (.agg #[.int .u64 1, .string ⟨#[97]⟩]) (.agg #[.int .u64 1, .string ⟨#[97]⟩])).run Try.prog u = .ok (.bool true) u := fun u => rec_eql recA recA true (by simp) u
  have hgd := rec_guard
  have hl1 : ¬ 9223372036854775807 < (frameT recA).size + 1 := by omega
  have hl2 : ¬ 9223372036854775807 < (frameT recA).size + (frameT recA).size := by omega
  generalize (frameT recA).extract 0 16 = S16 at *
  generalize frameT recA = S at *
  go_enter Try.func8, Try.ntmps8
  go_wp2_with (first
    | (go_at_call 12; refine (HE.out _).mono ?_; rintro e w1 ⟨rfl, x1⟩; have X1 := Lib.hid x1; clear x1)
    | (go_at_call 14; (with_reducible refine (HD.out _).mono ?_); rintro e w2 ⟨rfl, x2⟩; have X2 := Lib.hid (X1.out.trans (x2.alloc (.cells #[.int .u64 1, .string ⟨#[97]⟩] 24))); have hb := Blk.new w2 [.int .u64 1, .string ⟨#[97]⟩] 24; have HB := Lib.hid hb; clear x2 hb)
    | (go_at_call 16; refine (HS.out _).mono ?_; rintro e w3 ⟨p, c, rfl, x3⟩; have X3 := Lib.hid (X2.out.trans x3); have hb3 := HB.out.ext x3; have HB3 := Lib.hid hb3; clear x3 hb3)
    | (go_at_call 14; (with_reducible refine (HC.out _).mono ?_); rintro e w4 ⟨rfl, x4⟩; have x5 := x4.alloc (.cells #[.int .u64 0, .string ⟨#[]⟩] 24); have X4 := Lib.hid (X3.out.trans x5); have hb4 := HB3.out.ext x5; have c0 := hb4.cell 0 _ rfl; have c1 := hb4.cell 1 _ rfl; clear x4 x5)
    | (go_at_call 18; refine (HZ.out _).mono ?_; rintro e w6 ⟨rfl, rfl⟩))
  go_ret
  exact ⟨rfl, X4.out⟩
end Go.Proofs.Ythoajlajcmcabaa
