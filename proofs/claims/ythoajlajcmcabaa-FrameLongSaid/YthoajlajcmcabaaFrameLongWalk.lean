/- The walk of layer 10's statement FrameLong. -/
import Derived.Test.YthoajlajcmcabaaFAlive
import Derived.Test.YthoajlajcmcabaaFRow
import Derived.Test.YthoajlajcmcabaaREnc
import Derived.Test.YthoajlajcmcabaaLongWay
import Derived.Deep.DeepCutAuto
import Derived.Deep.RegionWith
namespace Go.Proofs.Ythoajlajcmcabaa
open Go.RowKit

theorem zeros_text (u v : World) (n : Nat) (h : Row v u.heap.size 5 (List.replicate n 0)) : (convert 53 9 (.slice (some ⟨u.heap.size, 0, none⟩) n n)).run Try.prog v = .ok (.string ⟨(List.replicate n (0 : UInt8)).toArray⟩) v :=
  h.text (P := Try.prog) 53 5 9 Try.underlying53 Try.underlying5 Try.underlying9 n n (by simp)
theorem decF_over (n : Nat) (h : 65536 < n) (h2 : n < 4294967296) (rest : List UInt8) (hr : 12 ≤ rest.length) : decF (⟨(be 4 n).toArray⟩ ++ ⟨rest.toArray⟩) = (Rec.zero, 0, 5) := by
  have e : (⟨(be 4 n).toArray⟩ : ByteArray) ++ ⟨rest.toArray⟩ = ⟨(be 4 n ++ rest).toArray⟩ := str_append _ _
  have hs : (⟨(be 4 n ++ rest).toArray⟩ : ByteArray).size = 4 + rest.length := by rw [txt_size, List.length_append, be_length]
  have hn : numAt ⟨(be 4 n ++ rest).toArray⟩ 0 4 = n := by
    unfold numAt
    show num (((be 4 n ++ rest).drop 0).take 4) = n
    rw [List.drop_zero, List.take_append_of_le_length (by rw [be_length]; exact Nat.le_refl _), List.take_of_length_le (by rw [be_length]; exact Nat.le_refl _), num_be, Nat.mod_eq_of_lt (by omega)]
  rw [e]
  exact decF_long (by omega) (by omega)
set_option maxRecDepth 100000 in
set_option maxHeartbeats 4000000 in
theorem FrameLong_walk (over : Int) (W : World) (z0 : -128 ≤ over ∧ over ≤ 127) :
    Calls Try.prog 7 #[.int .i8 over] W fun e W' => e = .returned (.bool true) ∧ Ext W W' := by
  obtain ⟨n, hn⟩ : ∃ n : Nat, 65536 + over = (n : Int) := ⟨(65536 + over).toNat, by omega⟩
  have hmk := make_bytes n (by omega)
  have hwo : IntKind.i64.wrap over = over := IntWalk.i64_in _ ⟨by omega, by omega⟩
  have hwn : IntKind.i64.wrap (65536 + over) = (n : Int) := by rw [hn]; exact IntWalk.i64_in _ ⟨by omega, by omega⟩
  have hcv := fun u : World => zeros_text u _ n (Row.made u 5 n)
  have hzs : (⟨(List.replicate n (0 : UInt8)).toArray⟩ : ByteArray).size = n := by rw [txt_size, List.length_replicate]
  have HE := Lib.hid (fun u => Encode_any ⟨1, ⟨(List.replicate n (0 : UInt8)).toArray⟩⟩ (show 1 < 18446744073709551616 by decide) (by show (⟨(List.replicate n (0 : UInt8)).toArray⟩ : ByteArray).size ≤ _; omega) u)
  unfold recV at HE
  dsimp only at HE
  rw [show ((1 : Nat) : Int) = 1 from rfl] at HE
  have HX := Lib.hid (fun u : World => (Ext.refl u).alloc (.cells (madeCells #[.int .u8 0] n) 5))
  by_cases ho : 0 < over
  · have h65 : 65536 < n := by omega
    rw [show encF ⟨1, ⟨(List.replicate n (0 : UInt8)).toArray⟩⟩ = (⟨#[]⟩, 5) from by unfold encF; rw [if_pos (by show 65536 < (⟨(List.replicate n (0 : UInt8)).toArray⟩ : ByteArray).size; omega)]] at HE
    have HE5 : Hid (∀ u, Calls Try.prog 12 #[.agg #[.int .u64 1, .string ⟨(List.replicate n (0 : UInt8)).toArray⟩]] u fun e w' => e = .returned (.tuple #[.string ⟨#[]⟩, .int .i64 5]) ∧ Ext u w') := HE
    have HB4 := Lib.hid (fun u => rBytes4_any n (by omega) u)
    have hmk20 := make_bytes 20 (by decide)
    have hcv20 := fun u : World => zeros_text u _ 20 (Row.made u 5 20)
    have hcv20g := fun (u : World) (g : Nat) (h : Row u g 5 (List.replicate 20 0)) => h.text (P := Try.prog) 53 5 9 Try.underlying53 Try.underlying5 Try.underlying9 20 20 (by simp)
    have HD := Lib.hid (fun u => Decode_any (⟨(be 4 n).toArray⟩ ++ ⟨(List.replicate 20 (0 : UInt8)).toArray⟩) (by rw [ByteArray.size_append, txt_size, txt_size, be_length, List.length_replicate]; decide) u)
    rw [decF_over n h65 (by omega) (List.replicate 20 0) (by simp)] at HD
    have HD5 : Hid (∀ u, Calls Try.prog 14 #[.string (⟨(be 4 n).toArray⟩ ++ ⟨(List.replicate 20 (0 : UInt8)).toArray⟩)] u fun e w' => e = .returned (.tuple #[.agg #[.int .u64 0, .string ⟨#[]⟩], .int .i64 0, .int .i64 5]) ∧ Ext u w') := HD
    have hl : ¬ 9223372036854775807 < (⟨(be 4 n).toArray⟩ : ByteArray).size + (⟨(List.replicate 20 (0 : UInt8)).toArray⟩ : ByteArray).size := by rw [txt_size, txt_size, be_length, List.length_replicate]; decide
    have hwu : IntKind.u64.wrap (n : Int) = (n : Int) := IntWalk.u64_in _ ⟨by omega, by omega⟩
    have e20 : ((20 : Nat) : Int) = 20 := rfl
    rw [e20] at hmk20
    have HR20 := Lib.hid (fun u v w1 : World => fun (h : Row v u.heap.size 5 (List.replicate 20 0)) (x : Ext v w1) => zeros_text u w1 20 (h.ext x))
    clear HE HD hzs e20
    generalize (⟨(List.replicate n (0 : UInt8)).toArray⟩ : ByteArray) = Z at *
    generalize (⟨(be 4 n).toArray⟩ : ByteArray) = B4 at *
    generalize (⟨(List.replicate 20 (0 : UInt8)).toArray⟩ : ByteArray) = Z20 at *
    go_enter Try.func7, Try.ntmps7
    go_upto_region 4 with (go_at_call 12; refine (HE5.out _).mono ?_; rintro e w1 ⟨rfl, x1⟩; have X1 := Lib.hid ((HX.out W).trans x1); clear x1)
    have HT20 := Lib.hid (fun (u : World) (g : Nat) (h : Row u g 5 (List.replicate 20 0)) => hcv20g u g h)
    clear hcv20 HR20 hcv20g
    refine wp_region_any (by kernel_rfl) ?_
    refine wpAny_inv (LgWay n B4 Z20 w1) ?hsize ?step ?last _ _ _ _ (by decide) ⟨rfl, rfl, rfl, ?base, (Ext.refl w1).drew, fun j t ht hj => ?none⟩
    case hsize => exact fun L a w h => h.size
    case base =>
      intro p hp
      simp only [List.mem_cons, List.not_mem_nil, or_false] at hp
      rcases hp with rfl | rfl | rfl <;> rfl
    case none =>
      exfalso
      have hj2 : j < 15 := (List.getElem?_eq_some_iff.1 ht).1
      have h0 : (Array.replicate 15 false).getD j true = false := by simp [Array.getD, hj2]
      have h1 : (Array.replicate 15 false).getD j true = true := hj
      rw [h0] at h1
      cases h1
    case last =>
      intro L a w' h hr
      have hd := all_done_b h.size (by kernel_rfl) hr 14 (by decide)
      have h8 := h.facts 14 8 rfl hd
      have b4 : a.tmps[4]?.getD undef = .string ⟨#[]⟩ := h.ahead (4, .string ⟨#[]⟩) (by simp)
      have b5 : a.tmps[5]?.getD undef = .int .i64 5 := h.ahead (5, .int .i64 5) (by simp)
      have hsz : a.tmps.size = 84 := h.tmps
      obtain ⟨X, D⟩ := a
      obtain rfl : D = [] := h.defers
      have hx := Lib.hid h.ext
      have h8' : X[8]?.getD undef = .int .i64 5 := by
        have := h8
        rwa [Array.getD_eq_getD_getElem?] at this
      dsimp only at b4 b5 hsz
      have at_ : ∀ (k : Nat) (v : Value) (hk : k < X.size), X[k]?.getD undef = v → X[k] = v := fun k v hk e => by
        rw [Array.getElem?_eq_getElem hk] at e
        exact e
      have e4 := at_ 4 _ (by omega) b4
      have e5 := at_ 5 _ (by omega) b5
      have e8 := at_ 8 _ (by omega) h8'
      clear at_
      clear h8 h hd hr
      go_wp2_with (go_at_call 8; refine (alive_any _).mono ?_; rintro e w5 ⟨rfl, h5⟩)
      refine bodyPost_ret (results_tmp rfl _ _ _) rfl ⟨?_, X1.out.trans (hx.out.trans h5)⟩
      rw [slot_same (by simp [hsz])]
    case step =>
      intro L a w' i h hi
      have hlt : i < 15 := (ready_spec hi).1
      obtain ⟨X, D⟩ := a
      obtain rfl : D = [] := h.defers
      have b3 : X[3]?.getD undef = .int .i64 (n : Int) := h.ahead (3, _) (by simp)
      rcases (show i = 0 ∨ i = 1 ∨ i = 2 ∨ i = 3 ∨ i = 4 ∨ i = 5 ∨ i = 6 ∨ i = 7 ∨ i = 8 ∨ i = 9 ∨ i = 10 ∨ i = 11 ∨ i = 12 ∨ i = 13 ∨ i = 14 by omega) with rfl | rfl | rfl | rfl | rfl | rfl | rfl | rfl | rfl | rfl | rfl | rfl | rfl | rfl | rfl
      · refine wpOp_step rfl (fun K hK => ?_)
        go_simp
        exact hK _ _ (h.go 0 26 rfl _ (Ext.refl _) rfl)
      · have d0 := ready_after hi _ rfl 0 _ rfl rfl
        have f0 : X[26]?.getD undef = .int .i64 (n : Int) := h.at 0 26 rfl d0
        refine wpOp_step rfl (fun K hK => ?_)
        go_simp
        exact hK _ _ (h.go 1 27 rfl _ (Ext.refl _) rfl)
      · have d1 := ready_after hi _ rfl 0 _ rfl rfl
        have f1 : X[27]?.getD undef = .int .u64 (n : Int) := h.at 1 27 rfl d1
        refine wpOp_step rfl (fun K hK => ?_)
        go_simp
        go_at_call 11
        refine (HB4.out _).mono ?_
        rintro e w5 ⟨rfl, h5⟩
        exact hK _ _ (h.go 2 28 rfl _ h5 rfl)
      · refine wpOp_step rfl (fun K hK => ?_)
        go_simp
        exact hK _ _ (h.go 3 29 rfl _ ((Ext.refl _).alloc _) ⟨_, rfl, Row.made _ _ 20⟩)
      · have d3 := ready_after hi _ rfl 0 _ rfl rfl
        obtain ⟨g, f3, r3⟩ : ∃ g, X[29]?.getD undef = .slice (some ⟨g, 0, none⟩) 20 20 ∧ Row w' g 5 (List.replicate 20 0) := h.at 3 29 rfl d3
        have ht := HT20.out w' g r3
        refine wpOp_step rfl (fun K hK => ?_)
        go_simp
        exact hK _ _ (h.go 4 30 rfl _ (Ext.refl _) rfl)
      · have d2 := ready_after hi _ rfl 0 _ rfl rfl
        have d4 := ready_after hi _ rfl 1 _ rfl rfl
        have f2 : X[28]?.getD undef = .string B4 := h.at 2 28 rfl d2
        have f4 : X[30]?.getD undef = .string Z20 := h.at 4 30 rfl d4
        refine wpOp_step rfl (fun K hK => ?_)
        go_simp
        exact hK _ _ (h.go 5 31 rfl _ (Ext.refl _) rfl)
      · have d5 := ready_after hi _ rfl 0 _ rfl rfl
        have f5 : X[31]?.getD undef = .string (B4 ++ Z20) := h.at 5 31 rfl d5
        refine wpOp_step rfl (fun K hK => ?_)
        go_simp
        go_at_call 14
        refine (HD5.out _).mono ?_
        rintro e w5 ⟨rfl, h5⟩
        exact hK _ _ (h.go 6 32 rfl _ h5 rfl)
      · have d6 := ready_after hi _ rfl 0 _ rfl rfl
        have f6 : X[32]?.getD undef = Value.tuple #[.agg #[.int .u64 0, .string ⟨#[]⟩], .int .i64 0, .int .i64 5] := h.at 6 32 rfl d6
        refine wpOp_step rfl (fun K hK => ?_)
        go_simp
        exact hK _ _ (h.go 7 25 rfl _ (Ext.refl _) rfl)
      · have d7 := ready_after hi _ rfl 0 _ rfl rfl
        have f7 : X[25]?.getD undef = Value.tuple #[.agg #[.int .u64 0, .string ⟨#[]⟩], .int .i64 0, .int .i64 5] := h.at 7 25 rfl d7
        refine wpOp_step rfl (fun K hK => ?_)
        go_simp
        exact hK _ _ (h.go 8 33 rfl _ (Ext.refl _) rfl)
      · have d7 := ready_after hi _ rfl 0 _ rfl rfl
        have f7 : X[25]?.getD undef = Value.tuple #[.agg #[.int .u64 0, .string ⟨#[]⟩], .int .i64 0, .int .i64 5] := h.at 7 25 rfl d7
        refine wpOp_step rfl (fun K hK => ?_)
        go_simp
        exact hK _ _ (h.go 9 34 rfl _ (Ext.refl _) rfl)
      · have d7 := ready_after hi _ rfl 0 _ rfl rfl
        have f7 : X[25]?.getD undef = Value.tuple #[.agg #[.int .u64 0, .string ⟨#[]⟩], .int .i64 0, .int .i64 5] := h.at 7 25 rfl d7
        refine wpOp_step rfl (fun K hK => ?_)
        go_simp
        exact hK _ _ (h.go 10 35 rfl _ (Ext.refl _) rfl)
      · refine wpOp_step rfl (fun K hK => ?_)
        go_simp
        exact hK _ _ (h.go 11 6 rfl _ ((Ext.refl _).alloc _) ⟨_, rfl, Blk.new _ [.int .u64 0, .string ⟨#[]⟩] _, h.ext.size⟩)
      · have d11 := ready_after hi _ rfl 0 _ rfl rfl
        have d8 := ready_after hi _ rfl 1 _ rfl rfl
        obtain ⟨g, f11, r11, l11⟩ : ∃ g, X[6]?.getD undef = .pointer (some ⟨g, 0, none⟩) ∧ Blk w' g 24 [.int .u64 0, .string ⟨#[]⟩] ∧ w1.heap.size ≤ g := h.at 11 6 rfl d11
        have f8 : X[33]?.getD undef = .agg #[.int .u64 0, .string ⟨#[]⟩] := h.at 8 33 rfl d8
        have k0 := r11.cell 0 _ rfl
        have k1 := r11.cell 1 _ rfl
        have q0 := r11.frozen 0
        have q1 := r11.frozen 1
        refine wpOp_step rfl (fun K hK => ?_)
        go_simp
        exact hK _ _ (h.store g r11 l11 undef)
      · have d9 := ready_after hi _ rfl 0 _ rfl rfl
        have f9 : X[34]?.getD undef = .int .i64 0 := h.at 9 34 rfl d9
        refine wpOp_step rfl (fun K hK => ?_)
        go_simp
        exact hK _ _ (h.go 13 7 rfl _ (Ext.refl _) rfl)
      · have d10 := ready_after hi _ rfl 0 _ rfl rfl
        have f10 : X[35]?.getD undef = .int .i64 5 := h.at 10 35 rfl d10
        refine wpOp_step rfl (fun K hK => ?_)
        go_simp
        exact hK _ _ (h.go 14 8 rfl _ (Ext.refl _) rfl)
  · have h65 : n ≤ 65536 := by omega
    rw [show encF ⟨1, ⟨(List.replicate n (0 : UInt8)).toArray⟩⟩ = (frameT ⟨1, ⟨(List.replicate n (0 : UInt8)).toArray⟩⟩, 0) from by unfold encF; rw [if_neg (by show ¬ 65536 < (⟨(List.replicate n (0 : UInt8)).toArray⟩ : ByteArray).size; omega)]] at HE
    have HE0 : Hid (∀ u, Calls Try.prog 12 #[.agg #[.int .u64 1, .string ⟨(List.replicate n (0 : UInt8)).toArray⟩]] u fun e w' => e = .returned (.tuple #[.string (frameT ⟨1, ⟨(List.replicate n (0 : UInt8)).toArray⟩⟩), .int .i64 0]) ∧ Ext u w') := HE
    have hfs : (frameT ⟨1, ⟨(List.replicate n (0 : UInt8)).toArray⟩⟩).size = 16 + n := by rw [frameT_size]; show 16 + (⟨(List.replicate n (0 : UInt8)).toArray⟩ : ByteArray).size = _; rw [hzs]
    have HD := Lib.hid (fun u => Decode_any (frameT ⟨1, ⟨(List.replicate n (0 : UInt8)).toArray⟩⟩) (by omega) u)
    have hdf := decF_frame ⟨1, ⟨(List.replicate n (0 : UInt8)).toArray⟩⟩ [] (by show (⟨(List.replicate n (0 : UInt8)).toArray⟩ : ByteArray).size ≤ _; omega) (show 1 < 18446744073709551616 by decide)
    rw [← frameT_data] at hdf
    rw [hdf] at HD
    dsimp only at HD
    rw [hzs] at HD
    have HD0 : Hid (∀ u, Calls Try.prog 14 #[.string (frameT ⟨1, ⟨(List.replicate n (0 : UInt8)).toArray⟩⟩)] u fun e w' => e = .returned (.tuple #[.agg #[.int .u64 1, .string ⟨(List.replicate n (0 : UInt8)).toArray⟩], .int .i64 ((16 + n : Nat) : Int), .int .i64 0]) ∧ Ext u w') := HD
    have hnn : ((16 + n : Nat) : Int) = (n : Int) + 16 := by omega
    rw [hnn] at HD0
    have hwz : IntKind.i64.wrap ((n : Int) + 16) = (n : Int) + 16 := IntWalk.i64_in _ ⟨by omega, by omega⟩
    have hfi : ((frameT ⟨1, ⟨(List.replicate n (0 : UInt8)).toArray⟩⟩).size : Int) = (n : Int) + 16 := by rw [hfs]; omega
    have hon : ¬ (0 : Int) < over := ho
    have HB1 := Lib.hid (fun u : World => Blk.new u [.int .u64 1, .string ⟨(List.replicate n (0 : UInt8)).toArray⟩] 24)
    clear HE HD hdf hfs hnn
    generalize frameT ⟨1, ⟨(List.replicate n (0 : UInt8)).toArray⟩⟩ = F at *
    generalize (⟨(List.replicate n (0 : UInt8)).toArray⟩ : ByteArray) = Z at *
    go_enter Try.func7, Try.ntmps7
    go_wp2_with (first
      | (go_at_call 12; refine (HE0.out _).mono ?_; rintro e w1 ⟨rfl, x1⟩; have X1 := Lib.hid ((HX.out W).trans x1); clear x1)
      | (go_at_call 14; refine (HD0.out _).mono ?_; rintro e w3 ⟨rfl, x3⟩; have X3 := Lib.hid ((X1.out.trans x3).alloc (.cells #[.int .u64 1, .string Z] 24)); have c1 := (HB1.out w3).cell 1 _ rfl; clear x3)
      | (go_at_call 8; refine (alive_any _).mono ?_; rintro e w5 ⟨rfl, x5⟩))
    go_ret
    exact ⟨rfl, X3.out.trans x5⟩
end Go.Proofs.Ythoajlajcmcabaa
