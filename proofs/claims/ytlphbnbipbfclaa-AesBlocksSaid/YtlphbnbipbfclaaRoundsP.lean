/- Contracts: the round keys told, by the program. -/
import Derived.Test.YtlphbnbipbfclaaEnc
import Derived.Test.YtlphbnbipbfclaaBufS
import Derived.Test.YtlphbnbipbfclaaKeyT
namespace Go.Proofs.Ytlphbnbipbfclaa
open Go.RowKit
attribute [local irreducible] rkey expand enc dec
theorem sz16 : (Try.prog.info? 48).map (·.size) = some 16 := by kernel_rfl
/-- A block out of an array of blocks, by value. -/
theorem index_block (t n : Nat) (ht : Try.prog.underlying t = some (.array n 48)) (E : List UInt8) (i : Nat) (hi : i < n) (w : World) :
    (Instr.index t (.agg (E.map cellOf).toArray) (.int .i64 (i : Int))).run Try.prog w = .ok (.agg (((E.drop (16 * i)).take 16).map cellOf).toArray) w := by
  have hu2 := Try.underlying48
  have he : (E.map cellOf).toArray.extract (i * 16) (i * 16 + 16) = (((E.drop (16 * i)).take 16).map cellOf).toArray := by
    apply Array.toList_inj.1
    simp [List.map_take, List.map_drop, Nat.mul_comm]
  generalize (E.map cellOf).toArray = C at *
  rw [← he]
  clear he
  cases hq : Try.prog.info? 48 with
  | none => have := sz16; simp [hq] at this
  | some d =>
    have hs : d.size = 16 := by have := sz16; simpa [hq] using this
    simp [Instr.index, part, isAgg, run_underlying ht, run_underlying hu2, sizeOf, typeInfo, hq, hs, asIntOf, go_sem, hi]
attribute [local irreducible] keyTexts
set_option maxRecDepth 100000 in
set_option maxHeartbeats 1000000 in
theorem Rounds_yes (w : World) (c : Nat) (key : List UInt8) (h : IsCipher w c key) :
    Calls Try.prog 17 #[.pointer (some ⟨c, 0, none⟩)] w fun e w' => ∃ v, e = .returned v ∧ SSl w' v (keyTexts key) ∧ Ext w w' := by
  have hz := zero_run zero16
  have hmk : ∀ u : World, (Instr.makeSlice 33 (.int .i64 0) (.int .i64 11)).run Try.prog u = .ok (.slice (some ⟨u.heap.size, 0, none⟩) 0 11) (u.alloc (.cells (madeCells #[.string ⟨#[]⟩] 11) 9)) := make_texts 11 (by decide)
  have HT := Lib.hid (there_any w c key h)
  have HC := Lib.hid h
  have HL : Hid (((expand key 40).map cellOf).length = 176) := Lib.hid (by rw [List.length_map, expand_length h.size])
  have HI := Lib.hid (fun i (hi : i < 11) u => (index_block 49 11 Try.underlying49 (expand key 40) i hi u).trans (by rw [rkey_text]))
  have HR : Hid (∀ u, IsCipher u c key → u.rangeAt c 513 ((expand key 40).map cellOf)) := Lib.hid (fun u hu => hu.blk.range 513 _ (fun j v hv => by
    unfold cipherL
    rw [List.map_append, ← List.append_assoc, List.getElem?_append_right (by rw [List.length_append, List.length_map, boxesL_length]; simp), List.length_append, List.length_map, boxesL_length]
    simpa using hv))
  have HK := Lib.hid (fun i (hi : i < 11) => rkey_length h.size i (by omega))
  have HKT := Lib.hid (keyTexts_take key)
  have HKL := Lib.hid (keyTexts_length key)
  have hb0 := BufS.made w 11 (by decide) (Nat.le_refl _)
  have HB0 := Lib.hid hb0
  have hx0 : Ext w (w.alloc (.cells (madeCells #[.string ⟨#[]⟩] 11) 9)) := (Ext.refl w).alloc _
  have HX0 := Lib.hid hx0
  have hs : (Try.prog.info? 49).map (·.size) = some ((expand key 40).map cellOf).length := by rw [HL.out]; exact size176
  have HSz := Lib.hid hs
  clear h hb0 hx0 hs
  generalize (expand key 40).map cellOf = EC at *
  go_enter Try.func17, Try.ntmps17
  go_wp2_with (first
    | (go_at_call 28; refine (HT.out).mono ?_; rintro e w1 ⟨rfl, rfl⟩)
    | (refine wpList_load_mid rfl 49 (.tmp 12) rfl c 513 rfl EC _ (HR.out _ (HC.out.ext HX0.out)) Try.underlying49 rfl HSz.out ?_))
  go_loopw [14, 3] (fun i v wr => ∃ j : Nat, j ≤ 11 ∧ i = .int .i64 j ∧ BufS wr w.heap.size v ((keyTexts key).take j) ∧ Ext w wr) (fun i _ _ => 11 - (intOf i).toNat)
  case atStart => exact ⟨0, Nat.zero_le _, rfl, by simpa using HB0.out, HX0.out⟩
  case round =>
    obtain ⟨j, hj, rfl, hb, hext⟩ := hrel
    have HB := Lib.hid hb; have HE := Lib.hid hext
    clear hb hext
    by_cases hlt : j < 11
    · have hix := HI.out j hlt
      have HKj := Lib.hid (HK.out j hlt)
      have HTj := Lib.hid (HKT.out j hlt)
      generalize rkey key j = R at *
      have hr0 : Row ((wr.alloc (.cells (zc 16) 48)).setRow wr.heap.size (R.map cellOf).toArray) wr.heap.size 48 R := setRow_heap _ _ _ _ _ _ (Row.zero wr _ 16)
      have hall := fun u => slice_all wr.heap.size u
      have ht := hr0.text (P := Try.prog) 31 5 9 Try.underlying31 Try.underlying5 Try.underlying9 16 16 HKj.out
      have hx1 : Ext wr ((wr.alloc (.cells (zc 16) 48)).setRow wr.heap.size (R.map cellOf).toArray) := ((Ext.refl wr).alloc _).setRow (Nat.le_refl _) _
      have HX1 := Lib.hid (hx1.alloc (.cells #[.string ⟨R.toArray⟩] 9))
      have hsz : ((wr.alloc (.cells (zc 16) 48)).setRow wr.heap.size (R.map cellOf).toArray).heap.size = wr.heap.size + 1 := by simp
      have HCl : Hid ((((wr.alloc (.cells (zc 16) 48)).setRow wr.heap.size (R.map cellOf).toArray).alloc (.cells #[.string ⟨R.toArray⟩] 9)).cell? ⟨wr.heap.size + 1, 0, none⟩ = some (.string ⟨R.toArray⟩)) := Lib.hid (by rw [← hsz, World.cell?_alloc_at _ _ _ _ rfl]; rfl)
      have H2 : Hid (((keyTexts key).take j).length ≤ 1000000) := Lib.hid (by rw [List.length_take]; omega)
      clear hr0 hx1 hsz
      go_wp2_with (first
        | (refine wpList_store_row rfl 48 (.tmp 5) (.tmp 16) rfl wr.heap.size _ rfl rfl 48 _ (Row.zero wr _ 16) (sized size16 HKj.out) (by simp [HKj.out]) (cells8_one _) ?_)
        | (at_builtin; refine append_text rfl (.tmp 17) (.tmp 20) rfl w.heap.size _ _ rfl (HB.out.ext HX1.out) (wr.heap.size + 1) ⟨R.toArray⟩ rfl HCl.out H2.out (HE.out.trans HX1.out).size ?_; intro v1 w2 hb1 hx2; have x2 : Ext w w2 := Below.trans (HE.out.trans HX1.out) hx2))
      go_roundw
      case rel => exact ⟨j + 1, by omega, by go_num, by rw [HTj.out]; exact hb1, x2⟩
      case measure => simp [intOf]; omega
    · obtain rfl : j = 11 := by omega
      have hbf := HB.out
      rw [List.take_of_length_le (by rw [HKL.out]; exact Nat.le_refl _)] at hbf
      have HS := Lib.hid (hbf.sl (by intro h; have := HKL.out; rw [h] at this; cases this))
      clear hbf
      have e11 : ((11 : Nat) : Int) = 11 := rfl
      rw [e11]
      clear e11
      go_wp2
      go_ret
      exact ⟨_, rfl, HS.out, HE.out⟩
set_option maxRecDepth 100000 in
theorem Rounds_nil (w : World) :
    Calls Try.prog 17 #[.pointer none] w fun e w' => e = .returned (.slice none 0 0) ∧ w = w' := by
  go_enter Try.func17, Try.ntmps17
  go_wp2_with (go_at_call 28; refine (there_none _).mono ?_; rintro e w1 ⟨rfl, rfl⟩)
  go_ret
  exact ⟨rfl, rfl⟩
end Go.Proofs.Ytlphbnbipbfclaa
