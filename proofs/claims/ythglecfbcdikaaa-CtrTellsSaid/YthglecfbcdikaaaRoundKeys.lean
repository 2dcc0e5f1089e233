/- Contracts: the round keys of a key, by the program. -/
import Derived.Test.YthglecfbcdikaaaKeyBytes
import Derived.Test.YthglecfbcdikaaaCopyT
import Derived.Test.YthglecfbcdikaaaEnc
import Derived.StillTailTactics
namespace Go.Proofs.Ythglecfbcdikaaa
open Go.RowKit
attribute [local irreducible] rkey expand enc dec kw
theorem slice_all_at (g o : Nat) (w : World) : (Instr.sliceAt 54 (.pointer (some ⟨g, o, none⟩)) none none none).run Try.prog w = .ok (.slice (some ⟨g, o, none⟩) 16 16) w := by
  have hu : Try.prog.underlying 54 = some (.array (Try.prog.arrayLen 54) (Try.prog.elem 54)) := by rw [len16, elem16]; exact Try.underlying54
  rw [run_sliceAt_array_all (P := Try.prog) w 54 ⟨g, o, none⟩ hu, elem16, size8_run, len16]
  simp only [Result.andThen, slicedAt, Nat.zero_mul]
  rw [if_neg (by omega), Addr.add_mid, Nat.add_zero]
/-- The first 16 i bytes laid. -/
def keysZ (E : List UInt8) (i : Nat) : List UInt8 := E.take (16 * i) ++ List.replicate (176 - 16 * i) 0
theorem keysZ_zero (E : List UInt8) : keysZ E 0 = List.replicate 176 0 := by simp [keysZ]
theorem keysZ_all {E : List UInt8} (h : E.length = 176) : keysZ E 11 = E := by
  unfold keysZ
  rw [List.take_of_length_le (by omega), show 176 - 16 * 11 = 0 from rfl, List.replicate_zero, List.append_nil]
theorem keysZ_length {E : List UInt8} (h : E.length = 176) (i : Nat) (hi : i ≤ 11) : (keysZ E i).length = 176 := by
  unfold keysZ
  rw [List.length_append, List.length_take, List.length_replicate, h]; omega
theorem keysZ_step {E : List UInt8} (h : E.length = 176) (i : Nat) (hi : i < 11) : ((keysZ E i).map cellOf).take (16 * i) ++ ((E.drop (16 * i)).take 16).map cellOf ++ ((keysZ E i).map cellOf).drop (16 * i + 16) = (keysZ E (i + 1)).map cellOf := by
  rw [← List.map_take, ← List.map_drop, ← List.map_append, ← List.map_append]
  congr 1
  unfold keysZ
  have hl : (E.take (16 * i)).length = 16 * i := by rw [List.length_take, h]; omega
  have e1 : (E.take (16 * i)).drop (16 * i + 16) = [] := List.drop_of_length_le (by omega)
  have e2 : (E.take (16 * i)).take (16 * i) = E.take (16 * i) := List.take_of_length_le (by omega)
  rw [List.take_append_of_le_length (by omega), e2, List.drop_append, hl, e1, List.nil_append, List.drop_replicate, ← List.take_add, show 16 * i + 16 = 16 * (i + 1) by omega]
  congr 2
  omega
attribute [irreducible] keysZ
set_option maxRecDepth 100000 in
set_option maxHeartbeats 1000000 in
theorem roundKeys_any (w : World) (k o : Nat) (s : ByteArray) (hs : s.size = 16) (hb : Bytes w k o boxT) (hk : k < w.heap.size) :
    Calls Try.prog 23 #[.pointer (some ⟨k, o, none⟩), .string s] w fun e w' => e = .returned (.agg ((expand s.data.toList 40).map cellOf).toArray) ∧ Ext w w' := by
  have hz := zero_run zero176
  have hsl : s.data.toList.length = 16 := by rw [size_list]; exact hs
  have HL : Hid ((expand s.data.toList 40).length = 176) := Lib.hid (by rw [expand_length hsl 40])
  have HW := Lib.hid (fun u (hu : Ext w u) => keyWords_any u k o s hs (hb.below hu hk) (Nat.lt_of_lt_of_le hk hu.size))
  have HY := Lib.hid (fun u => keyBytes_any u s.data.toList hsl)
  clear hs hb hk hsl
  generalize s.data.toList = key at *
  generalize expand key 40 = E at *
  go_enter Try.func23, Try.ntmps23
  go_wp2_with (first
    | (go_at_call 36; refine (HW.out _ (((Ext.refl w).alloc _).alloc _)).mono ?_; rintro e w1 ⟨rfl, h1⟩)
    | (go_at_call 35; refine (HY.out _).mono ?_; rintro e w2 ⟨rfl, h2⟩))
  have hx2 := h1.trans h2
  have hr0 : Row w2 (w.heap.size + 1) 55 (keysZ E 0) := by rw [keysZ_zero]; have := Row.ext (Row.zero (w.alloc (.cells (zc 176) 55)) 55 176) hx2; simpa using this
  have hs0 : Row w2 w.heap.size 55 (List.replicate 176 0) := ((Row.zero w _ 176).alloc _).ext hx2
  have hx0 : Ext w w2 := (((Ext.refl w).alloc _).alloc _).trans hx2
  obtain ⟨q, hq⟩ : ∃ q : ByteArray, q = ⟨E.toArray⟩ := ⟨_, rfl⟩
  rw [← hq]
  have HQS : Hid (q.size = 176) := Lib.hid (by rw [hq, ← HL.out]; simp [ByteArray.size])
  have HQD : Hid (q.data.toList = E) := Lib.hid (by rw [hq])
  clear hq
  have HR0 := Lib.hid hr0; have HS0 := Lib.hid hs0; have HX0 := Lib.hid hx0
  clear h1 h2 hx2 hr0 hs0 hx0
  go_loopw [12] (fun i wr => ∃ j : Nat, j ≤ 11 ∧ i = .int .i64 j ∧ Row wr (w.heap.size + 1) 55 (keysZ E j) ∧ Row wr w.heap.size 55 (List.replicate 176 0) ∧ Ext w wr) (fun i _ => 11 - (intOf i).toNat)
  case atStart => exact ⟨0, Nat.zero_le _, rfl, HR0.out, HS0.out, HX0.out⟩
  case round =>
    obtain ⟨j, hj, rfl, hrow, hres, hext⟩ := hrel
    clear HR0 HS0 HX0
    by_cases hlt : j < 11
    · have hall := fun u => slice_all_at (w.heap.size + 1) (j * 16) u
      obtain ⟨m, hm⟩ : ∃ m : Nat, 16 * (j : Int) = (m : Int) := ⟨16 * j, by omega⟩
      have hm2 : 16 * j = m := by omega
      have hqs := HQS.out
      have hmq : (m : Int) ≤ 176 := by omega
      have hmn : m ≤ 176 := by omega
      have hjl : (j : Int) < 11 := by omega
      have hcp := fun ty => run_copy_text wr.drew ty (w.heap.size + 1) (j * 16) 16 16 (q.extract m 176) _ 55 hrow.drew.blk (by rw [List.length_map, keysZ_length HL.out j hj]; omega) 16 (by rw [ByteArray.size_extract, hqs]; omega)
      have hE : (q.extract m 176).data.toList = E.drop (16 * j) := by rw [Lib.extract_data, HQD.out, ← hm2, List.take_of_length_le (by rw [List.length_drop, HL.out]; omega)]
      have hwm : IntKind.i64.wrap (m : Int) = (m : Int) := IntWalk.i64_in _ ⟨by omega, by omega⟩
      rw [hE, show j * 16 = 16 * j by omega, keysZ_step HL.out j hlt] at hcp
      rw [show 16 * j = j * 16 by omega] at hcp
      have hrow2 : Row (wr.drew.setRow (w.heap.size + 1) ((keysZ E (j + 1)).map cellOf).toArray) (w.heap.size + 1) 55 (keysZ E (j + 1)) := setRow_heap _ _ _ _ _ _ hrow.drew
      have hres2 : Row (wr.drew.setRow (w.heap.size + 1) ((keysZ E (j + 1)).map cellOf).toArray) w.heap.size 55 (List.replicate 176 0) := (setRow_other _ _ _ _ (by omega)).trans hres.drew
      have HR2 := Lib.hid hrow2; have HS2 := Lib.hid hres2; have HE := Lib.hid hext; have HM2 := Lib.hid hm2
      clear hrow hres hrow2 hres2 hext hm2 hE
      go_wp2
      go_still_tail 7, (by kernel_rfl)
      change wpList _ _ _ _ _ wr.drew
      go_wp2
      go_roundw
      case rel => exact ⟨j + 1, by omega, by go_num, HR2.out, HS2.out, HE.out.drew.setRow (by simp) _⟩
      case measure => simp [intOf]; omega
    · obtain rfl : j = 11 := by omega
      rw [keysZ_all HL.out] at hrow
      have e11 : ((11 : Nat) : Int) = 11 := rfl
      rw [e11]
      clear e11
      go_wp2_with (first
        | (refine wpList_load_row rfl 55 (.tmp 5) rfl _ rfl 55 _ (0, 0) _ hrow Try.underlying55 rfl (sized size176 HL.out) ?_)
        | (refine wpList_store_row rfl 55 (.tmp 4) (.tmp 24) rfl w.heap.size _ rfl rfl 55 _ hres (sized size176 HL.out) (by simp [HL.out]) (cells8_one _) ?_))
      exact bodyPost_ret (results_cell_row rfl _ _ w.heap.size 55 _ (0, 0) _ rfl (setRow_heap _ _ _ _ _ _ hres) Try.underlying55 rfl (sized size176 HL.out)) rfl ⟨rfl, hext.setRow (Nat.le_refl _) _⟩
end Go.Proofs.Ythglecfbcdikaaa
