/- Contracts: the bytes of all round keys, by the program. Contracts: the round keys of a key, by the program. Plain: a cipher as it is built, and once its round keys are there. Contracts: the cipher of a key, by the program. Contracts: what is no stream, by the program. Contracts: a stream, by the program. Contracts: a text, either or a stream, by the program. What the program's Turn gives, as a text. Contracts: envelopes: Close: by the program. Plain: bytes out of their number. -/
import Derived.Test.YtobhbppogeghnaaGreatDoorM21
import Derived.Test.YtobhbppogeghnaaGreatDoorM07
import Derived.Test.YtobhbppogeghnaaGreatDoorM06
import Derived.Test.YtobhbppogeghnaaGreatDoorM20
import Derived.StillTailTactics
import Derived.Test.YtobhbppogeghnaaGreatDoorM09
import Derived.Test.YtobhbppogeghnaaGreatDoorM10
import Derived.Test.YtobhbppogeghnaaGreatDoorM17
import Derived.Test.YtobhbppogeghnaaGreatDoorM05
section
namespace Go.Proofs.YtobhbppogeghnaaGreatDoor
open Go.RowKit
attribute [local irreducible] rkey expand enc dec kw
theorem info32s : (Tryz.prog.info? 40).map (·.size) = some 1 := by kernel_rfl
/-- An array of numbers, read by value. -/
theorem index_words (t n : Nat) (ht : Tryz.prog.underlying t = some (.array n 40)) (L : List Nat) (hL : L.length = n) (i : Nat) (hi : i < n) (w : World) :
    (Instr.index t (.agg (L.map cell32).toArray) (.int .i64 (i : Int))).run Tryz.prog w = .ok (.int .u32 (L.getD i 0 : Nat)) w := by
  have hi2 : i < L.length := by omega
  have hu2 := Tryz.underlying40
  have hg : L.getD i 0 = L[i] := by rw [List.getD_eq_getElem?_getD, List.getElem?_eq_getElem hi2]; rfl
  rw [hg]
  cases hq : Tryz.prog.info? 40 with
  | none => have := info32s; simp [hq] at this
  | some d =>
    have hs : d.size = 1 := by have := info32s; simpa [hq] using this
    simp [Instr.index, part, isAgg, run_underlying ht, run_underlying hu2, sizeOf, typeInfo, hq, hs, hL, asIntOf, go_sem, hi, cell32]
theorem four_of (l : List UInt8) (h : 4 ≤ l.length) : l.take 4 = [l.getD 0 0, l.getD 1 0, l.getD 2 0, l.getD 3 0] := by
  match l, h with
  | a :: b :: c :: d :: r, _ => simp
theorem take_kw {key : List UInt8} (h : key.length = 16) (j : Nat) (hj : j < 44) : (expand key 40).take (4 * (j + 1)) = (expand key 40).take (4 * j) ++ be 4 (kw key j) := by
  have hl := expand_length h 40
  rw [show 4 * (j + 1) = 4 * j + 4 by omega, List.take_add, four_of _ (by rw [List.length_drop]; omega)]
  unfold kw eB
  rw [be_w4]
  simp only [List.getD_eq_getElem?_getD, List.getElem?_drop, Nat.add_zero]
set_option maxRecDepth 100000 in
set_option maxHeartbeats 1000000 in
theorem keyBytes_any (w : World) (key : List UInt8) (h : key.length = 16) :
    Calls Tryz.prog 188 #[.agg ((kws key 44).map cell32).toArray] w fun e w' => e = .returned (.string ⟨(expand key 40).toArray⟩) ∧ Ext w w' := by
  have HT := Lib.hid (fun j hj => take_kw h j hj)
  have HL := Lib.hid (expand_length h 40)
  have HI := Lib.hid (fun i (hi : i < 44) u => (index_words 237 44 Tryz.underlying237 (kws key 44) (kws_length key 44) i hi u).trans (by rw [kws_at key 44 i hi]))
  have HS := Lib.hid (sized32 size44 (kws_length key 44))
  have hr0 : Row32 (w.alloc (.cells ((kws key 44).map cell32).toArray 237)) w.heap.size 237 (kws key 44) := Row32.new w _ _
  have HR := Lib.hid (hr0.alloc (.cells #[.pointer none, .slice none 0 0] 151))
  have hb0 := IsB.new (w.alloc (.cells ((kws key 44).map cell32).toArray 237)) w.heap.size (by simp)
  have HB := Lib.hid hb0
  generalize expand key 40 = E at *
  clear h hr0 hb0
  go_enter Tryz.func188, Tryz.ntmps188
  go_wp2_with (refine wpList_load_row rfl 237 (.tmp 1) rfl w.heap.size rfl 237 _ (0, 0) _ HR.out Tryz.underlying237 rfl HS.out ?_)
  go_loopw [7] (fun i wr => ∃ j : Nat, j ≤ 44 ∧ i = .int .i64 j ∧ IsB wr w.heap.size (w.heap.size + 1) (E.take (4 * j)) ∧ Ext w wr) (fun i _ => 44 - (intOf i).toNat)
  case atStart => exact ⟨0, Nat.zero_le _, rfl, by simpa using HB.out, ((Ext.refl w).alloc _).alloc _⟩
  case round =>
    obtain ⟨j, hj, rfl, hb, hext⟩ := hrel
    have HB := Lib.hid hb; have HE := Lib.hid hext
    clear hb hext
    by_cases hlt : j < 44
    · have hix := HI.out j hlt
      have HTj := Lib.hid (HT.out j hlt)
      have H2 : Hid ((E.take (4 * j)).length + (be 4 (kw key j)).length ≤ 140737488355328) := Lib.hid (by rw [List.length_take, be_length]; omega)
      generalize kw key j = n at *
      go_wp2_with (first
        | (go_at_call 79; refine (Put32_any n _).mono ?_; rintro e w1 ⟨rfl, h1⟩; have x1 := Lib.hid (HE.out.trans h1); have b1 := Lib.hid (HB.out.ext h1); clear h1)
        | (go_at_call 110; refine (write_b w.heap.size (w.heap.size + 1) _ _ _ b1.out H2.out x1.out.size).mono ?_; rintro e w2 ⟨rfl, h2, h3⟩))
      go_roundw
      case rel => exact ⟨j + 1, by omega, by go_num, by rw [HTj.out]; exact h2, x1.out.trans3 h3⟩
      case measure => simp [intOf]; omega
    · obtain rfl : j = 44 := by omega
      have hbf := HB.out
      rw [List.take_of_length_le (by rw [HL.out]; omega)] at hbf
      have HBf := Lib.hid hbf
      clear hbf
      have e44 : ((44 : Nat) : Int) = 44 := rfl
      rw [e44]
      clear e44
      go_wp2_with (go_at_call 111; refine (string_b w.heap.size (w.heap.size + 1) _ _ HBf.out HE.out.size).mono ?_; rintro e w2 ⟨rfl, h3⟩)
      go_ret
      exact ⟨rfl, HE.out.trans3 h3⟩
end Go.Proofs.YtobhbppogeghnaaGreatDoor
end

section
namespace Go.Proofs.YtobhbppogeghnaaGreatDoor
open Go.RowKit
attribute [local irreducible] rkey expand enc dec kw
theorem slice_all_at (g o : Nat) (w : World) : (Instr.sliceAt 209 (.pointer (some ⟨g, o, none⟩)) none none none).run Tryz.prog w = .ok (.slice (some ⟨g, o, none⟩) 16 16) w := by
  have hu : Tryz.prog.underlying 209 = some (.array (Tryz.prog.arrayLen 209) (Tryz.prog.elem 209)) := by rw [len16, elem16]; exact Tryz.underlying209
  rw [run_sliceAt_array_all (P := Tryz.prog) w 209 ⟨g, o, none⟩ hu, elem16, size8_run, len16]
  simp only [Result.andThen, slicedAt, Nat.zero_mul]
  rw [if_neg (by omega), Addr.add_mid, Nat.add_zero]
/-- The first 16 i bytes laid. -/
def keysZ (E : List UInt8) (i : Nat) : List UInt8 := E.take (16 * i) ++ List.replicate (176 - 16 * i) 0
theorem keysZ_zero (E : List UInt8) : keysZ E 0 = List.replicate 176 0 := by simp [keysZ]
theorem keysZ_all {E : List UInt8} (h : E.length = 176) : keysZ E 11 = E := by
  unfold keysZ
  rw [List.take_of_length_le (by omega), show 176 - 16 * 11 = 0 from rfl, List.replicate_zero, List.append_nil]
theorem keysZ_length {E : List UInt8} (h : E.length = 176) (i : Nat) (hi : i ≤ 11) : (keysZ E i).length = 176 := by
  unfold keysZ
  rw [List.length_append, List.length_take, List.length_replicate, h]; omega
theorem keysZ_step {E : List UInt8} (h : E.length = 176) (i : Nat) (hi : i < 11) : ((keysZ E i).map cellOf).take (16 * i) ++ ((E.drop (16 * i)).take 16).map cellOf ++ ((keysZ E i).map cellOf).drop (16 * i + 16) = (keysZ E (i + 1)).map cellOf := by
  rw [← List.map_take, ← List.map_drop, ← List.map_append, ← List.map_append]
  congr 1
  unfold keysZ
  have hl : (E.take (16 * i)).length = 16 * i := by rw [List.length_take, h]; omega
  have e1 : (E.take (16 * i)).drop (16 * i + 16) = [] := List.drop_of_length_le (by omega)
  have e2 : (E.take (16 * i)).take (16 * i) = E.take (16 * i) := List.take_of_length_le (by omega)
  rw [List.take_append_of_le_length (by omega), e2, List.drop_append, hl, e1, List.nil_append, List.drop_replicate, ← List.take_add, show 16 * i + 16 = 16 * (i + 1) by omega]
  congr 2
  omega
attribute [irreducible] keysZ
set_option maxRecDepth 100000 in
set_option maxHeartbeats 1000000 in
theorem roundKeys_any (w : World) (k o : Nat) (s : ByteArray) (hs : s.size = 16) (hb : Bytes w k o boxT) (hk : k < w.heap.size) :
    Calls Tryz.prog 160 #[.pointer (some ⟨k, o, none⟩), .string s] w fun e w' => e = .returned (.agg ((expand s.data.toList 40).map cellOf).toArray) ∧ Ext w w' := by
  have hz := zero_run zero176
  have hsl : s.data.toList.length = 16 := by rw [size_list]; exact hs
  have HL : Hid ((expand s.data.toList 40).length = 176) := Lib.hid (by rw [expand_length hsl 40])
  have HW := Lib.hid (fun u (hu : Ext w u) => keyWords_any u k o s hs (hb.below hu hk) (Nat.lt_of_lt_of_le hk hu.size))
  have HY := Lib.hid (fun u => keyBytes_any u s.data.toList hsl)
  clear hs hb hk hsl
  generalize s.data.toList = key at *
  generalize expand key 40 = E at *
  go_enter Tryz.func160, Tryz.ntmps160
  go_wp2_with (first
    | (go_at_call 189; refine (HW.out _ (((Ext.refl w).alloc _).alloc _)).mono ?_; rintro e w1 ⟨rfl, h1⟩)
    | (go_at_call 188; refine (HY.out _).mono ?_; rintro e w2 ⟨rfl, h2⟩))
  have hx2 := h1.trans h2
  have hr0 : Row w2 (w.heap.size + 1) 210 (keysZ E 0) := by rw [keysZ_zero]; have := Row.ext (Row.zero (w.alloc (.cells (zc 176) 210)) 210 176) hx2; simpa using this
  have hs0 : Row w2 w.heap.size 210 (List.replicate 176 0) := ((Row.zero w _ 176).alloc _).ext hx2
  have hx0 : Ext w w2 := (((Ext.refl w).alloc _).alloc _).trans hx2
  obtain ⟨q, hq⟩ : ∃ q : ByteArray, q = ⟨E.toArray⟩ := ⟨_, rfl⟩
  rw [← hq]
  have HQS : Hid (q.size = 176) := Lib.hid (by rw [hq, ← HL.out]; simp [ByteArray.size])
  have HQD : Hid (q.data.toList = E) := Lib.hid (by rw [hq])
  clear hq
  have HR0 := Lib.hid hr0; have HS0 := Lib.hid hs0; have HX0 := Lib.hid hx0
  clear h1 h2 hx2 hr0 hs0 hx0
  go_loopw [12] (fun i wr => ∃ j : Nat, j ≤ 11 ∧ i = .int .i64 j ∧ Row wr (w.heap.size + 1) 210 (keysZ E j) ∧ Row wr w.heap.size 210 (List.replicate 176 0) ∧ Ext w wr) (fun i _ => 11 - (intOf i).toNat)
  case atStart => exact ⟨0, Nat.zero_le _, rfl, HR0.out, HS0.out, HX0.out⟩
  case round =>
    obtain ⟨j, hj, rfl, hrow, hres, hext⟩ := hrel
    clear HR0 HS0 HX0
    by_cases hlt : j < 11
    · have hall := fun u => slice_all_at (w.heap.size + 1) (j * 16) u
      obtain ⟨m, hm⟩ : ∃ m : Nat, 16 * (j : Int) = (m : Int) := ⟨16 * j, by omega⟩
      have hm2 : 16 * j = m := by omega
      have hqs := HQS.out
      have hmq : (m : Int) ≤ 176 := by omega
      have hmn : m ≤ 176 := by omega
      have hjl : (j : Int) < 11 := by omega
      have hcp := fun ty => run_copy_text wr.drew ty (w.heap.size + 1) (j * 16) 16 16 (q.extract m 176) _ 210 hrow.drew.blk (by rw [List.length_map, keysZ_length HL.out j hj]; omega) 16 (by rw [ByteArray.size_extract, hqs]; omega)
      have hE : (q.extract m 176).data.toList = E.drop (16 * j) := by rw [Lib.extract_data, HQD.out, ← hm2, List.take_of_length_le (by rw [List.length_drop, HL.out]; omega)]
      have hwm : IntKind.i64.wrap (m : Int) = (m : Int) := IntWalk.i64_in _ ⟨by omega, by omega⟩
      rw [hE, show j * 16 = 16 * j by omega, keysZ_step HL.out j hlt] at hcp
      rw [show 16 * j = j * 16 by omega] at hcp
      have hrow2 : Row (wr.drew.setRow (w.heap.size + 1) ((keysZ E (j + 1)).map cellOf).toArray) (w.heap.size + 1) 210 (keysZ E (j + 1)) := setRow_heap _ _ _ _ _ _ hrow.drew
      have hres2 : Row (wr.drew.setRow (w.heap.size + 1) ((keysZ E (j + 1)).map cellOf).toArray) w.heap.size 210 (List.replicate 176 0) := (setRow_other _ _ _ _ (by omega)).trans hres.drew
      have HR2 := Lib.hid hrow2; have HS2 := Lib.hid hres2; have HE := Lib.hid hext; have HM2 := Lib.hid hm2
      clear hrow hres hrow2 hres2 hext hm2 hE
      go_wp2
      go_still_tail 7, (by kernel_rfl)
      change wpList _ _ _ _ _ wr.drew
      go_wp2
      go_roundw
      case rel => exact ⟨j + 1, by omega, by go_num, HR2.out, HS2.out, HE.out.drew.setRow (by simp) _⟩
      case measure => simp [intOf]; omega
    · obtain rfl : j = 11 := by omega
      rw [keysZ_all HL.out] at hrow
      have e11 : ((11 : Nat) : Int) = 11 := rfl
      rw [e11]
      clear e11
      go_wp2_with (first
        | (refine wpList_load_row rfl 210 (.tmp 5) rfl _ rfl 210 _ (0, 0) _ hrow Tryz.underlying210 rfl (sized size176 HL.out) ?_)
        | (refine wpList_store_row rfl 210 (.tmp 4) (.tmp 24) rfl w.heap.size _ rfl rfl 210 _ hres (sized size176 HL.out) (by simp [HL.out]) (cells8_one _) ?_))
      exact bodyPost_ret (results_cell_row rfl _ _ w.heap.size 210 _ (0, 0) _ rfl (setRow_heap _ _ _ _ _ _ hres) Tryz.underlying210 rfl (sized size176 HL.out)) rfl ⟨rfl, hext.setRow (Nat.le_refl _) _⟩
end Go.Proofs.YtobhbppogeghnaaGreatDoor
end

section
namespace Go.Proofs.YtobhbppogeghnaaGreatDoor
open Go.RowKit
attribute [local irreducible] rkey expand enc dec
/-- The cells of a cipher whose round keys aren't there yet. -/
def cellsZ : List Value := [.bool true] ++ (boxesL ++ List.replicate 176 0).map cellOf
theorem cellsZ_length : cellsZ.length = 689 := by unfold cellsZ; rw [List.length_append, List.length_map, List.length_append, boxesL_length, List.length_replicate]; rfl
theorem built_cipher : Tryz.prog.built 212 [(0, .bool true), (1, .agg (boxesL.map cellOf).toArray)] = some cellsZ.toArray := by kernel_rfl
attribute [irreducible] cellsZ
theorem cellsZ_box {w : World} {c : Nat} (h : Blk w c 212 cellsZ) : Bytes w c 1 boxT := fun i b hi => by
  have hl : i < boxT.length := (List.getElem?_eq_some_iff.1 hi).1
  rw [boxT_length] at hl
  have e := boxesL_at i hl
  rw [boxT_at i hl] at hi
  apply h.cell
  unfold cellsZ
  rw [List.getElem?_append_right (by simp), List.map_append, List.getElem?_append_left (by rw [List.length_map, boxesL_length]; simp; omega)]
  have e2 : 1 + i - [Value.bool true].length = i := by simp
  rw [e2, List.getElem?_map, e, Option.some.inj hi]
  rfl
theorem cellsZ_keyed (E : List UInt8) (hE : E.length = 176) : cellsZ.take 513 ++ (E.map cellOf ++ cellsZ.drop (513 + (E.map cellOf).length)) = [.bool true] ++ (boxesL ++ E).map cellOf := by
  have e1 : cellsZ.drop (513 + (E.map cellOf).length) = [] := List.drop_of_length_le (by rw [cellsZ_length, List.length_map, hE]; omega)
  have e2 : cellsZ.take 513 = [.bool true] ++ boxesL.map cellOf := by
    unfold cellsZ
    rw [List.map_append, ← List.append_assoc, List.take_append_of_le_length (by rw [List.length_append, List.length_map, boxesL_length]; simp), List.take_of_length_le (by rw [List.length_append, List.length_map, boxesL_length]; simp)]
  rw [e1, e2, List.append_nil, List.map_append, List.append_assoc]
/-- A struct built whose cells are told. -/
theorem wpList_built {P : Program} {ops : Array Oper} {rest : List Oper} {o : Oper} {a : Act} {w : World} {Q : Exit → Act → World → Prop} (hg : o.guard = none) (t : TypeId) (l : List (Nat × Operand)) (ho : o.op = .build t l.toArray) (vs : List (Nat × Value)) (hv : l.map (fun p => (p.1, a.eval p.2)) = vs) (cells : Array Value)
    (hc : P.built t vs = some cells) (h : wpList P ops Q rest (a.put o.dst (.agg cells)) w) : wpList P ops Q (o :: rest) a w := by
  have e : (l.toArray.map fun (i, x) => (i, a.eval x)).toList = vs := by rw [← hv]; simp
  refine wpList_build hg t l.toArray ho (by rw [e, hc]; rfl) ?_
  rw [e, hc]
  exact h
end Go.Proofs.YtobhbppogeghnaaGreatDoor
end

section
namespace Go.Proofs.YtobhbppogeghnaaGreatDoor
open Go.RowKit
attribute [local irreducible] rkey expand enc dec
set_option maxRecDepth 100000 in
set_option maxHeartbeats 1000000 in
theorem New_yes (w : World) (s : ByteArray) (hs : s.size = 16) :
    Calls Tryz.prog 134 #[.string s] w fun e w' => ∃ c, e = .returned (.tuple #[.pointer (some ⟨c, 0, none⟩), .int .i64 0]) ∧ IsCipher w' c s.data.toList ∧ Ext w w' := by
  have hsl : s.data.toList.length = 16 := by rw [size_list]; exact hs
  have HEL : Hid ((expand s.data.toList 40).length = 176) := Lib.hid (by rw [expand_length hsl 40])
  have HK := Lib.hid (fun u c (h : Blk u c 212 cellsZ) => roundKeys_any u c 1 s hs (cellsZ_box h) h.lt)
  go_enter Tryz.func134, Tryz.ntmps134
  go_wp2_with (first
    | (refine wpList_built rfl 212 [(0, .const (.bool true)), (1, .tmp 8)] rfl _ rfl cellsZ.toArray built_cipher ?_)
    | (go_at_call 159; refine (newBoxes_any _).mono ?_; rintro e w1 ⟨rfl, h1⟩)
    | (go_at_call 160; refine (HK.out _ _ (Blk.new w1 cellsZ 212)).mono ?_; rintro e w2 ⟨rfl, h2⟩; have HB := Lib.hid (Blk.new w1 cellsZ 212))
    | (refine wpList_store_mid rfl 210 (.tmp 18) (.tmp 16) rfl w1.heap.size 513 _ rfl rfl ((HB.out.ext h2).there 513 _ (by rw [cellsZ_length, List.size_toArray, List.length_map, HEL.out]; decide)) (sized size176 HEL.out) (cells8_one _) ?_))
  go_ret2
  exact ⟨_, rfl, ⟨hsl, by have h := (HB.out.ext h2).setCells ((expand s.data.toList 40).map cellOf) 513 _ (by rw [cellsZ_length, List.length_map, HEL.out]; decide); rw [cellsZ_keyed _ HEL.out] at h; unfold cipherL; exact h⟩, ((h1.alloc _).trans h2).setCells h1.size _ _⟩
end Go.Proofs.YtobhbppogeghnaaGreatDoor
end

section
namespace Go.Proofs.YtobhbppogeghnaaGreatDoor
open Go.RowKit
attribute [local irreducible] rkey expand enc dec

theorem room_any (f : Nat) (hfl : f < 4294967296) (w : World) :
    Calls Tryz.prog 135 #[.int .u32 (f : Int)] w fun e w' => e = .returned (.int .u64 (((4294967296 - f) * 16 : Nat) : Int)) ∧ w' = w := by
  obtain ⟨m, hm⟩ : ∃ m : Nat, (4294967295 : Int) - (f : Int) = (m : Int) := ⟨4294967295 - f, by omega⟩
  have e : (((4294967296 - f) * 16 : Nat) : Int) = ((m : Int) + 1) * 16 := by omega
  rw [e]
  have hml : m < 4294967296 := by omega
  clear e
  have w0 : IntKind.u64.wrap (f : Int) = (f : Int) := IntWalk.u64_in _ ⟨by omega, by omega⟩
  have w1 : IntKind.u64.wrap (m : Int) = (m : Int) := IntWalk.u64_in _ ⟨by omega, by omega⟩
  have w2 : IntKind.u64.wrap ((m : Int) + 1) = (m : Int) + 1 := IntWalk.u64_in _ ⟨by omega, by omega⟩
  have w3 : IntKind.u64.wrap (((m : Int) + 1) * 16) = ((m : Int) + 1) * 16 := IntWalk.u64_in _ ⟨by omega, by omega⟩
  clear hfl hml
  go_enter Tryz.func135, Tryz.ntmps135
  go_wp2
  go_ret
  exact ⟨rfl, rfl⟩
end Go.Proofs.YtobhbppogeghnaaGreatDoor
end

section
namespace Go.Proofs.YtobhbppogeghnaaGreatDoor
open Go.RowKit Go.Shelf
attribute [local irreducible] rkey expand enc dec ctrB ctrC ctrL

theorem blocks_any (c : Nat) (nonce : ByteArray) (f : Nat) (w : World) :
    Calls Tryz.prog 137 #[.pointer (some ⟨c, 0, none⟩), .string nonce, .int .u32 (f : Int)] w
      fun e w' => e = .returned (.func (.func 161) #[] #[.pointer (some ⟨w.heap.size + 2, 0, none⟩), .pointer (some ⟨w.heap.size, 0, none⟩), .pointer (some ⟨w.heap.size + 1, 0, none⟩)]) ∧
        w' = ((w.alloc (.cells #[.pointer (some ⟨c, 0, none⟩)] 178)).alloc (.cells #[.string nonce] 9)).alloc (.cells #[.int .u32 (f : Int)] 40) := by
  go_enter Tryz.func137, Tryz.ntmps137
  go_wp2
  go_ret
  exact ⟨rfl, rfl⟩
theorem first_made (u : World) (c : Nat) (key : List UInt8) (nonce : ByteArray) (f n : Nat) (hno : nonce.size = 12) (hfl : f < 4294967296) (hn2 : n ≤ 1048576) (hf : f + blocksOf n ≤ 4294967296) (hB : IsCipher u c key) :
    Calls Tryz.prog 136 #[.func (.func 161) #[] #[.pointer (some ⟨u.heap.size + 2, 0, none⟩), .pointer (some ⟨u.heap.size, 0, none⟩), .pointer (some ⟨u.heap.size + 1, 0, none⟩)], .int .i64 (n : Int)]
      (((u.alloc (.cells #[.pointer (some ⟨c, 0, none⟩)] 178)).alloc (.cells #[.string nonce] 9)).alloc (.cells #[.int .u32 (f : Int)] 40))
      fun e w' => e = .returned (.string ⟨(ctrL key nonce.data.toList f n).toArray⟩) ∧ Ext u w' := by
  have z1 : (u.alloc (.cells #[.pointer (some ⟨c, 0, none⟩)] 178)).heap.size = u.heap.size + 1 := by simp
  have z2 : ((u.alloc (.cells #[.pointer (some ⟨c, 0, none⟩)] 178)).alloc (.cells #[.string nonce] 9)).heap.size = u.heap.size + 2 := by simp
  have hx : Ext u (((u.alloc (.cells #[.pointer (some ⟨c, 0, none⟩)] 178)).alloc (.cells #[.string nonce] 9)).alloc (.cells #[.int .u32 (f : Int)] 40)) := (((Ext.refl _).alloc _).alloc _).alloc _
  have b1 := ((Blk.new u [.pointer (some ⟨c, 0, none⟩)] 178).alloc (.cells #[.string nonce] 9)).alloc (.cells #[.int .u32 (f : Int)] 40)
  have b2 := (Blk.new (u.alloc (.cells #[.pointer (some ⟨c, 0, none⟩)] 178)) [.string nonce] 9).alloc (.cells #[.int .u32 (f : Int)] 40)
  have b3 := Blk.new ((u.alloc (.cells #[.pointer (some ⟨c, 0, none⟩)] 178)).alloc (.cells #[.string nonce] 9)) [.int .u32 (f : Int)] 40
  rw [z1] at b2
  rw [z2] at b3
  exact (first_any (u.heap.size + 2) u.heap.size (u.heap.size + 1) c key hB.size nonce f (4294967296 - f) n _ b3.lt b1.lt b2.lt hno (by omega) (by omega) hn2 (by unfold blocksOf at hf; omega) (hB.ext hx) (b3.cell 0 _ rfl) (b1.cell 0 _ rfl) (b2.cell 0 _ rfl)).mono fun e w' h => ⟨h.1, hx.trans h.2⟩
set_option maxRecDepth 100000 in
set_option maxHeartbeats 2000000 in
theorem stream_yes (key nonce : ByteArray) (f n : Nat) (hk : key.size = 16) (hn : nonce.size = 12) (hn2 : n ≤ 1048576) (hfl : f < 4294967296) (hf : f + blocksOf n ≤ 4294967296) (w : World) :
    Calls Tryz.prog 113 #[.string key, .string nonce, .int .u32 (f : Int), .int .i64 (n : Int)] w
      fun e w' => e = .returned (.tuple #[.string ⟨(ctrL key.data.toList nonce.data.toList f n).toArray⟩, .int .i64 0]) ∧ Ext w w' := by
  have hni : ((nonce.size : Int) != 12) = false := by simp [hn]
  have hkl : key.data.toList.length = 16 := by rw [size_list]; exact hk
  have HNew := Lib.hid (fun u => New_yes u key hk)
  have HRoom := Lib.hid (fun u => room_any f hfl u)
  have hw0 : IntKind.u64.wrap (n : Int) = (n : Int) := IntWalk.u64_in _ ⟨by omega, by omega⟩
  obtain ⟨r, hr⟩ : ∃ r : Nat, (4294967296 - f) * 16 = r := ⟨_, rfl⟩
  have hnr : (n : Int) ≤ (r : Int) := by unfold blocksOf at hf; omega
  have hn0 : ¬ (n : Int) < 0 := by omega
  have hn3 : (n : Int) ≤ 1048576 := by omega
  rw [hr] at HRoom
  have HF := Lib.hid (fun u c (gB : IsCipher u c key.data.toList) => first_made u c key.data.toList nonce f n hn hfl hn2 hf gB)
  clear hr hk hn hn2 hfl hf hkl hn0
  go_enter Tryz.func113, Tryz.ntmps113
  go_wp2_with (first
    | (go_at_call 134; refine (HNew.out _).mono ?_; rintro e w1 ⟨c, rfl, hc1, h1x⟩)
    | (go_at_call 135; refine (HRoom.out _).mono ?_; rintro e w2 ⟨rfl, rfl⟩)
    | (go_at_call 137; refine (blocks_any _ _ _ _).mono ?_; rintro e w3 ⟨rfl, rfl⟩)
    | (go_at_call 136; refine (HF.out _ _ hc1).mono ?_; rintro e w4 ⟨rfl, h4x⟩))
  go_ret2
  exact ⟨rfl, h1x.trans h4x⟩
end Go.Proofs.YtobhbppogeghnaaGreatDoor
end

section
namespace Go.Proofs.YtobhbppogeghnaaGreatDoor
open Go.RowKit
attribute [local irreducible] rkey expand enc dec ctrB ctrC ctrL xorL

set_option maxRecDepth 100000 in
set_option maxHeartbeats 1000000 in
theorem turn_yes (key nonce s : ByteArray) (f : Nat) (hk : key.size = 16) (hn : nonce.size = 12) (hn2 : s.size ≤ 1048576) (hfl : f < 4294967296) (hf : f + blocksOf s.size ≤ 4294967296) (w : World) :
    Calls Tryz.prog 78 #[.string key, .string nonce, .int .u32 (f : Int), .string s] w
      fun e w' => e = .returned (.tuple #[.string ⟨(turnL key.data.toList nonce.data.toList f s.data.toList).toArray⟩, .int .i64 0]) ∧ Ext w w' := by
  have HS := Lib.hid (fun u => stream_yes key nonce f s.size hk hn hn2 hfl hf u)
  have hkl : key.data.toList.length = 16 := by rw [size_list]; exact hk
  have HX := Lib.hid (fun u => xor_yes s ⟨(ctrL key.data.toList nonce.data.toList f s.size).toArray⟩ ((txt_size _).trans (ctrL_length hkl _ _ _)).symm (by omega) u)
  unfold turnL
  rw [size_list]
  clear hkl
  go_enter Tryz.func78, Tryz.ntmps78
  go_wp2_with (first
    | (go_at_call 113; refine (HS.out _).mono ?_; rintro e w1 ⟨rfl, h1⟩)
    | (go_at_call 108; refine (HX.out _).mono ?_; rintro e w2 ⟨rfl, h2⟩))
  go_ret2
  exact ⟨rfl, h1.trans h2⟩
end Go.Proofs.YtobhbppogeghnaaGreatDoor
end

section
namespace Go.Proofs.YtobhbppogeghnaaGreatDoor
open Go.RowKit
attribute [local irreducible] rkey expand enc dec ctrB ctrC ctrL xorL turnL

/-- What the program's Turn gives. -/
def TurnsTo (K P : ByteArray) (f : Nat) (S X : ByteArray) : Prop :=
  ∀ u, Calls Tryz.prog 78 #[.string K, .string P, .int .u32 (f : Int), .string S] u fun e w' => e = .returned (.tuple #[.string X, .int .i64 0]) ∧ Ext u w'
theorem TurnsTo.out {K P : ByteArray} {f : Nat} {S X : ByteArray} (h : TurnsTo K P f S X) (u : World) :
    Calls Tryz.prog 78 #[.string K, .string P, .int .u32 (f : Int), .string S] u fun e w' => e = .returned (.tuple #[.string X, .int .i64 0]) ∧ Ext u w' := h u
/-- The text that it gives. -/
def turnT (K P : ByteArray) (f : Nat) (S : ByteArray) : ByteArray := ⟨(turnL K.data.toList P.data.toList f S.data.toList).toArray⟩
theorem turnT_to (K P : ByteArray) (f : Nat) (S : ByteArray) (hK : K.size = 16) (hP : P.size = 12) (hs : S.size ≤ 1048576) (hf : f + blocksOf S.size ≤ 4294967296) (hfl : f < 4294967296) : TurnsTo K P f S (turnT K P f S) :=
  fun u => turn_yes K P S f hK hP hs hfl hf u
theorem turnT_size (K P : ByteArray) (f : Nat) (S : ByteArray) (hK : K.size = 16) : (turnT K P f S).size = S.size := by
  unfold turnT; rw [txt_size, turnL_length (by rw [size_list]; exact hK), size_list]
theorem turnT_twice (K P : ByteArray) (f : Nat) (S : ByteArray) (hK : K.size = 16) : turnT K P f (turnT K P f S) = S := by
  have h := turnL_twice (key := K.data.toList) (by rw [size_list]; exact hK) P.data.toList f S.data.toList
  unfold turnT
  exact congrArg (fun l : List UInt8 => (⟨l.toArray⟩ : ByteArray)) h
end Go.Proofs.YtobhbppogeghnaaGreatDoor
end

section
namespace Go.Proofs.YtobhbppogeghnaaGreatDoor
open Go.RowKit
attribute [local irreducible] rkey expand enc dec ctrB ctrC ctrL xorL turnL turnT kd t4 t8 env5

def t1 : ByteArray := ⟨#[1]⟩
/-- The tag of an envelope of epoch e, its text turned to body. -/
def tagT (key path : ByteArray) (v : Nat) (a b c d : ByteArray) : ByteArray := ⟨(macL key.data.toList (joinL [t4 path.size, path, t8 v, a, b, c, d])).toArray⟩
theorem tagT_size (key path : ByteArray) (v : Nat) (a b c d : ByteArray) : (tagT key path v a b c d).size = 32 := by unfold tagT; rw [txt_size, macL_length]
/-- An envelope of epoch e, whose key is s. -/
def sealT (s : ByteArray) (e : Nat) (path : ByteArray) (v : Nat) (nonce text : ByteArray) : ByteArray :=
  env5 t1 (t4 e) nonce (turnT (kd s cipB 16) nonce 0 text) (tagT (kd s tagB 32) path v t1 (t4 e) nonce (turnT (kd s cipB 16) nonce 0 text))
theorem t4_size (n : Nat) : (t4 n).size = 4 := by unfold t4; rw [txt_size, be_length]
theorem t8_size (n : Nat) : (t8 n).size = 8 := by unfold t8; rw [txt_size, be_length]
theorem sealT_size (s : ByteArray) (e : Nat) (path : ByteArray) (v : Nat) (nonce text : ByteArray) (hn : nonce.size = 12) : (sealT s e path v nonce text).size = text.size + 49 := by
  unfold sealT
  rw [env5_size, t4_size, hn, turnT_size _ _ _ _ (kd_size _ _ _ (by omega)), tagT_size]
  have : t1.size = 1 := rfl
  omega
theorem joinL_7 (a b c d e f g : ByteArray) : (joinL [a, b, c, d, e, f, g]).length = a.size + (b.size + (c.size + (d.size + (e.size + (f.size + g.size))))) := by
  simp [joinL, List.length_append]
/-! ### Errors -/
theorem close_arg (w : World) (r b : Nat) (L : List (Nat × ByteArray)) (h : IsK w r b L) (path : ByteArray) (v : Int) (nonce text : ByteArray) (hn : nonce.size ≠ 12) :
    Calls Tryz.prog 42 #[.pointer (some ⟨r, 0, none⟩), .string path, .int .u64 v, .string nonce, .string text] w fun e w' => e = .returned (.tuple #[.string ⟨#[]⟩, .int .i64 2]) ∧ Ext w w' := by
  have HT := Lib.hid (there_yes14 w r b L h)
  have hn2 : (nonce.size : Int) ≠ 12 := by omega
  have hn3 : ((nonce.size : Int) == 12) = false := by simpa using hn2
  clear h
  go_enter Tryz.func42, Tryz.ntmps42
  go_wp2_with (go_at_call 75; refine (HT.out).mono ?_; rintro e w1 ⟨rfl, x1⟩)
  go_ret2
  exact ⟨rfl, x1⟩
/-! ### Close -/
set_option maxRecDepth 100000 in
set_option maxHeartbeats 4000000 in
theorem close_yes (w : World) (r b : Nat) (L : List (Nat × ByteArray)) (hL : Laid w) (h : IsK w r b L) (s : ByteArray) (hm : (top (eps L), s) ∈ L) (path : ByteArray) (v : Nat) (nonce text : ByteArray) (hn : nonce.size = 12) (hp : path.size ≤ 1048576) (ht : text.size ≤ 1048576) :
    Calls Tryz.prog 42 #[.pointer (some ⟨r, 0, none⟩), .string path, .int .u64 (v : Int), .string nonce, .string text] w fun e w' => e = .returned (.tuple #[.string (sealT s (top (eps L)) path v nonce text), .int .i64 0]) ∧ Ext w w' := by
  have hn2 : (nonce.size : Int) = 12 := by omega
  have h1i : ¬ (1048576 : Int) < (path.size : Int) := by omega
  have h2i : ¬ (1048576 : Int) < (text.size : Int) := by omega
  have hk1 : (kd s cipB 16).size = 16 := kd_size _ _ _ (by omega)
  have hk2 : (kd s tagB 32).size = 32 := kd_size _ _ _ (by omega)
  have hbs : (turnT (kd s cipB 16) nonce 0 text).size = text.size := turnT_size _ _ _ _ hk1
  have HT := Lib.hid (there_yes14 w r b L h)
  have HN := Lib.hid (fun u (hu : IsK u r b L) => newest_any u r b L hu)
  have HKy := Lib.hid (fun u (hx : Ext w u) (hu : IsK u r b L) => keys_yes u r b L (hL.ext hx) hu (top (eps L)) s hm)
  have HTu := Lib.hid (fun u => turnT_to (kd s cipB 16) nonce 0 text hk1 hn ht (by unfold blocksOf; omega) (by omega) u)
  have HP4 := Lib.hid (fun u => Put32_any (top (eps L)) u)
  have hz := sealT_size s (top (eps L)) path v nonce text hn
  unfold sealT at hz ⊢
  rw [show (⟨(be 4 (top (eps L))).toArray⟩ : ByteArray) = t4 (top (eps L)) by unfold t4; rfl] at HP4
  have htag : ∀ (u : World) (g c : Nat), Ext w u → Texts u ⟨g, 0, none⟩ ([t4 path.size, path, t8 v] ++ [t1, t4 (top (eps L)), nonce, turnT (kd s cipB 16) nonce 0 text]) →
      Calls Tryz.prog 80 #[.string (kd s tagB 32), .slice (some ⟨g, 0, none⟩) 7 c] u fun e w' => e = .returned (.string (tagT (kd s tagB 32) path v t1 (t4 (top (eps L))) nonce (turnT (kd s cipB 16) nonce 0 text))) ∧ Ext u w' := fun u g c hx hT =>
    Of_mac u _ _ [t4 path.size, path, t8 v, t1, t4 (top (eps L)), nonce, turnT (kd s cipB 16) nonce 0 text] (hL.ext hx) (by rw [hk2]; omega) (.inr ⟨⟨g, 0, none⟩, c, rfl, hT, by simp⟩) (by
      rw [joinL_7, t4_size, t8_size, t4_size, hbs, hn]
      have : t1.size = 1 := rfl
      omega)
  have HTag := Lib.hid htag
  have HK := Lib.hid h
  have HA := Lib.hid (fun u A B C D T => ahead_any u A B C D T)
  have HG := Lib.hid (fun u g (hb : Blk u g 9 ([t1, t4 (top (eps L)), nonce, turnT (kd s cipB 16) nonce 0 text].map Value.string)) => tagged_any u path v g _ hp hb rfl)
  clear h hL hm hk1 hk2 hbs htag
  unfold t1 at *
  generalize tagT (kd s tagB 32) path v ⟨#[1]⟩ (t4 (top (eps L))) nonce (turnT (kd s cipB 16) nonce 0 text) = X at *
  generalize turnT (kd s cipB 16) nonce 0 text = D at *
  generalize kd s cipB 16 = K1 at *
  generalize kd s tagB 32 = K2 at *
  generalize t4 (top (eps L)) = E at *
  generalize top (eps L) = tp at *
  have HB := Lib.hid (fun u => bytes_any14 u ⟨#[1]⟩ E nonce D X (by rw [hz]; omega))
  generalize env5 ⟨#[1]⟩ E nonce D X = Y at *
  clear hz
  go_enter Tryz.func42, Tryz.ntmps42
  go_wp2_with (first
    | (go_at_call 75; refine (HT.out).mono ?_; rintro e w1 ⟨rfl, x1⟩)
    | (go_at_call 76; refine (HN.out _ (HK.out.ext x1)).mono ?_; rintro e w2 ⟨rfl, x2⟩; have y2 := x1.trans x2)
    | (go_at_call 77; refine (HKy.out _ y2 (HK.out.ext y2)).mono ?_; rintro e w3 ⟨rfl, x3⟩; have y3 := y2.trans x3)
    | (go_at_call 78; refine (HTu.out _).mono ?_; rintro e w4 ⟨rfl, x4⟩; have y4 := y3.trans x4)
    | (go_at_call 79; refine (HP4.out _).mono ?_; rintro e w5 ⟨rfl, x5⟩; have y5 := (y4.trans x5).alloc (.cells #[.string ⟨#[1]⟩, .string E, .string nonce, .string D, .string ⟨#[]⟩] 120); have p5 := Blk.new w5 [.string ⟨#[1]⟩, .string E, .string nonce, .string D, .string ⟨#[]⟩] 120; have HPl := Lib.hid (y4.trans x5).size; have a0 := p5.cell 0 _ rfl; have a1 := p5.cell 1 _ rfl; have a2 := p5.cell 2 _ rfl; have a3 := p5.cell 3 _ rfl; have a4 := p5.cell 4 _ rfl; have P5 := Lib.hid p5; clear p5)
    | (go_at_call 82; refine (HA.out _ _ _ _ _ _).mono ?_; rintro e w6 ⟨g6, rfl, b6, q6, x6⟩; have y6 := y5.trans x6)
    | (go_at_call 81; refine (HG.out _ _ b6).mono ?_; rintro e w7 ⟨g7, c7, rfl, k7, x7⟩; have y7 := y6.trans x7)
    | (go_at_call 80; refine (HTag.out _ _ _ y7 k7).mono ?_; rintro e w8 ⟨rfl, x8⟩; have p8 := P5.out.ext ((x6.trans x7).trans x8); have c8 := p8.cell 4 _ rfl; have f8 := p8.frozen 4; have p9 := p8.set_ 4 (.string X); have d0 := p9.cell 0 _ rfl; have d1 := p9.cell 1 _ rfl; have d2 := p9.cell 2 _ rfl; have d3 := p9.cell 3 _ rfl; have d4 := p9.cell 4 _ rfl; have Y8 := Lib.hid ((y7.trans x8).setCell (p := ⟨w5.heap.size, 4, none⟩) HPl.out (.string X)); clear p8 p9)
    | (go_at_call 83; refine (HB.out _).mono ?_; rintro e w9 ⟨rfl, x9⟩))
  go_ret2
  exact ⟨rfl, Y8.out.trans x9⟩
end Go.Proofs.YtobhbppogeghnaaGreatDoor
end

section
namespace Go.Proofs.YtobhbppogeghnaaGreatDoor

theorem num_inj : ∀ (l r : List UInt8), l.length = r.length → num l = num r → l = r
  | [], [], _, _ => rfl
  | [], _ :: _, h, _ => by simp at h
  | _ :: _, [], h, _ => by simp at h
  | a :: l, b :: r, h, e => by
    have hl : l.length = r.length := by simpa using h
    rw [num_cons, num_cons, hl] at e
    have h1 := num_lt r.length l hl
    have h2 := num_lt r.length r rfl
    have hp : 0 < 256 ^ r.length := Nat.pow_pos (by decide)
    have ha : a.toNat = b.toNat := by
      have q1 : (a.toNat * 256 ^ r.length + num l) / 256 ^ r.length = a.toNat := by
        rw [Nat.add_comm, Nat.add_mul_div_right _ _ hp, Nat.div_eq_of_lt h1, Nat.zero_add]
      have q2 : (b.toNat * 256 ^ r.length + num r) / 256 ^ r.length = b.toNat := by
        rw [Nat.add_comm, Nat.add_mul_div_right _ _ hp, Nat.div_eq_of_lt h2, Nat.zero_add]
      rw [← q1, ← q2, e]
    have hb : a = b := UInt8.toNat_inj.1 ha
    subst hb
    rw [num_inj l r hl (by omega)]
theorem be_num (l : List UInt8) (k : Nat) (h : l.length = k) : be k (num l) = l :=
  num_inj _ _ (by rw [be_length, h]) (by rw [num_be, Nat.mod_eq_of_lt (num_lt k l h)])

end Go.Proofs.YtobhbppogeghnaaGreatDoor
end
