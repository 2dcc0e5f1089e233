/- Contract: what stands ahead of a record's text, by the program; a record's frame. Texts cut: from, up to, between. A text's bytes in a row of their own, as a conversion lays them: what is read, and written, there. -/
import Derived.Test.YtbekdcpdfmfopaaGreatM17
import Derived.Deep.RegionWith
import Derived.Test.YtbekdcpdfmfopaaGreatProg
import Derived.Test.YtbekdcpdfmfopaaGreatM00
import Derived.Lib.ConvBytes
import Derived.Laws.AppendOwn
section
namespace Go.Proofs.YtbekdcpdfmfopaaGreat
open Go.RowKit

theorem zero_runF {P : Program} {t : TypeId} {z : Value} (h : (P.info? t).bind (·.zero) = some z) (w : World) : (zeroValue t).run P w = .ok z w := by
  cases hq : P.info? t with
  | none => simp [hq] at h
  | some i =>
    have hz : i.zero = some z := by simpa [hq] using h
    simp [zeroValue, typeInfo, hq, hz]
/-- An array of zeros. -/
def zH : Array Value := ((List.replicate 16 (0 : UInt8)).map cellOf).toArray
theorem zeroH : (Tryz.prog.info? 150).bind (·.zero) = some (.agg zH) := by kernel_rfl
theorem Row.zH (w : World) (t : TypeId) : Row (w.alloc (.cells zH t)) w.heap.size t (List.replicate 16 0) := heap_alloc_new w _
attribute [irreducible] zH
theorem laid4 (k : Nat) : (List.replicate 16 (0 : UInt8)).take 0 ++ be 4 k ++ (List.replicate 16 (0 : UInt8)).drop (0 + 4) = be 4 k ++ List.replicate 12 0 := by simp
theorem laid12 (k n : Nat) : (be 4 k ++ List.replicate 12 0).take 4 ++ be 8 n ++ (be 4 k ++ List.replicate 12 0).drop (4 + 8) = headL k n ++ List.replicate 4 0 := by
  have h := be_length 4 k
  unfold headL
  rw [List.take_append_of_le_length (by omega), List.take_of_length_le (by omega), List.drop_append, List.drop_of_length_le (by omega), h]
  simp
theorem laid16 (k n m : Nat) : (headL k n ++ List.replicate 4 0).take 12 ++ be 4 m ++ (headL k n ++ List.replicate 4 0).drop (12 + 4) = headL k n ++ be 4 m := by
  have h := headL_length k n
  rw [List.take_append_of_le_length (by omega), List.take_of_length_le (by omega), List.drop_append, List.drop_of_length_le (by omega), h]
  simp
theorem list16 {l : List UInt8} (h : l.length = 16) : ∃ b0 b1 b2 b3 b4 b5 b6 b7 b8 b9 b10 b11 b12 b13 b14 b15, l = [b0, b1, b2, b3, b4, b5, b6, b7, b8, b9, b10, b11, b12, b13, b14, b15] := by
  obtain ⟨b0, l, rfl⟩ : ∃ b r, l = b :: r := by cases l with | nil => simp at h | cons b r => exact ⟨b, r, rfl⟩
  simp only [List.length_cons] at h
  obtain ⟨b1, l, rfl⟩ : ∃ b r, l = b :: r := by cases l with | nil => simp at h | cons b r => exact ⟨b, r, rfl⟩
  simp only [List.length_cons] at h
  obtain ⟨b2, l, rfl⟩ : ∃ b r, l = b :: r := by cases l with | nil => simp at h | cons b r => exact ⟨b, r, rfl⟩
  simp only [List.length_cons] at h
  obtain ⟨b3, l, rfl⟩ : ∃ b r, l = b :: r := by cases l with | nil => simp at h | cons b r => exact ⟨b, r, rfl⟩
  simp only [List.length_cons] at h
  obtain ⟨b4, l, rfl⟩ : ∃ b r, l = b :: r := by cases l with | nil => simp at h | cons b r => exact ⟨b, r, rfl⟩
  simp only [List.length_cons] at h
  obtain ⟨b5, l, rfl⟩ : ∃ b r, l = b :: r := by cases l with | nil => simp at h | cons b r => exact ⟨b, r, rfl⟩
  simp only [List.length_cons] at h
  obtain ⟨b6, l, rfl⟩ : ∃ b r, l = b :: r := by cases l with | nil => simp at h | cons b r => exact ⟨b, r, rfl⟩
  simp only [List.length_cons] at h
  obtain ⟨b7, l, rfl⟩ : ∃ b r, l = b :: r := by cases l with | nil => simp at h | cons b r => exact ⟨b, r, rfl⟩
  simp only [List.length_cons] at h
  obtain ⟨b8, l, rfl⟩ : ∃ b r, l = b :: r := by cases l with | nil => simp at h | cons b r => exact ⟨b, r, rfl⟩
  simp only [List.length_cons] at h
  obtain ⟨b9, l, rfl⟩ : ∃ b r, l = b :: r := by cases l with | nil => simp at h | cons b r => exact ⟨b, r, rfl⟩
  simp only [List.length_cons] at h
  obtain ⟨b10, l, rfl⟩ : ∃ b r, l = b :: r := by cases l with | nil => simp at h | cons b r => exact ⟨b, r, rfl⟩
  simp only [List.length_cons] at h
  obtain ⟨b11, l, rfl⟩ : ∃ b r, l = b :: r := by cases l with | nil => simp at h | cons b r => exact ⟨b, r, rfl⟩
  simp only [List.length_cons] at h
  obtain ⟨b12, l, rfl⟩ : ∃ b r, l = b :: r := by cases l with | nil => simp at h | cons b r => exact ⟨b, r, rfl⟩
  simp only [List.length_cons] at h
  obtain ⟨b13, l, rfl⟩ : ∃ b r, l = b :: r := by cases l with | nil => simp at h | cons b r => exact ⟨b, r, rfl⟩
  simp only [List.length_cons] at h
  obtain ⟨b14, l, rfl⟩ : ∃ b r, l = b :: r := by cases l with | nil => simp at h | cons b r => exact ⟨b, r, rfl⟩
  simp only [List.length_cons] at h
  obtain ⟨b15, l, rfl⟩ : ∃ b r, l = b :: r := by cases l with | nil => simp at h | cons b r => exact ⟨b, r, rfl⟩
  simp only [List.length_cons] at h
  obtain rfl : l = [] := List.length_eq_zero_iff.1 (by omega)
  exact ⟨_, _, _, _, _, _, _, _, _, _, _, _, _, _, _, _, rfl⟩
set_option maxRecDepth 100000 in
set_option maxHeartbeats 2000000 in
theorem headOf_any (r : Rec) (hr : r.n < 18446744073709551616) (hs : r.t.size ≤ 140737488351232) (w : World) :
    Calls Tryz.prog 94 #[recV r] w fun e w' => e = .returned (headV (headS r.t.size r.n r.t.data.toList)) ∧ Ext w w' := by
  have hz := zero_runF zeroH
  obtain ⟨n, t⟩ := r
  dsimp only at hr hs ⊢
  have hwn : IntKind.u64.wrap (t.size : Int) = (t.size : Int) := IntWalk.u64_in _ ⟨by omega, by omega⟩
  have hB0 : Blk (((w.alloc (.cells #[.int .u64 (n : Int), .string t] 111)).alloc (.cells zH 150)).alloc (.cells zH 150)) w.heap.size 111 [.int .u64 (n : Int), .string t] := ((Blk.new w _ _).alloc _).alloc _
  have hB1 : Row (((w.alloc (.cells #[.int .u64 (n : Int), .string t] 111)).alloc (.cells zH 150)).alloc (.cells zH 150)) (w.heap.size + 1) 150 (List.replicate 16 0) := by
    have := (Row.zH (w.alloc (.cells #[.int .u64 (n : Int), .string t] 111)) 150).alloc (.cells zH 150)
    simpa using this
  have hB2 : Row (((w.alloc (.cells #[.int .u64 (n : Int), .string t] 111)).alloc (.cells zH 150)).alloc (.cells zH 150)) (w.heap.size + 1 + 1) 150 (List.replicate 16 0) := by
    have := Row.zH ((w.alloc (.cells #[.int .u64 (n : Int), .string t] 111)).alloc (.cells zH 150)) 150
    simpa using this
  have hX : Ext w (((w.alloc (.cells #[.int .u64 (n : Int), .string t] 111)).alloc (.cells zH 150)).alloc (.cells zH 150)) := (((Ext.refl w).alloc _).alloc _).alloc _
  have HB0 := Lib.hid hB0; have HB1 := Lib.hid hB1; have HB2 := Lib.hid hB2; have HX := Lib.hid hX
  clear hB0 hB1 hB2 hX
  unfold recV
  go_enter Tryz.func94, Tryz.ntmps94
  go_wp2_with fail
  generalize (((w.alloc (.cells #[.int .u64 (n : Int), .string t] 111)).alloc (.cells zH 150)).alloc (.cells zH 150)) = W0 at *
  have c0 := HB0.out.cell 0 _ rfl
  have c1 := HB0.out.cell 1 _ rfl
  go_still_tail 5, (by kernel_rfl)
  change wpList _ _ _ _ _ W0.drew
  have HL1 := Lib.hid (lay_any (w.heap.size + 1 + 1) 0 4 t.size 16 (by decide) (by omega) 150 _ (by simp) W0.drew HB2.out.drew)
  rw [laid4] at HL1
  go_wp2_with (go_at_call 107; refine (HL1.out).mono ?_; rintro e w1 ⟨rfl, h1, b1⟩; have H1 := Lib.hid h1; have B1 := Lib.hid b1; clear h1 b1)
  have HQ1 : Hid (Blk w1 w.heap.size 111 [.int .u64 (n : Int), .string t]) := Lib.hid (HB0.out.drew.below B1.out (by omega))
  have HS1 : Hid (Row w1 (w.heap.size + 1) 150 (List.replicate 16 0)) := Lib.hid (HB1.out.drew.below B1.out (by omega))
  have HX1 : Hid (Below w.heap.size w w1) := Lib.hid (HX.out.drew.below.trans (Below.mono B1.out (by omega)))
  clear c0 c1 HL1 HB0 HB1 HB2 HX B1
  have c0 := HQ1.out.cell 0 _ rfl
  have c1 := HQ1.out.cell 1 _ rfl
  go_still_tail 3, (by kernel_rfl)
  change wpList _ _ _ _ _ w1.drew
  have HL2 := Lib.hid (lay_any (w.heap.size + 1 + 1) 4 8 n 12 (by decide) hr 150 _ (by simp [be_length]) w1.drew H1.out.drew)
  rw [laid12] at HL2
  go_wp2_with (go_at_call 107; refine (HL2.out).mono ?_; rintro e w2 ⟨rfl, h2, b2⟩; have H2 := Lib.hid h2; have B2 := Lib.hid b2; clear h2 b2)
  have HQ2 : Hid (Blk w2 w.heap.size 111 [.int .u64 (n : Int), .string t]) := Lib.hid (HQ1.out.drew.below B2.out (by omega))
  have HS2 : Hid (Row w2 (w.heap.size + 1) 150 (List.replicate 16 0)) := Lib.hid (HS1.out.drew.below B2.out (by omega))
  have HX2 : Hid (Below w.heap.size w w2) := Lib.hid (HX1.out.drew.trans (Below.mono B2.out (by omega)))
  clear c0 c1 HL2 HQ1 HS1 HX1 B2 H1
  have c0 := HQ2.out.cell 0 _ rfl
  have c1 := HQ2.out.cell 1 _ rfl
  have hl16 : (headL t.size n ++ List.replicate 4 (0 : UInt8)).length = 16 := by simp [headL_length]
  have HSum := Lib.hid (fun u => fsum_any (headL t.size n ++ List.replicate 4 0) hl16 t hs u)
  have e12 : (headL t.size n ++ List.replicate 4 (0 : UInt8)).take 12 = headL t.size n := by rw [List.take_append_of_le_length (by rw [headL_length]; omega), List.take_of_length_le (by rw [headL_length]; omega)]
  rw [e12] at HSum
  unfold headV at HSum
  have HE : Hid (headS t.size n t.data.toList = headL t.size n ++ be 4 (sumN (headL t.size n ++ t.data.toList))) := Lib.hid rfl
  have HM := sumN_lt (headL t.size n ++ t.data.toList)
  have HL3 := Lib.hid (fun u (hu : Row u (w.heap.size + 1 + 1) 150 (headL t.size n ++ List.replicate 4 0)) => lay_any (w.heap.size + 1 + 1) 12 4 (sumN (headL t.size n ++ t.data.toList)) 4 (by decide) (by omega) 150 _ (by rw [hl16]; decide) u hu)
  rw [laid16] at HL3
  generalize sumN (headL t.size n ++ t.data.toList) = m at HSum HM HL3 HE
  obtain ⟨b0, b1, b2, b3, b4, b5, b6, b7, b8, b9, b10, b11, b12, b13, b14, b15, hL⟩ := list16 hl16
  have hcl := H2.out
  rw [hL] at hcl
  have d0 : w2.cell? ⟨w.heap.size + 1 + 1, 0, none⟩ = some (.int .u8 (b0.toNat : Int)) := hcl.cell 0 _ rfl
  have d1 : w2.cell? ⟨w.heap.size + 1 + 1, 1, none⟩ = some (.int .u8 (b1.toNat : Int)) := hcl.cell 1 _ rfl
  have d2 : w2.cell? ⟨w.heap.size + 1 + 1, 2, none⟩ = some (.int .u8 (b2.toNat : Int)) := hcl.cell 2 _ rfl
  have d3 : w2.cell? ⟨w.heap.size + 1 + 1, 3, none⟩ = some (.int .u8 (b3.toNat : Int)) := hcl.cell 3 _ rfl
  have d4 : w2.cell? ⟨w.heap.size + 1 + 1, 4, none⟩ = some (.int .u8 (b4.toNat : Int)) := hcl.cell 4 _ rfl
  have d5 : w2.cell? ⟨w.heap.size + 1 + 1, 5, none⟩ = some (.int .u8 (b5.toNat : Int)) := hcl.cell 5 _ rfl
  have d6 : w2.cell? ⟨w.heap.size + 1 + 1, 6, none⟩ = some (.int .u8 (b6.toNat : Int)) := hcl.cell 6 _ rfl
  have d7 : w2.cell? ⟨w.heap.size + 1 + 1, 7, none⟩ = some (.int .u8 (b7.toNat : Int)) := hcl.cell 7 _ rfl
  have d8 : w2.cell? ⟨w.heap.size + 1 + 1, 8, none⟩ = some (.int .u8 (b8.toNat : Int)) := hcl.cell 8 _ rfl
  have d9 : w2.cell? ⟨w.heap.size + 1 + 1, 9, none⟩ = some (.int .u8 (b9.toNat : Int)) := hcl.cell 9 _ rfl
  have d10 : w2.cell? ⟨w.heap.size + 1 + 1, 10, none⟩ = some (.int .u8 (b10.toNat : Int)) := hcl.cell 10 _ rfl
  have d11 : w2.cell? ⟨w.heap.size + 1 + 1, 11, none⟩ = some (.int .u8 (b11.toNat : Int)) := hcl.cell 11 _ rfl
  have d12 : w2.cell? ⟨w.heap.size + 1 + 1, 12, none⟩ = some (.int .u8 (b12.toNat : Int)) := hcl.cell 12 _ rfl
  have d13 : w2.cell? ⟨w.heap.size + 1 + 1, 13, none⟩ = some (.int .u8 (b13.toNat : Int)) := hcl.cell 13 _ rfl
  have d14 : w2.cell? ⟨w.heap.size + 1 + 1, 14, none⟩ = some (.int .u8 (b14.toNat : Int)) := hcl.cell 14 _ rfl
  have d15 : w2.cell? ⟨w.heap.size + 1 + 1, 15, none⟩ = some (.int .u8 (b15.toNat : Int)) := hcl.cell 15 _ rfl
  rw [hL] at HSum HL3 H2
  simp only [List.map_cons, List.map_nil, cellOf] at HSum
  have hlt3 : w.heap.size + 1 + 1 < w2.heap.size := H2.out.lt
  clear hL hcl hl16 e12
  go_region_with (first
    | (go_at_call 101; refine (HSum.out _).mono ?_; rintro e w3 ⟨rfl, x3⟩; have X3 := Lib.hid x3; clear x3)
    | (go_at_call 107; refine (HL3.out _ (H2.out.drew.ext X3.out)).mono ?_; rintro e w4 ⟨rfl, h4, b4⟩; have H4 := Lib.hid h4; have B4 := Lib.hid b4; clear h4 b4))
  all_goals
    clear d0 d1 d2 d3 d4 d5 d6 d7 d8 d9 d10 d11 d12 d13 d14 d15 c0 c1
    have HX4 := Lib.hid (HX2.out.trans (Below.mono (((Below.refl _ _).drew.trans (Below.mono X3.out.below (Nat.le_of_lt hlt3))).trans B4.out) (Nat.le_trans (Nat.le_succ _) (Nat.le_succ _))))
    have HS4 : Hid (Row _ (w.heap.size + 1) 150 (List.replicate 16 0)) := Lib.hid (HS2.out.below (((Below.refl _ _).drew.trans (Below.mono X3.out.below (Nat.le_of_lt hlt3))).trans B4.out) (Nat.lt_succ_self _))
    clear B4 H2
    go_wp2_with (first
      | (refine wpList_load_row rfl 150 (.tmp 3) rfl (w.heap.size + 1 + 1) rfl 150 _ (0, 0) _ H4.out Tryz.underlying150 rfl (sizedH (by rw [← HE.out]; exact headS_length _ _ _)) ?_)
      | (refine wpList_store_row rfl 150 (.tmp 2) (.tmp 20) rfl (w.heap.size + 1) _ rfl rfl 150 _ HS4.out (sizedH (by rw [← HE.out]; exact headS_length _ _ _)) (by rw [← HE.out]; simp [headS_length]) (cells8_one _) ?_))
    have hr := (setRow_heap _ _ _ ((headL t.size n ++ be 4 m).map cellOf).toArray _ _ HS4.out)
    exact bodyPost_ret (results_cell_row rfl _ _ (w.heap.size + 1) 150 _ (0, 0) _ rfl hr Tryz.underlying150 rfl (sizedH (by rw [← HE.out]; exact headS_length _ _ _))) rfl ⟨by rw [HE.out]; rfl, below_setRow HX4.out (Nat.le_succ _) _⟩
end Go.Proofs.YtbekdcpdfmfopaaGreat
end

section
namespace Go.Proofs.YtbekdcpdfmfopaaGreat
open Go.RowKit

theorem cut_to (X : ByteArray) (c : Nat) (h : c ≤ X.size) (u : World) : (Instr.slice 9 (.string X) none (some (.int .i64 (c : Int))) none).run Tryz.prog u = .ok (.string (X.extract 0 c)) u := by
  have hj : (0 : Int) ≤ (c : Int) ∧ (c : Int) ≤ (X.size : Int) := by omega
  simp [Instr.slice, Instr.sliceBounds, Instr.sliceBound, asIntOf, run_underlying Tryz.underlying9, hj]
  intro hgt
  omega
theorem cut_from (X : ByteArray) (c : Nat) (h : c ≤ X.size) (u : World) : (Instr.slice 9 (.string X) (some (.int .i64 (c : Int))) none none).run Tryz.prog u = .ok (.string (X.extract c X.size)) u := by
  have hj : (0 : Int) ≤ (c : Int) ∧ (c : Int) ≤ (X.size : Int) := by omega
  simp [Instr.slice, Instr.sliceBounds, Instr.sliceBound, asIntOf, run_underlying Tryz.underlying9, hj]
  intro hgt
  omega
theorem cut_mid (X : ByteArray) (a c : Nat) (ha : a ≤ c) (h : c ≤ X.size) (u : World) : (Instr.slice 9 (.string X) (some (.int .i64 (a : Int))) (some (.int .i64 (c : Int))) none).run Tryz.prog u = .ok (.string (X.extract a c)) u := by
  have hj : (0 : Int) ≤ (c : Int) ∧ (c : Int) ≤ (X.size : Int) := by omega
  have hk : (0 : Int) ≤ (a : Int) ∧ (a : Int) ≤ (c : Int) := by omega
  simp [Instr.slice, Instr.sliceBounds, Instr.sliceBound, asIntOf, run_underlying Tryz.underlying9, hj, hk]
  rw [if_pos h, if_pos ha]
theorem cut_list (X : ByteArray) (a c : Nat) : (X.extract a c).data.toList = (X.data.toList.drop a).take (c - a) := by
  rw [ByteArray.data_extract, Array.toList_extract, List.extract_eq_take_drop]
end Go.Proofs.YtbekdcpdfmfopaaGreat
end

section
namespace Go.Proofs.YtbekdcpdfmfopaaGreat
open Go.RowKit

/-- Block g begins with these bytes, and is not frozen there. -/
def BRow (w : World) (g : Nat) (t : TypeId) (l : List UInt8) : Prop := ∃ (rest : List Value) (fz : Nat × Nat), w.heap[g]? = some (.cells (l.map cellOf ++ rest).toArray t fz) ∧ l.length ≤ fz.1
section
variable {w w' : World} {g : Nat} {t : TypeId} {l : List UInt8}
theorem BRow.lt (h : BRow w g t l) : g < w.heap.size := by obtain ⟨_, _, h, _⟩ := h; exact heap_lt h
theorem BRow.cell (h : BRow w g t l) (i : Nat) (b : UInt8) (hb : l[i]? = some b) : w.cell? ⟨g, i, none⟩ = some (.int .u8 (b.toNat : Int)) := by
  obtain ⟨rest, fz, h, _⟩ := h
  have hi : i < l.length := (List.getElem?_eq_some_iff.1 hb).1
  rw [cell_of_row w g i _ t fz h]
  rw [List.getElem?_eq_getElem hi] at hb
  obtain rfl := Option.some.inj hb
  simp [List.getElem?_append_left, hi, cellOf]
theorem BRow.frozen (h : BRow w g t l) (i : Nat) (hi : i < l.length) : w.frozen? ⟨g, i, none⟩ = false := by
  obtain ⟨rest, ⟨lo, hi2⟩, h, hl⟩ := h
  have : ¬ lo ≤ i := by simp only at hl; omega
  simp [World.frozen?, h, this]
theorem BRow.set_ (h : BRow w g t l) (i : Nat) (hi : i < l.length) (x : Int) (b : UInt8) (hx : x = (b.toNat : Int)) : BRow (w.setCell ⟨g, i, none⟩ (.int .u8 x)) g t (l.set i b) := by
  subst hx
  obtain ⟨rest, fz, h, hl⟩ := h
  refine ⟨rest, fz, ?_, by simpa using hl⟩
  have e : (l.map cellOf ++ rest).set i (.int .u8 (b.toNat : Int)) = (l.set i b).map cellOf ++ rest := by
    rw [List.set_append_left _ _ (by simpa using hi), List.map_set]; rfl
  simp [World.setCell, Array.getElem?_modify, h]
  rw [e, List.map_set]
theorem BRow.ext (h : BRow w g t l) (hb : Ext w w') : BRow w' g t l := by
  have hlt := h.lt
  obtain ⟨rest, fz, h, hl⟩ := h
  exact ⟨rest, fz, (hb.block g hlt).trans h, hl⟩
set_option maxRecDepth 100000 in
/-- The text of the first n bytes. -/
theorem BRow.text (h : BRow w g t l) (n c : Nat) (hn : n ≤ l.length) :
    (convert 41 9 (.slice (some ⟨g, 0, none⟩) n c)).run Tryz.prog w = .ok (.string ⟨(l.take n).toArray⟩) w := by
  have hc := run_convert_bytes_arg (P := Tryz.prog) w 41 5 Tryz.underlying41 Tryz.underlying5 g 0 n c ((l.take n).map fun c => (c.toNat : Int)) (by simp; omega) (by
    intro i hi
    have hi2 : i < l.length := by omega
    have := h.cell i l[i] (List.getElem?_eq_getElem hi2)
    simpa [List.getD, hi, List.getElem?_eq_getElem hi2] using this) 9 Tryz.underlying9
  rw [hc]
  have e : strOfNums ((l.take n).map fun c => (c.toNat : Int)) = ⟨(l.take n).toArray⟩ := by
    unfold strOfNums
    congr 2
    rw [List.map_map]
    conv => rhs; rw [← List.map_id (l.take n)]
    apply List.map_congr_left
    intro b _
    simp
  rw [e]
end
/-- What a conversion of a text lays. -/
theorem bytes_of_text (w : World) (s : ByteArray) : ∃ (c : Nat) (W : World), (convert 9 41 (.string s)).run Tryz.prog w = .ok (.slice (some ⟨w.heap.size, 0, none⟩) s.size c) W ∧ s.size ≤ c ∧ Ext w W ∧ BRow W w.heap.size 5 s.data.toList := by
  refine ⟨grownCap w s.size 0 5, Lib.bytesWorld w 5 s, Lib.run_convert_string_bytes (P := Tryz.prog) w 9 41 5 s Tryz.underlying9 Tryz.underlying41 Tryz.underlying5, grownCap_ge w s.size 0 5, ?_, ?_⟩
  · refine ⟨?_, ?_, ?_, by rw [Lib.bytesWorld_size]; omega, fun k hk => Lib.bytesWorld_at_old w _ s k hk⟩
    all_goals
      unfold Lib.bytesWorld World.freeze
      split <;> rfl
  · refine ⟨List.replicate (grownCap w s.size 0 5 - s.size) (.int .u8 0), ((Lib.bytesCells w 5 s).size, (Lib.bytesCells w 5 s).size + 1), ?_, ?_⟩
    · rw [Lib.bytesWorld_at_new]
      have e : Lib.bytesCells w 5 s = (s.data.toList.map cellOf ++ List.replicate (grownCap w s.size 0 5 - s.size) (Value.int .u8 0)).toArray := by
        unfold Lib.bytesCells
        apply Array.toList_inj.1
        simp
        intro a _
        rfl
      rw [← e]
    · have := grownCap_ge w s.size 0 5
      simp [Lib.bytesCells]
end Go.Proofs.YtbekdcpdfmfopaaGreat
end
