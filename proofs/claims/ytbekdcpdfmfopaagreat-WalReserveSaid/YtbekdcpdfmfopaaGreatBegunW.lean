/- Contract: the head that a record is, by the program. -/
import Derived.Test.YtbekdcpdfmfopaaGreatM15
import Derived.Test.YtbekdcpdfmfopaaGreatM06
import Derived.Test.YtbekdcpdfmfopaaGreatM16
import Derived.Test.YtbekdcpdfmfopaaGreatFDec
import Derived.Test.YtbekdcpdfmfopaaGreatM10
import Derived.Deep.DeepCutAuto
import Derived.Outline
namespace Go.Proofs.YtbekdcpdfmfopaaGreat
open Go.RowKit

/-- What begun answers. -/
def begV (o : Option (Nat × Nat × ByteArray)) (n : Nat) : Value := match o with
  | none => .tuple #[segV Seg.zero (.slice none 0 0), .bool false]
  | some (k, g, t) => .tuple #[segV ⟨k, g, n, t, [], 0, false⟩ (.slice none 0 0), .bool true]
theorem index_head (T : ByteArray) (b : UInt8) (l : List UInt8) (h : T.data.toList = b :: l) (u : World) : (Instr.index 9 (.string T) (.int .i64 0)).run Tryz.prog u = .ok (.int .u8 (b.toNat : Int)) u :=
  index_text T 0 b (by rw [h]; rfl) u
set_option maxRecDepth 100000 in
set_option maxHeartbeats 4000000 in
theorem begun_none (n : Nat) (T : ByteArray) (hT : T.size = 0) (w : World) :
    Calls Tryz.prog 87 #[.agg #[.int .u64 (n : Int), .string T]] w fun e w' => e = .returned (begV none n) ∧ Ext w w' := by
  have ht := txt_empty T
  rw [decide_eq_true hT] at ht
  have hb : Blk ((w.alloc (.cells #[.int .u64 (n : Int), .string T] 111)).alloc (.cells zero7.toArray 119)) w.heap.size 111 [.int .u64 (n : Int), .string T] := (Blk.new w _ _).alloc _
  have c1 := hb.cell 1 _ rfl
  have HX := Lib.hid (((Ext.refl w).alloc (.cells #[.int .u64 (n : Int), .string T] 111)).alloc (.cells zero7.toArray 119))
  have HS : Hid (Blk ((w.alloc (.cells #[.int .u64 (n : Int), .string T] 111)).alloc (.cells zero7.toArray 119)) (w.heap.size + 1) 119 zero7) := Lib.hid (by
    have := Blk.new (w.alloc (.cells #[.int .u64 (n : Int), .string T] 111)) zero7 119
    simpa using this)
  clear hb hT
  unfold zero7 at HS HX c1
  unfold begV segV Seg.zero
  dsimp only
  go_enter Tryz.func87, Tryz.ntmps87
  go_wp2
  exact bodyPost_ret (results_seg rfl _ _ (w.heap.size + 1) 119 _ _ _ _ _ _ _ (0, 0) rfl HS.out) rfl ⟨rfl, HX.out⟩
theorem begl_eq (n : Nat) (T : ByteArray) (b : UInt8) (l : List UInt8) (hT : T.data.toList = b :: l) : begF ⟨n, T⟩ = if (numR l).2.2 = 0 then (if MayB b.toNat (numR l).1 n (T.extract (1 + (numR l).2.1) T.size) then some (b.toNat, (numR l).1, T.extract (1 + (numR l).2.1) T.size) else none) else none := by
  show begL n T T.data.toList = _
  rw [hT, begL]
theorem cons_of {n : Nat} (l : List Value) (h : l.length = n + 1) : ∃ y r, l = y :: r ∧ r.length = n := by
  cases l with
  | nil => simp at h
  | cons y r => exact ⟨y, r, rfl, by simpa using h⟩
def BgG (w : World) (T Tx Rest : ByteArray) (j : Nat) (v : Value) : Prop := match j with
  | 0 => v = .pointer (some ⟨w.heap.size, 1, none⟩)
  | 1 => v = .string T
  | 2 => v = .pointer (some ⟨w.heap.size, 1, none⟩)
  | 3 => v = .string T
  | 4 => v = .int .i64 (T.size : Int)
  | 5 => v = .pointer (some ⟨w.heap.size + 2, 0, none⟩)
  | 7 => v = .int .i64 ((T.size : Int) - (Rest.size : Int))
  | 8 => v = .string Tx
  | 9 => v = .pointer (some ⟨w.heap.size + 1, 3, none⟩)
  | _ => True
/-- What each operation of the region that reads the generation leaves in its slot. -/
def BgF (w : World) (n k G : Nat) (T : ByteArray) (j : Nat) (v : Value) : Prop := match j with
  | 0 => v = .pointer (some ⟨w.heap.size, 1, none⟩)
  | 1 => v = .string T
  | 2 => v = .int .u8 (k : Int)
  | 3 => v = .pointer (some ⟨w.heap.size + 2, 0, none⟩)
  | 5 => v = .pointer (some ⟨w.heap.size, 0, none⟩)
  | 6 => v = .int .u64 (n : Int)
  | 7 => v = .agg #[.int .u8 (k : Int), .int .u64 (G : Int), .int .u64 (n : Int), .string ⟨#[]⟩, .slice none 0 0, .int .i64 0, .bool false]
  | _ => True
/-- What is known of the world while a region of begun is under way. -/
def BgI (w : World) (n : Nat) (T : ByteArray) (vx : Value) (A B : List Value) (sA : ByteArray) (fA : Nat) (sB : ByteArray) (fB : Nat) (b1 b2 : Bool) (v : Value) (u : World) : Prop :=
  (b1 = true → v = vx) ∧ Blk u w.heap.size 111 [.int .u64 (n : Int), .string T] ∧ Blk u (w.heap.size + 1) 119 (if b2 = true then B else A) ∧
    IsR u (w.heap.size + 2) (if b1 = true then sB else sA) (if b1 = true then fB else fA) ∧ Ext w u
set_option maxRecDepth 100000 in
set_option maxHeartbeats 8000000 in
theorem begun_walk (n : Nat) (T : ByteArray) (b : UInt8) (l : List UInt8) (hT : T.data.toList = b :: l) (hs6 : T.size ≤ 1000000) (G F : Nat) (Rest : ByteArray) (hR : Rest.size ≤ T.size - 1)
    (HU : ∀ (u : World) (r : Nat), IsR u r (T.extract 1 T.size) 0 → Calls Tryz.prog 103 #[.pointer (some ⟨r, 0, none⟩), .int .u64 281474976710656] u fun e w' => e = .returned (.int .u64 (G : Int)) ∧ IsR w' r Rest F ∧ Mod r u w') (w : World) :
    Calls Tryz.prog 87 #[.agg #[.int .u64 (n : Int), .string T]] w fun e w' => e = .returned (begV (if F = 0 ∧ MayB b.toNat G n (T.extract (T.size - Rest.size) T.size) then some (b.toNat, G, T.extract (T.size - Rest.size) T.size) else none) n) ∧ Ext w w' := by
  have hTs : 1 ≤ T.size := by rw [← size_list, hT]; simp
  have ht := txt_empty T
  rw [decide_eq_false (by omega)] at ht
  have hix := index_head T b l hT
  obtain ⟨W1, hW1⟩ : ∃ W1, W1 = (w.alloc (.cells #[.int .u64 (n : Int), .string T] 111)).alloc (.cells zero7.toArray 119) := ⟨_, rfl⟩
  have hs1 : W1.heap.size = w.heap.size + 2 := by rw [hW1]; simp
  have hb : Blk W1 w.heap.size 111 [.int .u64 (n : Int), .string T] := by rw [hW1]; exact (Blk.new w _ _).alloc _
  have hS0 : Blk W1 (w.heap.size + 1) 119 zero7 := by
    rw [hW1]
    have := Blk.new (w.alloc (.cells #[.int .u64 (n : Int), .string T] 111)) zero7 119
    simpa using this
  have hX1 : Ext w W1 := by rw [hW1]; exact ((Ext.refl w).alloc _).alloc _
  have c1 := hb.cell 1 _ rfl
  have hsl := slice_rest T 1 hTs
  rw [show ((1 : Nat) : Int) = 1 from rfl] at hsl
  have hsl2 := slice_rest T (T.size - Rest.size) (by omega)
  rw [show ((T.size - Rest.size : Nat) : Int) = (T.size : Int) - (Rest.size : Int) by omega] at hsl2
  have hwsub : IntKind.i64.wrap ((T.size : Int) - (Rest.size : Int)) = (T.size : Int) - (Rest.size : Int) := IntWalk.i64_in _ ⟨by omega, by omega⟩
  have HNew : Hid (Calls Tryz.prog 102 #[.string (T.extract 1 T.size)] W1 fun e w' => e = .returned (.pointer (some ⟨w.heap.size + 2, 0, none⟩)) ∧ IsR w' (w.heap.size + 2) (T.extract 1 T.size) 0 ∧ Ext W1 w') := Lib.hid (by rw [← hs1]; exact New_any _ W1)
  have HU' := Lib.hid HU
  have HB := Lib.hid hb; have HS0 := Lib.hid hS0; have HX1 := Lib.hid hX1
  obtain ⟨Tx, hTx⟩ : ∃ Tx, Tx = T.extract (T.size - Rest.size) T.size := ⟨_, rfl⟩
  rw [← hTx] at hsl2 ⊢
  obtain ⟨V, hV⟩ : ∃ V, V = begV (if F = 0 ∧ MayB b.toNat G n Tx then some (b.toNat, G, Tx) else none) n := ⟨_, rfl⟩
  rw [← hV]
  have HV := Lib.hid hV
  clear hV
  have HM := Lib.hid (fun u => mayBe_any ⟨b.toNat, G, n, Tx, [], 0, false⟩ none 0 0 u)
  unfold segV at HM
  dsimp only at HM
  clear hb hS0 hX1 hT HU hs1 hTx hR
  unfold zero7 at HS0 hW1
  generalize T.extract 1 T.size = S at *
  generalize b.toNat = k at *
  rw [hW1] at c1 HNew
  go_enter Tryz.func87, Tryz.ntmps87
  go_wp2_with (go_at_call 102; refine (HNew.out).mono ?_; rintro e w2 ⟨rfl, hr2, x2⟩; rw [← hW1] at x2; have HR2 := Lib.hid hr2; have hB2 := HB.out.ext x2; have HS2 := Lib.hid (HS0.out.ext x2); have HX2 := Lib.hid (HX1.out.trans x2); have d0 := hB2.cell 0 _ rfl; have d1 := hB2.cell 1 _ rfl; have HB2 := Lib.hid hB2; clear hr2 x2 hB2 c1)
  clear HNew HB HS0 HX1 hW1
  have hbase : ∀ q : Nat × Value, q ∈ [(1, .pointer (some ⟨w.heap.size, 0, none⟩)), (2, .pointer (some ⟨w.heap.size + 1, 0, none⟩)), (4, .pointer (some ⟨w.heap.size + 2, 0, none⟩))] → q.1 < 13 := by
    intro q hq
    simp only [List.mem_cons, List.not_mem_nil, or_false] at hq
    rcases hq with rfl | rfl | rfl <;> simp
  refine wp_region_any (by kernel_rfl) ?_
  refine wpAny_inv (Wy 9 41 13 4 3 3 [(1, .pointer (some ⟨w.heap.size, 0, none⟩)), (2, .pointer (some ⟨w.heap.size + 1, 0, none⟩)), (4, .pointer (some ⟨w.heap.size + 2, 0, none⟩))] (BgF w n k G T) (BgI w n T (.int .u64 (G : Int)) zero7 ([.int .u8 (k : Int), .int .u64 (G : Int), .int .u64 (n : Int), .string ⟨#[]⟩, .slice none 0 0, .int .i64 0, .bool false]) S 0 Rest F)) ?hsize ?step ?last _ _ _ _ (by decide) (Wy.start rfl ?size ?base (by decide) (by decide) (fun v => ⟨(fun h => by cases h), HB2.out, HS2.out, HR2.out, HX2.out.drew⟩))
  case hsize => exact fun L a w h => h.size
  case size => rfl
  case base =>
    intro q hq
    simp only [List.mem_cons, List.not_mem_nil, or_false] at hq
    rcases hq with rfl | rfl | rfl
    · rfl
    · rfl
    · rfl
  case step =>
    intro L a' w' i h hi
    have hlt : i < 9 := (ready_spec hi).1
    obtain ⟨Y, D⟩ := a'
    obtain rfl : D = [] := h.defers
    have b1 : Y[1]?.getD undef = .pointer (some ⟨w.heap.size, 0, none⟩) := h.ahead (1, _) (by simp)
    have b2 : Y[2]?.getD undef = .pointer (some ⟨w.heap.size + 1, 0, none⟩) := h.ahead (2, _) (by simp)
    have b4 : Y[4]?.getD undef = .pointer (some ⟨w.heap.size + 2, 0, none⟩) := h.ahead (4, _) (by simp)
    have hinv := Lib.hid h.inv
    rcases (show i = 0 ∨ i = 1 ∨ i = 2 ∨ i = 3 ∨ i = 4 ∨ i = 5 ∨ i = 6 ∨ i = 7 ∨ i = 8 by omega) with rfl | rfl | rfl | rfl | rfl | rfl | rfl | rfl | rfl
    · refine wpOp_step rfl (fun K hK => ?_)
      go_simp
      exact hK _ _ (h.put (by decide) hbase 0 13 (by decide) (by decide) rfl _ rfl (fun q => absurd q (by decide)))
    · have d0 := ready_after hi _ rfl 0 _ rfl rfl
      have f0 : Y[13]?.getD undef = .pointer (some ⟨w.heap.size, 1, none⟩) := h.at 0 13 (by decide) (by decide) rfl d0
      have cb := hinv.out.2.1.cell 1 _ rfl
      refine wpOp_step rfl (fun K hK => ?_)
      go_simp
      exact hK _ _ (h.put (by decide) hbase 1 14 (by decide) (by decide) rfl _ rfl (fun q => absurd q (by decide)))
    · have d1 := ready_after hi _ rfl 0 _ rfl rfl
      have f1 : Y[14]?.getD undef = .string T := h.at 1 14 (by decide) (by decide) rfl d1
      refine wpOp_step rfl (fun K hK => ?_)
      go_simp
      exact hK _ _ (h.put (by decide) hbase 2 15 (by decide) (by decide) rfl _ rfl (fun q => absurd q (by decide)))
    · refine wpOp_step rfl (fun K hK => ?_)
      go_simp
      exact hK _ _ (h.put (by decide) hbase 3 16 (by decide) (by decide) rfl _ rfl (fun _ => .inl rfl))
    · have d3 := ready_after hi _ rfl 0 _ rfl rfl
      have f3 : Y[16]?.getD undef = .pointer (some ⟨w.heap.size + 2, 0, none⟩) := h.at 3 16 (by decide) (by decide) rfl d3
      have hx4 := (ready_spec hi).2.1
      have h1 := hinv.out
      rw [hx4] at h1
      obtain ⟨_, hb', hs', hr', hx'⟩ := h1
      refine wpOp_step rfl (fun K hK => ?_)
      go_simp
      go_at_call 103
      refine (HU'.out _ _ hr').mono ?_
      rintro e w5 ⟨rfl, hr5, m5⟩
      exact hK _ _ (h.law (by decide) hbase 17 (by decide) (by decide) rfl (bit_of d3) _ ⟨fun _ => rfl, hb'.moded m5 (by omega), hs'.moded m5 (by omega), hr5, hx'.moded m5 (by omega)⟩)
    · refine wpOp_step rfl (fun K hK => ?_)
      go_simp
      exact hK _ _ (h.put (by decide) hbase 5 18 (by decide) (by decide) rfl _ rfl (fun q => absurd q (by decide)))
    · have d5 := ready_after hi _ rfl 0 _ rfl rfl
      have f5 : Y[18]?.getD undef = .pointer (some ⟨w.heap.size, 0, none⟩) := h.at 5 18 (by decide) (by decide) rfl d5
      have cb := hinv.out.2.1.cell 0 _ rfl
      refine wpOp_step rfl (fun K hK => ?_)
      go_simp
      exact hK _ _ (h.put (by decide) hbase 6 19 (by decide) (by decide) rfl _ rfl (fun q => absurd q (by decide)))
    · have d2 := ready_after hi _ rfl 0 _ rfl rfl
      have f2 : Y[15]?.getD undef = .int .u8 (k : Int) := h.at 2 15 (by decide) (by decide) rfl d2
      have d4 := ready_after hi _ rfl 1 _ rfl rfl
      have d6 := ready_after hi _ rfl 2 _ rfl rfl
      have f6 : Y[19]?.getD undef = .int .u64 (n : Int) := h.at 6 19 (by decide) (by decide) rfl d6
      have h1 := hinv.out.1 (bit_of d4)
      have f4 : Y[17]?.getD undef = .int .u64 (G : Int) := by rw [← Array.getD_eq_getD_getElem?]; exact h1
      refine wpOp_step rfl (fun K hK => ?_)
      go_simp
      exact hK _ _ (h.put (by decide) hbase 7 20 (by decide) (by decide) rfl _ rfl (fun q => absurd q (by decide)))
    · have d7 := ready_after hi _ rfl 0 _ rfl rfl
      have f7 : Y[20]?.getD undef = .agg #[.int .u8 (k : Int), .int .u64 (G : Int), .int .u64 (n : Int), .string ⟨#[]⟩, .slice none 0 0, .int .i64 0, .bool false] := h.at 7 20 (by decide) (by decide) rfl d7
      have d4 := ready_after hi _ rfl 1 _ rfl rfl
      have hx8 : L.getD (9 - 1) true = false := (ready_spec hi).2.1
      have h1 := hinv.out
      have q4 : L.getD 4 true = true := bit_of d4
      rw [hx8, q4] at h1
      obtain ⟨hv', hb', hs', hr', hx'⟩ := h1
      have s0 := Blk.cell hs' 0 _ rfl
      have s1 := Blk.cell hs' 1 _ rfl
      have s2 := Blk.cell hs' 2 _ rfl
      have s3 := Blk.cell hs' 3 _ rfl
      have s4 := Blk.cell hs' 4 _ rfl
      have s5 := Blk.cell hs' 5 _ rfl
      have s6 := Blk.cell hs' 6 _ rfl
      have g0 := Blk.frozen hs' 0
      have g1 := Blk.frozen hs' 1
      have g2 := Blk.frozen hs' 2
      have g3 := Blk.frozen hs' 3
      have g4 := Blk.frozen hs' 4
      have g5 := Blk.frozen hs' 5
      have g6 := Blk.frozen hs' 6
      have HS' := Lib.hid hs'
      clear hv' hb' hs' hr' hx'
      refine wpOp_step rfl (fun K hK => ?_)
      go_simp
      obtain ⟨v0, b0', s0', r0', x0'⟩ := hinv.out
      exact hK _ _ (h.store (by decide) (by decide) ⟨v0, Blk.other7 b0' (by omega) _ _ _ _ _ _ _, by rw [if_pos rfl]; exact Blk.set7 HS'.out _ _ _ _ _ _ _, Blk.other7 r0' (by omega) _ _ _ _ _ _ _, Ext.set7 x0' (by omega) _ _ _ _ _ _ _⟩ undef)
  case last =>
    intro L a' w4 h hr
    have q8 : L.getD (9 - 1) true = true := all_done h.size (by kernel_rfl) hr 8 (by decide)
    have q4 : L.getD 4 true = true := all_done h.size (by kernel_rfl) hr 4 (by decide)
    have hv := h.inv
    rw [q8, q4] at hv
    obtain ⟨_, hb4, hs4, hr4, hx4⟩ := hv
    have HB4 := Lib.hid hb4; have HS4 := Lib.hid hs4; have HR4 := Lib.hid hr4; have HX4 := Lib.hid hx4
    have hsz4 := h.tmps
    have e1 : a'.tmps.getD 1 undef = .pointer (some ⟨w.heap.size, 0, none⟩) := h.base (1, _) (by simp)
    have e2 : a'.tmps.getD 2 undef = .pointer (some ⟨w.heap.size + 1, 0, none⟩) := h.base (2, _) (by simp)
    have e4 : a'.tmps.getD 4 undef = .pointer (some ⟨w.heap.size + 2, 0, none⟩) := h.base (4, _) (by simp)
    obtain ⟨Z, D⟩ := a'
    obtain rfl : D = [] := h.defers
    clear hb4 hs4 hr4 hx4 h hr q8 q4 HB2 HS2 HR2 HX2 d0 d1 hbase HU'
    go_wp2
    have hbase : ∀ q : Nat × Value, q ∈ [(1, .pointer (some ⟨w.heap.size, 0, none⟩)), (2, .pointer (some ⟨w.heap.size + 1, 0, none⟩)), (4, .pointer (some ⟨w.heap.size + 2, 0, none⟩))] → q.1 < 21 := by
      intro q hq
      simp only [List.mem_cons, List.not_mem_nil, or_false] at hq
      rcases hq with rfl | rfl | rfl <;> simp
    refine wp_region_any (by kernel_rfl) ?_
    refine wpAny_inv (Wy 11 41 21 6 5 5 [(1, .pointer (some ⟨w.heap.size, 0, none⟩)), (2, .pointer (some ⟨w.heap.size + 1, 0, none⟩)), (4, .pointer (some ⟨w.heap.size + 2, 0, none⟩))] (BgG w T Tx Rest) (BgI w n T (.int .i64 (Rest.size : Int)) ([.int .u8 (k : Int), .int .u64 (G : Int), .int .u64 (n : Int), .string ⟨#[]⟩, .slice none 0 0, .int .i64 0, .bool false]) ([.int .u8 (k : Int), .int .u64 (G : Int), .int .u64 (n : Int), .string Tx, .slice none 0 0, .int .i64 0, .bool false]) Rest F Rest F)) ?hsize ?step ?last _ _ _ _ (by decide) (Wy.start rfl ?size ?base (by decide) (by decide) (fun v => ⟨(fun h => by cases h), HB4.out, HS4.out, HR4.out, HX4.out.drew⟩))
    case hsize => exact fun L a w h => h.size
    case size => exact hsz4
    case base =>
      intro q hq
      simp only [List.mem_cons, List.not_mem_nil, or_false] at hq
      rcases hq with rfl | rfl | rfl
      · exact e1
      · exact e2
      · exact e4
    case step =>
      intro L a' w' i h hi
      have hlt : i < 11 := (ready_spec hi).1
      obtain ⟨Y, D⟩ := a'
      obtain rfl : D = [] := h.defers
      have b1 : Y[1]?.getD undef = .pointer (some ⟨w.heap.size, 0, none⟩) := h.ahead (1, _) (by simp)
      have b2 : Y[2]?.getD undef = .pointer (some ⟨w.heap.size + 1, 0, none⟩) := h.ahead (2, _) (by simp)
      have b4 : Y[4]?.getD undef = .pointer (some ⟨w.heap.size + 2, 0, none⟩) := h.ahead (4, _) (by simp)
      have hinv := Lib.hid h.inv
      rcases (show i = 0 ∨ i = 1 ∨ i = 2 ∨ i = 3 ∨ i = 4 ∨ i = 5 ∨ i = 6 ∨ i = 7 ∨ i = 8 ∨ i = 9 ∨ i = 10 by omega) with rfl | rfl | rfl | rfl | rfl | rfl | rfl | rfl | rfl | rfl | rfl
      · refine wpOp_step rfl (fun K hK => ?_)
        go_simp
        exact hK _ _ (h.put (by decide) hbase 0 21 (by decide) (by decide) rfl _ rfl (fun q => absurd q (by decide)))
      · have d0 := ready_after hi _ rfl 0 _ rfl rfl
        have f0 : Y[21]?.getD undef = .pointer (some ⟨w.heap.size, 1, none⟩) := h.at 0 21 (by decide) (by decide) rfl d0
        have cb := hinv.out.2.1.cell 1 _ rfl
        refine wpOp_step rfl (fun K hK => ?_)
        go_simp
        exact hK _ _ (h.put (by decide) hbase 1 22 (by decide) (by decide) rfl _ rfl (fun q => absurd q (by decide)))
      · refine wpOp_step rfl (fun K hK => ?_)
        go_simp
        exact hK _ _ (h.put (by decide) hbase 2 23 (by decide) (by decide) rfl _ rfl (fun q => absurd q (by decide)))
      · have d2 := ready_after hi _ rfl 0 _ rfl rfl
        have f2 : Y[23]?.getD undef = .pointer (some ⟨w.heap.size, 1, none⟩) := h.at 2 23 (by decide) (by decide) rfl d2
        have cb := hinv.out.2.1.cell 1 _ rfl
        refine wpOp_step rfl (fun K hK => ?_)
        go_simp
        exact hK _ _ (h.put (by decide) hbase 3 24 (by decide) (by decide) rfl _ rfl (fun q => absurd q (by decide)))
      · have d3 := ready_after hi _ rfl 0 _ rfl rfl
        have f3 : Y[24]?.getD undef = .string T := h.at 3 24 (by decide) (by decide) rfl d3
        refine wpOp_step rfl (fun K hK => ?_)
        go_simp
        exact hK _ _ (h.put (by decide) hbase 4 25 (by decide) (by decide) rfl _ rfl (fun q => absurd q (by decide)))
      · refine wpOp_step rfl (fun K hK => ?_)
        go_simp
        exact hK _ _ (h.put (by decide) hbase 5 26 (by decide) (by decide) rfl _ rfl (fun _ => .inl rfl))
      · have d5 := ready_after hi _ rfl 0 _ rfl rfl
        have f5 : Y[26]?.getD undef = .pointer (some ⟨w.heap.size + 2, 0, none⟩) := h.at 5 26 (by decide) (by decide) rfl d5
        have hx6 := (ready_spec hi).2.1
        have h1 := hinv.out
        rw [hx6] at h1
        obtain ⟨_, hb', hs', hr', hx'⟩ := h1
        refine wpOp_step rfl (fun K hK => ?_)
        go_simp
        go_at_call 104
        refine (Left_any _ _ _ _ hr').mono ?_
        rintro e w5 ⟨rfl, rfl⟩
        exact hK _ _ (h.law (by decide) hbase 27 (by decide) (by decide) rfl (bit_of d5) _ ⟨fun _ => rfl, hb', hs', hr', hx'⟩)
      · have d4 := ready_after hi _ rfl 0 _ rfl rfl
        have f4 : Y[25]?.getD undef = .int .i64 (T.size : Int) := h.at 4 25 (by decide) (by decide) rfl d4
        have d6 := ready_after hi _ rfl 1 _ rfl rfl
        have h1 := hinv.out.1 (bit_of d6)
        have f6 : Y[27]?.getD undef = .int .i64 (Rest.size : Int) := by rw [← Array.getD_eq_getD_getElem?]; exact h1
        refine wpOp_step rfl (fun K hK => ?_)
        go_simp
        exact hK _ _ (h.put (by decide) hbase 7 28 (by decide) (by decide) rfl _ rfl (fun q => absurd q (by decide)))
      · have d1 := ready_after hi _ rfl 0 _ rfl rfl
        have f1 : Y[22]?.getD undef = .string T := h.at 1 22 (by decide) (by decide) rfl d1
        have d7 := ready_after hi _ rfl 1 _ rfl rfl
        have f7 : Y[28]?.getD undef = .int .i64 ((T.size : Int) - (Rest.size : Int)) := h.at 7 28 (by decide) (by decide) rfl d7
        refine wpOp_step rfl (fun K hK => ?_)
        go_simp
        exact hK _ _ (h.put (by decide) hbase 8 29 (by decide) (by decide) rfl _ rfl (fun q => absurd q (by decide)))
      · refine wpOp_step rfl (fun K hK => ?_)
        go_simp
        exact hK _ _ (h.put (by decide) hbase 9 30 (by decide) (by decide) rfl _ rfl (fun q => absurd q (by decide)))
      · have d9 := ready_after hi _ rfl 0 _ rfl rfl
        have f9 : Y[30]?.getD undef = .pointer (some ⟨w.heap.size + 1, 3, none⟩) := h.at 9 30 (by decide) (by decide) rfl d9
        have d8 := ready_after hi _ rfl 1 _ rfl rfl
        have f8 : Y[29]?.getD undef = .string Tx := h.at 8 29 (by decide) (by decide) rfl d8
        have hx10 : L.getD (11 - 1) true = false := (ready_spec hi).2.1
        have h1 := hinv.out
        rw [hx10] at h1
        obtain ⟨hv', hb', hs', hr', hx'⟩ := h1
        have g3 := Blk.frozen hs' 3
        have s3 := Blk.cell hs' 3 _ rfl
        have HS' := Lib.hid hs'
        clear hv' hb' hs' hr' hx'
        refine wpOp_step rfl (fun K hK => ?_)
        go_simp
        obtain ⟨v0, b0', s0', r0', x0'⟩ := hinv.out
        exact hK _ _ (h.store (by decide) (by decide) ⟨v0, Blk.other b0' (by omega) 3 _, by rw [if_pos rfl]; exact Blk.set_ HS'.out 3 _, Blk.other r0' (by omega) 3 _, x0'.setCell (p := ⟨w.heap.size + 1, 3, none⟩) (by show w.heap.size ≤ w.heap.size + 1; omega) _⟩ undef)
    case last =>
      intro L a' w5 h hr
      have q8 : L.getD (11 - 1) true = true := all_done h.size (by kernel_rfl) hr 10 (by decide)
      have q4 : L.getD 6 true = true := all_done h.size (by kernel_rfl) hr 6 (by decide)
      have hv := h.inv
      rw [q8, q4] at hv
      obtain ⟨_, hb5, hs5, hr5, hx5⟩ := hv
      have HB5 := Lib.hid hb5; have HS5 := Lib.hid hs5; have HR5 := Lib.hid hr5; have HX5 := Lib.hid hx5
      have hsz5 := h.tmps
      have e1 : a'.tmps.getD 1 undef = .pointer (some ⟨w.heap.size, 0, none⟩) := h.base (1, _) (by simp)
      have e2 : a'.tmps.getD 2 undef = .pointer (some ⟨w.heap.size + 1, 0, none⟩) := h.base (2, _) (by simp)
      have e4 : a'.tmps.getD 4 undef = .pointer (some ⟨w.heap.size + 2, 0, none⟩) := h.base (4, _) (by simp)
      obtain ⟨Y, D⟩ := a'
      obtain rfl : D = [] := h.defers
      dsimp only at e1 e2 e4 hsz5
      obtain ⟨YL, rfl⟩ : ∃ YL : List Value, Y = YL.toArray := ⟨Y.toList, by simp⟩
      have hl0 : YL.length = 41 := by simpa using hsz5
      obtain ⟨y0, Y0, rfl, hl1⟩ := cons_of YL hl0
      obtain ⟨y1, Y1, rfl, hl2⟩ := cons_of Y0 hl1
      obtain ⟨y2, Y2, rfl, hl3⟩ := cons_of Y1 hl2
      obtain ⟨y3, Y3, rfl, hl4⟩ := cons_of Y2 hl3
      obtain ⟨y4, Y4, rfl, hl5⟩ := cons_of Y3 hl4
      obtain ⟨y5, Y5, rfl, hl6⟩ := cons_of Y4 hl5
      obtain ⟨y6, Y6, rfl, hl7⟩ := cons_of Y5 hl6
      obtain ⟨y7, Y7, rfl, hl8⟩ := cons_of Y6 hl7
      obtain ⟨y8, Y8, rfl, hl9⟩ := cons_of Y7 hl8
      obtain ⟨y9, Y9, rfl, hl10⟩ := cons_of Y8 hl9
      obtain ⟨y10, Y10, rfl, hl11⟩ := cons_of Y9 hl10
      obtain ⟨y11, Y11, rfl, hl12⟩ := cons_of Y10 hl11
      obtain ⟨y12, Y12, rfl, hl13⟩ := cons_of Y11 hl12
      obtain ⟨y13, Y13, rfl, hl14⟩ := cons_of Y12 hl13
      obtain ⟨y14, Y14, rfl, hl15⟩ := cons_of Y13 hl14
      obtain ⟨y15, Y15, rfl, hl16⟩ := cons_of Y14 hl15
      obtain ⟨y16, Y16, rfl, hl17⟩ := cons_of Y15 hl16
      obtain ⟨y17, Y17, rfl, hl18⟩ := cons_of Y16 hl17
      obtain ⟨y18, Y18, rfl, hl19⟩ := cons_of Y17 hl18
      obtain ⟨y19, Y19, rfl, hl20⟩ := cons_of Y18 hl19
      obtain ⟨y20, Y20, rfl, hl21⟩ := cons_of Y19 hl20
      obtain ⟨y21, Y21, rfl, hl22⟩ := cons_of Y20 hl21
      obtain ⟨y22, Y22, rfl, hl23⟩ := cons_of Y21 hl22
      obtain ⟨y23, Y23, rfl, hl24⟩ := cons_of Y22 hl23
      obtain ⟨y24, Y24, rfl, hl25⟩ := cons_of Y23 hl24
      obtain ⟨y25, Y25, rfl, hl26⟩ := cons_of Y24 hl25
      obtain ⟨y26, Y26, rfl, hl27⟩ := cons_of Y25 hl26
      obtain ⟨y27, Y27, rfl, hl28⟩ := cons_of Y26 hl27
      obtain ⟨y28, Y28, rfl, hl29⟩ := cons_of Y27 hl28
      obtain ⟨y29, Y29, rfl, hl30⟩ := cons_of Y28 hl29
      obtain ⟨y30, Y30, rfl, hl31⟩ := cons_of Y29 hl30
      obtain ⟨y31, Y31, rfl, hl32⟩ := cons_of Y30 hl31
      obtain ⟨y32, Y32, rfl, hl33⟩ := cons_of Y31 hl32
      obtain ⟨y33, Y33, rfl, hl34⟩ := cons_of Y32 hl33
      obtain ⟨y34, Y34, rfl, hl35⟩ := cons_of Y33 hl34
      obtain ⟨y35, Y35, rfl, hl36⟩ := cons_of Y34 hl35
      obtain ⟨y36, Y36, rfl, hl37⟩ := cons_of Y35 hl36
      obtain ⟨y37, Y37, rfl, hl38⟩ := cons_of Y36 hl37
      obtain ⟨y38, Y38, rfl, hl39⟩ := cons_of Y37 hl38
      obtain ⟨y39, Y39, rfl, hl40⟩ := cons_of Y38 hl39
      obtain ⟨y40, Y40, rfl, hl41⟩ := cons_of Y39 hl40
      obtain rfl : Y40 = [] := List.length_eq_zero_iff.1 hl41
      obtain rfl : y1 = .pointer (some ⟨w.heap.size, 0, none⟩) := by simpa using e1
      obtain rfl : y2 = .pointer (some ⟨w.heap.size + 1, 0, none⟩) := by simpa using e2
      obtain rfl : y4 = .pointer (some ⟨w.heap.size + 2, 0, none⟩) := by simpa using e4
      clear hl0 hl1 hl2 hl3 hl4 hl5 hl6 hl7 hl8 hl9 hl10 hl11 hl12 hl13 hl14 hl15 hl16 hl17 hl18 hl19 hl20 hl21 hl22 hl23 hl24 hl25 hl26 hl27 hl28 hl29 hl30 hl31 hl32 hl33 hl34 hl35 hl36 hl37 hl38 hl39 hl40 hl41
      clear hb5 hs5 hr5 hx5 h hr q8 q4 hbase HB4 HS4 HR4 HX4 hsz4 hsz5 e1 e2 e4
      have HE := Lib.hid (Err_any w5 (w.heap.size + 2) Rest F HR5.out)
      have t0 := Blk.cell HS5.out 0 _ rfl
      have t1 := Blk.cell HS5.out 1 _ rfl
      have t2 := Blk.cell HS5.out 2 _ rfl
      have t3 := Blk.cell HS5.out 3 _ rfl
      have t4 := Blk.cell HS5.out 4 _ rfl
      have t5 := Blk.cell HS5.out 5 _ rfl
      have t6 := Blk.cell HS5.out 6 _ rfl
      by_cases hF : F = 0
      · have hF0 : ((F : Int) != 0) = false := by simp [hF]
        by_cases hm : MayB k G n Tx
        · have hv := HV.out
          rw [if_pos (show F = 0 ∧ MayB k G n Tx from ⟨hF, hm⟩)] at hv
          have HV2 := Lib.hid hv
          rw [decide_eq_true hm] at HM
          clear hF hm hv
          go_wp2_with (first
            | (go_at_call 105; refine (HE.out).mono ?_; rintro e w6 ⟨rfl, rfl⟩)
            | (go_at_call 74; refine (HM.out _).mono ?_; rintro e w6 ⟨rfl, x6⟩; have hS6 := HS5.out.ext x6; have X6 := Lib.hid x6; have u0 := Blk.cell hS6 0 _ rfl; have u1 := Blk.cell hS6 1 _ rfl; have u2 := Blk.cell hS6 2 _ rfl; have u3 := Blk.cell hS6 3 _ rfl; have u4 := Blk.cell hS6 4 _ rfl; have u5 := Blk.cell hS6 5 _ rfl; have u6 := Blk.cell hS6 6 _ rfl; have g0 := Blk.frozen hS6 0; have g1 := Blk.frozen hS6 1; have g2 := Blk.frozen hS6 2; have g3 := Blk.frozen hS6 3; have g4 := Blk.frozen hS6 4; have g5 := Blk.frozen hS6 5; have g6 := Blk.frozen hS6 6; have HS6 := Lib.hid hS6; clear x6 hS6 t0 t1 t2 t3 t4 t5 t6))
          exact bodyPost_ret (results_seg rfl _ _ (w.heap.size + 1) 119 _ _ _ _ _ _ _ (0, 0) rfl (Blk.set7 HS6.out _ _ _ _ _ _ _)) rfl ⟨by rw [HV2.out] <;> rfl, Ext.set7 (HX5.out.trans X6.out) (by omega) _ _ _ _ _ _ _⟩
        · have hv := HV.out
          rw [if_neg (show ¬ (F = 0 ∧ MayB k G n Tx) from fun h => hm h.2)] at hv
          have HV2 := Lib.hid hv
          rw [decide_eq_false hm] at HM
          clear hF hm hv
          go_wp2_with (first
            | (go_at_call 105; refine (HE.out).mono ?_; rintro e w6 ⟨rfl, rfl⟩)
            | (go_at_call 74; refine (HM.out _).mono ?_; rintro e w6 ⟨rfl, x6⟩; have hS6 := HS5.out.ext x6; have X6 := Lib.hid x6; have u0 := Blk.cell hS6 0 _ rfl; have u1 := Blk.cell hS6 1 _ rfl; have u2 := Blk.cell hS6 2 _ rfl; have u3 := Blk.cell hS6 3 _ rfl; have u4 := Blk.cell hS6 4 _ rfl; have u5 := Blk.cell hS6 5 _ rfl; have u6 := Blk.cell hS6 6 _ rfl; have g0 := Blk.frozen hS6 0; have g1 := Blk.frozen hS6 1; have g2 := Blk.frozen hS6 2; have g3 := Blk.frozen hS6 3; have g4 := Blk.frozen hS6 4; have g5 := Blk.frozen hS6 5; have g6 := Blk.frozen hS6 6; have HS6 := Lib.hid hS6; clear x6 hS6 t0 t1 t2 t3 t4 t5 t6))
          exact bodyPost_ret (results_seg rfl _ _ (w.heap.size + 1) 119 _ _ _ _ _ _ _ (0, 0) rfl (Blk.set7 HS6.out _ _ _ _ _ _ _)) rfl ⟨by rw [HV2.out] <;> rfl, Ext.set7 (HX5.out.trans X6.out) (by omega) _ _ _ _ _ _ _⟩
      · have hF0 : ((F : Int) != 0) = true := by rw [bne_iff_ne]; omega
        have hv := HV.out
        rw [if_neg (show ¬ (F = 0 ∧ MayB k G n Tx) from fun h => hF h.1)] at hv
        have HV2 := Lib.hid hv
        have g0 := Blk.frozen HS5.out 0
        have g1 := Blk.frozen HS5.out 1
        have g2 := Blk.frozen HS5.out 2
        have g3 := Blk.frozen HS5.out 3
        have g4 := Blk.frozen HS5.out 4
        have g5 := Blk.frozen HS5.out 5
        have g6 := Blk.frozen HS5.out 6
        clear hF hv
        go_wp2_with (go_at_call 105; refine (HE.out).mono ?_; rintro e w6 ⟨rfl, rfl⟩)
        exact bodyPost_ret (results_seg rfl _ _ (w.heap.size + 1) 119 _ _ _ _ _ _ _ (0, 0) rfl (Blk.set7 HS5.out _ _ _ _ _ _ _)) rfl ⟨by rw [HV2.out] <;> rfl, Ext.set7 HX5.out (by omega) _ _ _ _ _ _ _⟩
end Go.Proofs.YtbekdcpdfmfopaaGreat
