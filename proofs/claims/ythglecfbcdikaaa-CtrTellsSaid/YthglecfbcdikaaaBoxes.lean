/- Contracts: the box of each byte, and the byte of each box, by the program. -/
import Derived.Test.YthglecfbcdikaaaInv
import Derived.Outline
namespace Go.Proofs.Ythglecfbcdikaaa
open Go.RowKit

theorem invB_at (i : Nat) (h : i < 256) : invB[i]? = some (UInt8.ofNat (invN i)) := by
  have : ∀ i, i < 256 → invB[i]? = some (UInt8.ofNat (invN i)) := by decide +kernel
  exact this i h
theorem box_chain : ∀ i, i < 256 → ((((invN i ^^^ rlB (invN i) 1) ^^^ rlB (invN i) 2) ^^^ rlB (invN i) 3) ^^^ rlB (invN i) 4) ^^^ 99 = (boxB (UInt8.ofNat i)).toNat := by decide +kernel
/-- The bytes of the boxes, as they are laid. -/
def unS : Nat → List UInt8
  | 0 => List.replicate 256 0
  | i + 1 => (unS i).set (boxB (UInt8.ofNat i)).toNat (UInt8.ofNat i)
theorem unS_length : ∀ i, (unS i).length = 256
  | 0 => List.length_replicate
  | i + 1 => by rw [unS, List.length_set, unS_length i]
theorem unS_all : unS 256 = unboxT := by decide +kernel
theorem unboxT_length : unboxT.length = 256 := by decide +kernel
def bxS (i : Nat) : List UInt8 := boxT.take i ++ List.replicate (256 - i) 0
theorem bxS_length (i : Nat) (h : i ≤ 256) : (bxS i).length = 256 := by
  unfold bxS
  rw [List.length_append, List.length_take, boxT_length, List.length_replicate]; omega
theorem bxS_step (i : Nat) (h : i < 256) : (bxS i).set i (boxB (UInt8.ofNat i)) = bxS (i + 1) := by
  unfold bxS
  have e2 : 256 - i = (256 - (i + 1)) + 1 := by omega
  rw [boxT_take i h, List.set_append_right _ _ (by rw [List.length_take, boxT_length]; omega), List.length_take, boxT_length, Nat.min_eq_left (by omega), Nat.sub_self, e2, List.replicate_succ]
  simp
def boxesL : List UInt8 := boxT ++ unboxT
theorem boxesL_length : boxesL.length = 512 := by unfold boxesL; rw [List.length_append, boxT_length, unboxT_length]
theorem boxesL_at (j : Nat) (h : j < 256) : boxesL[j]? = some (boxB (UInt8.ofNat j)) := by
  unfold boxesL
  rw [List.getElem?_append_left (by rw [boxT_length]; exact h), boxT_at j h]
theorem unboxT_at (j : Nat) (h : j < 256) : unboxT[j]? = some (unboxB (UInt8.ofNat j)) := by
  have hj : j < unboxT.length := by rw [unboxT_length]; exact h
  have e : (UInt8.ofNat j).toNat = j := by rw [UInt8.toNat_ofNat']; omega
  unfold unboxB
  rw [e, List.getD_eq_getElem?_getD, List.getElem?_eq_getElem hj]; rfl
theorem boxesL_un (j : Nat) (h : j < 256) : boxesL[256 + j]? = some (unboxB (UInt8.ofNat j)) := by
  unfold boxesL
  rw [List.getElem?_append_right (by rw [boxT_length]; omega), boxT_length, Nat.add_sub_cancel_left, unboxT_at j h]
theorem boxesL_done : bxS 256 ++ unS 256 = boxesL := by
  unfold bxS boxesL
  rw [unS_all, Nat.sub_self, List.replicate_zero, List.append_nil, List.take_of_length_le (by rw [boxT_length]; exact Nat.le_refl _)]
theorem bxS_zero : bxS 0 ++ unS 0 = List.replicate 512 0 := by
  unfold bxS unS
  rw [List.take_zero, List.nil_append, List.replicate_append_replicate]
theorem unS_succ (i : Nat) : unS (i + 1) = (unS i).set (boxB (UInt8.ofNat i)).toNat (UInt8.ofNat i) := rfl
attribute [irreducible] boxesL bxS unS
set_option maxRecDepth 100000 in
set_option maxHeartbeats 1000000 in
theorem newBoxes_any (w : World) : Calls Try.prog 22 #[] w fun e w' => e = .returned (.agg (boxesL.map cellOf).toArray) ∧ Ext w w' := by
  have hz := zero_run zero512
  have HI := Lib.hid invB_at
  have HC := Lib.hid box_chain
  have HN := Lib.hid (fun i (h : i < 256) => (invN_spec i h).1)
  go_enter Try.func22, Try.ntmps22
  go_wp2_with (go_at_call 33; refine (inverses_any _).mono ?_; rintro e w1 ⟨rfl, h1⟩)
  have hb0 : Row w1 (w.heap.size + 1) 51 (bxS 0 ++ unS 0) := by rw [bxS_zero]; exact Row.ext (Row.zero (w.alloc _) _ 512) h1 |> fun h => by simpa using h
  have hr0 : Row w1 w.heap.size 51 (List.replicate 512 0) := ((Row.zero w _ 512).alloc _).ext h1
  have hx0 : Ext w w1 := (((Ext.refl w).alloc _).alloc _).trans h1
  clear h1
  go_loopw [6] (fun i wr => ∃ j : Nat, j ≤ 256 ∧ i = .int .i64 j ∧ Row wr (w.heap.size + 1) 51 (bxS j ++ unS j) ∧ Row wr w.heap.size 51 (List.replicate 512 0) ∧ Ext w wr) (fun i _ => 256 - (intOf i).toNat)
  case atStart => exact ⟨0, Nat.zero_le _, rfl, hb0, hr0, hx0⟩
  case round =>
    clear hb0 hr0 hx0
    obtain ⟨i, hi, rfl, hrow, hres, hext⟩ := hrel
    by_cases hlt : i < 256
    · have hcn := HN.out i hlt
      have hix : ∀ u, (Instr.index 49 (.agg (invB.map cellOf).toArray) (.int .i64 (i : Int))).run Try.prog u = .ok (.int .u8 (invN i : Nat)) u := fun u => by
        rw [index_bytes 49 256 Try.underlying49 invB invB_length i _ (HI.out i hlt) u, UInt8.toNat_ofNat', Nat.mod_eq_of_lt hcn]
      have hchain := HC.out i hlt
      generalize invN i = c at *
      have l1 := rlB_lt (r := 1) hcn; have l2 := rlB_lt (r := 2) hcn; have l3 := rlB_lt (r := 3) hcn; have l4 := rlB_lt (r := 4) hcn
      have m1 := xor_lt256 hcn l1; have m2 := xor_lt256 m1 l2; have m3 := xor_lt256 m2 l3; have m4 := xor_lt256 m3 l4
      have x1 := u8_xor_nat _ _ hcn l1
      have x2 := u8_xor_nat _ _ m1 l2
      have x3 := u8_xor_nat _ _ m2 l3
      have x4 := u8_xor_nat _ _ m3 l4
      have x5 := u8_xor_nat _ 99 m4 (by decide)
      rw [hchain] at x5
      have x5 : bits BinOp.xor IntKind.u8 ((c ^^^ rlB c 1 ^^^ rlB c 2 ^^^ rlB c 3 ^^^ rlB c 4 : Nat) : Int) 99 = ((boxB (UInt8.ofNat i)).toNat : Int) := x5
      have hsl : (boxB (UInt8.ofNat i)).toNat < 256 := (boxB (UInt8.ofNat i)).toNat_lt
      have HU : Hid (unS (i + 1) = (unS i).set (boxB (UInt8.ofNat i)).toNat (UInt8.ofNat i)) := Lib.hid (unS_succ i)
      have HB := Lib.hid (bxS_step i hlt)
      have HBL := Lib.hid (bxS_length i hi); have HBL1 := Lib.hid (bxS_length (i + 1) hlt)
      generalize boxB (UInt8.ofNat i) = B at *
      obtain ⟨s, hs⟩ : ∃ s, B.toNat = s := ⟨_, rfl⟩
      have H1 : Hid (∀ u, Row u (w.heap.size + 1) 51 (bxS i ++ unS i) → Row (u.setCell ⟨w.heap.size + 1, i, none⟩ (.int .u8 (s : Int))) (w.heap.size + 1) 51 (bxS (i + 1) ++ unS i)) := Lib.hid (fun u hu => by
        have h := hu.set_ i (s : Int) (by omega) (by omega)
        rw [List.set_append_left _ _ (by rw [HBL.out]; exact hlt)] at h
        have e : UInt8.ofNat ((s : Int)).toNat = B := by rw [← hs]; simp
        rw [e, HB.out] at h
        exact h)
      have H2 : Hid (∀ u, Row u (w.heap.size + 1) 51 (bxS (i + 1) ++ unS i) → Row (u.setCell ⟨w.heap.size + 1, 256 + s, none⟩ (.int .u8 (i : Int))) (w.heap.size + 1) 51 (bxS (i + 1) ++ unS (i + 1))) := Lib.hid (fun u hu => by
        have h := hu.set_ (256 + s) (i : Int) (by omega) (by omega)
        rw [List.set_append_right _ _ (by rw [HBL1.out]; omega), HBL1.out, Nat.add_sub_cancel_left, Int.toNat_natCast] at h
        rw [HU.out, hs]
        exact h)
      have HC1 : Hid (∀ u, Row u (w.heap.size + 1) 51 (bxS i ++ unS i) → ∃ v, u.cell? ⟨w.heap.size + 1, i, none⟩ = some v) := Lib.hid (fun u hu => ⟨_, hu.cell i _ (List.getElem?_eq_getElem (by rw [List.length_append, HBL.out]; omega))⟩)
      have HC2 : Hid (∀ u, Row u (w.heap.size + 1) 51 (bxS (i + 1) ++ unS i) → ∃ v, u.cell? ⟨w.heap.size + 1, 256 + s, none⟩ = some v) := Lib.hid (fun u hu => ⟨_, hu.cell (256 + s) _ (List.getElem?_eq_getElem (by rw [List.length_append, HBL1.out, unS_length]; omega))⟩)
      rw [hs] at x5 hsl
      have T1 : Hid (∀ u, Calls Try.prog 34 #[.int .u8 (c : Int), .int .i64 1] u fun e w' => e = .returned (.int .u8 (rlB c 1 : Nat)) ∧ Ext u w') := Lib.hid (fun u => turned_any c 1 hcn (by decide) u)
      have T2 : Hid (∀ u, Calls Try.prog 34 #[.int .u8 (c : Int), .int .i64 2] u fun e w' => e = .returned (.int .u8 (rlB c 2 : Nat)) ∧ Ext u w') := Lib.hid (fun u => turned_any c 2 hcn (by decide) u)
      have T3 : Hid (∀ u, Calls Try.prog 34 #[.int .u8 (c : Int), .int .i64 3] u fun e w' => e = .returned (.int .u8 (rlB c 3 : Nat)) ∧ Ext u w') := Lib.hid (fun u => turned_any c 3 hcn (by decide) u)
      have T4 : Hid (∀ u, Calls Try.prog 34 #[.int .u8 (c : Int), .int .i64 4] u fun e w' => e = .returned (.int .u8 (rlB c 4 : Nat)) ∧ Ext u w') := Lib.hid (fun u => turned_any c 4 hcn (by decide) u)
      have HRow := Lib.hid hrow; have HRes := Lib.hid hres; have HE := Lib.hid hext
      clear l1 l2 l3 l4 m1 m2 m3 m4 hchain hs hrow hres hext
      go_wp2_with (first
        | (go_at_call 34; with_reducible refine (T1.out _).mono ?_; rintro e w1 ⟨rfl, h1⟩)
        | (go_at_call 34; with_reducible refine (T2.out _).mono ?_; rintro e w2 ⟨rfl, h2⟩)
        | (go_at_call 34; with_reducible refine (T3.out _).mono ?_; rintro e w3 ⟨rfl, h3⟩)
        | (go_at_call 34; with_reducible refine (T4.out _).mono ?_; rintro e w4 ⟨rfl, h4⟩; have hx4 := Lib.hid (h1.trans (h2.trans (h3.trans h4))); have R4 := Lib.hid (HRow.out.ext hx4.out); obtain ⟨v1, c1⟩ := HC1.out _ R4.out; have f1 := R4.out.frozen i; have R5 := Lib.hid (H1.out _ R4.out); obtain ⟨v2, c2⟩ := HC2.out _ R5.out; have f2 := R5.out.frozen (256 + s); clear h1 h2 h3 h4))
      go_roundw
      case rel => exact ⟨i + 1, by omega, by go_num, H2.out _ R5.out, ((HRes.out.ext hx4.out).other (by omega) _ _).other (by omega) _ _, ((HE.out.trans hx4.out).setCell (by simp) _).setCell (by simp) _⟩
      case measure => simp [intOf]; omega
    · obtain rfl : i = 256 := by omega
      rw [boxesL_done] at hrow
      have e256 : ((256 : Nat) : Int) = 256 := rfl
      rw [e256]
      clear e256
      go_wp2_with (first
        | (refine wpList_load_row rfl 51 (.tmp 1) rfl _ rfl 51 _ (0, 0) _ hrow Try.underlying51 rfl (sized size512 boxesL_length) ?_)
        | (refine wpList_store_row rfl 51 (.tmp 0) (.tmp 34) rfl w.heap.size _ rfl rfl 51 _ hres (sized size512 boxesL_length) (by simp [boxesL_length]) (cells8_one _) ?_))
      exact bodyPost_ret (results_cell_row rfl _ _ w.heap.size 51 _ (0, 0) _ rfl (setRow_heap _ _ _ _ _ _ hres) Try.underlying51 rfl (sized size512 boxesL_length)) rfl ⟨rfl, hext.setRow (Nat.le_refl _) _⟩
end Go.Proofs.Ythglecfbcdikaaa
