/- Contracts: the box of each byte, and the byte of each box, by the program. Contracts: a block, either or with a round key; its bytes through a table; by the program. Contracts: a block's bytes through a table; its rows turned; by the program. Contracts: a block's columns mixed, and back, by the program. -/
import Derived.Test.YtobhbppogeghnaaGreatDoorM18
import Derived.Outline
import Derived.Laws.BitsAllLaws
import Derived.Deep.QuietTactic
import Derived.BigQuiet
import Derived.RegionTactic
import Derived.ChangeAlike
import Derived.BigRegion
section
namespace Go.Proofs.YtobhbppogeghnaaGreatDoor
open Go.RowKit

theorem invB_at (i : Nat) (h : i < 256) : invB[i]? = some (UInt8.ofNat (invN i)) := by
  have : ∀ i, i < 256 → invB[i]? = some (UInt8.ofNat (invN i)) := by decide +kernel
  exact this i h
theorem box_chain : ∀ i, i < 256 → ((((invN i ^^^ rlB (invN i) 1) ^^^ rlB (invN i) 2) ^^^ rlB (invN i) 3) ^^^ rlB (invN i) 4) ^^^ 99 = (boxB (UInt8.ofNat i)).toNat := by decide +kernel
/-- The bytes of the boxes, as they are laid. -/
def unS : Nat → List UInt8
  | 0 => List.replicate 256 0
  | i + 1 => (unS i).set (boxB (UInt8.ofNat i)).toNat (UInt8.ofNat i)
theorem unS_length : ∀ i, (unS i).length = 256
  | 0 => List.length_replicate
  | i + 1 => by rw [unS, List.length_set, unS_length i]
theorem unS_all : unS 256 = unboxT := by decide +kernel
theorem unboxT_length : unboxT.length = 256 := by decide +kernel
def bxS (i : Nat) : List UInt8 := boxT.take i ++ List.replicate (256 - i) 0
theorem bxS_length (i : Nat) (h : i ≤ 256) : (bxS i).length = 256 := by
  unfold bxS
  rw [List.length_append, List.length_take, boxT_length, List.length_replicate]; omega
theorem bxS_step (i : Nat) (h : i < 256) : (bxS i).set i (boxB (UInt8.ofNat i)) = bxS (i + 1) := by
  unfold bxS
  have e2 : 256 - i = (256 - (i + 1)) + 1 := by omega
  rw [boxT_take i h, List.set_append_right _ _ (by rw [List.length_take, boxT_length]; omega), List.length_take, boxT_length, Nat.min_eq_left (by omega), Nat.sub_self, e2, List.replicate_succ]
  simp
def boxesL : List UInt8 := boxT ++ unboxT
theorem boxesL_length : boxesL.length = 512 := by unfold boxesL; rw [List.length_append, boxT_length, unboxT_length]
theorem boxesL_at (j : Nat) (h : j < 256) : boxesL[j]? = some (boxB (UInt8.ofNat j)) := by
  unfold boxesL
  rw [List.getElem?_append_left (by rw [boxT_length]; exact h), boxT_at j h]
theorem boxesL_done : bxS 256 ++ unS 256 = boxesL := by
  unfold bxS boxesL
  rw [unS_all, Nat.sub_self, List.replicate_zero, List.append_nil, List.take_of_length_le (by rw [boxT_length]; exact Nat.le_refl _)]
theorem bxS_zero : bxS 0 ++ unS 0 = List.replicate 512 0 := by
  unfold bxS unS
  rw [List.take_zero, List.nil_append, List.replicate_append_replicate]
theorem unS_succ (i : Nat) : unS (i + 1) = (unS i).set (boxB (UInt8.ofNat i)).toNat (UInt8.ofNat i) := rfl
attribute [irreducible] boxesL bxS unS
set_option maxRecDepth 100000 in
set_option maxHeartbeats 1000000 in
theorem newBoxes_any (w : World) : Calls Tryz.prog 159 #[] w fun e w' => e = .returned (.agg (boxesL.map cellOf).toArray) ∧ Ext w w' := by
  have hz := zero_run zero512
  have HI := Lib.hid invB_at
  have HC := Lib.hid box_chain
  have HN := Lib.hid (fun i (h : i < 256) => (invN_spec i h).1)
  go_enter Tryz.func159, Tryz.ntmps159
  go_wp2_with (go_at_call 186; refine (inverses_any _).mono ?_; rintro e w1 ⟨rfl, h1⟩)
  have hb0 : Row w1 (w.heap.size + 1) 206 (bxS 0 ++ unS 0) := by rw [bxS_zero]; exact Row.ext (Row.zero (w.alloc _) _ 512) h1 |> fun h => by simpa using h
  have hr0 : Row w1 w.heap.size 206 (List.replicate 512 0) := ((Row.zero w _ 512).alloc _).ext h1
  have hx0 : Ext w w1 := (((Ext.refl w).alloc _).alloc _).trans h1
  clear h1
  go_loopw [6] (fun i wr => ∃ j : Nat, j ≤ 256 ∧ i = .int .i64 j ∧ Row wr (w.heap.size + 1) 206 (bxS j ++ unS j) ∧ Row wr w.heap.size 206 (List.replicate 512 0) ∧ Ext w wr) (fun i _ => 256 - (intOf i).toNat)
  case atStart => exact ⟨0, Nat.zero_le _, rfl, hb0, hr0, hx0⟩
  case round =>
    clear hb0 hr0 hx0
    obtain ⟨i, hi, rfl, hrow, hres, hext⟩ := hrel
    by_cases hlt : i < 256
    · have hcn := HN.out i hlt
      have hix : ∀ u, (Instr.index 204 (.agg (invB.map cellOf).toArray) (.int .i64 (i : Int))).run Tryz.prog u = .ok (.int .u8 (invN i : Nat)) u := fun u => by
        rw [index_bytes 204 256 Tryz.underlying204 invB invB_length i _ (HI.out i hlt) u, UInt8.toNat_ofNat', Nat.mod_eq_of_lt hcn]
      have hchain := HC.out i hlt
      generalize invN i = c at *
      have l1 := rlB_lt (r := 1) hcn; have l2 := rlB_lt (r := 2) hcn; have l3 := rlB_lt (r := 3) hcn; have l4 := rlB_lt (r := 4) hcn
      have m1 := xor_lt256 hcn l1; have m2 := xor_lt256 m1 l2; have m3 := xor_lt256 m2 l3; have m4 := xor_lt256 m3 l4
      have x1 := u8_xor_nat _ _ hcn l1
      have x2 := u8_xor_nat _ _ m1 l2
      have x3 := u8_xor_nat _ _ m2 l3
      have x4 := u8_xor_nat _ _ m3 l4
      have x5 := u8_xor_nat _ 99 m4 (by decide)
      rw [hchain] at x5
      have x5 : bits BinOp.xor IntKind.u8 ((c ^^^ rlB c 1 ^^^ rlB c 2 ^^^ rlB c 3 ^^^ rlB c 4 : Nat) : Int) 99 = ((boxB (UInt8.ofNat i)).toNat : Int) := x5
      have hsl : (boxB (UInt8.ofNat i)).toNat < 256 := (boxB (UInt8.ofNat i)).toNat_lt
      have HU : Hid (unS (i + 1) = (unS i).set (boxB (UInt8.ofNat i)).toNat (UInt8.ofNat i)) := Lib.hid (unS_succ i)
      have HB := Lib.hid (bxS_step i hlt)
      have HBL := Lib.hid (bxS_length i hi); have HBL1 := Lib.hid (bxS_length (i + 1) hlt)
      generalize boxB (UInt8.ofNat i) = B at *
      obtain ⟨s, hs⟩ : ∃ s, B.toNat = s := ⟨_, rfl⟩
      have H1 : Hid (∀ u, Row u (w.heap.size + 1) 206 (bxS i ++ unS i) → Row (u.setCell ⟨w.heap.size + 1, i, none⟩ (.int .u8 (s : Int))) (w.heap.size + 1) 206 (bxS (i + 1) ++ unS i)) := Lib.hid (fun u hu => by
        have h := hu.set_ i (s : Int) (by omega) (by omega)
        rw [List.set_append_left _ _ (by rw [HBL.out]; exact hlt)] at h
        have e : UInt8.ofNat ((s : Int)).toNat = B := by rw [← hs]; simp
        rw [e, HB.out] at h
        exact h)
      have H2 : Hid (∀ u, Row u (w.heap.size + 1) 206 (bxS (i + 1) ++ unS i) → Row (u.setCell ⟨w.heap.size + 1, 256 + s, none⟩ (.int .u8 (i : Int))) (w.heap.size + 1) 206 (bxS (i + 1) ++ unS (i + 1))) := Lib.hid (fun u hu => by
        have h := hu.set_ (256 + s) (i : Int) (by omega) (by omega)
        rw [List.set_append_right _ _ (by rw [HBL1.out]; omega), HBL1.out, Nat.add_sub_cancel_left, Int.toNat_natCast] at h
        rw [HU.out, hs]
        exact h)
      have HC1 : Hid (∀ u, Row u (w.heap.size + 1) 206 (bxS i ++ unS i) → ∃ v, u.cell? ⟨w.heap.size + 1, i, none⟩ = some v) := Lib.hid (fun u hu => ⟨_, hu.cell i _ (List.getElem?_eq_getElem (by rw [List.length_append, HBL.out]; omega))⟩)
      have HC2 : Hid (∀ u, Row u (w.heap.size + 1) 206 (bxS (i + 1) ++ unS i) → ∃ v, u.cell? ⟨w.heap.size + 1, 256 + s, none⟩ = some v) := Lib.hid (fun u hu => ⟨_, hu.cell (256 + s) _ (List.getElem?_eq_getElem (by rw [List.length_append, HBL1.out, unS_length]; omega))⟩)
      rw [hs] at x5 hsl
      have T1 : Hid (∀ u, Calls Tryz.prog 187 #[.int .u8 (c : Int), .int .i64 1] u fun e w' => e = .returned (.int .u8 (rlB c 1 : Nat)) ∧ Ext u w') := Lib.hid (fun u => turned_any c 1 hcn (by decide) u)
      have T2 : Hid (∀ u, Calls Tryz.prog 187 #[.int .u8 (c : Int), .int .i64 2] u fun e w' => e = .returned (.int .u8 (rlB c 2 : Nat)) ∧ Ext u w') := Lib.hid (fun u => turned_any c 2 hcn (by decide) u)
      have T3 : Hid (∀ u, Calls Tryz.prog 187 #[.int .u8 (c : Int), .int .i64 3] u fun e w' => e = .returned (.int .u8 (rlB c 3 : Nat)) ∧ Ext u w') := Lib.hid (fun u => turned_any c 3 hcn (by decide) u)
      have T4 : Hid (∀ u, Calls Tryz.prog 187 #[.int .u8 (c : Int), .int .i64 4] u fun e w' => e = .returned (.int .u8 (rlB c 4 : Nat)) ∧ Ext u w') := Lib.hid (fun u => turned_any c 4 hcn (by decide) u)
      have HRow := Lib.hid hrow; have HRes := Lib.hid hres; have HE := Lib.hid hext
      clear l1 l2 l3 l4 m1 m2 m3 m4 hchain hs hrow hres hext
      go_wp2_with (first
        | (go_at_call 187; with_reducible refine (T1.out _).mono ?_; rintro e w1 ⟨rfl, h1⟩)
        | (go_at_call 187; with_reducible refine (T2.out _).mono ?_; rintro e w2 ⟨rfl, h2⟩)
        | (go_at_call 187; with_reducible refine (T3.out _).mono ?_; rintro e w3 ⟨rfl, h3⟩)
        | (go_at_call 187; with_reducible refine (T4.out _).mono ?_; rintro e w4 ⟨rfl, h4⟩; have hx4 := Lib.hid (h1.trans (h2.trans (h3.trans h4))); have R4 := Lib.hid (HRow.out.ext hx4.out); obtain ⟨v1, c1⟩ := HC1.out _ R4.out; have f1 := R4.out.frozen i; have R5 := Lib.hid (H1.out _ R4.out); obtain ⟨v2, c2⟩ := HC2.out _ R5.out; have f2 := R5.out.frozen (256 + s); clear h1 h2 h3 h4))
      go_roundw
      case rel => exact ⟨i + 1, by omega, by go_num, H2.out _ R5.out, ((HRes.out.ext hx4.out).other (by omega) _ _).other (by omega) _ _, ((HE.out.trans hx4.out).setCell (by simp) _).setCell (by simp) _⟩
      case measure => simp [intOf]; omega
    · obtain rfl : i = 256 := by omega
      rw [boxesL_done] at hrow
      have e256 : ((256 : Nat) : Int) = 256 := rfl
      rw [e256]
      clear e256
      go_wp2_with (first
        | (refine wpList_load_row rfl 206 (.tmp 1) rfl _ rfl 206 _ (0, 0) _ hrow Tryz.underlying206 rfl (sized size512 boxesL_length) ?_)
        | (refine wpList_store_row rfl 206 (.tmp 0) (.tmp 34) rfl w.heap.size _ rfl rfl 206 _ hres (sized size512 boxesL_length) (by simp [boxesL_length]) (cells8_one _) ?_))
      exact bodyPost_ret (results_cell_row rfl _ _ w.heap.size 206 _ (0, 0) _ rfl (setRow_heap _ _ _ _ _ _ hres) Tryz.underlying206 rfl (sized size512 boxesL_length)) rfl ⟨rfl, hext.setRow (Nat.le_refl _) _⟩
end Go.Proofs.YtobhbppogeghnaaGreatDoor
end

section
namespace Go.Proofs.YtobhbppogeghnaaGreatDoor
open Go.RowKit

/-- The first j of the new ones, the others as they were. -/
def mixd (new old : List UInt8) (j : Nat) : List UInt8 := new.take j ++ old.drop j
section
variable {new old : List UInt8}
theorem mixd_zero : mixd new old 0 = old := by simp [mixd]
theorem mixd_all (h : new.length = 16) (ho : old.length = 16) : mixd new old 16 = new := by
  unfold mixd
  rw [List.take_of_length_le (by omega), List.drop_of_length_le (by omega), List.append_nil]
theorem mixd_length (h : new.length = 16) (ho : old.length = 16) (j : Nat) (hj : j ≤ 16) : (mixd new old j).length = 16 := by simp [mixd, h, ho]; omega
theorem mixd_at (h : new.length = 16) (j i : Nat) (hj : j ≤ 16) (hi : j ≤ i) : (mixd new old j)[i]? = old[i]? := by
  unfold mixd
  rw [List.getElem?_append_right (by simp [h]; omega), List.getElem?_drop, List.length_take, h, Nat.min_eq_left hj]
  congr 1; omega
theorem mixd_set (h : new.length = 16) (ho : old.length = 16) (j : Nat) (hj : j < 16) (b : UInt8) (hb : new[j]? = some b) : (mixd new old j).set j b = mixd new old (j + 1) := by
  unfold mixd
  have hg : new[j] = b := by rw [List.getElem?_eq_getElem (by omega)] at hb; simpa using hb
  rw [List.set_append_right _ _ (by simp [h]; omega), List.length_take, h, Nat.min_eq_left (by omega), Nat.sub_self, List.drop_eq_getElem_cons (by omega), List.set_cons_zero, List.take_succ_eq_append_getElem (by omega), hg, List.append_assoc]
  rfl
theorem row_mixd {w : World} {g : Nat} {t : TypeId} (h : new.length = 16) (ho : old.length = 16) (j : Nat) (hj : j < 16) (hr : Row w g t (mixd new old j)) (b : UInt8) (hb : new[j]? = some b) (x : Int) (hx : x = (b.toNat : Int)) :
    Row (w.setCell ⟨g, j, none⟩ (.int .u8 x)) g t (mixd new old (j + 1)) := by
  have hb2 := b.toNat_lt
  have h2 := hr.set_ j x (by omega) (by omega)
  have e : UInt8.ofNat x.toNat = b := by rw [hx]; simp
  rw [e, mixd_set h ho j hj b hb] at h2
  exact h2
end
/-- Block k holds, from o on, these bytes. -/
def Bytes (w : World) (k o : Nat) (l : List UInt8) : Prop := ∀ (i : Nat) (b : UInt8), l[i]? = some b → w.cell? ⟨k, o + i, none⟩ = some (.int .u8 (b.toNat : Int))
theorem Bytes.below {w w' : World} {k o B : Nat} {l : List UInt8} (h : Bytes w k o l) (hb : Below B w w') (hk : k < B) : Bytes w' k o l := fun i b hi => (hb.cell (p := ⟨k, o + i, none⟩) hk).trans (h i b hi)
theorem xor_nat8 (a b : UInt8) : bits BinOp.xor IntKind.u8 (a.toNat : Int) (b.toNat : Int) = ((a ^^^ b).toNat : Int) := by
  rw [u8_xor_nat _ _ a.toNat_lt b.toNat_lt, UInt8.toNat_xor]
set_option maxRecDepth 100000 in
set_option maxHeartbeats 1000000 in
theorem add_any (w : World) (g k o : Nat) (t : TypeId) (l key : List UInt8) (hr : Row w g t l) (hl : l.length = 16) (hk : key.length = 16) (hkb : Bytes w k o key) (hkg : k < g) :
    Calls Tryz.prog 191 #[.pointer (some ⟨g, 0, none⟩), .pointer (some ⟨k, o, none⟩)] w fun e w' => e = .returned (.tuple #[]) ∧ Below g w w' ∧ Row w' g t (addK key l) := by
  have HL := Lib.hid hl; have HK := Lib.hid hk; have HKB := Lib.hid hkb
  have HA := Lib.hid (addK_length hk hl)
  clear hl hk hkb
  go_enter Tryz.func191, Tryz.ntmps191
  go_wp2
  go_loopw [5] (fun i wr => ∃ j : Nat, j ≤ 16 ∧ i = .int .i64 j ∧ Row wr g t (mixd (addK key l) l j) ∧ Below g w wr) (fun i _ => 16 - (intOf i).toNat)
  case atStart => exact ⟨0, Nat.zero_le _, rfl, by rw [mixd_zero]; exact hr, Below.refl _ _⟩
  case round =>
    obtain ⟨j, hj, rfl, hrow, hb⟩ := hrel
    by_cases hlt : j < 16
    · obtain ⟨x, hx⟩ : ∃ x, l[j]? = some x := ⟨_, List.getElem?_eq_getElem (by rw [HL.out]; exact hlt)⟩
      obtain ⟨y, hy⟩ : ∃ y, key[j]? = some y := ⟨_, List.getElem?_eq_getElem (by rw [HK.out]; exact hlt)⟩
      have hn : (addK key l)[j]? = some (x ^^^ y) := by unfold addK; rw [List.getElem?_zipWith, hx, hy]
      have c1 := hrow.cell j x (by rw [mixd_at HA.out j j (by omega) (Nat.le_refl _)]; exact hx)
      have c2 := (HKB.out.below hb hkg) j y hy
      have f1 := hrow.frozen j
      have HS := Lib.hid (fun v hv => row_mixd HA.out HL.out j hlt hrow _ hn v hv)
      have hxor := xor_nat8 x y
      have HB := Lib.hid hb
      clear hx hy hn hrow hb
      generalize (x ^^^ y).toNat = z at *
      generalize x.toNat = xn at *
      generalize y.toNat = yn at *
      go_wp2
      go_region
      go_wp2
      go_roundw
      case rel => exact ⟨j + 1, by omega, by go_num, HS.out _ (by first | rfl | exact hxor), (HB.out.setCell (p := ⟨g, _, none⟩) (Nat.le_refl _) _).drew⟩
      case measure => simp [intOf]; omega
    · obtain rfl : j = 16 := by omega
      rw [mixd_all HA.out HL.out] at hrow
      have e16 : ((16 : Nat) : Int) = 16 := rfl
      rw [e16]
      clear e16
      go_wp2
      go_end0
      exact ⟨rfl, hb, hrow⟩
end Go.Proofs.YtobhbppogeghnaaGreatDoor
end

section
namespace Go.Proofs.YtobhbppogeghnaaGreatDoor
open Go.RowKit

theorem below_drewN {B : Nat} {a b : World} (h : Below B a b) (n : Nat) : Below B a (b.drewN n) := ⟨h.os, h.tape, h.output, h.size, h.block⟩
set_option maxRecDepth 100000 in
set_option maxHeartbeats 1000000 in
theorem put_any (w : World) (g k o : Nat) (t : TypeId) (l T : List UInt8) (f : UInt8 → UInt8) (hr : Row w g t l) (hl : l.length = 16) (hT : ∀ b : UInt8, T[b.toNat]? = some (f b)) (hkb : Bytes w k o T) (hkg : k < g) :
    Calls Tryz.prog 192 #[.pointer (some ⟨g, 0, none⟩), .pointer (some ⟨k, o, none⟩)] w fun e w' => e = .returned (.tuple #[]) ∧ Below g w w' ∧ Row w' g t (l.map f) := by
  have HL := Lib.hid hl; have HT := Lib.hid hT; have HKB := Lib.hid hkb
  have HA : Hid ((l.map f).length = 16) := Lib.hid (by rw [List.length_map]; exact hl)
  clear hl hT hkb
  go_enter Tryz.func192, Tryz.ntmps192
  go_wp2
  go_loopw [7] (fun i wr => ∃ j : Nat, j ≤ 16 ∧ i = .int .i64 j ∧ Row wr g t (mixd (l.map f) l j) ∧ Below g w wr) (fun i _ => 16 - (intOf i).toNat)
  case atStart => exact ⟨0, Nat.zero_le _, rfl, by rw [mixd_zero]; exact hr, Below.refl _ _⟩
  case round =>
    obtain ⟨j, hj, rfl, hrow, hb⟩ := hrel
    by_cases hlt : j < 16
    · obtain ⟨x, hx⟩ : ∃ x, l[j]? = some x := ⟨_, List.getElem?_eq_getElem (by rw [HL.out]; exact hlt)⟩
      have hn : (l.map f)[j]? = some (f x) := by rw [List.getElem?_map, hx]; rfl
      have c1 := hrow.cell j x (by rw [mixd_at HA.out j j (by omega) (Nat.le_refl _)]; exact hx)
      have c2 := (HKB.out.below hb hkg) x.toNat _ (HT.out x)
      have f1 := hrow.frozen j
      have HS := Lib.hid (fun n => fun v hv => row_mixd HA.out HL.out j hlt (hrow.drewN n) _ hn v hv)
      have HB := Lib.hid hb
      have hxl := x.toNat_lt
      clear hx hn hrow hb
      generalize x.toNat = xn at *
      generalize f x = y at *
      go_wp2
      go_quiet (fail)
      go_wp2
      go_region
      go_wp2
      go_roundw
      case rel => exact ⟨j + 1, by omega, by go_num, HS.out _ _ rfl, (below_drewN HB.out _).setCell (p := ⟨g, _, none⟩) (Nat.le_refl _) _⟩
      case measure => simp [intOf]; omega
    · obtain rfl : j = 16 := by omega
      rw [mixd_all HA.out HL.out] at hrow
      have e16 : ((16 : Nat) : Int) = 16 := rfl
      rw [e16]
      clear e16
      go_wp2
      go_end0
      exact ⟨rfl, hb, hrow⟩
/-- Row i turned by i places to the left. -/
def shL (l : List UInt8) : List UInt8 := (List.range 16).map fun i => l.getD ((i + 4 * (i % 4)) % 16) 0
theorem shL_length (l : List UInt8) : (shL l).length = 16 := by simp [shL]
theorem shL_sub {l : List UInt8} (h : l.length = 16) : shL (l.map boxB) = subShift l := by
  obtain ⟨a0, a1, a2, a3, a4, a5, a6, a7, a8, a9, a10, a11, a12, a13, a14, a15, rfl⟩ := sixteen h
  rfl
set_option maxRecDepth 100000 in
set_option maxHeartbeats 1000000 in
theorem turnLeft_any (w : World) (g : Nat) (l : List UInt8) (hr : Row w g 209 l) (hl : l.length = 16) :
    Calls Tryz.prog 193 #[.pointer (some ⟨g, 0, none⟩)] w fun e w' => e = .returned (.tuple #[]) ∧ Below g w w' ∧ Row w' g 209 (shL l) := by
  have hz := zero_run zero16
  have HL := Lib.hid hl; have HA := Lib.hid (shL_length l)
  have hgl := hr.lt
  have hr0 : Row ((w.alloc (.cells (zc 16) 209)).setRow w.heap.size (l.map cellOf).toArray) g 209 l := (setRow_other _ _ _ _ (by omega)).trans (hr.alloc _)
  have hw0 : Row ((w.alloc (.cells (zc 16) 209)).setRow w.heap.size (l.map cellOf).toArray) w.heap.size 209 l := setRow_heap _ _ _ _ _ _ (Row.zero w _ 16)
  have hb0 : Below g w ((w.alloc (.cells (zc 16) 209)).setRow w.heap.size (l.map cellOf).toArray) := below_setRow ((Below.refl g w).alloc (by omega) _) (by omega) _
  have HR0 := Lib.hid hr0; have HW0 := Lib.hid hw0; have HB0 := Lib.hid hb0
  clear hr0 hw0 hb0 hl
  go_enter Tryz.func193, Tryz.ntmps193
  go_wp2_with (first
    | (refine wpList_load_row rfl 209 (.tmp 5) rfl _ rfl 209 _ (0, 0) _ hr Tryz.underlying209 rfl (sized size16 HL.out) ?_)
    | (refine wpList_store_row rfl 209 (.tmp 2) (.tmp 6) rfl w.heap.size _ rfl rfl 209 _ (Row.zero w _ 16) (sized size16 HL.out) (by simp [HL.out]) (cells8_one _) ?_))
  go_loopw [7] (fun i wr => ∃ j : Nat, j ≤ 16 ∧ i = .int .i64 j ∧ Row wr g 209 (mixd (shL l) l j) ∧ Row wr w.heap.size 209 l ∧ Below g w wr) (fun i _ => 16 - (intOf i).toNat)
  case atStart => exact ⟨0, Nat.zero_le _, rfl, by rw [mixd_zero]; exact HR0.out, HW0.out, HB0.out⟩
  case round =>
    obtain ⟨j, hj, rfl, hrow, hwas, hb⟩ := hrel
    by_cases hlt : j < 16
    · obtain ⟨q, hq⟩ : ∃ q : Nat, ((j : Int) + 4 * ((j : Int) % 4)) % 16 = (q : Int) := ⟨(j + 4 * (j % 4)) % 16, by omega⟩
      have hq2 : (j + 4 * (j % 4)) % 16 = q := by omega
      have hq3 : q < 16 := by omega
      obtain ⟨x, hx⟩ : ∃ x, l[q]? = some x := ⟨_, List.getElem?_eq_getElem (by rw [HL.out]; exact hq3)⟩
      obtain ⟨y, hy⟩ : ∃ y, l[j]? = some y := ⟨_, List.getElem?_eq_getElem (by rw [HL.out]; exact hlt)⟩
      have hn : (shL l)[j]? = some x := by unfold shL; simp [hlt, hq2, hx]
      have c1 := hrow.cell j y (by rw [mixd_at HA.out j j (by omega) (Nat.le_refl _)]; exact hy)
      have c2 := hwas.cell q x hx
      have f1 := hrow.frozen j
      have HS := Lib.hid (fun v hv => row_mixd HA.out HL.out j hlt hrow _ hn v hv)
      have HB := Lib.hid hb; have HW := Lib.hid hwas
      have HG := Lib.hid hgl
      clear hx hy hn hrow hb hq2 hwas hgl
      generalize x.toNat = xn at *
      go_wp2
      go_region
      go_wp2
      go_roundw
      case rel => exact ⟨j + 1, by omega, by go_num, HS.out _ rfl, (HW.out.other (by have := HG.out; omega) _ _).drew, (HB.out.setCell (p := ⟨g, _, none⟩) (Nat.le_refl _) _).drew⟩
      case measure => simp [intOf]; omega
    · obtain rfl : j = 16 := by omega
      rw [mixd_all HA.out HL.out] at hrow
      have e16 : ((16 : Nat) : Int) = 16 := rfl
      rw [e16]
      clear e16
      go_wp2
      go_end0
      exact ⟨rfl, hb, hrow⟩
end Go.Proofs.YtobhbppogeghnaaGreatDoor
end

section
namespace Go.Proofs.YtobhbppogeghnaaGreatDoor
open Go.RowKit

theorem tm_two : ∀ x, x < 256 → tm 2 x = xt x := by decide +kernel
theorem mul_two (x : UInt8) : (mulB 2 x).toNat = xt x.toNat := by rw [mulB_nat]; exact tm_two _ x.toNat_lt
theorem mul_three (x : UInt8) : mulB 3 x = mulB 2 x ^^^ x := by
  have e : (3 : UInt8) = 2 ^^^ 1 := by decide
  rw [e, mulB_left, mulB_comm 1, mulB_one]
theorem one_mul8 (x : UInt8) : mulB 1 x = x := by rw [mulB_comm, mulB_one]
section
variable (a b c d : UInt8)
theorem col0 : dot 2 3 1 1 a b c d = mulB 2 (a ^^^ b) ^^^ b ^^^ c ^^^ d := by unfold dot; rw [mul_three, one_mul8, one_mul8, mulB_right]; simp only [UInt8.xor_assoc]
theorem col1 : dot 1 2 3 1 a b c d = mulB 2 (b ^^^ c) ^^^ c ^^^ d ^^^ a := by
  unfold dot; rw [mul_three, one_mul8, one_mul8, mulB_right]
  rw [UInt8.xor_comm (mulB 2 b ^^^ mulB 2 c ^^^ c ^^^ d) a]
  simp only [UInt8.xor_assoc]
theorem col2 : dot 1 1 2 3 a b c d = mulB 2 (c ^^^ d) ^^^ d ^^^ a ^^^ b := by
  unfold dot; rw [mul_three, one_mul8, one_mul8, mulB_right]
  rw [UInt8.xor_assoc (mulB 2 c ^^^ mulB 2 d ^^^ d) a b, UInt8.xor_comm (mulB 2 c ^^^ mulB 2 d ^^^ d) (a ^^^ b)]
  simp only [UInt8.xor_assoc]
theorem col3 : dot 3 1 1 2 a b c d = mulB 2 (d ^^^ a) ^^^ a ^^^ b ^^^ c := by
  unfold dot; rw [mul_three, one_mul8, one_mul8, mulB_right]
  rw [UInt8.xor_comm (mulB 2 a ^^^ a ^^^ b ^^^ c) (mulB 2 d)]
  simp only [UInt8.xor_assoc]
/-- What the walk reckons for one byte of a column. -/
theorem col_int (x y z : UInt8) (D : UInt8) (hD : D = mulB 2 (x ^^^ y) ^^^ y ^^^ z ^^^ a) :
    bits BinOp.xor IntKind.u8 (x.toNat : Int) (y.toNat : Int) = ((x ^^^ y).toNat : Int) ∧
    bits BinOp.xor IntKind.u8 ((xt (x ^^^ y).toNat : Nat) : Int) (y.toNat : Int) = ((mulB 2 (x ^^^ y) ^^^ y).toNat : Int) ∧
    bits BinOp.xor IntKind.u8 ((mulB 2 (x ^^^ y) ^^^ y).toNat : Int) (z.toNat : Int) = ((mulB 2 (x ^^^ y) ^^^ y ^^^ z).toNat : Int) ∧
    bits BinOp.xor IntKind.u8 ((mulB 2 (x ^^^ y) ^^^ y ^^^ z).toNat : Int) (a.toNat : Int) = (D.toNat : Int) := by
  subst hD
  refine ⟨xor_nat8 _ _, ?_, xor_nat8 _ _, xor_nat8 _ _⟩
  rw [← mul_two]
  exact xor_nat8 _ _
end
theorem mixC_at (l : List UInt8) (h : l.length = 16) (i : Nat) (hi : i < 4) :
    (mixC l)[4 * i]? = some (dot 2 3 1 1 (l.getD (4 * i) 0) (l.getD (4 * i + 1) 0) (l.getD (4 * i + 2) 0) (l.getD (4 * i + 3) 0)) ∧
    (mixC l)[4 * i + 1]? = some (dot 1 2 3 1 (l.getD (4 * i) 0) (l.getD (4 * i + 1) 0) (l.getD (4 * i + 2) 0) (l.getD (4 * i + 3) 0)) ∧
    (mixC l)[4 * i + 2]? = some (dot 1 1 2 3 (l.getD (4 * i) 0) (l.getD (4 * i + 1) 0) (l.getD (4 * i + 2) 0) (l.getD (4 * i + 3) 0)) ∧
    (mixC l)[4 * i + 3]? = some (dot 3 1 1 2 (l.getD (4 * i) 0) (l.getD (4 * i + 1) 0) (l.getD (4 * i + 2) 0) (l.getD (4 * i + 3) 0)) := by
  obtain ⟨a0, a1, a2, a3, a4, a5, a6, a7, a8, a9, a10, a11, a12, a13, a14, a15, rfl⟩ := sixteen h
  rw [mixC_eq]
  rcases (show i = 0 ∨ i = 1 ∨ i = 2 ∨ i = 3 by omega) with rfl | rfl | rfl | rfl
  all_goals exact ⟨rfl, rfl, rfl, rfl⟩
theorem at_getD {l : List UInt8} {i : Nat} (h : i < l.length) : l[i]? = some (l.getD i 0) := by
  rw [List.getD_eq_getElem?_getD, List.getElem?_eq_getElem h]; rfl
theorem len16 : Tryz.prog.arrayLen 209 = 16 := by kernel_rfl
theorem elem16 : Tryz.prog.elem 209 = 5 := by kernel_rfl
theorem info8s : (Tryz.prog.info? 5).map (·.size) = some 1 := by kernel_rfl
theorem size8_run (w : World) : (sizeOf 5).run Tryz.prog w = .ok 1 w := by
  cases hq : Tryz.prog.info? 5 with
  | none => have := info8s; simp [hq] at this
  | some d =>
    have hs : d.size = 1 := by have := info8s; simpa [hq] using this
    simp [sizeOf, typeInfo, hq, hs]
/-- Four bytes of a block. -/
theorem slice_four (g m : Nat) (hm : m + 4 ≤ 16) (w : World) : (Instr.sliceAt 209 (.pointer (some ⟨g, 0, none⟩)) (some (.int .i64 (m : Int))) (some (.int .i64 ((m : Int) + 4))) none).run Tryz.prog w = .ok (.slice (some ⟨g, m, none⟩) 4 (16 - m)) w := by
  have hu : Tryz.prog.underlying 209 = some (.array (Tryz.prog.arrayLen 209) (Tryz.prog.elem 209)) := by rw [len16, elem16]; exact Tryz.underlying209
  rw [run_sliceAt_array_lh (P := Tryz.prog) w 209 ⟨g, 0, none⟩ hu .i64 .i64 (m : Int) ((m : Int) + 4) (by omega) (by omega) (by rw [len16]; omega), elem16, size8_run, len16]
  have e1 : ((m : Int) + 4).toNat = m + 4 := by omega
  simp only [Result.andThen, slicedAt, Int.toNat_natCast, e1, Nat.mul_one]
  rw [if_neg (by omega), Addr.add_mid, Nat.zero_add, Nat.add_sub_cancel_left]
set_option maxRecDepth 100000 in
set_option maxHeartbeats 2000000 in
theorem mix_any (w : World) (g : Nat) (t : TypeId) (l : List UInt8) (hr : Row w g t l) (hl : l.length = 16) :
    Calls Tryz.prog 194 #[.pointer (some ⟨g, 0, none⟩)] w fun e w' => e = .returned (.tuple #[]) ∧ Below g w w' ∧ Row w' g t (mixC l) := by
  have HL := Lib.hid hl; have HA := Lib.hid (mixC_length l)
  have HM := Lib.hid (mixC_at l hl)
  clear hl
  go_enter Tryz.func194, Tryz.ntmps194
  go_wp2
  go_loopw [8] (fun i wr => ∃ j : Nat, j ≤ 4 ∧ i = .int .i64 j ∧ Row wr g t (mixd (mixC l) l (4 * j)) ∧ Below g w wr) (fun i _ => 4 - (intOf i).toNat)
  case atStart => exact ⟨0, Nat.zero_le _, rfl, by rw [Nat.mul_zero, mixd_zero]; exact hr, Below.refl _ _⟩
  case round =>
    obtain ⟨j, hj, rfl, hrow, hb⟩ := hrel
    by_cases hlt : j < 4
    · obtain ⟨n0, n1, n2, n3⟩ := HM.out j hlt
      obtain ⟨m, hm⟩ : ∃ m : Nat, 4 * (j : Int) = (m : Int) := ⟨4 * j, by omega⟩
      have hm2 : 4 * j = m := by omega
      have hm3 : m + 4 ≤ 16 := by omega
      have hm4 : 4 * (j + 1) = m + 4 := by omega
      have hm5 : 4 * ((j : Int) + 1) = (m : Int) + 4 := by omega
      rw [hm2] at n0 n1 n2 n3 hrow
      have q0 := at_getD (l := l) (i := m) (by rw [HL.out]; omega)
      have q1 := at_getD (l := l) (i := m + 1) (by rw [HL.out]; omega)
      have q2 := at_getD (l := l) (i := m + 2) (by rw [HL.out]; omega)
      have q3 := at_getD (l := l) (i := m + 3) (by rw [HL.out]; omega)
      have Q0 := Lib.hid q0; have Q1 := Lib.hid q1; have Q2 := Lib.hid q2; have Q3 := Lib.hid q3
      clear q0 q1 q2 q3
      generalize l.getD m 0 = a at *
      generalize l.getD (m + 1) 0 = b at *
      generalize l.getD (m + 2) 0 = c at *
      generalize l.getD (m + 3) 0 = d at *
      have N0 := Lib.hid n0; have N1 := Lib.hid n1; have N2 := Lib.hid n2; have N3 := Lib.hid n3
      have mo : ∀ k j : Nat, k ≤ 16 → k ≤ j → (mixd (mixC l) l k)[j]? = l[j]? := fun k j hk hj => mixd_at HA.out k j hk hj
      have c0 := hrow.cell m a (by rw [mo m m (by omega) (by omega)]; exact Q0.out)
      have c1 := hrow.cell (m + 1) b (by rw [mo m (m + 1) (by omega) (by omega)]; exact Q1.out)
      have c2 := hrow.cell (m + 2) c (by rw [mo m (m + 2) (by omega) (by omega)]; exact Q2.out)
      have c3 := hrow.cell (m + 3) d (by rw [mo m (m + 3) (by omega) (by omega)]; exact Q3.out)
      clear n0 n1 n2 n3
      have HRow := Lib.hid hrow; have HB := Lib.hid hb; have HM2 := Lib.hid hm2; have HM4 := Lib.hid hm4
      clear hrow hb hm2 hm4 mo
      have hsl := fun u => slice_four g m hm3 u
      obtain ⟨x0, y0, z0, v0⟩ := col_int d a b c _ (col0 a b c d)
      obtain ⟨x1, y1, z1, v1⟩ := col_int a b c d _ (col1 a b c d)
      obtain ⟨x2, y2, z2, v2⟩ := col_int b c d a _ (col2 a b c d)
      obtain ⟨x3, y3, z3, v3⟩ := col_int c d a b _ (col3 a b c d)
      have p0 := (a ^^^ b).toNat_lt; have p1 := (b ^^^ c).toNat_lt; have p2 := (c ^^^ d).toNat_lt; have p3 := (d ^^^ a).toNat_lt
      generalize (mulB 2 (a ^^^ b) ^^^ b ^^^ c).toNat = e0 at *
      generalize (mulB 2 (b ^^^ c) ^^^ c ^^^ d).toNat = e1 at *
      generalize (mulB 2 (c ^^^ d) ^^^ d ^^^ a).toNat = e2 at *
      generalize (mulB 2 (d ^^^ a) ^^^ a ^^^ b).toNat = e3 at *
      generalize (mulB 2 (a ^^^ b) ^^^ b).toNat = r0 at *
      generalize (mulB 2 (b ^^^ c) ^^^ c).toNat = r1 at *
      generalize (mulB 2 (c ^^^ d) ^^^ d).toNat = r2 at *
      generalize (mulB 2 (d ^^^ a) ^^^ a).toNat = r3 at *
      generalize (a ^^^ b).toNat = k0 at *
      generalize (b ^^^ c).toNat = k1 at *
      generalize (c ^^^ d).toNat = k2 at *
      generalize (d ^^^ a).toNat = k3 at *
      generalize dot 2 3 1 1 a b c d = D0 at *
      generalize dot 1 2 3 1 a b c d = D1 at *
      generalize dot 1 1 2 3 a b c d = D2 at *
      generalize dot 3 1 1 2 a b c d = D3 at *
      have T0 := Lib.hid (fun u => double_any k0 p0 u); have T1 := Lib.hid (fun u => double_any k1 p1 u); have T2 := Lib.hid (fun u => double_any k2 p2 u); have T3 := Lib.hid (fun u => double_any k3 p3 u)
      have mo : ∀ k j : Nat, k ≤ 16 → k ≤ j → (mixd (mixC l) l k)[j]? = l[j]? := fun k j hk hj => mixd_at HA.out k j hk hj
      have MO := Lib.hid mo
      clear mo
      go_wp2
      go_quiet (fail)
      have w0 := HRow.out.drewN nq
      clear c0 c1 c2 c3
      have w1 := row_mixd HA.out HL.out m (by omega) w0 _ N0.out _ rfl
      have w2 := row_mixd HA.out HL.out (m + 1) (by omega) w1 _ N1.out _ rfl
      have w3 := row_mixd HA.out HL.out (m + 2) (by omega) w2 _ N2.out _ rfl
      have w4 := row_mixd HA.out HL.out (m + 3) (by omega) w3 _ N3.out _ rfl
      have f0 := w0.frozen m; have f1 := w1.frozen (m + 1); have f2 := w2.frozen (m + 2); have f3 := w3.frozen (m + 3)
      have g0 := w0.cell m a (by rw [MO.out m m (by omega) (by omega)]; exact Q0.out)
      have g1 := w1.cell (m + 1) b (by rw [MO.out (m + 1) (m + 1) (by omega) (by omega)]; exact Q1.out)
      have g2 := w2.cell (m + 2) c (by rw [MO.out (m + 2) (m + 2) (by omega) (by omega)]; exact Q2.out)
      have g3 := w3.cell (m + 3) d (by rw [MO.out (m + 3) (m + 3) (by omega) (by omega)]; exact Q3.out)
      have W4 := Lib.hid w4
      clear w0 w1 w2 w3 w4
      generalize a.toNat = a at *
      generalize b.toNat = b at *
      generalize c.toNat = c at *
      generalize d.toNat = d at *
      go_wp2_with (first
        | (go_at_call 211; with_reducible refine (T0.out _).mono ?_; rintro e w1 ⟨rfl, rfl⟩)
        | (go_at_call 211; with_reducible refine (T1.out _).mono ?_; rintro e w1 ⟨rfl, rfl⟩)
        | (go_at_call 211; with_reducible refine (T2.out _).mono ?_; rintro e w1 ⟨rfl, rfl⟩)
        | (go_at_call 211; with_reducible refine (T3.out _).mono ?_; rintro e w1 ⟨rfl, rfl⟩))
      go_roundw
      case rel => exact ⟨j + 1, by omega, by go_num, by rw [HM4.out]; exact W4.out, ((((below_drewN HB.out nq).setCell (p := ⟨g, _, none⟩) (Nat.le_refl _) _).setCell (p := ⟨g, _, none⟩) (Nat.le_refl _) _).setCell (p := ⟨g, _, none⟩) (Nat.le_refl _) _).setCell (p := ⟨g, _, none⟩) (Nat.le_refl _) _⟩
      case measure => simp [intOf]; omega
    · obtain rfl : j = 4 := by omega
      rw [show 4 * 4 = 16 from rfl, mixd_all HA.out HL.out] at hrow
      have e4 : ((4 : Nat) : Int) = 4 := rfl
      rw [e4]
      clear e4
      go_wp2
      go_end0
      exact ⟨rfl, hb, hrow⟩
end Go.Proofs.YtobhbppogeghnaaGreatDoor
end
