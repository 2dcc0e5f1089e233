/- Contracts: the inverses of all bytes, by the program. Contracts: the box of each byte, and the byte of each box, by the program. Contracts: a block, either or with a round key; its bytes through a table; by the program. -/
import Derived.Test.YtcjdnifckngcfaaGreatDoorM26
import Derived.Test.YtcjdnifckngcfaaGreatDoorM27
import Derived.Laws.Tables
import Derived.Outline
import Derived.Laws.BitsAllLaws
import Derived.Deep.QuietTactic
import Derived.BigQuiet
import Derived.RegionTactic
import Derived.ChangeAlike
import Derived.BigRegion
section
namespace Go.Proofs.YtcjdnifckngcfaaGreatDoor
open Go.RowKit

theorem info5s : (Tryz.prog.info? 5).map (·.size) = some 1 := by kernel_rfl
/-- An array of bytes, read by value. -/
theorem index_bytes (t n : Nat) (ht : Tryz.prog.underlying t = some (.array n 5)) (L : List UInt8) (hL : L.length = n) (i : Nat) (b : UInt8) (hb : L[i]? = some b) (w : World) :
    (Instr.index t (.agg (L.map cellOf).toArray) (.int .i64 (i : Int))).run Tryz.prog w = .ok (.int .u8 (b.toNat : Int)) w := by
  have hi : i < L.length := (List.getElem?_eq_some_iff.1 hb).1
  have hu2 := Tryz.underlying5
  have hg : L[i] = b := by rw [List.getElem?_eq_getElem hi] at hb; simpa using hb
  cases hq : Tryz.prog.info? 5 with
  | none => have := info5s; simp [hq] at this
  | some d =>
    have hs : d.size = 1 := by have := info5s; simpa [hq] using this
    simp [Instr.index, part, isAgg, run_underlying ht, run_underlying hu2, sizeOf, typeInfo, hq, hs, hL, asIntOf, go_sem, show i < n by omega, hg, cellOf]
/-- The powers of x + 1. -/
def pw : Nat → Nat
  | 0 => 1
  | n + 1 => pw n ^^^ xt (pw n)
theorem pw_lt : ∀ n, pw n < 256
  | 0 => by decide
  | n + 1 => xor_lt256 (pw_lt n) (xt_lt _)
def pwB : List UInt8 := (List.range 255).map fun i => UInt8.ofNat (pw i)
theorem pwB_length : pwB.length = 255 := by simp [pwB]
theorem pwB_at (i : Nat) (h : i < 255) : pwB[i]? = some (UInt8.ofNat (pw i)) := by simp [pwB, h]
theorem pw_nat (i : Nat) : (UInt8.ofNat (pw i)).toNat = pw i := by rw [UInt8.toNat_ofNat']; exact Nat.mod_eq_of_lt (pw_lt i)
/-- The inverses, as they are laid. -/
def invS : Nat → List UInt8
  | 0 => List.replicate 256 0
  | i + 1 => (invS i).set (pw i) (UInt8.ofNat (pw ((255 - i) % 255)))
theorem invS_length : ∀ i, (invS i).length = 256
  | 0 => List.length_replicate
  | i + 1 => by rw [invS, List.length_set, invS_length i]
def invB : List UInt8 := invT.map UInt8.ofNat
theorem invS_all : invS 255 = invB := by decide +kernel
theorem invB_length : invB.length = 256 := by decide +kernel
theorem pw_zero : pw 0 = 1 := rfl
theorem pw_succ (n : Nat) : pw (n + 1) = pw n ^^^ xt (pw n) := rfl
attribute [irreducible] pwB invB pw
set_option maxRecDepth 100000 in
set_option maxHeartbeats 1000000 in
theorem inverses_any (w : World) : Calls Tryz.prog 186 #[] w fun e w' => e = .returned (.agg (invB.map cellOf).toArray) ∧ Ext w w' := by
  have HP := Lib.hid pw_lt
  have HA := Lib.hid pwB_at
  have HN := Lib.hid pw_nat
  have hz1 := zero_run zero255
  have hz2 := zero_run zero256
  go_enter Tryz.func186, Tryz.ntmps186
  go_wp2
  go_loopw [7, 2] (fun i p wr => ∃ j : Nat, j ≤ 255 ∧ i = .int .i64 j ∧ p = .int .u8 (pw j : Nat) ∧ Row wr (w.heap.size + 1) 259 (pwB.take j ++ List.replicate (255 - j) 0) ∧ Row wr w.heap.size 204 (List.replicate 256 0) ∧ Ext w wr) (fun i _ _ => 255 - (intOf i).toNat)
  case atStart => exact ⟨0, Nat.zero_le _, rfl, by rw [pw_zero]; rfl, by simpa using Row.zero (w.alloc _) 259 255, (Row.zero w _ _).alloc _, ((Ext.refl w).alloc _).alloc _⟩
  case round =>
    obtain ⟨j, hj, rfl, rfl, hrow, hres, hext⟩ := hrel
    by_cases hlt : j < 255
    · have hc := fill_cell hrow pwB_length hlt
      have hf := hrow.frozen j
      have HS := Lib.hid (fun x hx => fill_step hrow pwB_length hlt x _ (HA.out j hlt) hx)
      have hpl := HP.out j
      have hxl := xt_lt (pw j)
      have HPS := Lib.hid (pw_succ j)
      have HNj := Lib.hid (HN.out j)
      generalize UInt8.ofNat (pw j) = B at *
      generalize pw j = p at *
      have hxor := u8_xor_nat p (xt p) hpl hxl
      have HR := Lib.hid hres; have HE := Lib.hid hext
      clear hrow hres hext
      go_wp2_with (go_at_call 211; refine (double_any p hpl _).mono ?_; rintro e w1 ⟨rfl, rfl⟩)
      go_roundw
      case rel => exact ⟨j + 1, by omega, by go_num, by rw [HPS.out], HS.out _ (by rw [HNj.out]), HR.out.other (by omega) _ _, HE.out.setCell (by simp) _⟩
      case measure => simp [intOf]; omega
    · obtain rfl : j = 255 := by omega
      rw [Nat.sub_self, List.replicate_zero, List.append_nil, List.take_of_length_le (by rw [pwB_length]; exact Nat.le_refl _)] at hrow
      have hw1 : w.heap.size + 1 < wr.heap.size := hrow.lt
      have HRow := Lib.hid hrow; have HR := Lib.hid hres; have HE := Lib.hid hext
      clear hrow hres hext
      go_wp2_with (refine wpList_load_row rfl 259 (.tmp 1) rfl (w.heap.size + 1) rfl 259 _ (0, 0) _ (HRow.out.alloc _) Tryz.underlying259 rfl (sized size255 pwB_length) ?_)
      go_loopw [19] (fun i wr2 => ∃ j : Nat, j ≤ 255 ∧ i = .int .i64 j ∧ Row wr2 wr.heap.size 204 (invS j) ∧ Row wr2 (w.heap.size + 1) 259 pwB ∧ Row wr2 w.heap.size 204 (List.replicate 256 0) ∧ Ext w wr2) (fun i _ => 255 - (intOf i).toNat)
      case atStart => exact ⟨0, Nat.zero_le _, rfl, Row.zero wr _ 256, HRow.out.alloc _, HR.out.alloc _, HE.out.alloc _⟩
      case round =>
        obtain ⟨i, hi, rfl, hrow, hpw, hres, hext⟩ := hrel
        by_cases hlt : i < 255
        · have hix : ∀ u, (Instr.index 259 (.agg (pwB.map cellOf).toArray) (.int .i64 (i : Int))).run Tryz.prog u = .ok (.int .u8 (pw i : Nat)) u := fun u => by
            rw [index_bytes 259 255 Tryz.underlying259 pwB pwB_length i _ (HA.out i hlt) u, HN.out]
          obtain ⟨q, hq⟩ : ∃ q : Nat, ((255 : Int) - (i : Int)) % 255 = (q : Int) := ⟨(255 - i) % 255, by omega⟩
          have hq2 : q < 255 := by omega
          have hq3 : (255 - i) % 255 = q := by omega
          have hcq := hpw.cell q _ (HA.out q hq2)
          rw [HN.out] at hcq
          have hpl := HP.out i
          have hcp := hrow.cell (pw i) _ (List.getElem?_eq_getElem (by rw [invS_length]; exact hpl))
          have hfp := hrow.frozen (pw i)
          have HS := Lib.hid (hrow.set_ (pw i) (pw q : Nat) (by omega) (by have := HP.out q; omega))
          have HSt : Hid (invS (i + 1) = (invS i).set (pw i) (UInt8.ofNat (pw q))) := Lib.hid (by rw [invS, hq3])
          have HPW := Lib.hid hpw; have HR2 := Lib.hid hres; have HE2 := Lib.hid hext
          clear hrow hpw hres hext hq3
          generalize pw i = p at *
          generalize pw q = y at *
          have HW := Lib.hid hw1
          go_wp2
          go_roundw
          case rel => exact ⟨i + 1, by omega, by go_num, by rw [HSt.out]; simpa using HS.out, HPW.out.other (by omega) _ _, HR2.out.other (by omega) _ _, HE2.out.setCell (by have := HE.out.size; omega) _⟩
          case measure => simp [intOf]; omega
        · obtain rfl : i = 255 := by omega
          rw [invS_all] at hrow
          have e255 : ((255 : Nat) : Int) = 255 := rfl
          rw [e255]
          clear e255
          go_wp2_with (first
            | (refine wpList_load_row rfl 204 (.tmp 4) rfl _ rfl 204 _ (0, 0) _ hrow Tryz.underlying204 rfl (sized size256 invB_length) ?_)
            | (refine wpList_store_row rfl 204 (.tmp 0) (.tmp 31) rfl w.heap.size _ rfl rfl 204 _ hres (sized size256 invB_length) (by simp [invB_length]) (cells8_one _) ?_))
          exact bodyPost_ret (results_cell_row rfl _ _ w.heap.size 204 _ (0, 0) _ rfl (setRow_heap _ _ _ _ _ _ hres) Tryz.underlying204 rfl (sized size256 invB_length)) rfl ⟨rfl, hext.setRow (Nat.le_refl _) _⟩
end Go.Proofs.YtcjdnifckngcfaaGreatDoor
end

section
namespace Go.Proofs.YtcjdnifckngcfaaGreatDoor
open Go.RowKit

theorem invB_at (i : Nat) (h : i < 256) : invB[i]? = some (UInt8.ofNat (invN i)) := by
  have : ∀ i, i < 256 → invB[i]? = some (UInt8.ofNat (invN i)) := by decide +kernel
  exact this i h
theorem box_chain : ∀ i, i < 256 → ((((invN i ^^^ rlB (invN i) 1) ^^^ rlB (invN i) 2) ^^^ rlB (invN i) 3) ^^^ rlB (invN i) 4) ^^^ 99 = (boxB (UInt8.ofNat i)).toNat := by decide +kernel
/-- The bytes of the boxes, as they are laid. -/
def unS : Nat → List UInt8
  | 0 => List.replicate 256 0
  | i + 1 => (unS i).set (boxB (UInt8.ofNat i)).toNat (UInt8.ofNat i)
theorem unS_length : ∀ i, (unS i).length = 256
  | 0 => List.length_replicate
  | i + 1 => by rw [unS, List.length_set, unS_length i]
theorem unS_all : unS 256 = unboxT := by decide +kernel
theorem unboxT_length : unboxT.length = 256 := by decide +kernel
def bxS (i : Nat) : List UInt8 := boxT.take i ++ List.replicate (256 - i) 0
theorem bxS_length (i : Nat) (h : i ≤ 256) : (bxS i).length = 256 := by
  unfold bxS
  rw [List.length_append, List.length_take, boxT_length, List.length_replicate]; omega
theorem bxS_step (i : Nat) (h : i < 256) : (bxS i).set i (boxB (UInt8.ofNat i)) = bxS (i + 1) := by
  unfold bxS
  have e2 : 256 - i = (256 - (i + 1)) + 1 := by omega
  rw [boxT_take i h, List.set_append_right _ _ (by rw [List.length_take, boxT_length]; omega), List.length_take, boxT_length, Nat.min_eq_left (by omega), Nat.sub_self, e2, List.replicate_succ]
  simp
def boxesL : List UInt8 := boxT ++ unboxT
theorem boxesL_length : boxesL.length = 512 := by unfold boxesL; rw [List.length_append, boxT_length, unboxT_length]
theorem boxesL_at (j : Nat) (h : j < 256) : boxesL[j]? = some (boxB (UInt8.ofNat j)) := by
  unfold boxesL
  rw [List.getElem?_append_left (by rw [boxT_length]; exact h), boxT_at j h]
theorem unboxT_at (j : Nat) (h : j < 256) : unboxT[j]? = some (unboxB (UInt8.ofNat j)) := by
  have hj : j < unboxT.length := by rw [unboxT_length]; exact h
  have e : (UInt8.ofNat j).toNat = j := by rw [UInt8.toNat_ofNat']; omega
  unfold unboxB
  rw [e, List.getD_eq_getElem?_getD, List.getElem?_eq_getElem hj]; rfl
theorem boxesL_un (j : Nat) (h : j < 256) : boxesL[256 + j]? = some (unboxB (UInt8.ofNat j)) := by
  unfold boxesL
  rw [List.getElem?_append_right (by rw [boxT_length]; omega), boxT_length, Nat.add_sub_cancel_left, unboxT_at j h]
theorem boxesL_done : bxS 256 ++ unS 256 = boxesL := by
  unfold bxS boxesL
  rw [unS_all, Nat.sub_self, List.replicate_zero, List.append_nil, List.take_of_length_le (by rw [boxT_length]; exact Nat.le_refl _)]
theorem bxS_zero : bxS 0 ++ unS 0 = List.replicate 512 0 := by
  unfold bxS unS
  rw [List.take_zero, List.nil_append, List.replicate_append_replicate]
theorem unS_succ (i : Nat) : unS (i + 1) = (unS i).set (boxB (UInt8.ofNat i)).toNat (UInt8.ofNat i) := rfl
attribute [irreducible] boxesL bxS unS
set_option maxRecDepth 100000 in
set_option maxHeartbeats 1000000 in
theorem newBoxes_any (w : World) : Calls Tryz.prog 159 #[] w fun e w' => e = .returned (.agg (boxesL.map cellOf).toArray) ∧ Ext w w' := by
  have hz := zero_run zero512
  have HI := Lib.hid invB_at
  have HC := Lib.hid box_chain
  have HN := Lib.hid (fun i (h : i < 256) => (invN_spec i h).1)
  go_enter Tryz.func159, Tryz.ntmps159
  go_wp2_with (go_at_call 186; refine (inverses_any _).mono ?_; rintro e w1 ⟨rfl, h1⟩)
  have hb0 : Row w1 (w.heap.size + 1) 206 (bxS 0 ++ unS 0) := by rw [bxS_zero]; exact Row.ext (Row.zero (w.alloc _) _ 512) h1 |> fun h => by simpa using h
  have hr0 : Row w1 w.heap.size 206 (List.replicate 512 0) := ((Row.zero w _ 512).alloc _).ext h1
  have hx0 : Ext w w1 := (((Ext.refl w).alloc _).alloc _).trans h1
  clear h1
  go_loopw [6] (fun i wr => ∃ j : Nat, j ≤ 256 ∧ i = .int .i64 j ∧ Row wr (w.heap.size + 1) 206 (bxS j ++ unS j) ∧ Row wr w.heap.size 206 (List.replicate 512 0) ∧ Ext w wr) (fun i _ => 256 - (intOf i).toNat)
  case atStart => exact ⟨0, Nat.zero_le _, rfl, hb0, hr0, hx0⟩
  case round =>
    clear hb0 hr0 hx0
    obtain ⟨i, hi, rfl, hrow, hres, hext⟩ := hrel
    by_cases hlt : i < 256
    · have hcn := HN.out i hlt
      have hix : ∀ u, (Instr.index 204 (.agg (invB.map cellOf).toArray) (.int .i64 (i : Int))).run Tryz.prog u = .ok (.int .u8 (invN i : Nat)) u := fun u => by
        rw [index_bytes 204 256 Tryz.underlying204 invB invB_length i _ (HI.out i hlt) u, UInt8.toNat_ofNat', Nat.mod_eq_of_lt hcn]
      have hchain := HC.out i hlt
      generalize invN i = c at *
      have l1 := rlB_lt (r := 1) hcn; have l2 := rlB_lt (r := 2) hcn; have l3 := rlB_lt (r := 3) hcn; have l4 := rlB_lt (r := 4) hcn
      have m1 := xor_lt256 hcn l1; have m2 := xor_lt256 m1 l2; have m3 := xor_lt256 m2 l3; have m4 := xor_lt256 m3 l4
      have x1 := u8_xor_nat _ _ hcn l1
      have x2 := u8_xor_nat _ _ m1 l2
      have x3 := u8_xor_nat _ _ m2 l3
      have x4 := u8_xor_nat _ _ m3 l4
      have x5 := u8_xor_nat _ 99 m4 (by decide)
      rw [hchain] at x5
      have x5 : bits BinOp.xor IntKind.u8 ((c ^^^ rlB c 1 ^^^ rlB c 2 ^^^ rlB c 3 ^^^ rlB c 4 : Nat) : Int) 99 = ((boxB (UInt8.ofNat i)).toNat : Int) := x5
      have hsl : (boxB (UInt8.ofNat i)).toNat < 256 := (boxB (UInt8.ofNat i)).toNat_lt
      have HU : Hid (unS (i + 1) = (unS i).set (boxB (UInt8.ofNat i)).toNat (UInt8.ofNat i)) := Lib.hid (unS_succ i)
      have HB := Lib.hid (bxS_step i hlt)
      have HBL := Lib.hid (bxS_length i hi); have HBL1 := Lib.hid (bxS_length (i + 1) hlt)
      generalize boxB (UInt8.ofNat i) = B at *
      obtain ⟨s, hs⟩ : ∃ s, B.toNat = s := ⟨_, rfl⟩
      have H1 : Hid (∀ u, Row u (w.heap.size + 1) 206 (bxS i ++ unS i) → Row (u.setCell ⟨w.heap.size + 1, i, none⟩ (.int .u8 (s : Int))) (w.heap.size + 1) 206 (bxS (i + 1) ++ unS i)) := Lib.hid (fun u hu => by
        have h := hu.set_ i (s : Int) (by omega) (by omega)
        rw [List.set_append_left _ _ (by rw [HBL.out]; exact hlt)] at h
        have e : UInt8.ofNat ((s : Int)).toNat = B := by rw [← hs]; simp
        rw [e, HB.out] at h
        exact h)
      have H2 : Hid (∀ u, Row u (w.heap.size + 1) 206 (bxS (i + 1) ++ unS i) → Row (u.setCell ⟨w.heap.size + 1, 256 + s, none⟩ (.int .u8 (i : Int))) (w.heap.size + 1) 206 (bxS (i + 1) ++ unS (i + 1))) := Lib.hid (fun u hu => by
        have h := hu.set_ (256 + s) (i : Int) (by omega) (by omega)
        rw [List.set_append_right _ _ (by rw [HBL1.out]; omega), HBL1.out, Nat.add_sub_cancel_left, Int.toNat_natCast] at h
        rw [HU.out, hs]
        exact h)
      have HC1 : Hid (∀ u, Row u (w.heap.size + 1) 206 (bxS i ++ unS i) → ∃ v, u.cell? ⟨w.heap.size + 1, i, none⟩ = some v) := Lib.hid (fun u hu => ⟨_, hu.cell i _ (List.getElem?_eq_getElem (by rw [List.length_append, HBL.out]; omega))⟩)
      have HC2 : Hid (∀ u, Row u (w.heap.size + 1) 206 (bxS (i + 1) ++ unS i) → ∃ v, u.cell? ⟨w.heap.size + 1, 256 + s, none⟩ = some v) := Lib.hid (fun u hu => ⟨_, hu.cell (256 + s) _ (List.getElem?_eq_getElem (by rw [List.length_append, HBL1.out, unS_length]; omega))⟩)
      rw [hs] at x5 hsl
      have T1 : Hid (∀ u, Calls Tryz.prog 187 #[.int .u8 (c : Int), .int .i64 1] u fun e w' => e = .returned (.int .u8 (rlB c 1 : Nat)) ∧ Ext u w') := Lib.hid (fun u => turned_any c 1 hcn (by decide) u)
      have T2 : Hid (∀ u, Calls Tryz.prog 187 #[.int .u8 (c : Int), .int .i64 2] u fun e w' => e = .returned (.int .u8 (rlB c 2 : Nat)) ∧ Ext u w') := Lib.hid (fun u => turned_any c 2 hcn (by decide) u)
      have T3 : Hid (∀ u, Calls Tryz.prog 187 #[.int .u8 (c : Int), .int .i64 3] u fun e w' => e = .returned (.int .u8 (rlB c 3 : Nat)) ∧ Ext u w') := Lib.hid (fun u => turned_any c 3 hcn (by decide) u)
      have T4 : Hid (∀ u, Calls Tryz.prog 187 #[.int .u8 (c : Int), .int .i64 4] u fun e w' => e = .returned (.int .u8 (rlB c 4 : Nat)) ∧ Ext u w') := Lib.hid (fun u => turned_any c 4 hcn (by decide) u)
      have HRow := Lib.hid hrow; have HRes := Lib.hid hres; have HE := Lib.hid hext
      clear l1 l2 l3 l4 m1 m2 m3 m4 hchain hs hrow hres hext
      go_wp2_with (first
        | (go_at_call 187; with_reducible refine (T1.out _).mono ?_; rintro e w1 ⟨rfl, h1⟩)
        | (go_at_call 187; with_reducible refine (T2.out _).mono ?_; rintro e w2 ⟨rfl, h2⟩)
        | (go_at_call 187; with_reducible refine (T3.out _).mono ?_; rintro e w3 ⟨rfl, h3⟩)
        | (go_at_call 187; with_reducible refine (T4.out _).mono ?_; rintro e w4 ⟨rfl, h4⟩; have hx4 := Lib.hid (h1.trans (h2.trans (h3.trans h4))); have R4 := Lib.hid (HRow.out.ext hx4.out); obtain ⟨v1, c1⟩ := HC1.out _ R4.out; have f1 := R4.out.frozen i; have R5 := Lib.hid (H1.out _ R4.out); obtain ⟨v2, c2⟩ := HC2.out _ R5.out; have f2 := R5.out.frozen (256 + s); clear h1 h2 h3 h4))
      go_roundw
      case rel => exact ⟨i + 1, by omega, by go_num, H2.out _ R5.out, ((HRes.out.ext hx4.out).other (by omega) _ _).other (by omega) _ _, ((HE.out.trans hx4.out).setCell (by simp) _).setCell (by simp) _⟩
      case measure => simp [intOf]; omega
    · obtain rfl : i = 256 := by omega
      rw [boxesL_done] at hrow
      have e256 : ((256 : Nat) : Int) = 256 := rfl
      rw [e256]
      clear e256
      go_wp2_with (first
        | (refine wpList_load_row rfl 206 (.tmp 1) rfl _ rfl 206 _ (0, 0) _ hrow Tryz.underlying206 rfl (sized size512 boxesL_length) ?_)
        | (refine wpList_store_row rfl 206 (.tmp 0) (.tmp 34) rfl w.heap.size _ rfl rfl 206 _ hres (sized size512 boxesL_length) (by simp [boxesL_length]) (cells8_one _) ?_))
      exact bodyPost_ret (results_cell_row rfl _ _ w.heap.size 206 _ (0, 0) _ rfl (setRow_heap _ _ _ _ _ _ hres) Tryz.underlying206 rfl (sized size512 boxesL_length)) rfl ⟨rfl, hext.setRow (Nat.le_refl _) _⟩
end Go.Proofs.YtcjdnifckngcfaaGreatDoor
end

section
namespace Go.Proofs.YtcjdnifckngcfaaGreatDoor
open Go.RowKit

/-- The first j of the new ones, the others as they were. -/
def mixd (new old : List UInt8) (j : Nat) : List UInt8 := new.take j ++ old.drop j
section
variable {new old : List UInt8}
theorem mixd_zero : mixd new old 0 = old := by simp [mixd]
theorem mixd_all (h : new.length = 16) (ho : old.length = 16) : mixd new old 16 = new := by
  unfold mixd
  rw [List.take_of_length_le (by omega), List.drop_of_length_le (by omega), List.append_nil]
theorem mixd_length (h : new.length = 16) (ho : old.length = 16) (j : Nat) (hj : j ≤ 16) : (mixd new old j).length = 16 := by simp [mixd, h, ho]; omega
theorem mixd_at (h : new.length = 16) (j i : Nat) (hj : j ≤ 16) (hi : j ≤ i) : (mixd new old j)[i]? = old[i]? := by
  unfold mixd
  rw [List.getElem?_append_right (by simp [h]; omega), List.getElem?_drop, List.length_take, h, Nat.min_eq_left hj]
  congr 1; omega
theorem mixd_set (h : new.length = 16) (ho : old.length = 16) (j : Nat) (hj : j < 16) (b : UInt8) (hb : new[j]? = some b) : (mixd new old j).set j b = mixd new old (j + 1) := by
  unfold mixd
  have hg : new[j] = b := by rw [List.getElem?_eq_getElem (by omega)] at hb; simpa using hb
  rw [List.set_append_right _ _ (by simp [h]; omega), List.length_take, h, Nat.min_eq_left (by omega), Nat.sub_self, List.drop_eq_getElem_cons (by omega), List.set_cons_zero, List.take_succ_eq_append_getElem (by omega), hg, List.append_assoc]
  rfl
theorem row_mixd {w : World} {g : Nat} {t : TypeId} (h : new.length = 16) (ho : old.length = 16) (j : Nat) (hj : j < 16) (hr : Row w g t (mixd new old j)) (b : UInt8) (hb : new[j]? = some b) (x : Int) (hx : x = (b.toNat : Int)) :
    Row (w.setCell ⟨g, j, none⟩ (.int .u8 x)) g t (mixd new old (j + 1)) := by
  have hb2 := b.toNat_lt
  have h2 := hr.set_ j x (by omega) (by omega)
  have e : UInt8.ofNat x.toNat = b := by rw [hx]; simp
  rw [e, mixd_set h ho j hj b hb] at h2
  exact h2
end
/-- Block k holds, from o on, these bytes. -/
def Bytes (w : World) (k o : Nat) (l : List UInt8) : Prop := ∀ (i : Nat) (b : UInt8), l[i]? = some b → w.cell? ⟨k, o + i, none⟩ = some (.int .u8 (b.toNat : Int))
theorem Bytes.below {w w' : World} {k o B : Nat} {l : List UInt8} (h : Bytes w k o l) (hb : Below B w w') (hk : k < B) : Bytes w' k o l := fun i b hi => (hb.cell (p := ⟨k, o + i, none⟩) hk).trans (h i b hi)
theorem xor_nat8 (a b : UInt8) : bits BinOp.xor IntKind.u8 (a.toNat : Int) (b.toNat : Int) = ((a ^^^ b).toNat : Int) := by
  rw [u8_xor_nat _ _ a.toNat_lt b.toNat_lt, UInt8.toNat_xor]
set_option maxRecDepth 100000 in
set_option maxHeartbeats 1000000 in
theorem add_any (w : World) (g k o : Nat) (t : TypeId) (l key : List UInt8) (hr : Row w g t l) (hl : l.length = 16) (hk : key.length = 16) (hkb : Bytes w k o key) (hkg : k < g) :
    Calls Tryz.prog 191 #[.pointer (some ⟨g, 0, none⟩), .pointer (some ⟨k, o, none⟩)] w fun e w' => e = .returned (.tuple #[]) ∧ Below g w w' ∧ Row w' g t (addK key l) := by
  have HL := Lib.hid hl; have HK := Lib.hid hk; have HKB := Lib.hid hkb
  have HA := Lib.hid (addK_length hk hl)
  clear hl hk hkb
  go_enter Tryz.func191, Tryz.ntmps191
  go_wp2
  go_loopw [5] (fun i wr => ∃ j : Nat, j ≤ 16 ∧ i = .int .i64 j ∧ Row wr g t (mixd (addK key l) l j) ∧ Below g w wr) (fun i _ => 16 - (intOf i).toNat)
  case atStart => exact ⟨0, Nat.zero_le _, rfl, by rw [mixd_zero]; exact hr, Below.refl _ _⟩
  case round =>
    obtain ⟨j, hj, rfl, hrow, hb⟩ := hrel
    by_cases hlt : j < 16
    · obtain ⟨x, hx⟩ : ∃ x, l[j]? = some x := ⟨_, List.getElem?_eq_getElem (by rw [HL.out]; exact hlt)⟩
      obtain ⟨y, hy⟩ : ∃ y, key[j]? = some y := ⟨_, List.getElem?_eq_getElem (by rw [HK.out]; exact hlt)⟩
      have hn : (addK key l)[j]? = some (x ^^^ y) := by unfold addK; rw [List.getElem?_zipWith, hx, hy]
      have c1 := hrow.cell j x (by rw [mixd_at HA.out j j (by omega) (Nat.le_refl _)]; exact hx)
      have c2 := (HKB.out.below hb hkg) j y hy
      have f1 := hrow.frozen j
      have HS := Lib.hid (fun v hv => row_mixd HA.out HL.out j hlt hrow _ hn v hv)
      have hxor := xor_nat8 x y
      have HB := Lib.hid hb
      clear hx hy hn hrow hb
      generalize (x ^^^ y).toNat = z at *
      generalize x.toNat = xn at *
      generalize y.toNat = yn at *
      go_wp2
      go_region
      go_wp2
      go_roundw
      case rel => exact ⟨j + 1, by omega, by go_num, HS.out _ (by first | rfl | exact hxor), (HB.out.setCell (p := ⟨g, _, none⟩) (Nat.le_refl _) _).drew⟩
      case measure => simp [intOf]; omega
    · obtain rfl : j = 16 := by omega
      rw [mixd_all HA.out HL.out] at hrow
      have e16 : ((16 : Nat) : Int) = 16 := rfl
      rw [e16]
      clear e16
      go_wp2
      go_end0
      exact ⟨rfl, hb, hrow⟩
end Go.Proofs.YtcjdnifckngcfaaGreatDoor
end
