/- Contracts: the inverses of all bytes, by the program. -/
import Derived.Test.YthglecfbcdikaaaDbl
import Derived.Test.YthglecfbcdikaaaRBox
import Derived.Test.YthglecfbcdikaaaZero
import Derived.Laws.Tables
import Derived.Outline
namespace Go.Proofs.Ythglecfbcdikaaa
open Go.RowKit

theorem info5s : (Try.prog.info? 5).map (·.size) = some 1 := by kernel_rfl
/-- An array of bytes, read by value. -/
theorem index_bytes (t n : Nat) (ht : Try.prog.underlying t = some (.array n 5)) (L : List UInt8) (hL : L.length = n) (i : Nat) (b : UInt8) (hb : L[i]? = some b) (w : World) :
    (Instr.index t (.agg (L.map cellOf).toArray) (.int .i64 (i : Int))).run Try.prog w = .ok (.int .u8 (b.toNat : Int)) w := by
  have hi : i < L.length := (List.getElem?_eq_some_iff.1 hb).1
  have hu2 := Try.underlying5
  have hg : L[i] = b := by rw [List.getElem?_eq_getElem hi] at hb; simpa using hb
  cases hq : Try.prog.info? 5 with
  | none => have := info5s; simp [hq] at this
  | some d =>
    have hs : d.size = 1 := by have := info5s; simpa [hq] using this
    simp [Instr.index, part, isAgg, run_underlying ht, run_underlying hu2, sizeOf, typeInfo, hq, hs, hL, asIntOf, go_sem, show i < n by omega, hg, cellOf]
/-- The powers of x + 1. -/
def pw : Nat → Nat
  | 0 => 1
  | n + 1 => pw n ^^^ xt (pw n)
theorem pw_lt : ∀ n, pw n < 256
  | 0 => by decide
  | n + 1 => xor_lt256 (pw_lt n) (xt_lt _)
def pwB : List UInt8 := (List.range 255).map fun i => UInt8.ofNat (pw i)
theorem pwB_length : pwB.length = 255 := by simp [pwB]
theorem pwB_at (i : Nat) (h : i < 255) : pwB[i]? = some (UInt8.ofNat (pw i)) := by simp [pwB, h]
theorem pw_nat (i : Nat) : (UInt8.ofNat (pw i)).toNat = pw i := by rw [UInt8.toNat_ofNat']; exact Nat.mod_eq_of_lt (pw_lt i)
/-- The inverses, as they are laid. -/
def invS : Nat → List UInt8
  | 0 => List.replicate 256 0
  | i + 1 => (invS i).set (pw i) (UInt8.ofNat (pw ((255 - i) % 255)))
theorem invS_length : ∀ i, (invS i).length = 256
  | 0 => List.length_replicate
  | i + 1 => by rw [invS, List.length_set, invS_length i]
def invB : List UInt8 := invT.map UInt8.ofNat
theorem invS_all : invS 255 = invB := by decide +kernel
theorem invB_length : invB.length = 256 := by decide +kernel
theorem pw_zero : pw 0 = 1 := rfl
theorem pw_succ (n : Nat) : pw (n + 1) = pw n ^^^ xt (pw n) := rfl
attribute [irreducible] pwB invB pw
set_option maxRecDepth 100000 in
set_option maxHeartbeats 1000000 in
theorem inverses_any (w : World) : Calls Try.prog 33 #[] w fun e w' => e = .returned (.agg (invB.map cellOf).toArray) ∧ Ext w w' := by
  have HP := Lib.hid pw_lt
  have HA := Lib.hid pwB_at
  have HN := Lib.hid pw_nat
  have hz1 := zero_run zero255
  have hz2 := zero_run zero256
  go_enter Try.func33, Try.ntmps33
  go_wp2
  go_loopw [7, 2] (fun i p wr => ∃ j : Nat, j ≤ 255 ∧ i = .int .i64 j ∧ p = .int .u8 (pw j : Nat) ∧ Row wr (w.heap.size + 1) 89 (pwB.take j ++ List.replicate (255 - j) 0) ∧ Row wr w.heap.size 49 (List.replicate 256 0) ∧ Ext w wr) (fun i _ _ => 255 - (intOf i).toNat)
  case atStart => exact ⟨0, Nat.zero_le _, rfl, by rw [pw_zero]; rfl, by simpa using Row.zero (w.alloc _) 89 255, (Row.zero w _ _).alloc _, ((Ext.refl w).alloc _).alloc _⟩
  case round =>
    obtain ⟨j, hj, rfl, rfl, hrow, hres, hext⟩ := hrel
    by_cases hlt : j < 255
    · have hc := fill_cell hrow pwB_length hlt
      have hf := hrow.frozen j
      have HS := Lib.hid (fun x hx => fill_step hrow pwB_length hlt x _ (HA.out j hlt) hx)
      have hpl := HP.out j
      have hxl := xt_lt (pw j)
      have HPS := Lib.hid (pw_succ j)
      have HNj := Lib.hid (HN.out j)
      generalize UInt8.ofNat (pw j) = B at *
      generalize pw j = p at *
      have hxor := u8_xor_nat p (xt p) hpl hxl
      have HR := Lib.hid hres; have HE := Lib.hid hext
      clear hrow hres hext
      go_wp2_with (go_at_call 46; refine (double_any p hpl _).mono ?_; rintro e w1 ⟨rfl, rfl⟩)
      go_roundw
      case rel => exact ⟨j + 1, by omega, by go_num, by rw [HPS.out], HS.out _ (by rw [HNj.out]), HR.out.other (by omega) _ _, HE.out.setCell (by simp) _⟩
      case measure => simp [intOf]; omega
    · obtain rfl : j = 255 := by omega
      rw [Nat.sub_self, List.replicate_zero, List.append_nil, List.take_of_length_le (by rw [pwB_length]; exact Nat.le_refl _)] at hrow
      have hw1 : w.heap.size + 1 < wr.heap.size := hrow.lt
      have HRow := Lib.hid hrow; have HR := Lib.hid hres; have HE := Lib.hid hext
      clear hrow hres hext
      go_wp2_with (refine wpList_load_row rfl 89 (.tmp 1) rfl (w.heap.size + 1) rfl 89 _ (0, 0) _ (HRow.out.alloc _) Try.underlying89 rfl (sized size255 pwB_length) ?_)
      go_loopw [19] (fun i wr2 => ∃ j : Nat, j ≤ 255 ∧ i = .int .i64 j ∧ Row wr2 wr.heap.size 49 (invS j) ∧ Row wr2 (w.heap.size + 1) 89 pwB ∧ Row wr2 w.heap.size 49 (List.replicate 256 0) ∧ Ext w wr2) (fun i _ => 255 - (intOf i).toNat)
      case atStart => exact ⟨0, Nat.zero_le _, rfl, Row.zero wr _ 256, HRow.out.alloc _, HR.out.alloc _, HE.out.alloc _⟩
      case round =>
        obtain ⟨i, hi, rfl, hrow, hpw, hres, hext⟩ := hrel
        by_cases hlt : i < 255
        · have hix : ∀ u, (Instr.index 89 (.agg (pwB.map cellOf).toArray) (.int .i64 (i : Int))).run Try.prog u = .ok (.int .u8 (pw i : Nat)) u := fun u => by
            rw [index_bytes 89 255 Try.underlying89 pwB pwB_length i _ (HA.out i hlt) u, HN.out]
          obtain ⟨q, hq⟩ : ∃ q : Nat, ((255 : Int) - (i : Int)) % 255 = (q : Int) := ⟨(255 - i) % 255, by omega⟩
          have hq2 : q < 255 := by omega
          have hq3 : (255 - i) % 255 = q := by omega
          have hcq := hpw.cell q _ (HA.out q hq2)
          rw [HN.out] at hcq
          have hpl := HP.out i
          have hcp := hrow.cell (pw i) _ (List.getElem?_eq_getElem (by rw [invS_length]; exact hpl))
          have hfp := hrow.frozen (pw i)
          have HS := Lib.hid (hrow.set_ (pw i) (pw q : Nat) (by omega) (by have := HP.out q; omega))
          have HSt : Hid (invS (i + 1) = (invS i).set (pw i) (UInt8.ofNat (pw q))) := Lib.hid (by rw [invS, hq3])
          have HPW := Lib.hid hpw; have HR2 := Lib.hid hres; have HE2 := Lib.hid hext
          clear hrow hpw hres hext hq3
          generalize pw i = p at *
          generalize pw q = y at *
          have HW := Lib.hid hw1
          go_wp2
          go_roundw
          case rel => exact ⟨i + 1, by omega, by go_num, by rw [HSt.out]; simpa using HS.out, HPW.out.other (by omega) _ _, HR2.out.other (by omega) _ _, HE2.out.setCell (by have := HE.out.size; omega) _⟩
          case measure => simp [intOf]; omega
        · obtain rfl : i = 255 := by omega
          rw [invS_all] at hrow
          have e255 : ((255 : Nat) : Int) = 255 := rfl
          rw [e255]
          clear e255
          go_wp2_with (first
            | (refine wpList_load_row rfl 49 (.tmp 4) rfl _ rfl 49 _ (0, 0) _ hrow Try.underlying49 rfl (sized size256 invB_length) ?_)
            | (refine wpList_store_row rfl 49 (.tmp 0) (.tmp 31) rfl w.heap.size _ rfl rfl 49 _ hres (sized size256 invB_length) (by simp [invB_length]) (cells8_one _) ?_))
          exact bodyPost_ret (results_cell_row rfl _ _ w.heap.size 49 _ (0, 0) _ rfl (setRow_heap _ _ _ _ _ _ hres) Try.underlying49 rfl (sized size256 invB_length)) rfl ⟨rfl, hext.setRow (Nat.le_refl _) _⟩
end Go.Proofs.Ythglecfbcdikaaa
