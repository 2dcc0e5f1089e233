/- Contracts: the place of a version: the document's at; slices.IndexFunc with the program's closure. -/
import Derived.Test.YtbobijgbemnmiaaCellNow
namespace Go.Proofs.Ytbobijgbemnmiaa
open Go.RowKit

/-- A place as a number; -1: nowhere. -/
def atI (n : Nat) (L : List Ver) : Int := match posL n L with
  | some k => (k : Int)
  | none => -1
theorem atI_some {n k : Nat} {L : List Ver} (h : posL n L = some k) : atI n L = (k : Int) := by simp [atI, h]
theorem atI_none {n : Nat} {L : List Ver} (h : posL n L = none) : atI n L = -1 := by simp [atI, h]
/-- None of the first versions has this number. -/
def NoN (n : Nat) (L : List Ver) (j : Nat) : Prop := ∀ i x, i < j → L[i]? = some x → x.n ≠ n
theorem NoN.zero (n : Nat) (L : List Ver) : NoN n L 0 := fun i x h => by omega
theorem NoN.succ {n j : Nat} {L : List Ver} (h : NoN n L j) {x : Ver} (hx : L[j]? = some x) (hn : x.n ≠ n) : NoN n L (j + 1) := fun i y hi hy => by
  by_cases e : i = j
  · subst e; rw [hx] at hy; cases hy; exact hn
  · exact h i y (by omega) hy
theorem NoN.all {n j : Nat} {L : List Ver} (h : NoN n L j) (hj : L.length ≤ j) : atI n L = -1 :=
  atI_none (posL_none fun i x hx => h i x (by have := (List.getElem?_eq_some_iff.1 hx).1; omega) hx)
theorem NoN.found {n j : Nat} {L : List Ver} (h : NoN n L j) {x : Ver} (hx : L[j]? = some x) (hn : x.n = n) : atI n L = (j : Int) := atI_some (posL_some hx hn h)
set_option maxRecDepth 100000 in
set_option maxHeartbeats 2000000 in
theorem rat_any (w : World) (m n : Nat) (p : Option Addr) (c : Nat) (L : List Ver) (h : VersP w p L) (hl : L.length ≤ 140737488355328) :
    Calls Try.prog 28 #[.agg #[.int .u64 (m : Int), .slice p L.length c], .int .u64 (n : Int)] w fun e w' => e = .returned (.int .i64 (atI n L)) ∧ Ext w w' := by
  obtain ⟨k, hk⟩ : ∃ k, L.length = k := ⟨_, rfl⟩
  have HK := Lib.hid hk
  have HL := Lib.hid h
  rw [hk] at hl ⊢
  clear hk h
  have HB1 := Lib.hid (Blk.new w [.int .u64 (m : Int), .slice p k c] 25)
  have HX0 := Lib.hid ((Ext.refl w).alloc (.cells #[.int .u64 (m : Int), .slice p k c] 25))
  go_enter Try.func28, Try.ntmps28
  go_wp2
  go_loopw [5] (fun iv wr => ∃ j : Nat, j ≤ k ∧ iv = .int .i64 (j : Int) ∧ Hid (NoN n L j) ∧ Hid (Blk wr w.heap.size 25 [.int .u64 (m : Int), .slice p k c]) ∧ Hid (Ext w wr)) (fun iv _ => k - (intOf iv).toNat)
  case atStart => exact ⟨0, Nat.zero_le _, rfl, Lib.hid (NoN.zero _ _), HB1, HX0⟩
  case round =>
    obtain ⟨j, hj, rfl, HR, B1, HX⟩ := hrel
    have b1 := B1.out.cell 1 _ rfl
    by_cases hlt : j < k
    · have e1 := HK.out
      obtain ⟨x, hx⟩ : ∃ x, L[j]? = some x := ⟨_, List.getElem?_eq_getElem (by omega)⟩
      clear e1
      obtain ⟨g, rfl, c0, c1, c2⟩ := HL.out.three HX.out hx
      obtain ⟨xn, xs, xt⟩ := x
      have Hx := Lib.hid hx
      dsimp only at c0 c1 c2
      clear hx
      by_cases hn : xn = n
      · have HF := Lib.hid (HR.out.found Hx.out hn)
        have hq : ((xn : Int) == (n : Int)) = true := by have : (xn : Int) = (n : Int) := (by omega); simpa using this
        clear hn
        go_wp2
        go_ret
        exact ⟨by rw [HF.out]; rfl, HX.out⟩
      · have HF := Lib.hid (HR.out.succ Hx.out hn)
        have hq : ((xn : Int) == (n : Int)) = false := by have : ¬ (xn : Int) = (n : Int) := (by omega); simpa using this
        clear hn
        go_wp2
        go_roundw
        case rel => exact ⟨j + 1, by omega, by go_num, HF, B1, HX⟩
        case measure => simp [intOf]; omega
    · obtain rfl : j = k := by omega
      have HF := Lib.hid (HR.out.all (by rw [HK.out]; exact Nat.le_refl _))
      go_wp2
      go_ret
      exact ⟨by rw [HF.out]; rfl, HX.out⟩
set_option maxRecDepth 100000 in
set_option maxHeartbeats 2000000 in
theorem index_any (w : World) (n b : Nat) (p : Option Addr) (c : Nat) (L : List Ver) (h : VersP w p L) (hl : L.length ≤ 140737488355328) (hb : Blk w b 22 [.int .u64 (n : Int)]) :
    Calls Try.prog 37 #[.slice p L.length c, .func (.func 38) #[] #[.pointer (some ⟨b, 0, none⟩)]] w fun e w' => e = .returned (.int .i64 (atI n L)) ∧ Ext w w' := by
  obtain ⟨k, hk⟩ : ∃ k, L.length = k := ⟨_, rfl⟩
  have HK := Lib.hid hk
  have HL := Lib.hid h
  have HB := Lib.hid hb
  rw [hk] at hl ⊢
  clear hk h hb
  go_enter Try.func37, Try.ntmps37
  go_wp2
  go_loopw [8] (fun iv wr => ∃ j : Nat, j ≤ k ∧ iv = .int .i64 (j : Int) ∧ Hid (NoN n L j) ∧ Hid (Ext w wr)) (fun iv _ => k - (intOf iv).toNat)
  case atStart => exact ⟨0, Nat.zero_le _, rfl, Lib.hid (NoN.zero _ _), Lib.hid (Ext.refl _)⟩
  case round =>
    obtain ⟨j, hj, rfl, HR, HX⟩ := hrel
    by_cases hlt : j < k
    · have e1 := HK.out
      obtain ⟨x, hx⟩ : ∃ x, L[j]? = some x := ⟨_, List.getElem?_eq_getElem (by omega)⟩
      clear e1
      obtain ⟨g, rfl, c0, c1, c2⟩ := HL.out.three HX.out hx
      obtain ⟨xn, xs, xt⟩ := x
      have Hx := Lib.hid hx
      have b0 := ((HB.out.ext HX.out).alloc (.cells #[.int .u64 (xn : Int), .int .u8 (xs : Int), .string xt] 35)).cell 0 _ rfl
      dsimp only at c0 c1 c2
      clear hx
      by_cases hn : xn = n
      · have HF := Lib.hid (HR.out.found Hx.out hn)
        have hq : ((xn : Int) == (n : Int)) = true := by have : (xn : Int) = (n : Int) := (by omega); simpa using this
        clear hn
        go_wp2_with (go_in)
        go_ret
        exact ⟨by rw [HF.out]; rfl, HX.out.alloc _⟩
      · have HF := Lib.hid (HR.out.succ Hx.out hn)
        have hq : ((xn : Int) == (n : Int)) = false := by have : ¬ (xn : Int) = (n : Int) := (by omega); simpa using this
        clear hn
        go_wp2_with (go_in)
        go_roundw
        case rel => exact ⟨j + 1, by omega, by go_num, HF, Lib.hid (HX.out.alloc _)⟩
        case measure => simp [intOf]; omega
    · obtain rfl : j = k := by omega
      have HF := Lib.hid (HR.out.all (by rw [HK.out]; exact Nat.le_refl _))
      go_wp2
      go_ret
      exact ⟨by rw [HF.out]; rfl, HX.out⟩
end Go.Proofs.Ytbobijgbemnmiaa
