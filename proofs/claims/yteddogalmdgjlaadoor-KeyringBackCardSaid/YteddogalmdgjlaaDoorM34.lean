/- Contracts of the library's sort at numbers of 32 bits: less, the insertion sort. Contracts of the library's sort at numbers of 32 bits: a range turned about; the pivot, chosen. -/
import Derived.Test.YteddogalmdgjlaaDoorSortL
import Derived.Test.YteddogalmdgjlaaDoorProg
import Derived.WalkKit
import Derived.BigRegion
import Derived.BigQuiet
import Derived.Deep.QuietTactic
import Derived.Deep.Draws
import Derived.Deep.DeepCutAuto
import Derived.Deep.MidRow
import Derived.Outline
section
namespace Go.Proofs.YteddogalmdgjlaaDoor
open Go.RowKit

theorem less_any (x y : Nat) (w : World) : Calls Tryd.prog 67 #[.int .u32 (x : Int), .int .u32 (y : Int)] w fun e w' => e = .returned (.bool (ltN x y)) ∧ w' = w := by
  have e : decide ((x : Int) < (y : Int)) = ltN x y := by simp [ltN]
  go_enter Tryd.func67, Tryd.ntmps67
  go_wp2
  go_ret
  exact ⟨by simp [ltN], rfl⟩

theorem less_of {x y : Nat} {b : Bool} (h : ltN x y = b) (w : World) : Calls Tryd.prog 67 #[.int .u32 (x : Int), .int .u32 (y : Int)] w fun e w' => e = .returned (.bool b) ∧ w' = w := h ▸ less_any x y w
/-- A quiet callee, met behind two quiet regions: the draws add up. -/
theorem quiet_of_same2 {P : Program} {f : FuncId} {args : Array Value} {w : World} {k n : Nat} {v : Value}
    (h : Calls P f args (w.drewN (k + n)) fun e w' => e = .returned v ∧ w' = w.drewN (k + n)) : Calls P f args (w.drewN (k + n)) fun e w'' => e = .returned v ∧ ∃ m, w'' = w.drewN (k + m) :=
  h.mono fun _ _ ⟨he, hm⟩ => ⟨he, n, hm⟩
theorem insOuter_go {lt : Nat → Nat → Bool} (a b i : Nat) (d : Array Nat) (h : i < b) : Sort.insOuter lt a b i d = Sort.insOuter lt a b (i + 1) (Sort.insInner lt a i d) := by
  conv => lhs; rw [Sort.insOuter]
  rw [if_pos h]
theorem insOuter_end {lt : Nat → Nat → Bool} (a b i : Nat) (d : Array Nat) (h : ¬ i < b) : Sort.insOuter lt a b i d = d := by
  rw [Sort.insOuter, if_neg h]
theorem insInner_go {lt : Nat → Nat → Bool} (a k : Nat) (d : Array Nat) (h : a < k + 1) (hl : lt d[k + 1]! d[k]! = true) : Sort.insInner lt a (k + 1) d = Sort.insInner lt a k (Sort.swp d (k + 1) k) := by
  rw [Sort.insInner, if_pos (by simp [hl]; omega)]
theorem insInner_end {lt : Nat → Nat → Bool} (a k : Nat) (d : Array Nat) (hl : lt d[k + 1]! d[k]! = false) : Sort.insInner lt a (k + 1) d = d := by
  rw [Sort.insInner, if_neg (by simp [hl])]
theorem insInner_low {lt : Nat → Nat → Bool} (a j : Nat) (d : Array Nat) (h : ¬ a < j) : Sort.insInner lt a j d = d := by
  cases j with
  | zero => rfl
  | succ k => rw [Sort.insInner, if_neg (by simp; omega)]

set_option maxRecDepth 100000 in
set_option maxHeartbeats 4000000 in
theorem ins_any (g : Nat) (T : TypeId) (pos : List Value) (d : Array Nat) (a b cap : Nat) (w : World) (h : Blk w g T (d.toList.map cN ++ pos)) (hab : a ≤ b) (hb : b ≤ d.size) (hs : d.size ≤ 1000000) :
    Calls Tryd.prog 61 #[.slice (some ⟨g, 0, none⟩) d.size cap, .int .i64 (a : Int), .int .i64 (b : Int)] w fun e w' => e = .returned (.tuple #[]) ∧ RowN w w' g T pos (Sort.insertionSort ltN d a b) := by
  have HL := Lib.hid less_any
  have HR := Lib.hid (RowN.refl h)
  clear h
  go_enter Tryd.func61, Tryd.ntmps61
  go_wp2
  go_loopw [6, 7] (fun iv _ wr => ∃ (i : Nat) (dk : Array Nat), iv = .int .i64 (i : Int) ∧ a < i ∧ i ≤ b + 1 ∧ dk.size = d.size ∧ Hid (RowN w wr g T pos dk) ∧ Hid (Sort.insOuter ltN a b i dk = Sort.insertionSort ltN d a b)) (fun iv _ _ => b + 1 - (intOf iv).toNat)
  case atStart => exact ⟨a + 1, d, by go_num, by omega, by omega, rfl, HR, Lib.hid rfl⟩
  case round =>
    obtain ⟨i, dk, rfl, hai, hi1, hds, hR, hO⟩ := hrel
    by_cases hib : i < b
    · have hibi : (i : Int) < (b : Int) := by omega
      have HO1 : Hid (Sort.insOuter ltN a b (i + 1) (Sort.insInner ltN a i dk) = Sort.insertionSort ltN d a b) := Lib.hid (by rw [← hO.out, insOuter_go _ _ _ _ hib])
      clear hO
      go_wp2
      go_loopw [7] (fun jv wr => ∃ (j : Nat) (dj : Array Nat), jv = .int .i64 (j : Int) ∧ a ≤ j ∧ j ≤ i ∧ dj.size = d.size ∧ Hid (RowN w wr g T pos dj) ∧ Hid (Sort.insInner ltN a j dj = Sort.insInner ltN a i dk)) (fun jv _ => (intOf jv).toNat)
      case atStart => exact ⟨i, dk, rfl, by omega, Nat.le_refl _, hds, hR, Lib.hid rfl⟩
      case round =>
        obtain ⟨j, dj, rfl, haj, hji, hdj, hRj, hI⟩ := hrel
        by_cases hja : a < j
        · obtain ⟨k, rfl⟩ : ∃ k, j = k + 1 := ⟨j - 1, by omega⟩
          have hjai : (a : Int) < (k : Int) + 1 := by omega
          have c1 := hRj.out.cell (k + 1) (by omega)
          have c0 := hRj.out.cell k (by omega)
          have f1 := hRj.out.frozen (k + 1)
          have f0 := hRj.out.frozen k
          have b1 : k + 1 < d.size := by omega
          have b0 : k < d.size := by omega
          obtain ⟨x, hx⟩ : ∃ x, dj[k + 1]! = x := ⟨_, rfl⟩
          obtain ⟨y, hy⟩ : ∃ y, dj[k]! = y := ⟨_, rfl⟩
          have HS := Lib.hid (fun n => (hRj.out.drewN n).swap (k + 1) k (by omega) (by omega) hx hy)
          have HX := Lib.hid hx
          have HY := Lib.hid hy
          rw [hx] at c1
          rw [hy] at c0
          clear hx hy
          rcases hl : ltN x y with _ | _
          · go_upto_region 4 with (fail)
            go_quiet ((go_at_call 67; exact Calls.quiet_of_same (HL.out _ _ _)))
            go_wp2
            go_roundw
            case rel => exact ⟨i + 1, dj, by go_num, by omega, by omega, hdj, Lib.hid (hRj.out.drewN _), Lib.hid (by rw [← HO1.out, ← hI.out, insInner_end _ _ _ (by rw [HX.out, HY.out]; exact hl)])⟩
            case measure => first | (simp [intOf]; omega) | simp [intOf]
          · go_upto_region 4 with (fail)
            go_quiet ((go_at_call 67; exact Calls.quiet_of_same (HL.out _ _ _)))
            go_upto_region 6 with (fail)
            go_region
            go_wp2
            go_roundw
            case rel => exact ⟨k, Sort.swp dj (k + 1) k, rfl, by omega, by omega, by rw [Sort.size_swp]; exact hdj, Lib.hid (HS.out _), Lib.hid (by rw [← hI.out, insInner_go _ _ _ hja (by rw [HX.out, HY.out]; exact hl)])⟩
            case measure => first | (simp [intOf]; omega) | simp [intOf]
        · have hjai : ¬ (a : Int) < (j : Int) := by omega
          go_upto_region 4 with (fail)
          go_quiet (fail)
          go_wp2
          go_roundw
          case rel => exact ⟨i + 1, dj, by go_num, by omega, by omega, hdj, Lib.hid (hRj.out.drewN _), Lib.hid (by rw [← HO1.out, ← hI.out, insInner_low _ _ _ hja])⟩
          case measure => simp [intOf]; omega
    · have hibi : ¬ (i : Int) < (b : Int) := by omega
      go_wp2
      go_end0
      exact ⟨rfl, by rw [← hO.out, insOuter_end _ _ _ _ hib]; exact hR.out⟩
end Go.Proofs.YteddogalmdgjlaaDoor
end

section
namespace Go.Proofs.YteddogalmdgjlaaDoor
open Go.RowKit

set_option maxRecDepth 100000 in
set_option maxHeartbeats 4000000 in
theorem rev_any (g : Nat) (T : TypeId) (pos : List Value) (d : Array Nat) (a b cap : Nat) (w : World) (h : Blk w g T (d.toList.map cN ++ pos)) (hab : a < b) (hb : b ≤ d.size) (hs : d.size ≤ 1000000) :
    Calls Tryd.prog 65 #[.slice (some ⟨g, 0, none⟩) d.size cap, .int .i64 (a : Int), .int .i64 (b : Int)] w fun e w' => e = .returned (.tuple #[]) ∧ ∃ d', RowN w w' g T pos d' ∧ Sort.PermIn a b d d' := by
  have HR := Lib.hid (RowN.refl h)
  clear h
  obtain ⟨b0, rfl⟩ : ∃ k, b = k + 1 := ⟨b - 1, by omega⟩
  go_enter Tryd.func65, Tryd.ntmps65
  go_wp2
  go_loopw [6, 7] (fun iv jv wr => ∃ (i j : Nat) (dk : Array Nat), iv = .int .i64 (i : Int) ∧ jv = .int .i64 ((j : Int) - 1) ∧ a ≤ i ∧ j ≤ b0 + 1 ∧ i ≤ b0 + 1 ∧ dk.size = d.size ∧ Hid (RowN w wr g T pos dk) ∧ Hid (Sort.PermIn a (b0 + 1) d dk)) (fun iv jv _ => (intOf jv).toNat + 1 - (intOf iv).toNat)
  case atStart => exact ⟨a, b0 + 1, d, rfl, by go_num, Nat.le_refl _, Nat.le_refl _, by omega, rfl, HR, Lib.hid (Sort.permIn_refl _ _ _)⟩
  case round =>
    obtain ⟨i, j, dk, rfl, rfl, hai, hjb, hib, hdk, hR, hP⟩ := hrel
    by_cases hij : i + 1 < j
    · obtain ⟨k, rfl⟩ : ∃ k, j = k + 1 := ⟨j - 1, by omega⟩
      have hiji : (i : Int) < (k : Int) := by omega
      have c1 := hR.out.cell i (by omega)
      have c0 := hR.out.cell k (by omega)
      have f1 := hR.out.frozen i
      have f0 := hR.out.frozen k
      have b1 : i < d.size := by omega
      have b0' : k < d.size := by omega
      obtain ⟨x, hx⟩ : ∃ x, dk[i]! = x := ⟨_, rfl⟩
      obtain ⟨y, hy⟩ : ∃ y, dk[k]! = y := ⟨_, rfl⟩
      have HS := Lib.hid (fun n => (hR.out.drewN n).swap i k (by omega) (by omega) hx hy)
      rw [hx] at c1
      rw [hy] at c0
      clear hx hy
      have hjs : IntKind.i64.wrap ((k : Int) - 1) = (k : Int) - 1 := IntWalk.i64_in _ ⟨by omega, by omega⟩
      go_upto_region 3 with (fail)
      go_region
      go_wp2
      go_roundw
      case rel => exact ⟨i + 1, k, Sort.swp dk i k, by go_num, by first | rfl | go_num, by omega, by omega, by omega, by rw [Sort.size_swp]; exact hdk, Lib.hid (HS.out _), Lib.hid (Sort.permIn_trans _ _ _ _ _ hP.out (Sort.swp_permIn _ _ _ _ _ hai (by omega) (by omega) (by omega) (by omega)))⟩
      case measure => first | (simp [intOf]; omega) | simp [intOf]
    · have hiji : ¬ (i : Int) < (j : Int) - 1 := by omega
      go_wp2
      go_end0
      exact ⟨rfl, dk, hR.out, hP.out⟩
end Go.Proofs.YteddogalmdgjlaaDoor
end
