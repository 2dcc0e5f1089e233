/- Contract: whether a cell and acts are too heavy: the laws of layer 17. -/
import Derived.Test.YtbobijgbemnmiaaOpenAct17
import Derived.Test.YtbobijgbemnmiaaOpenCell
import Derived.Test.YtbobijgbemnmiaaCellMay
import Derived.Outline
namespace Go.Proofs.Ytbobijgbemnmiaa
open Go.RowKit

/-- What the texts of the acts weigh. -/
def sumT : List Act17 → Nat
  | [] => 0
  | x :: l => x.Text.size + sumT l
theorem sumT_app (a b : List Act17) : sumT (a ++ b) = sumT a + sumT b := by
  induction a with
  | nil => simp [sumT]
  | cons x a ih => simp [sumT, ih]; omega
theorem sumT_mem {l : List Act17} {x : Act17} (h : x ∈ l) : x.Text.size ≤ sumT l := by
  induction l with
  | nil => cases h
  | cons y l ih =>
    rcases List.mem_cons.1 h with rfl | h
    · simp only [sumT]; omega
    · have := ih h
      simp only [sumT]; omega
theorem sumT_take {L : List Act17} {j : Nat} {x : Act17} (h : L[j]? = some x) : sumT (L.take (j + 1)) = sumT (L.take j) + x.Text.size := by
  rw [List.take_add_one, h]
  simp only [Option.toList_some, sumT_app, sumT]
  omega
/-- Few versions, few acts, of few bytes. -/
def Light17 (L : List Ver) (l : List Act17) : Prop := L.length ≤ 20 ∧ l.length ≤ 60 ∧ sizeL L + sumT l ≤ 32768
/-- An answer: where it is no, they are light. -/
def HeavyE17 (L : List Ver) (l : List Act17) (e : Ending) : Prop := ∃ b, e = .returned (.bool b) ∧ (b = false → Light17 L l)
set_option maxRecDepth 100000 in
set_option maxHeartbeats 4000000 in
theorem heavy17_any (w : World) (m : Nat) (p : Option Addr) (c : Nat) (L : List Ver) (h : VersP w p L) (hfit : ∀ x ∈ L, x.t.size ≤ 140737488355328) (hl : L.length ≤ 140737488355328) (pa : Option Addr) (ca : Nat) (l : List Act17) (ha : Act17sP w pa l) (hok : ∀ x ∈ l, x.Ok) (hal : l.length ≤ 140737488355328) :
    Calls Try.prog 7 #[.agg #[.int .u64 (m : Int), .slice p L.length c], .slice pa l.length ca] w fun e w' => HeavyE17 L l e ∧ Ext w w' := by
  have HL := Lib.hid h; have HA := Lib.hid ha; have HOk := Lib.hid hok; have HFt := Lib.hid hfit
  obtain ⟨k, hk⟩ : ∃ k, L.length = k := ⟨_, rfl⟩
  obtain ⟨k2, hk2⟩ : ∃ k2, l.length = k2 := ⟨_, rfl⟩
  have HK := Lib.hid hk; have HK2 := Lib.hid hk2
  rw [hk, hk2]
  rw [hk] at hl
  rw [hk2] at hal
  clear h hok hk hk2 ha hfit
  have HB1 := Lib.hid (Blk.new w [.int .u64 (m : Int), .slice p k c] 25)
  have HX0 := Lib.hid ((Ext.refl w).alloc (.cells #[.int .u64 (m : Int), .slice p k c] 25))
  go_enter Try.func7, Try.ntmps7
  go_wp2
  go_loopw [5, 6] (fun nv iv wr => ∃ j s : Nat, j ≤ k ∧ j ≤ 40 ∧ iv = .int .i64 (j : Int) ∧ nv = .int .i64 (s : Int) ∧ Hid (s = sizeL (L.take j)) ∧ s ≤ j * 140737488355328 ∧ Hid (Blk wr w.heap.size 25 [.int .u64 (m : Int), .slice p k c]) ∧ Hid (Ext w wr)) (fun _ iv _ => 40 - (intOf iv).toNat)
  case atStart => exact ⟨0, 0, Nat.zero_le _, by omega, rfl, rfl, Lib.hid (by simp [sizeL]), by omega, HB1, HX0⟩
  case round =>
    obtain ⟨j, s1, hj, h40, rfl, rfl, HS1, hs1, B1, HX⟩ := hrel
    have b1 := B1.out.cell 1 _ rfl
    by_cases h1 : j < k
    · have h1i : (j : Int) < (k : Int) := by omega
      by_cases h2 : j < 40
      · have h2i : (j : Int) < 40 := by omega
        have hj0 : (0 : Int) ≤ (j : Int) := by omega
        have hkl := HK.out
        obtain ⟨x, hx⟩ : ∃ x, L[j]? = some x := ⟨_, List.getElem?_eq_getElem (by omega)⟩
        obtain ⟨a, rfl, c0, c1, c2⟩ := HL.out.three HX.out hx
        have hz1 := HFt.out x (List.mem_of_getElem? hx)
        have HSt := Lib.hid (sizeL_take hx)
        clear hx
        generalize x.t = t1 at *
        have hw1 : IntKind.i64.wrap ((s1 : Int) + (t1.size : Int)) = (s1 : Int) + (t1.size : Int) := IntWalk.i64_in _ ⟨by omega, by omega⟩
        go_wp2
        go_roundw
        case rel => exact ⟨j + 1, s1 + t1.size, by omega, by omega, by go_num, by go_num, Lib.hid (by rw [HSt.out, HS1.out]), by omega, B1, HX⟩
        case measure => simp [intOf]; omega
      · have h2i : ¬ (j : Int) < 40 := by omega
        have HQ : Hid ((L.length ≤ 20 → s1 = sizeL L) ∧ s1 ≤ 5629499534213120) := Lib.hid ⟨fun q => by have := HK.out; omega, by omega⟩
        go_wp2
        go_loopw [5, 7] (fun nv iv wr => ∃ i0 s : Nat, i0 ≤ k2 ∧ i0 ≤ 100 ∧ iv = .int .i64 (i0 : Int) ∧ nv = .int .i64 (s : Int) ∧ Hid ((L.length ≤ 20 → s = sizeL L + sumT (l.take i0)) ∧ s ≤ 5629499534213120 + i0 * 140737488355328) ∧ Hid (Blk wr w.heap.size 25 [.int .u64 (m : Int), .slice p k c]) ∧ Hid (Ext w wr)) (fun _ iv _ => 100 - (intOf iv).toNat)
        case atStart => exact ⟨0, s1, Nat.zero_le _, by omega, rfl, rfl, Lib.hid ⟨fun q => HQ.out.1 q, Nat.le_trans HQ.out.2 (Nat.le_add_right _ _)⟩, B1, HX⟩
        case round =>
          obtain ⟨i, s, hi, h100, rfl, rfl, HS, B2, HX2⟩ := hrel
          have a1 := B2.out.cell 1 _ rfl
          by_cases g1 : i < k2
          · have g1i : (i : Int) < (k2 : Int) := by omega
            by_cases g2 : i < 100
            · have g2i : (i : Int) < 100 := by omega
              have hi0 : (0 : Int) ≤ (i : Int) := by omega
              have hkl := HK2.out
              obtain ⟨x, hx⟩ : ∃ x, l[i]? = some x := ⟨_, List.getElem?_eq_getElem (by omega)⟩
              obtain ⟨a, rfl, ha, hc⟩ := HA.out.ext HX2.out i x hx
              have k4 := act17_at (k := 3) (hc 4 _ rfl)
              have hz1 := (HOk.out x (List.mem_of_getElem? hx)).Text
              have HSt := Lib.hid (sumT_take hx)
              have hs := HS.out.2
              clear hx hc
              generalize x.Text = t1 at *
              have hw1 : IntKind.i64.wrap ((s : Int) + (t1.size : Int)) = (s : Int) + (t1.size : Int) := IntWalk.i64_in _ ⟨by omega, by omega⟩
              go_wp2
              go_roundw
              case rel => exact ⟨i + 1, s + t1.size, by omega, by omega, by go_num, by go_num, Lib.hid ⟨fun q => by have e1 := HS.out.1 q; have e2 := HSt.out; omega, by omega⟩, B2, HX2⟩
              case measure => simp [intOf]; omega
            · have g2i : ¬ (i : Int) < 100 := by omega
              have g60 : (60 : Int) < (k2 : Int) := by omega
              go_wp2
              all_goals
                go_ret
                exact ⟨⟨_, rfl, fun q => by simp at q⟩, HX2.out⟩
          · have g1i : ¬ (i : Int) < (k2 : Int) := by omega
            obtain rfl : i = k2 := by omega
            have HT : Hid (L.length ≤ 20 → s = sizeL L + sumT l) := Lib.hid (fun q => by rw [HS.out.1 q, List.take_of_length_le (by rw [HK2.out]; exact Nat.le_refl _)])
            go_wp2
            all_goals
              go_ret
              refine ⟨⟨_, rfl, fun q => ?_⟩, HX2.out⟩
              have e1 := HK.out
              have e2 := HK2.out
              have ht := HT.out
              simp at q
              try exact ⟨by omega, by omega, by rw [← ht (by omega)]; omega⟩
    · have h1i : ¬ (j : Int) < (k : Int) := by omega
      obtain rfl : j = k := by omega
      have HQ : Hid ((L.length ≤ 20 → s1 = sizeL L) ∧ s1 ≤ 5629499534213120) := Lib.hid ⟨fun _ => by rw [HS1.out, List.take_of_length_le (by rw [HK.out]; exact Nat.le_refl _)], by omega⟩
      go_wp2
      go_loopw [5, 7] (fun nv iv wr => ∃ i0 s : Nat, i0 ≤ k2 ∧ i0 ≤ 100 ∧ iv = .int .i64 (i0 : Int) ∧ nv = .int .i64 (s : Int) ∧ Hid ((L.length ≤ 20 → s = sizeL L + sumT (l.take i0)) ∧ s ≤ 5629499534213120 + i0 * 140737488355328) ∧ Hid (Blk wr w.heap.size 25 [.int .u64 (m : Int), .slice p j c]) ∧ Hid (Ext w wr)) (fun _ iv _ => 100 - (intOf iv).toNat)
      case atStart => exact ⟨0, s1, Nat.zero_le _, by omega, rfl, rfl, Lib.hid ⟨fun q => HQ.out.1 q, Nat.le_trans HQ.out.2 (Nat.le_add_right _ _)⟩, B1, HX⟩
      case round =>
        obtain ⟨i, s, hi, h100, rfl, rfl, HS, B2, HX2⟩ := hrel
        have a1 := B2.out.cell 1 _ rfl
        by_cases g1 : i < k2
        · have g1i : (i : Int) < (k2 : Int) := by omega
          by_cases g2 : i < 100
          · have g2i : (i : Int) < 100 := by omega
            have hi0 : (0 : Int) ≤ (i : Int) := by omega
            have hkl := HK2.out
            obtain ⟨x, hx⟩ : ∃ x, l[i]? = some x := ⟨_, List.getElem?_eq_getElem (by omega)⟩
            obtain ⟨a, rfl, ha, hc⟩ := HA.out.ext HX2.out i x hx
            have k4 := act17_at (k := 3) (hc 4 _ rfl)
            have hz1 := (HOk.out x (List.mem_of_getElem? hx)).Text
            have HSt := Lib.hid (sumT_take hx)
            have hs := HS.out.2
            clear hx hc
            generalize x.Text = t1 at *
            have hw1 : IntKind.i64.wrap ((s : Int) + (t1.size : Int)) = (s : Int) + (t1.size : Int) := IntWalk.i64_in _ ⟨by omega, by omega⟩
            go_wp2
            go_roundw
            case rel => exact ⟨i + 1, s + t1.size, by omega, by omega, by go_num, by go_num, Lib.hid ⟨fun q => by have e1 := HS.out.1 q; have e2 := HSt.out; omega, by omega⟩, B2, HX2⟩
            case measure => simp [intOf]; omega
          · have g2i : ¬ (i : Int) < 100 := by omega
            have g60 : (60 : Int) < (k2 : Int) := by omega
            go_wp2
            all_goals
              go_ret
              exact ⟨⟨_, rfl, fun q => by simp at q⟩, HX2.out⟩
        · have g1i : ¬ (i : Int) < (k2 : Int) := by omega
          obtain rfl : i = k2 := by omega
          have HT : Hid (L.length ≤ 20 → s = sizeL L + sumT l) := Lib.hid (fun q => by rw [HS.out.1 q, List.take_of_length_le (by rw [HK2.out]; exact Nat.le_refl _)])
          go_wp2
          all_goals
            go_ret
            refine ⟨⟨_, rfl, fun q => ?_⟩, HX2.out⟩
            have e1 := HK.out
            have e2 := HK2.out
            have ht := HT.out
            simp at q
            try exact ⟨by omega, by omega, by rw [← ht (by omega)]; omega⟩
end Go.Proofs.Ytbobijgbemnmiaa
