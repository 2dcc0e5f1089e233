/- Contract: the document's May. -/
import Derived.Test.YtkjcpjalldbahaaGreatDoorM03
section
namespace Go.Proofs.YtkjcpjalldbahaaGreatDoor
open Go.RowKit

theorem size_nil {t : ByteArray} (h : t.size = 0) : t = ⟨#[]⟩ := by
  cases t with
  | mk d =>
    rcases d with ⟨l⟩
    cases l with
    | nil => rfl
    | cons a r => simp [ByteArray.size] at h
theorem isEmpty_no {t : ByteArray} (h : ¬ t.size = 0) : t.toList.isEmpty = false := by
  rw [ByteArray.toList_eq]
  cases t with
  | mk d =>
    rcases d with ⟨l⟩
    cases l with
    | nil => simp [ByteArray.size] at h
    | cons a r => rfl
set_option maxRecDepth 100000 in
set_option maxHeartbeats 4000000 in
theorem rmay_any (w : World) (m : Nat) (p : Option Addr) (c : Nat) (L : List Ver) (h : VersP w p L) (hl : L.length ≤ 140737488355328) :
    Calls Tryz.prog 55 #[.agg #[.int .u64 (m : Int), .slice p L.length c]] w fun e w' => e = .returned (.bool (mayL m L)) ∧ Ext w w' := by
  obtain ⟨k, hk⟩ : ∃ k, L.length = k := ⟨_, rfl⟩
  have HK := Lib.hid hk
  have HL := Lib.hid h
  rw [hk] at hl ⊢
  clear hk h
  by_cases h8 : 8 < k
  · have h8i : (8 : Int) < (k : Int) := by omega
    have HO := Lib.hid (mayL_long (last := m) (show 8 < L.length by rw [HK.out]; exact h8))
    rw [HO.out]
    clear h8
    go_enter Tryz.func55, Tryz.ntmps55
    go_wp2
    go_ret
    exact ⟨rfl, (Ext.refl _).alloc _⟩
  · have h8i : ¬ (8 : Int) < (k : Int) := by omega
    have HB1 := Lib.hid (Blk.new w [.int .u64 (m : Int), .slice p k c] 55)
    have HX0 := Lib.hid ((Ext.refl w).alloc (.cells #[.int .u64 (m : Int), .slice p k c] 55))
    go_enter Tryz.func55, Tryz.ntmps55
    go_wp2
    go_loopw [4, 3] (fun iv av wr => ∃ j b : Nat, j ≤ k ∧ iv = .int .i64 (j : Int) ∧ av = .int .u64 (b : Int) ∧ Hid (rise 0 (L.take j) = some b) ∧ Hid (Blk wr w.heap.size 55 [.int .u64 (m : Int), .slice p k c]) ∧ Hid (Ext w wr)) (fun iv _ _ => k - (intOf iv).toNat)
    case atStart => exact ⟨0, 0, Nat.zero_le _, rfl, rfl, Lib.hid rfl, HB1, HX0⟩
    case round =>
      obtain ⟨j, b, hj, rfl, rfl, HR, B1, HX⟩ := hrel
      have b0 := B1.out.cell 0 _ rfl
      have b1 := B1.out.cell 1 _ rfl
      by_cases hlt : j < k
      · have e1 := HK.out
        obtain ⟨x, hx⟩ : ∃ x, L[j]? = some x := ⟨_, List.getElem?_eq_getElem (by omega)⟩
        clear e1
        obtain ⟨g, rfl, c0, c1, c2⟩ := HL.out.three HX.out hx
        have HRT := Lib.hid (rise_take hx HR.out)
        have HRN : Hid (rise 0 (L.take (j + 1)) = none → mayL m L = false) := Lib.hid fun q => mayL_none (rise_none _ q)
        clear hx
        obtain ⟨xn, xs, xt⟩ := x
        dsimp only at c0 c1 c2 HRT
        by_cases hle : xn ≤ b
        · have hle2 : (xn : Int) ≤ (b : Int) := by omega
          have HF := Lib.hid (HRN.out (by rw [HRT.out, if_pos hle]))
          clear hle
          go_wp2
          go_ret
          exact ⟨by rw [HF.out]; rfl, HX.out.alloc _⟩
        · have hle2 : ¬ (xn : Int) ≤ (b : Int) := by omega
          have HRT2 : Hid (rise 0 (L.take (j + 1)) = if okV ⟨xn, xs, xt⟩ then some xn else none) := Lib.hid (by rw [HRT.out, if_neg hle])
          clear HRT hle
          rcases (show xs = 0 ∨ xs = 1 ∨ xs = 2 ∨ xs = 3 ∨ 3 < xs by omega) with h0 | h0 | h0 | h0 | h0
          · have hs : (xs : Int) = 0 := by omega
            have HF := Lib.hid (HRN.out (by rw [HRT2.out, h0]; rfl))
            clear h0
            go_wp2
            go_ret
            exact ⟨by rw [HF.out]; rfl, HX.out.alloc _⟩
          · have hs : (xs : Int) = 1 := by omega
            by_cases hz : xt.size ≤ 4096
            · have hz2 : ¬ (4096 : Int) < (xt.size : Int) := by omega
              have HF : Hid (rise 0 (L.take (j + 1)) = some xn) := Lib.hid (HRT2.out.trans (if_pos (by rw [h0]; simp [okV, hz])))
              clear h0 hz
              go_wp2
              go_roundw
              case rel => exact ⟨j + 1, xn, by omega, by go_num, by go_num, HF, Lib.hid (B1.out.alloc _), Lib.hid (HX.out.alloc _)⟩
              case measure => simp [intOf]; omega
            · have hz2 : (4096 : Int) < (xt.size : Int) := by omega
              have HF := Lib.hid (HRN.out (HRT2.out.trans (if_neg (by rw [h0]; simp [okV, hz]; try omega))))
              clear h0 hz
              go_wp2
              go_ret
              exact ⟨by rw [HF.out]; rfl, HX.out.alloc _⟩
          · have hs : (xs : Int) = 2 := by omega
            by_cases hz : xt.size = 0
            · have HF : Hid (rise 0 (L.take (j + 1)) = some xn) := Lib.hid (HRT2.out.trans (if_pos (by rw [h0]; simp [okV, hz])))
              obtain rfl := size_nil hz
              clear h0 hz
              go_wp2
              go_roundw
              case rel => exact ⟨j + 1, xn, by omega, by go_num, by go_num, HF, Lib.hid (B1.out.alloc _), Lib.hid (HX.out.alloc _)⟩
              case measure => simp [intOf]; omega
            · have hz2 := isEmpty_no hz
              have HF := Lib.hid (HRN.out (HRT2.out.trans (if_neg (by rw [h0]; simp [okV, hz]; try omega))))
              clear h0 hz
              go_wp2
              go_ret
              exact ⟨by rw [HF.out]; rfl, HX.out.alloc _⟩
          · have hs : (xs : Int) = 3 := by omega
            by_cases hz : xt.size = 0
            · have HF : Hid (rise 0 (L.take (j + 1)) = some xn) := Lib.hid (HRT2.out.trans (if_pos (by rw [h0]; simp [okV, hz])))
              obtain rfl := size_nil hz
              clear h0 hz
              go_wp2
              go_roundw
              case rel => exact ⟨j + 1, xn, by omega, by go_num, by go_num, HF, Lib.hid (B1.out.alloc _), Lib.hid (HX.out.alloc _)⟩
              case measure => simp [intOf]; omega
            · have hz2 := isEmpty_no hz
              have HF := Lib.hid (HRN.out (HRT2.out.trans (if_neg (by rw [h0]; simp [okV, hz]; try omega))))
              clear h0 hz
              go_wp2
              go_ret
              exact ⟨by rw [HF.out]; rfl, HX.out.alloc _⟩
          · have hs1 : ¬ (xs : Int) < 1 := by omega
            have hs3 : (3 : Int) < (xs : Int) := by omega
            have HF := Lib.hid (HRN.out (by rw [HRT2.out]; simp [okV, show xs ≠ 1 by omega, show xs ≠ 2 by omega, show xs ≠ 3 by omega]))
            clear h0
            go_wp2
            go_ret
            exact ⟨by rw [HF.out]; rfl, HX.out.alloc _⟩
      · obtain rfl : j = k := by omega
        have HT : Hid (mayL m L = decide (b = m)) := Lib.hid (mayL_short (last := m) (L := L) (by rw [HK.out]; omega) (b := b) (by have := HR.out; rwa [List.take_of_length_le (by rw [HK.out]; exact Nat.le_refl _)] at this))
        have HD : Hid (((m : Int) == (b : Int)) = decide (b = m)) := Lib.hid (by rw [Bool.eq_iff_iff]; simp; omega)
        go_wp2
        go_ret
        exact ⟨by rw [HT.out, ← HD.out]; rfl, HX.out⟩
end Go.Proofs.YtkjcpjalldbahaaGreatDoor
end
