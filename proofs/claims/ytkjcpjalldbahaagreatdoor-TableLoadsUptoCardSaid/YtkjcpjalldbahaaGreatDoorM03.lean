/- Contracts: whether a cell may be; what it is now; how many bytes it has. The program's and the document's. Contracts: what a cell is now; how many bytes it has. The program's and the document's. Contracts: the place of a version: the document's at; slices.IndexFunc with the program's closure. Contracts: a live version by its number: the program's find. -/
import Derived.Test.YtkjcpjalldbahaaGreatDoorM02
import Derived.Laws.ResultCell
import Derived.Deep.RegionHeld3
section
namespace Go.Proofs.YtkjcpjalldbahaaGreatDoor
open Go.RowKit

theorem isVersion_any (w : World) (v : Ver) : Calls Tryz.prog 91 #[.agg #[.int .u64 (v.n : Int), .int .u8 (v.s : Int), .string v.t]] w fun e w' => e = .returned (.bool (okV v)) ∧ Ext w w' := by
  obtain ⟨n, s, t⟩ := v
  have hx : Ext w (w.alloc (.cells #[.int .u64 (n : Int), .int .u8 (s : Int), .string t] 41)) := (Ext.refl w).alloc _
  by_cases h1 : s = 1
  · have hs : (s : Int) = 1 := by omega
    have HO := Lib.hid (show okV ⟨n, s, t⟩ = decide (t.size ≤ 4096) by simp [okV, h1])
    rw [HO.out]
    have HX := Lib.hid hx
    clear hx h1
    by_cases hz : t.size ≤ 4096
    · have hz2 : (t.size : Int) ≤ 4096 := by omega
      have HZ := Lib.hid hz
      clear hz
      go_enter Tryz.func91, Tryz.ntmps91
      go_wp2
      go_ret
      exact ⟨by simp [HZ.out], (Ext.refl _).alloc _⟩
    · have hz2 : ¬ (t.size : Int) ≤ 4096 := by omega
      have HZ := Lib.hid hz
      clear hz
      go_enter Tryz.func91, Tryz.ntmps91
      go_wp2
      go_ret
      exact ⟨by simp [HZ.out], (Ext.refl _).alloc _⟩
  · by_cases h2 : s = 2 ∨ s = 3
    · have HO := Lib.hid (show okV ⟨n, s, t⟩ = decide (t.size = 0) by rcases h2 with rfl | rfl <;> simp [okV])
      rw [HO.out]
      clear hx h1
      have HE : Hid (decide (t.size = 0) = t.toList.isEmpty) := Lib.hid (by
        rw [ByteArray.toList_eq]
        cases t with
        | mk d =>
          rcases d with ⟨l⟩
          cases l <;> simp [ByteArray.size])
      rcases h2 with h2 | h2
      · have hs : (s : Int) = 2 := by omega
        clear h2
        go_enter Tryz.func91, Tryz.ntmps91
        go_wp2
        go_ret
        exact ⟨congrArg (fun b => Ending.returned (Value.bool b)) HE.out.symm, (Ext.refl _).alloc _⟩
      · have hs : (s : Int) = 3 := by omega
        clear h2
        go_enter Tryz.func91, Tryz.ntmps91
        go_wp2
        go_ret
        exact ⟨congrArg (fun b => Ending.returned (Value.bool b)) HE.out.symm, (Ext.refl _).alloc _⟩
    · have HO := Lib.hid (show okV ⟨n, s, t⟩ = false by simp only [not_or] at h2; simp [okV, h1, h2.1, h2.2])
      rw [HO.out]
      have q1 : ¬ (s : Int) = 1 := by omega
      have q2 : ¬ (s : Int) = 2 := by omega
      have q3 : ¬ (s : Int) = 3 := by omega
      clear hx h1 h2
      go_enter Tryz.func91, Tryz.ntmps91
      go_wp2
      go_ret
      exact ⟨rfl, (Ext.refl _).alloc _⟩
set_option maxRecDepth 100000 in
set_option maxHeartbeats 2000000 in
theorem may_any (w : World) (m : Nat) (p : Option Addr) (c : Nat) (L : List Ver) (h : VersP w p L) (hl : L.length ≤ 140737488355328) :
    Calls Tryz.prog 72 #[.agg #[.int .u64 (m : Int), .slice p L.length c]] w fun e w' => e = .returned (.bool (mayL m L)) ∧ Ext w w' := by
  obtain ⟨k, hk⟩ : ∃ k, L.length = k := ⟨_, rfl⟩
  have HK := Lib.hid hk
  have HL := Lib.hid h
  rw [hk] at hl ⊢
  clear hk h
  by_cases h8 : 8 < k
  · have h8i : (8 : Int) < (k : Int) := by omega
    have HO := Lib.hid (mayL_long (last := m) (show 8 < L.length by rw [HK.out]; exact h8))
    rw [HO.out]
    clear h8
    go_enter Tryz.func72, Tryz.ntmps72
    go_wp2
    go_ret
    exact ⟨rfl, (Ext.refl _).alloc _⟩
  · have h8i : ¬ (8 : Int) < (k : Int) := by omega
    have HB1 := Lib.hid (Blk.new w [.int .u64 (m : Int), .slice p k c] 55)
    have HX0 := Lib.hid ((Ext.refl w).alloc (.cells #[.int .u64 (m : Int), .slice p k c] 55))
    go_enter Tryz.func72, Tryz.ntmps72
    go_wp2
    go_loopw [13, 3] (fun iv av wr => ∃ j b : Nat, j ≤ k ∧ iv = .int .i64 (j : Int) ∧ av = .int .u64 (b : Int) ∧ Hid (rise 0 (L.take j) = some b) ∧ Hid (Blk wr w.heap.size 55 [.int .u64 (m : Int), .slice p k c]) ∧ Hid (Ext w wr)) (fun iv _ _ => k - (intOf iv).toNat)
    case atStart => exact ⟨0, 0, Nat.zero_le _, rfl, rfl, Lib.hid rfl, HB1, HX0⟩
    case round =>
      obtain ⟨j, b, hj, rfl, rfl, HR, B1, HX⟩ := hrel
      have b0 := B1.out.cell 0 _ rfl
      have b1 := B1.out.cell 1 _ rfl
      by_cases hlt : j < k
      · have e1 := HK.out
        obtain ⟨x, hx⟩ : ∃ x, L[j]? = some x := ⟨_, List.getElem?_eq_getElem (by omega)⟩
        clear e1
        obtain ⟨g, rfl, c0, c1, c2⟩ := HL.out.three HX.out hx
        have HRT := Lib.hid (rise_take hx HR.out)
        have HRN : Hid (rise 0 (L.take (j + 1)) = none → mayL m L = false) := Lib.hid fun q => mayL_none (rise_none _ q)
        clear hx
        obtain ⟨xn, xs, xt⟩ := x
        have HV := Lib.hid (fun u => isVersion_any u ⟨xn, xs, xt⟩)
        generalize hov : okV ⟨xn, xs, xt⟩ = ov at *
        dsimp only at c0 c1 c2 HRT HV
        by_cases hle : xn ≤ b
        · have hle2 : (xn : Int) ≤ (b : Int) := by omega
          have HF := Lib.hid (HRN.out (by rw [HRT.out, if_pos hle]))
          clear hle hov
          go_wp2
          go_ret
          exact ⟨by rw [HF.out]; rfl, HX.out.alloc _⟩
        · have hle2 : ¬ (xn : Int) ≤ (b : Int) := by omega
          cases ov
          · have HF := Lib.hid (HRN.out (by rw [HRT.out, if_neg hle]; simp))
            clear hle hov
            go_wp2_with (go_at_call 91; refine (HV.out _).mono ?_; rintro e w1 ⟨rfl, x1⟩)
            go_ret
            exact ⟨by rw [HF.out]; rfl, (HX.out.alloc _).trans x1⟩
          · have HF := Lib.hid (HRT.out.trans (by rw [if_neg hle]))
            clear hle hov
            have HB2 := Lib.hid (Blk.new wr [.int .u64 (xn : Int), .int .u8 (xs : Int), .string xt] 41)
            have HB1 := Lib.hid (B1.out.alloc (.cells #[.int .u64 (xn : Int), .int .u8 (xs : Int), .string xt] 41))
            go_wp2_with (go_at_call 91; refine (HV.out _).mono ?_; rintro e w1 ⟨rfl, x1⟩; have k0 := (HB2.out.ext x1).cell 0 _ rfl; have X1 := Lib.hid x1; clear x1)
            go_roundw
            case rel => exact ⟨j + 1, xn, by omega, by go_num, by go_num, HF, Lib.hid (HB1.out.ext X1.out), Lib.hid ((HX.out.alloc _).trans X1.out)⟩
            case measure => simp [intOf]; omega
      · obtain rfl : j = k := by omega
        have HT : Hid (mayL m L = decide (b = m)) := Lib.hid (mayL_short (last := m) (L := L) (by rw [HK.out]; omega) (b := b) (by have := HR.out; rwa [List.take_of_length_le (by rw [HK.out]; exact Nat.le_refl _)] at this))
        have HD : Hid (((b : Int) == (m : Int)) = decide (b = m)) := Lib.hid (by rw [Bool.eq_iff_iff]; simp; omega)
        go_wp2
        go_ret
        exact ⟨by rw [HT.out, ← HD.out]; rfl, HX.out⟩
end Go.Proofs.YtkjcpjalldbahaaGreatDoor
end

section
namespace Go.Proofs.YtkjcpjalldbahaaGreatDoor
open Go.RowKit

theorem nowL_nil : nowL [] = 0 := rfl
theorem nowL_last {L : List Ver} {j : Nat} {x : Ver} (hl : L.length = j + 1) (hx : L[j]? = some x) : nowL L = if x.s = 1 then x.n else 0 := by
  unfold nowL
  rw [getLast_get, hl, Nat.add_sub_cancel, hx]
set_option maxRecDepth 100000 in
set_option maxHeartbeats 2000000 in
theorem now_any (w : World) (m : Nat) (p : Option Addr) (c : Nat) (L : List Ver) (h : VersP w p L) (hl : L.length ≤ 140737488355328) :
    Calls Tryz.prog 39 #[.agg #[.int .u64 (m : Int), .slice p L.length c]] w fun e w' => e = .returned (.int .u64 (nowL L : Int)) ∧ Ext w w' := by
  rcases Nat.eq_zero_or_pos L.length with hz | hz
  · obtain rfl : L = [] := List.length_eq_zero_iff.1 hz
    clear h hz
    go_enter Tryz.func39, Tryz.ntmps39
    go_wp2_with (go_in)
    go_ret
    exact ⟨rfl, (((Ext.refl _).alloc _).alloc _).alloc _⟩
  · obtain ⟨j, hj⟩ : ∃ j, L.length = j + 1 := ⟨L.length - 1, by omega⟩
    obtain ⟨x, hx⟩ : ∃ x, L[j]? = some x := ⟨_, List.getElem?_eq_getElem (by omega)⟩
    have HN := Lib.hid (nowL_last hj hx)
    have hx3 := ((((Ext.refl w).alloc (.cells #[.int .u64 (m : Int), .slice p (j + 1) c] 55)).alloc (.cells #[.int .u64 0] 25)).alloc (.cells #[.int .u64 (m : Int), .slice p (j + 1) c] 55))
    obtain ⟨g, rfl, c0, c1, c2⟩ := h.three hx3 hx
    obtain ⟨xn, xs, xt⟩ := x
    dsimp only at c0 c1 c2 HN
    have HX := Lib.hid (hx3.alloc (.cells #[.int .u64 (xn : Int), .int .u8 (xs : Int), .string xt] 41))
    rw [hj] at hl ⊢
    clear h hz hj hx hx3
    have hw1 : IntKind.i64.wrap (j : Int) = (j : Int) := IntWalk.i64_in _ ⟨by omega, by omega⟩
    have hj0 : (0 : Int) < (j : Int) + 1 := by omega
    by_cases h1 : xs = 1
    · have hs : (xs : Int) = 1 := by omega
      have HF : Hid (nowL L = xn) := Lib.hid (by rw [HN.out, if_pos h1])
      clear h1
      go_enter Tryz.func39, Tryz.ntmps39
      go_wp2_with (go_in)
      go_ret
      exact ⟨by rw [HF.out]; rfl, ((((Ext.refl _).alloc _).alloc _).alloc _).alloc _⟩
    · have hs : ¬ (xs : Int) = 1 := by omega
      have HF : Hid (nowL L = 0) := Lib.hid (by rw [HN.out, if_neg h1])
      clear h1
      go_enter Tryz.func39, Tryz.ntmps39
      go_wp2_with (go_in)
      go_ret
      exact ⟨by rw [HF.out]; rfl, HX.out⟩
set_option maxRecDepth 100000 in
set_option maxHeartbeats 2000000 in
theorem rnow_any (w : World) (m : Nat) (p : Option Addr) (c : Nat) (L : List Ver) (h : VersP w p L) (hl : L.length ≤ 140737488355328) :
    Calls Tryz.prog 41 #[.agg #[.int .u64 (m : Int), .slice p L.length c]] w fun e w' => e = .returned (.int .u64 (nowL L : Int)) ∧ Ext w w' := by
  rcases Nat.eq_zero_or_pos L.length with hz | hz
  · obtain rfl : L = [] := List.length_eq_zero_iff.1 hz
    clear h hz
    go_enter Tryz.func41, Tryz.ntmps41
    go_wp2
    go_ret
    exact ⟨rfl, (Ext.refl _).alloc _⟩
  · obtain ⟨j, hj⟩ : ∃ j, L.length = j + 1 := ⟨L.length - 1, by omega⟩
    obtain ⟨x, hx⟩ : ∃ x, L[j]? = some x := ⟨_, List.getElem?_eq_getElem (by omega)⟩
    have HN := Lib.hid (nowL_last hj hx)
    have hx3 := (Ext.refl w).alloc (.cells #[.int .u64 (m : Int), .slice p (j + 1) c] 55)
    obtain ⟨g, rfl, c0, c1, c2⟩ := h.three hx3 hx
    obtain ⟨xn, xs, xt⟩ := x
    dsimp only at c0 c1 c2 HN
    have HX := Lib.hid hx3
    rw [hj] at hl ⊢
    clear h hz hj hx hx3
    have hw1 : IntKind.i64.wrap (j : Int) = (j : Int) := IntWalk.i64_in _ ⟨by omega, by omega⟩
    have hj0 : ((j : Int) + 1 == 0) = false := by have : ¬ (j : Int) + 1 = 0 := (by omega); simpa using this
    by_cases h1 : xs = 1
    · have hs : (xs : Int) = 1 := by omega
      have HF : Hid (nowL L = xn) := Lib.hid (by rw [HN.out, if_pos h1])
      clear h1
      go_enter Tryz.func41, Tryz.ntmps41
      go_wp2
      go_ret
      exact ⟨by rw [HF.out]; rfl, HX.out⟩
    · have hs : ((xs : Int) != 1) = true := by have : ¬ (xs : Int) = 1 := (by omega); simpa using this
      have HF : Hid (nowL L = 0) := Lib.hid (by rw [HN.out, if_neg h1])
      clear h1
      go_enter Tryz.func41, Tryz.ntmps41
      go_wp2
      go_ret
      exact ⟨by rw [HF.out]; rfl, HX.out⟩
set_option maxRecDepth 100000 in
set_option maxHeartbeats 2000000 in
theorem size_any (w : World) (m : Nat) (p : Option Addr) (c : Nat) (L : List Ver) (h : VersP w p L) (hl : L.length ≤ 140737488355328) (hs : sizeL L ≤ 140737488355328) :
    Calls Tryz.prog 93 #[.agg #[.int .u64 (m : Int), .slice p L.length c]] w fun e w' => e = .returned (.int .i64 (sizeL L : Int)) ∧ Ext w w' := by
  obtain ⟨k, hk⟩ : ∃ k, L.length = k := ⟨_, rfl⟩
  have HK := Lib.hid hk
  have HL := Lib.hid h
  rw [hk] at hl ⊢
  clear hk h
  have HB1 := Lib.hid (Blk.new w [.int .u64 (m : Int), .slice p k c] 55)
  have HX0 := Lib.hid ((Ext.refl w).alloc (.cells #[.int .u64 (m : Int), .slice p k c] 55))
  have HS := Lib.hid hs
  clear hs
  go_enter Tryz.func93, Tryz.ntmps93
  go_wp2
  go_loopw [9, 3] (fun iv sv wr => ∃ j s : Nat, j ≤ k ∧ iv = .int .i64 (j : Int) ∧ sv = .int .i64 (s : Int) ∧ Hid (s = sizeL (L.take j)) ∧ Hid (Blk wr w.heap.size 55 [.int .u64 (m : Int), .slice p k c]) ∧ Hid (Ext w wr)) (fun iv _ _ => k - (intOf iv).toNat)
  case atStart => exact ⟨0, 0, Nat.zero_le _, rfl, rfl, Lib.hid rfl, HB1, HX0⟩
  case round =>
    obtain ⟨j, s, hj, rfl, rfl, HR, B1, HX⟩ := hrel
    by_cases hlt : j < k
    · have e1 := HK.out
      obtain ⟨x, hx⟩ : ∃ x, L[j]? = some x := ⟨_, List.getElem?_eq_getElem (by omega)⟩
      clear e1
      obtain ⟨g, rfl, c0, c1, c2⟩ := HL.out.three HX.out hx
      have hst := sizeL_take hx
      have hle := sizeL_take_le L (j + 1)
      have e1 := HR.out
      have e2 := HS.out
      obtain ⟨xn, xs, xt⟩ := x
      dsimp only at c0 c1 c2 hst
      have HT : Hid (s + xt.size = sizeL (L.take (j + 1))) := Lib.hid (by omega)
      have hb : s + xt.size ≤ 140737488355328 := by omega
      clear hst hle e1 e2 hx
      have hw1 : IntKind.i64.wrap ((s : Int) + (xt.size : Int)) = (s : Int) + (xt.size : Int) := IntWalk.i64_in _ ⟨by omega, by omega⟩
      go_wp2
      go_roundw
      case rel => exact ⟨j + 1, s + xt.size, by omega, by go_num, by go_num, HT, Lib.hid (B1.out.alloc _), Lib.hid (HX.out.alloc _)⟩
      case measure => simp [intOf]; omega
    · obtain rfl : j = k := by omega
      have HT : Hid (s = sizeL L) := Lib.hid (by rw [HR.out, List.take_of_length_le (by rw [HK.out]; exact Nat.le_refl _)])
      go_wp2
      go_ret
      exact ⟨by rw [← HT.out]; rfl, HX.out⟩
set_option maxRecDepth 100000 in
set_option maxHeartbeats 2000000 in
theorem rsize_any (w : World) (m : Nat) (p : Option Addr) (c : Nat) (L : List Ver) (h : VersP w p L) (hl : L.length ≤ 140737488355328) (hs : sizeL L ≤ 140737488355328) :
    Calls Tryz.prog 57 #[.agg #[.int .u64 (m : Int), .slice p L.length c]] w fun e w' => e = .returned (.int .i64 (sizeL L : Int)) ∧ Ext w w' := by
  obtain ⟨k, hk⟩ : ∃ k, L.length = k := ⟨_, rfl⟩
  have HK := Lib.hid hk
  have HL := Lib.hid h
  rw [hk] at hl ⊢
  clear hk h
  have HB1 := Lib.hid (Blk.new w [.int .u64 (m : Int), .slice p k c] 55)
  have HX0 := Lib.hid ((Ext.refl w).alloc (.cells #[.int .u64 (m : Int), .slice p k c] 55))
  have HS := Lib.hid hs
  clear hs
  go_enter Tryz.func57, Tryz.ntmps57
  go_wp2
  go_loopw [4, 3] (fun iv sv wr => ∃ j s : Nat, j ≤ k ∧ iv = .int .i64 (j : Int) ∧ sv = .int .i64 (s : Int) ∧ Hid (s = sizeL (L.take j)) ∧ Hid (Blk wr w.heap.size 55 [.int .u64 (m : Int), .slice p k c]) ∧ Hid (Ext w wr)) (fun iv _ _ => k - (intOf iv).toNat)
  case atStart => exact ⟨0, 0, Nat.zero_le _, rfl, rfl, Lib.hid rfl, HB1, HX0⟩
  case round =>
    obtain ⟨j, s, hj, rfl, rfl, HR, B1, HX⟩ := hrel
    have b1 := B1.out.cell 1 _ rfl
    by_cases hlt : j < k
    · have e1 := HK.out
      obtain ⟨x, hx⟩ : ∃ x, L[j]? = some x := ⟨_, List.getElem?_eq_getElem (by omega)⟩
      clear e1
      obtain ⟨g, rfl, c0, c1, c2⟩ := HL.out.three HX.out hx
      have hst := sizeL_take hx
      have hle := sizeL_take_le L (j + 1)
      have e1 := HR.out
      have e2 := HS.out
      obtain ⟨xn, xs, xt⟩ := x
      dsimp only at c0 c1 c2 hst
      have HT : Hid (s + xt.size = sizeL (L.take (j + 1))) := Lib.hid (by omega)
      have hb : s + xt.size ≤ 140737488355328 := by omega
      clear hst hle e1 e2 hx
      have hw1 : IntKind.i64.wrap ((s : Int) + (xt.size : Int)) = (s : Int) + (xt.size : Int) := IntWalk.i64_in _ ⟨by omega, by omega⟩
      go_wp2
      go_roundw
      case rel => exact ⟨j + 1, s + xt.size, by omega, by go_num, by go_num, HT, B1, HX⟩
      case measure => simp [intOf]; omega
    · obtain rfl : j = k := by omega
      have HT : Hid (s = sizeL L) := Lib.hid (by rw [HR.out, List.take_of_length_le (by rw [HK.out]; exact Nat.le_refl _)])
      go_wp2
      go_ret
      exact ⟨by rw [← HT.out]; rfl, HX.out⟩
end Go.Proofs.YtkjcpjalldbahaaGreatDoor
end

section
namespace Go.Proofs.YtkjcpjalldbahaaGreatDoor
open Go.RowKit

/-- A place as a number; -1: nowhere. -/
def atI (n : Nat) (L : List Ver) : Int := match posL n L with
  | some k => (k : Int)
  | none => -1
theorem atI_some {n k : Nat} {L : List Ver} (h : posL n L = some k) : atI n L = (k : Int) := by simp [atI, h]
theorem atI_none {n : Nat} {L : List Ver} (h : posL n L = none) : atI n L = -1 := by simp [atI, h]
/-- None of the first versions has this number. -/
def NoN (n : Nat) (L : List Ver) (j : Nat) : Prop := ∀ i x, i < j → L[i]? = some x → x.n ≠ n
theorem NoN.zero (n : Nat) (L : List Ver) : NoN n L 0 := fun i x h => by omega
theorem NoN.succ {n j : Nat} {L : List Ver} (h : NoN n L j) {x : Ver} (hx : L[j]? = some x) (hn : x.n ≠ n) : NoN n L (j + 1) := fun i y hi hy => by
  by_cases e : i = j
  · subst e; rw [hx] at hy; cases hy; exact hn
  · exact h i y (by omega) hy
theorem NoN.all {n j : Nat} {L : List Ver} (h : NoN n L j) (hj : L.length ≤ j) : atI n L = -1 :=
  atI_none (posL_none fun i x hx => h i x (by have := (List.getElem?_eq_some_iff.1 hx).1; omega) hx)
theorem NoN.found {n j : Nat} {L : List Ver} (h : NoN n L j) {x : Ver} (hx : L[j]? = some x) (hn : x.n = n) : atI n L = (j : Int) := atI_some (posL_some hx hn h)
set_option maxRecDepth 100000 in
set_option maxHeartbeats 2000000 in
theorem rat_any (w : World) (m n : Nat) (p : Option Addr) (c : Nat) (L : List Ver) (h : VersP w p L) (hl : L.length ≤ 140737488355328) :
    Calls Tryz.prog 63 #[.agg #[.int .u64 (m : Int), .slice p L.length c], .int .u64 (n : Int)] w fun e w' => e = .returned (.int .i64 (atI n L)) ∧ Ext w w' := by
  obtain ⟨k, hk⟩ : ∃ k, L.length = k := ⟨_, rfl⟩
  have HK := Lib.hid hk
  have HL := Lib.hid h
  rw [hk] at hl ⊢
  clear hk h
  have HB1 := Lib.hid (Blk.new w [.int .u64 (m : Int), .slice p k c] 55)
  have HX0 := Lib.hid ((Ext.refl w).alloc (.cells #[.int .u64 (m : Int), .slice p k c] 55))
  go_enter Tryz.func63, Tryz.ntmps63
  go_wp2
  go_loopw [5] (fun iv wr => ∃ j : Nat, j ≤ k ∧ iv = .int .i64 (j : Int) ∧ Hid (NoN n L j) ∧ Hid (Blk wr w.heap.size 55 [.int .u64 (m : Int), .slice p k c]) ∧ Hid (Ext w wr)) (fun iv _ => k - (intOf iv).toNat)
  case atStart => exact ⟨0, Nat.zero_le _, rfl, Lib.hid (NoN.zero _ _), HB1, HX0⟩
  case round =>
    obtain ⟨j, hj, rfl, HR, B1, HX⟩ := hrel
    have b1 := B1.out.cell 1 _ rfl
    by_cases hlt : j < k
    · have e1 := HK.out
      obtain ⟨x, hx⟩ : ∃ x, L[j]? = some x := ⟨_, List.getElem?_eq_getElem (by omega)⟩
      clear e1
      obtain ⟨g, rfl, c0, c1, c2⟩ := HL.out.three HX.out hx
      obtain ⟨xn, xs, xt⟩ := x
      have Hx := Lib.hid hx
      dsimp only at c0 c1 c2
      clear hx
      by_cases hn : xn = n
      · have HF := Lib.hid (HR.out.found Hx.out hn)
        have hq : ((xn : Int) == (n : Int)) = true := by have : (xn : Int) = (n : Int) := (by omega); simpa using this
        clear hn
        go_wp2
        go_ret
        exact ⟨by rw [HF.out]; rfl, HX.out⟩
      · have HF := Lib.hid (HR.out.succ Hx.out hn)
        have hq : ((xn : Int) == (n : Int)) = false := by have : ¬ (xn : Int) = (n : Int) := (by omega); simpa using this
        clear hn
        go_wp2
        go_roundw
        case rel => exact ⟨j + 1, by omega, by go_num, HF, B1, HX⟩
        case measure => simp [intOf]; omega
    · obtain rfl : j = k := by omega
      have HF := Lib.hid (HR.out.all (by rw [HK.out]; exact Nat.le_refl _))
      go_wp2
      go_ret
      exact ⟨by rw [HF.out]; rfl, HX.out⟩
set_option maxRecDepth 100000 in
set_option maxHeartbeats 2000000 in
theorem index_any (w : World) (n b : Nat) (p : Option Addr) (c : Nat) (L : List Ver) (h : VersP w p L) (hl : L.length ≤ 140737488355328) (hb : Blk w b 25 [.int .u64 (n : Int)]) :
    Calls Tryz.prog 82 #[.slice p L.length c, .func (.func 83) #[] #[.pointer (some ⟨b, 0, none⟩)]] w fun e w' => e = .returned (.int .i64 (atI n L)) ∧ Ext w w' := by
  obtain ⟨k, hk⟩ : ∃ k, L.length = k := ⟨_, rfl⟩
  have HK := Lib.hid hk
  have HL := Lib.hid h
  have HB := Lib.hid hb
  rw [hk] at hl ⊢
  clear hk h hb
  go_enter Tryz.func82, Tryz.ntmps82
  go_wp2
  go_loopw [8] (fun iv wr => ∃ j : Nat, j ≤ k ∧ iv = .int .i64 (j : Int) ∧ Hid (NoN n L j) ∧ Hid (Ext w wr)) (fun iv _ => k - (intOf iv).toNat)
  case atStart => exact ⟨0, Nat.zero_le _, rfl, Lib.hid (NoN.zero _ _), Lib.hid (Ext.refl _)⟩
  case round =>
    obtain ⟨j, hj, rfl, HR, HX⟩ := hrel
    by_cases hlt : j < k
    · have e1 := HK.out
      obtain ⟨x, hx⟩ : ∃ x, L[j]? = some x := ⟨_, List.getElem?_eq_getElem (by omega)⟩
      clear e1
      obtain ⟨g, rfl, c0, c1, c2⟩ := HL.out.three HX.out hx
      obtain ⟨xn, xs, xt⟩ := x
      have Hx := Lib.hid hx
      have b0 := ((HB.out.ext HX.out).alloc (.cells #[.int .u64 (xn : Int), .int .u8 (xs : Int), .string xt] 41)).cell 0 _ rfl
      dsimp only at c0 c1 c2
      clear hx
      by_cases hn : xn = n
      · have HF := Lib.hid (HR.out.found Hx.out hn)
        have hq : ((xn : Int) == (n : Int)) = true := by have : (xn : Int) = (n : Int) := (by omega); simpa using this
        clear hn
        go_wp2_with (go_in)
        go_ret
        exact ⟨by rw [HF.out]; rfl, HX.out.alloc _⟩
      · have HF := Lib.hid (HR.out.succ Hx.out hn)
        have hq : ((xn : Int) == (n : Int)) = false := by have : ¬ (xn : Int) = (n : Int) := (by omega); simpa using this
        clear hn
        go_wp2_with (go_in)
        go_roundw
        case rel => exact ⟨j + 1, by omega, by go_num, HF, Lib.hid (HX.out.alloc _)⟩
        case measure => simp [intOf]; omega
    · obtain rfl : j = k := by omega
      have HF := Lib.hid (HR.out.all (by rw [HK.out]; exact Nat.le_refl _))
      go_wp2
      go_ret
      exact ⟨by rw [HF.out]; rfl, HX.out⟩
end Go.Proofs.YtkjcpjalldbahaaGreatDoor
end

section
namespace Go.Proofs.YtkjcpjalldbahaaGreatDoor
open Go.RowKit

theorem findL_bad {m n : Nat} {L : List Ver} (h : mayL m L = false) : findL m L n = (2, 0) := by simp [findL, h]
theorem findL_none {m n : Nat} {L : List Ver} (h : mayL m L = true) (hp : posL n L = none) : findL m L n = (3, 0) := by simp [findL, h, hp]
theorem findL_at {m n k : Nat} {L : List Ver} {v : Ver} (h : mayL m L = true) (hp : posL n L = some k) (hv : L[k]? = some v) : findL m L n = if v.s = 1 then (0, k) else (171, 0) := by simp [findL, h, hp, hv]
theorem findL_ok {m n k : Nat} {L : List Ver} (h : findL m L n = (0, k)) : ∃ v, L[k]? = some v ∧ v.n = n ∧ v.s = 1 ∧ mayL m L = true := by
  cases hm : mayL m L with
  | false => rw [findL_bad hm] at h; cases h
  | true =>
    cases hp : posL n L with
    | none => rw [findL_none hm hp] at h; cases h
    | some j =>
      obtain ⟨v, hv, hn, _⟩ := posL_get hp
      rw [findL_at hm hp hv] at h
      by_cases hs : v.s = 1
      · rw [if_pos hs] at h; cases h; exact ⟨v, hv, hn, hs, rfl⟩
      · rw [if_neg hs] at h; cases h
theorem findL_le (m n : Nat) (L : List Ver) : (findL m L n).1 ≤ 171 := by
  cases hm : mayL m L with
  | false => rw [findL_bad hm]; decide
  | true =>
    cases hp : posL n L with
    | none => rw [findL_none hm hp]; decide
    | some j =>
      obtain ⟨v, hv, hn, _⟩ := posL_get hp
      rw [findL_at hm hp hv]
      by_cases hs : v.s = 1
      · rw [if_pos hs]; exact Nat.zero_le _
      · rw [if_neg hs]; decide
set_option maxRecDepth 100000 in
set_option maxHeartbeats 2000000 in
theorem find_any (w : World) (m n : Nat) (p : Option Addr) (c : Nat) (L : List Ver) (h : VersP w p L) (hl : L.length ≤ 140737488355328) :
    Calls Tryz.prog 60 #[.agg #[.int .u64 (m : Int), .slice p L.length c], .int .u64 (n : Int)] w fun e w' => e = .returned (.tuple #[.int .i64 ((findL m L n).2 : Int), .int .i64 ((findL m L n).1 : Int)]) ∧ Ext w w' := by
  obtain ⟨k, hk⟩ : ∃ k, L.length = k := ⟨_, rfl⟩
  have HX0 := Lib.hid (((Ext.refl w).alloc (.cells #[.int .u64 (m : Int), .slice p k c] 55)).alloc (.cells #[.int .u64 (n : Int)] 25))
  have HB1 := Lib.hid ((Blk.new w [.int .u64 (m : Int), .slice p k c] 55).alloc (.cells #[.int .u64 (n : Int)] 25))
  have HB2 := Lib.hid (Blk.new1V w (.cells #[.int .u64 (m : Int), .slice p k c] 55) [.int .u64 (n : Int)] 25)
  have HM := Lib.hid (may_any _ m p c L (h.ext HX0.out) hl)
  have HI : Hid (∀ u, Ext w u → Blk u (w.heap.size + 1) 25 [.int .u64 (n : Int)] → Calls Tryz.prog 82 #[.slice p k c, .func (.func 83) #[] #[.pointer (some ⟨w.heap.size + 1, 0, none⟩)]] u fun e w' => e = .returned (.int .i64 (atI n L)) ∧ Ext u w') := Lib.hid (fun u x b => by
    have := index_any u n (w.heap.size + 1) p c L (h.ext x) hl b
    rwa [hk] at this)
  have HL := Lib.hid h
  rw [hk] at HM
  rw [hk] at hl ⊢
  cases hm : mayL m L with
  | false =>
    have HF := Lib.hid (findL_bad (n := n) hm)
    rw [hm] at HM
    clear h hk hm
    go_enter Tryz.func60, Tryz.ntmps60
    go_wp2_with (go_at_call 72; refine HM.out.mono ?_; rintro e w1 ⟨rfl, x1⟩; have HX1 := Lib.hid x1; clear x1)
    go_ret2
    exact ⟨by rw [HF.out]; rfl, HX0.out.trans HX1.out⟩
  | true =>
    rw [hm] at HM
    cases hp : posL n L with
    | none =>
      have HF := Lib.hid (findL_none hm hp)
      have HA := Lib.hid (atI_none hp)
      rw [HA.out] at HI
      clear h hk hm hp
      go_enter Tryz.func60, Tryz.ntmps60
      go_wp2_with (first
        | (go_at_call 72; refine HM.out.mono ?_; rintro e w1 ⟨rfl, x1⟩; have HX1 := Lib.hid x1; have b1 := (HB1.out.ext x1).cell 1 _ rfl; clear x1)
        | (go_at_call 82; refine (HI.out _ (HX0.out.trans HX1.out) (HB2.out.ext HX1.out)).mono ?_; rintro e w2 ⟨rfl, x2⟩; have HX2 := Lib.hid x2; clear x2))
      go_ret2
      exact ⟨by rw [HF.out]; rfl, (HX0.out.trans HX1.out).trans HX2.out⟩
    | some j =>
      obtain ⟨v, hv, hn, hjk⟩ := posL_get hp
      have HF := Lib.hid (findL_at hm hp hv)
      have HA := Lib.hid (atI_some hp)
      rw [HA.out] at HI
      have Hv := Lib.hid hv
      have hjk' : j < k := by omega
      clear h hk hm hp hn hjk hv
      obtain ⟨vn, vs, vt⟩ := v
      dsimp only at HF
      by_cases hs : vs = 1
      · have hs1 : (vs : Int) = 1 := by omega
        have HG : Hid (findL m L n = (0, j)) := Lib.hid (by rw [HF.out, if_pos hs])
        clear hs
        obtain ⟨g, rfl, _⟩ := HL.out.three (Ext.refl w) Hv.out
        go_enter Tryz.func60, Tryz.ntmps60
        go_wp2_with (first
          | (go_at_call 72; refine HM.out.mono ?_; rintro e w1 ⟨rfl, x1⟩; have HX1 := Lib.hid x1; have b1 := (HB1.out.ext x1).cell 1 _ rfl; clear x1)
          | (go_at_call 82; refine (HI.out _ (HX0.out.trans HX1.out) (HB2.out.ext HX1.out)).mono ?_; rintro e w2 ⟨rfl, x2⟩; have HX2 := Lib.hid x2; have b2 := ((HB1.out.ext HX1.out).ext x2).cell 1 _ rfl; obtain ⟨g', e', c0, c1, c2⟩ := HL.out.three ((HX0.out.trans HX1.out).trans x2) Hv.out; cases e'; clear x2))
        go_ret2
        exact ⟨by rw [HG.out]; rfl, (HX0.out.trans HX1.out).trans HX2.out⟩
      · have hs1 : ((vs : Int) != 1) = true := by have : ¬ (vs : Int) = 1 := (by omega); simpa using this
        have HG : Hid (findL m L n = (171, 0)) := Lib.hid (by rw [HF.out, if_neg hs])
        clear hs
        obtain ⟨g, rfl, _⟩ := HL.out.three (Ext.refl w) Hv.out
        go_enter Tryz.func60, Tryz.ntmps60
        go_wp2_with (first
          | (go_at_call 72; refine HM.out.mono ?_; rintro e w1 ⟨rfl, x1⟩; have HX1 := Lib.hid x1; have b1 := (HB1.out.ext x1).cell 1 _ rfl; clear x1)
          | (go_at_call 82; refine (HI.out _ (HX0.out.trans HX1.out) (HB2.out.ext HX1.out)).mono ?_; rintro e w2 ⟨rfl, x2⟩; have HX2 := Lib.hid x2; have b2 := ((HB1.out.ext HX1.out).ext x2).cell 1 _ rfl; obtain ⟨g', e', c0, c1, c2⟩ := HL.out.three ((HX0.out.trans HX1.out).trans x2) Hv.out; cases e'; clear x2))
        go_ret2
        exact ⟨by rw [HG.out]; rfl, (HX0.out.trans HX1.out).trans HX2.out⟩
end Go.Proofs.YtkjcpjalldbahaaGreatDoor
end
