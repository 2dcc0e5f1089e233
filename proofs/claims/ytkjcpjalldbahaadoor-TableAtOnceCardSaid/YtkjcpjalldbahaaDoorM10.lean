/- Contracts: the place of a version: the document's at; slices.IndexFunc with the program's closure. Contracts: a live version by its number: the program's find. Contract: the document's May. -/
import Derived.Test.YtkjcpjalldbahaaDoorM09
import Derived.Laws.ResultCell
import Derived.Deep.RegionHeld3
section
namespace Go.Proofs.YtkjcpjalldbahaaDoor
open Go.RowKit

/-- A place as a number; -1: nowhere. -/
def atI (n : Nat) (L : List Ver) : Int := match posL n L with
  | some k => (k : Int)
  | none => -1
theorem atI_some {n k : Nat} {L : List Ver} (h : posL n L = some k) : atI n L = (k : Int) := by simp [atI, h]
theorem atI_none {n : Nat} {L : List Ver} (h : posL n L = none) : atI n L = -1 := by simp [atI, h]
/-- None of the first versions has this number. -/
def NoN (n : Nat) (L : List Ver) (j : Nat) : Prop := ∀ i x, i < j → L[i]? = some x → x.n ≠ n
theorem NoN.zero (n : Nat) (L : List Ver) : NoN n L 0 := fun i x h => by omega
theorem NoN.succ {n j : Nat} {L : List Ver} (h : NoN n L j) {x : Ver} (hx : L[j]? = some x) (hn : x.n ≠ n) : NoN n L (j + 1) := fun i y hi hy => by
  by_cases e : i = j
  · subst e; rw [hx] at hy; cases hy; exact hn
  · exact h i y (by omega) hy
theorem NoN.all {n j : Nat} {L : List Ver} (h : NoN n L j) (hj : L.length ≤ j) : atI n L = -1 :=
  atI_none (posL_none fun i x hx => h i x (by have := (List.getElem?_eq_some_iff.1 hx).1; omega) hx)
theorem NoN.found {n j : Nat} {L : List Ver} (h : NoN n L j) {x : Ver} (hx : L[j]? = some x) (hn : x.n = n) : atI n L = (j : Int) := atI_some (posL_some hx hn h)
set_option maxRecDepth 100000 in
set_option maxHeartbeats 2000000 in
theorem index_any (w : World) (n b : Nat) (p : Option Addr) (c : Nat) (L : List Ver) (h : VersP w p L) (hl : L.length ≤ 140737488355328) (hb : Blk w b 38 [.int .u64 (n : Int)]) :
    Calls Tryd.prog 78 #[.slice p L.length c, .func (.func 79) #[] #[.pointer (some ⟨b, 0, none⟩)]] w fun e w' => e = .returned (.int .i64 (atI n L)) ∧ Ext w w' := by
  obtain ⟨k, hk⟩ : ∃ k, L.length = k := ⟨_, rfl⟩
  have HK := Lib.hid hk
  have HL := Lib.hid h
  have HB := Lib.hid hb
  rw [hk] at hl ⊢
  clear hk h hb
  go_enter Tryd.func78, Tryd.ntmps78
  go_wp2
  go_loopw [8] (fun iv wr => ∃ j : Nat, j ≤ k ∧ iv = .int .i64 (j : Int) ∧ Hid (NoN n L j) ∧ Hid (Ext w wr)) (fun iv _ => k - (intOf iv).toNat)
  case atStart => exact ⟨0, Nat.zero_le _, rfl, Lib.hid (NoN.zero _ _), Lib.hid (Ext.refl _)⟩
  case round =>
    obtain ⟨j, hj, rfl, HR, HX⟩ := hrel
    by_cases hlt : j < k
    · have e1 := HK.out
      obtain ⟨x, hx⟩ : ∃ x, L[j]? = some x := ⟨_, List.getElem?_eq_getElem (by omega)⟩
      clear e1
      obtain ⟨g, rfl, c0, c1, c2⟩ := HL.out.three HX.out hx
      obtain ⟨xn, xs, xt⟩ := x
      have Hx := Lib.hid hx
      have b0 := ((HB.out.ext HX.out).alloc (.cells #[.int .u64 (xn : Int), .int .u8 (xs : Int), .string xt] 58)).cell 0 _ rfl
      dsimp only at c0 c1 c2
      clear hx
      by_cases hn : xn = n
      · have HF := Lib.hid (HR.out.found Hx.out hn)
        have hq : ((xn : Int) == (n : Int)) = true := by have : (xn : Int) = (n : Int) := (by omega); simpa using this
        clear hn
        go_wp2_with (go_in)
        go_ret
        exact ⟨by rw [HF.out]; rfl, HX.out.alloc _⟩
      · have HF := Lib.hid (HR.out.succ Hx.out hn)
        have hq : ((xn : Int) == (n : Int)) = false := by have : ¬ (xn : Int) = (n : Int) := (by omega); simpa using this
        clear hn
        go_wp2_with (go_in)
        go_roundw
        case rel => exact ⟨j + 1, by omega, by go_num, HF, Lib.hid (HX.out.alloc _)⟩
        case measure => simp [intOf]; omega
    · obtain rfl : j = k := by omega
      have HF := Lib.hid (HR.out.all (by rw [HK.out]; exact Nat.le_refl _))
      go_wp2
      go_ret
      exact ⟨by rw [HF.out]; rfl, HX.out⟩
end Go.Proofs.YtkjcpjalldbahaaDoor
end

section
namespace Go.Proofs.YtkjcpjalldbahaaDoor
open Go.RowKit

theorem findL_bad {m n : Nat} {L : List Ver} (h : mayL m L = false) : findL m L n = (2, 0) := by simp [findL, h]
theorem findL_none {m n : Nat} {L : List Ver} (h : mayL m L = true) (hp : posL n L = none) : findL m L n = (3, 0) := by simp [findL, h, hp]
theorem findL_at {m n k : Nat} {L : List Ver} {v : Ver} (h : mayL m L = true) (hp : posL n L = some k) (hv : L[k]? = some v) : findL m L n = if v.s = 1 then (0, k) else (171, 0) := by simp [findL, h, hp, hv]
theorem findL_ok {m n k : Nat} {L : List Ver} (h : findL m L n = (0, k)) : ∃ v, L[k]? = some v ∧ v.n = n ∧ v.s = 1 ∧ mayL m L = true := by
  cases hm : mayL m L with
  | false => rw [findL_bad hm] at h; cases h
  | true =>
    cases hp : posL n L with
    | none => rw [findL_none hm hp] at h; cases h
    | some j =>
      obtain ⟨v, hv, hn, _⟩ := posL_get hp
      rw [findL_at hm hp hv] at h
      by_cases hs : v.s = 1
      · rw [if_pos hs] at h; cases h; exact ⟨v, hv, hn, hs, rfl⟩
      · rw [if_neg hs] at h; cases h
theorem findL_le (m n : Nat) (L : List Ver) : (findL m L n).1 ≤ 171 := by
  cases hm : mayL m L with
  | false => rw [findL_bad hm]; decide
  | true =>
    cases hp : posL n L with
    | none => rw [findL_none hm hp]; decide
    | some j =>
      obtain ⟨v, hv, hn, _⟩ := posL_get hp
      rw [findL_at hm hp hv]
      by_cases hs : v.s = 1
      · rw [if_pos hs]; exact Nat.zero_le _
      · rw [if_neg hs]; decide
set_option maxRecDepth 100000 in
set_option maxHeartbeats 2000000 in
theorem find_any (w : World) (m n : Nat) (p : Option Addr) (c : Nat) (L : List Ver) (h : VersP w p L) (hl : L.length ≤ 140737488355328) :
    Calls Tryd.prog 60 #[.agg #[.int .u64 (m : Int), .slice p L.length c], .int .u64 (n : Int)] w fun e w' => e = .returned (.tuple #[.int .i64 ((findL m L n).2 : Int), .int .i64 ((findL m L n).1 : Int)]) ∧ Ext w w' := by
  obtain ⟨k, hk⟩ : ∃ k, L.length = k := ⟨_, rfl⟩
  have HX0 := Lib.hid (((Ext.refl w).alloc (.cells #[.int .u64 (m : Int), .slice p k c] 54)).alloc (.cells #[.int .u64 (n : Int)] 38))
  have HB1 := Lib.hid ((Blk.new w [.int .u64 (m : Int), .slice p k c] 54).alloc (.cells #[.int .u64 (n : Int)] 38))
  have HB2 := Lib.hid (Blk.new1V w (.cells #[.int .u64 (m : Int), .slice p k c] 54) [.int .u64 (n : Int)] 38)
  have HM := Lib.hid (may_any _ m p c L (h.ext HX0.out) hl)
  have HI : Hid (∀ u, Ext w u → Blk u (w.heap.size + 1) 38 [.int .u64 (n : Int)] → Calls Tryd.prog 78 #[.slice p k c, .func (.func 79) #[] #[.pointer (some ⟨w.heap.size + 1, 0, none⟩)]] u fun e w' => e = .returned (.int .i64 (atI n L)) ∧ Ext u w') := Lib.hid (fun u x b => by
    have := index_any u n (w.heap.size + 1) p c L (h.ext x) hl b
    rwa [hk] at this)
  have HL := Lib.hid h
  rw [hk] at HM
  rw [hk] at hl ⊢
  cases hm : mayL m L with
  | false =>
    have HF := Lib.hid (findL_bad (n := n) hm)
    rw [hm] at HM
    clear h hk hm
    go_enter Tryd.func60, Tryd.ntmps60
    go_wp2_with (go_at_call 39; refine HM.out.mono ?_; rintro e w1 ⟨rfl, x1⟩; have HX1 := Lib.hid x1; clear x1)
    go_ret2
    exact ⟨by rw [HF.out]; rfl, HX0.out.trans HX1.out⟩
  | true =>
    rw [hm] at HM
    cases hp : posL n L with
    | none =>
      have HF := Lib.hid (findL_none hm hp)
      have HA := Lib.hid (atI_none hp)
      rw [HA.out] at HI
      clear h hk hm hp
      go_enter Tryd.func60, Tryd.ntmps60
      go_wp2_with (first
        | (go_at_call 39; refine HM.out.mono ?_; rintro e w1 ⟨rfl, x1⟩; have HX1 := Lib.hid x1; have b1 := (HB1.out.ext x1).cell 1 _ rfl; clear x1)
        | (go_at_call 78; refine (HI.out _ (HX0.out.trans HX1.out) (HB2.out.ext HX1.out)).mono ?_; rintro e w2 ⟨rfl, x2⟩; have HX2 := Lib.hid x2; clear x2))
      go_ret2
      exact ⟨by rw [HF.out]; rfl, (HX0.out.trans HX1.out).trans HX2.out⟩
    | some j =>
      obtain ⟨v, hv, hn, hjk⟩ := posL_get hp
      have HF := Lib.hid (findL_at hm hp hv)
      have HA := Lib.hid (atI_some hp)
      rw [HA.out] at HI
      have Hv := Lib.hid hv
      have hjk' : j < k := by omega
      clear h hk hm hp hn hjk hv
      obtain ⟨vn, vs, vt⟩ := v
      dsimp only at HF
      by_cases hs : vs = 1
      · have hs1 : (vs : Int) = 1 := by omega
        have HG : Hid (findL m L n = (0, j)) := Lib.hid (by rw [HF.out, if_pos hs])
        clear hs
        obtain ⟨g, rfl, _⟩ := HL.out.three (Ext.refl w) Hv.out
        go_enter Tryd.func60, Tryd.ntmps60
        go_wp2_with (first
          | (go_at_call 39; refine HM.out.mono ?_; rintro e w1 ⟨rfl, x1⟩; have HX1 := Lib.hid x1; have b1 := (HB1.out.ext x1).cell 1 _ rfl; clear x1)
          | (go_at_call 78; refine (HI.out _ (HX0.out.trans HX1.out) (HB2.out.ext HX1.out)).mono ?_; rintro e w2 ⟨rfl, x2⟩; have HX2 := Lib.hid x2; have b2 := ((HB1.out.ext HX1.out).ext x2).cell 1 _ rfl; obtain ⟨g', e', c0, c1, c2⟩ := HL.out.three ((HX0.out.trans HX1.out).trans x2) Hv.out; cases e'; clear x2))
        go_ret2
        exact ⟨by rw [HG.out]; rfl, (HX0.out.trans HX1.out).trans HX2.out⟩
      · have hs1 : ((vs : Int) != 1) = true := by have : ¬ (vs : Int) = 1 := (by omega); simpa using this
        have HG : Hid (findL m L n = (171, 0)) := Lib.hid (by rw [HF.out, if_neg hs])
        clear hs
        obtain ⟨g, rfl, _⟩ := HL.out.three (Ext.refl w) Hv.out
        go_enter Tryd.func60, Tryd.ntmps60
        go_wp2_with (first
          | (go_at_call 39; refine HM.out.mono ?_; rintro e w1 ⟨rfl, x1⟩; have HX1 := Lib.hid x1; have b1 := (HB1.out.ext x1).cell 1 _ rfl; clear x1)
          | (go_at_call 78; refine (HI.out _ (HX0.out.trans HX1.out) (HB2.out.ext HX1.out)).mono ?_; rintro e w2 ⟨rfl, x2⟩; have HX2 := Lib.hid x2; have b2 := ((HB1.out.ext HX1.out).ext x2).cell 1 _ rfl; obtain ⟨g', e', c0, c1, c2⟩ := HL.out.three ((HX0.out.trans HX1.out).trans x2) Hv.out; cases e'; clear x2))
        go_ret2
        exact ⟨by rw [HG.out]; rfl, (HX0.out.trans HX1.out).trans HX2.out⟩
end Go.Proofs.YtkjcpjalldbahaaDoor
end

section
namespace Go.Proofs.YtkjcpjalldbahaaDoor
open Go.RowKit

theorem size_nil {t : ByteArray} (h : t.size = 0) : t = ⟨#[]⟩ := by
  cases t with
  | mk d =>
    rcases d with ⟨l⟩
    cases l with
    | nil => rfl
    | cons a r => simp [ByteArray.size] at h
theorem isEmpty_no {t : ByteArray} (h : ¬ t.size = 0) : t.toList.isEmpty = false := by
  rw [ByteArray.toList_eq]
  cases t with
  | mk d =>
    rcases d with ⟨l⟩
    cases l with
    | nil => simp [ByteArray.size] at h
    | cons a r => rfl
end Go.Proofs.YtkjcpjalldbahaaDoor
end
