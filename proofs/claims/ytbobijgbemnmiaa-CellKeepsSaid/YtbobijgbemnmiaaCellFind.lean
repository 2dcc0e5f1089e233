/- Contracts: a live version by its number: the program's find. -/
import Derived.Test.YtbobijgbemnmiaaCellAt
import Derived.Laws.ResultCell
import Derived.Deep.RegionHeld3
namespace Go.Proofs.Ytbobijgbemnmiaa
open Go.RowKit

theorem findL_bad {m n : Nat} {L : List Ver} (h : mayL m L = false) : findL m L n = (2, 0) := by simp [findL, h]
theorem findL_none {m n : Nat} {L : List Ver} (h : mayL m L = true) (hp : posL n L = none) : findL m L n = (3, 0) := by simp [findL, h, hp]
theorem findL_at {m n k : Nat} {L : List Ver} {v : Ver} (h : mayL m L = true) (hp : posL n L = some k) (hv : L[k]? = some v) : findL m L n = if v.s = 1 then (0, k) else (171, 0) := by simp [findL, h, hp, hv]
theorem findL_ok {m n k : Nat} {L : List Ver} (h : findL m L n = (0, k)) : ∃ v, L[k]? = some v ∧ v.n = n ∧ v.s = 1 ∧ mayL m L = true := by
  cases hm : mayL m L with
  | false => rw [findL_bad hm] at h; cases h
  | true =>
    cases hp : posL n L with
    | none => rw [findL_none hm hp] at h; cases h
    | some j =>
      obtain ⟨v, hv, hn, _⟩ := posL_get hp
      rw [findL_at hm hp hv] at h
      by_cases hs : v.s = 1
      · rw [if_pos hs] at h; cases h; exact ⟨v, hv, hn, hs, rfl⟩
      · rw [if_neg hs] at h; cases h
theorem findL_le (m n : Nat) (L : List Ver) : (findL m L n).1 ≤ 171 := by
  cases hm : mayL m L with
  | false => rw [findL_bad hm]; decide
  | true =>
    cases hp : posL n L with
    | none => rw [findL_none hm hp]; decide
    | some j =>
      obtain ⟨v, hv, hn, _⟩ := posL_get hp
      rw [findL_at hm hp hv]
      by_cases hs : v.s = 1
      · rw [if_pos hs]; exact Nat.zero_le _
      · rw [if_neg hs]; decide
set_option maxRecDepth 100000 in
set_option maxHeartbeats 2000000 in
theorem find_any (w : World) (m n : Nat) (p : Option Addr) (c : Nat) (L : List Ver) (h : VersP w p L) (hl : L.length ≤ 140737488355328) :
    Calls Try.prog 27 #[.agg #[.int .u64 (m : Int), .slice p L.length c], .int .u64 (n : Int)] w fun e w' => e = .returned (.tuple #[.int .i64 ((findL m L n).2 : Int), .int .i64 ((findL m L n).1 : Int)]) ∧ Ext w w' := by
  obtain ⟨k, hk⟩ : ∃ k, L.length = k := ⟨_, rfl⟩
  have HX0 := Lib.hid (((Ext.refl w).alloc (.cells #[.int .u64 (m : Int), .slice p k c] 25)).alloc (.cells #[.int .u64 (n : Int)] 22))
  have HB1 := Lib.hid ((Blk.new w [.int .u64 (m : Int), .slice p k c] 25).alloc (.cells #[.int .u64 (n : Int)] 22))
  have HB2 := Lib.hid (Blk.new1V w (.cells #[.int .u64 (m : Int), .slice p k c] 25) [.int .u64 (n : Int)] 22)
  have HM := Lib.hid (may_any _ m p c L (h.ext HX0.out) hl)
  have HI : Hid (∀ u, Ext w u → Blk u (w.heap.size + 1) 22 [.int .u64 (n : Int)] → Calls Try.prog 37 #[.slice p k c, .func (.func 38) #[] #[.pointer (some ⟨w.heap.size + 1, 0, none⟩)]] u fun e w' => e = .returned (.int .i64 (atI n L)) ∧ Ext u w') := Lib.hid (fun u x b => by
    have := index_any u n (w.heap.size + 1) p c L (h.ext x) hl b
    rwa [hk] at this)
  have HL := Lib.hid h
  rw [hk] at HM
  rw [hk] at hl ⊢
  cases hm : mayL m L with
  | false =>
    have HF := Lib.hid (findL_bad (n := n) hm)
    rw [hm] at HM
    clear h hk hm
    go_enter Try.func27, Try.ntmps27
    go_wp2_with (go_at_call 14; refine HM.out.mono ?_; rintro e w1 ⟨rfl, x1⟩; have HX1 := Lib.hid x1; clear x1)
    go_ret2
    exact ⟨by rw [HF.out]; rfl, HX0.out.trans HX1.out⟩
  | true =>
    rw [hm] at HM
    cases hp : posL n L with
    | none =>
      have HF := Lib.hid (findL_none hm hp)
      have HA := Lib.hid (atI_none hp)
      rw [HA.out] at HI
      clear h hk hm hp
      go_enter Try.func27, Try.ntmps27
      go_wp2_with (first
        | (go_at_call 14; refine HM.out.mono ?_; rintro e w1 ⟨rfl, x1⟩; have HX1 := Lib.hid x1; have b1 := (HB1.out.ext x1).cell 1 _ rfl; clear x1)
        | (go_at_call 37; refine (HI.out _ (HX0.out.trans HX1.out) (HB2.out.ext HX1.out)).mono ?_; rintro e w2 ⟨rfl, x2⟩; have HX2 := Lib.hid x2; clear x2))
      go_ret2
      exact ⟨by rw [HF.out]; rfl, (HX0.out.trans HX1.out).trans HX2.out⟩
    | some j =>
      obtain ⟨v, hv, hn, hjk⟩ := posL_get hp
      have HF := Lib.hid (findL_at hm hp hv)
      have HA := Lib.hid (atI_some hp)
      rw [HA.out] at HI
      have Hv := Lib.hid hv
      have hjk' : j < k := by omega
      clear h hk hm hp hn hjk hv
      obtain ⟨vn, vs, vt⟩ := v
      dsimp only at HF
      by_cases hs : vs = 1
      · have hs1 : (vs : Int) = 1 := by omega
        have HG : Hid (findL m L n = (0, j)) := Lib.hid (by rw [HF.out, if_pos hs])
        clear hs
        obtain ⟨g, rfl, _⟩ := HL.out.three (Ext.refl w) Hv.out
        go_enter Try.func27, Try.ntmps27
        go_wp2_with (first
          | (go_at_call 14; refine HM.out.mono ?_; rintro e w1 ⟨rfl, x1⟩; have HX1 := Lib.hid x1; have b1 := (HB1.out.ext x1).cell 1 _ rfl; clear x1)
          | (go_at_call 37; refine (HI.out _ (HX0.out.trans HX1.out) (HB2.out.ext HX1.out)).mono ?_; rintro e w2 ⟨rfl, x2⟩; have HX2 := Lib.hid x2; have b2 := ((HB1.out.ext HX1.out).ext x2).cell 1 _ rfl; obtain ⟨g', e', c0, c1, c2⟩ := HL.out.three ((HX0.out.trans HX1.out).trans x2) Hv.out; cases e'; clear x2))
        go_ret2
        exact ⟨by rw [HG.out]; rfl, (HX0.out.trans HX1.out).trans HX2.out⟩
      · have hs1 : ((vs : Int) != 1) = true := by have : ¬ (vs : Int) = 1 := (by omega); simpa using this
        have HG : Hid (findL m L n = (171, 0)) := Lib.hid (by rw [HF.out, if_neg hs])
        clear hs
        obtain ⟨g, rfl, _⟩ := HL.out.three (Ext.refl w) Hv.out
        go_enter Try.func27, Try.ntmps27
        go_wp2_with (first
          | (go_at_call 14; refine HM.out.mono ?_; rintro e w1 ⟨rfl, x1⟩; have HX1 := Lib.hid x1; have b1 := (HB1.out.ext x1).cell 1 _ rfl; clear x1)
          | (go_at_call 37; refine (HI.out _ (HX0.out.trans HX1.out) (HB2.out.ext HX1.out)).mono ?_; rintro e w2 ⟨rfl, x2⟩; have HX2 := Lib.hid x2; have b2 := ((HB1.out.ext HX1.out).ext x2).cell 1 _ rfl; obtain ⟨g', e', c0, c1, c2⟩ := HL.out.three ((HX0.out.trans HX1.out).trans x2) Hv.out; cases e'; clear x2))
        go_ret2
        exact ⟨by rw [HG.out]; rfl, (HX0.out.trans HX1.out).trans HX2.out⟩
end Go.Proofs.Ytbobijgbemnmiaa
