/- Contracts: the state behind a block, by the document's answer. -/
import Derived.Test.YtciiooeblknnoaaDoorRWords
import Derived.StillTailTactics
namespace Go.Proofs.YtciiooeblknnoaaDoor
open Go.RowKit

theorem three1_any (x : Nat) (hx : x < 4294967296) (w : World) :
    Calls Tryd.prog 39 #[.int .u32 (x : Int), .int .i64 6, .int .i64 11, .int .i64 25] w fun e w' => e = .returned (.int .u32 ((sum1 x : Nat) : Int)) ∧ w = w' := three_any x hx 6 11 25 w
theorem three0_any (x : Nat) (hx : x < 4294967296) (w : World) :
    Calls Tryd.prog 39 #[.int .u32 (x : Int), .int .i64 2, .int .i64 13, .int .i64 22] w fun e w' => e = .returned (.int .u32 ((sum0 x : Nat) : Int)) ∧ w = w' := three_any x hx 2 13 22 w
theorem three1_q (x : Nat) (hx : x < 4294967296) (w : World) :
    Calls Tryd.prog 39 #[.int .u32 (x : Int), .int .i64 6, .int .i64 11, .int .i64 25] w fun e w' => e = .returned (.int .u32 ((sum1 x : Nat) : Int)) ∧ w' = w := (three1_any x hx w).mono fun _ _ h => ⟨h.1, h.2.symm⟩
/-- A new slice of just these numbers. -/
def NewPost (l : List Nat) (w : World) (e : Ending) (w' : World) : Prop := ∃ g, e = .returned (.slice (some ⟨g, 0, none⟩) l.length l.length) ∧ Row32 w' g 60 l ∧ w.heap.size ≤ g ∧ Ext w w'
theorem Row32.lit (w : World) (cs : Array Value) (t : TypeId) (l : List Nat) (h : cs = (l.map cell32).toArray) : Row32 (w.alloc (.cells cs t)) w.heap.size t l := by subst h; exact Row32.new w l t
set_option maxRecDepth 100000 in
theorem rK_any (w : World) : Calls Tryd.prog 37 #[] w (NewPost Kc w) := by
  go_enter Tryd.func37, Tryd.ntmps37
  go_wp2
  go_ret
  exact ⟨w.heap.size, rfl, Row32.lit w _ _ Kc rfl, Nat.le_refl _, (Ext.refl w).alloc _⟩

theorem rK64_any (w : World) : Calls Tryd.prog 37 #[] w fun e w' => ∃ g, e = .returned (.slice (some ⟨g, 0, none⟩) 64 64) ∧ Row32 w' g 60 Kc ∧ w.heap.size ≤ g ∧ Ext w w' := rK_any w
theorem seg8 {w : World} {g : Nat} {st : St} (h : Seg32 w g st.list) :
    w.cell? ⟨g, 0, none⟩ = some (.int .u32 (st.a : Nat)) ∧ w.cell? ⟨g, 1, none⟩ = some (.int .u32 (st.b : Nat)) ∧ w.cell? ⟨g, 2, none⟩ = some (.int .u32 (st.c : Nat)) ∧ w.cell? ⟨g, 3, none⟩ = some (.int .u32 (st.d : Nat)) ∧
    w.cell? ⟨g, 4, none⟩ = some (.int .u32 (st.e : Nat)) ∧ w.cell? ⟨g, 5, none⟩ = some (.int .u32 (st.f : Nat)) ∧ w.cell? ⟨g, 6, none⟩ = some (.int .u32 (st.g : Nat)) ∧ w.cell? ⟨g, 7, none⟩ = some (.int .u32 (st.h : Nat)) :=
  ⟨h.cell 0 (by simp [St.list]), h.cell 1 (by simp [St.list]), h.cell 2 (by simp [St.list]), h.cell 3 (by simp [St.list]), h.cell 4 (by simp [St.list]), h.cell 5 (by simp [St.list]), h.cell 6 (by simp [St.list]), h.cell 7 (by simp [St.list])⟩

set_option maxRecDepth 100000 in
set_option maxHeartbeats 1000000 in
theorem rstep_any (st : St) (ok : st.Ok) (s : ByteArray) (hs : s.size = 64) (g : Nat) (w : World) (hseg : Seg32 w g st.list) :
    Calls Tryd.prog 27 #[.slice (some ⟨g, 0, none⟩) 8 8, .string s] w (NewPost (stp s.data.toList st).list w) := by
  have CW := fun u => rWords_any s hs u
  have HW := Lib.hid CW; clear CW
  have Hs := Lib.hid hs; clear hs
  have hg := hseg.lt
  have HS := Lib.hid hseg; clear hseg
  obtain ⟨a, b, c, d, ee, f, gg, h⟩ := st
  go_enter Tryd.func27, Tryd.ntmps27
  go_wp2_with (first
    | (go_at_call 37; refine (rK64_any _).mono ?_; rintro e w1 ⟨gk, rfl, hK, hgk, h1⟩)
    | (go_at_call 38; refine (HW.out _).mono ?_; rintro e w2 ⟨gw, cw, rfl, hcw, hmw, hW, h2⟩))
  have hs2 := (HS.out.ext h1).ext h2
  have hK2 := hK.seg.ext h2
  have hx := h1.trans h2
  clear h1 h2 hK
  obtain ⟨k0, k1, k2, k3, k4, k5, k6, k7⟩ := seg8 hs2
  have HS2 := Lib.hid hs2; clear hs2 HS
  have HK2 := Lib.hid hK2; clear hK2
  have HW2 := Lib.hid hW; clear hW
  simp only at k0 k1 k2 k3 k4 k5 k6 k7
  go_quiet (fail)
  go_wp2
  go_quiet (fail)
  go_wp2
  clear k0 k1 k2 k3 k4 k5 k6 k7
  go_loopw [7, 8, 9, 10, 11, 12, 13, 14, 15] (fun va vb vc vd ve vf vg vh i wr => ∃ (t : Nat) (s2 : St), t ≤ 64 ∧ i = .int .i64 t ∧ s2 = rnds (ws s.data.toList 64) ⟨a, b, c, d, ee, f, gg, h⟩ t ∧ va = .int .u32 (s2.a : Int) ∧ vb = .int .u32 (s2.b : Int) ∧ vc = .int .u32 (s2.c : Int) ∧ vd = .int .u32 (s2.d : Int) ∧ ve = .int .u32 (s2.e : Int) ∧ vf = .int .u32 (s2.f : Int) ∧ vg = .int .u32 (s2.g : Int) ∧ vh = .int .u32 (s2.h : Int) ∧ Ext w2 wr) (fun _ _ _ _ _ _ _ _ i _ => 64 - (intOf i).toNat)
  case atStart => exact ⟨0, _, Nat.zero_le _, rfl, rfl, rfl, rfl, rfl, rfl, rfl, rfl, rfl, rfl, by first | exact (Ext.refl _).drewN _ | exact ((Ext.refl _).drewN _).drewN _⟩
  case round =>
    obtain ⟨t, ⟨a2, b2, c2, d2, e2, f2, g2, h2⟩, ht, rfl, hs3, rfl, rfl, rfl, rfl, rfl, rfl, rfl, rfl, hext⟩ := hrel
    have ok2 := rnds_ok ok (ws s.data.toList 64) t
    rw [← hs3] at ok2
    have HS3 := Lib.hid hs3; clear hs3
    have OK2 := Lib.hid ok2
    obtain ⟨o1, o2, o3, o4, o5, o6, o7, o8⟩ := ok2
    simp only at o1 o2 o3 o4 o5 o6 o7 o8
    by_cases hlt : t < 64
    · have hk := (HK2.out.ext hext).cell t (by rw [Kc_length]; exact hlt)
      have hw := (HW2.out.ext hext).cell t (by rw [ws_length]; exact hlt)
      have hgk := (HK2.out.ext hext).lt
      have hgw := (HW2.out.ext hext).lt
      obtain ⟨k, ek⟩ : ∃ k, k = Kc.getD t 0 := ⟨_, rfl⟩
      obtain ⟨x, ew⟩ : ∃ x, x = (ws s.data.toList 64).getD t 0 := ⟨_, rfl⟩
      rw [← ek] at hk; rw [← ew] at hw
      have EK := Lib.hid ek; have EW := Lib.hid ew; clear ek ew
      have hd : decide ((t : Int) < 64) = true := by simp; omega
      go_wp2_with fail
      go_quiet ((go_at_call 39; exact Calls.quiet_of_same (three1_q _ o5 _)))
      go_wp2_with (go_at_call 39; ((with_reducible refine (three0_any _ o1 _).mono ?_); rintro e w3 ⟨rfl, rfl⟩))
      go_roundw
      case rel =>
        refine ⟨t + 1, rnd ⟨a2, b2, c2, d2, e2, f2, g2, h2⟩ k x, by omega, by go_num, ?_, int_eq (rnd_a ⟨a2, b2, c2, d2, e2, f2, g2, h2⟩ OK2.out k x), rfl, rfl, rfl, int_eq (rnd_e ⟨a2, b2, c2, d2, e2, f2, g2, h2⟩ OK2.out k x), rfl, rfl, rfl, hext.drewN _⟩
        rw [rnds, ← HS3.out, ← EK.out, ← EW.out]
      case measure => simp [intOf]; omega
    · obtain rfl : t = 64 := by omega
      obtain ⟨k0, k1, k2, k3, k4, k5, k6, k7⟩ := seg8 (HS2.out.ext hext)
      simp only at k0 k1 k2 k3 k4 k5 k6 k7
      have hd : decide (((64 : Nat) : Int) < 64) = false := rfl
      have hgl := (HS2.out.ext hext).lt
      have e64 : ((64 : Nat) : Int) = 64 := rfl
      rw [e64] at hd ⊢
      clear e64
      have hx5 : Ext w wr.drew := (hx.trans hext).drew
      have hp := stp_eq s.data.toList ⟨a, b, c, d, ee, f, gg, h⟩ _ HS3.out
      have HP := Lib.hid hp; clear hp
      go_wp2_with fail
      go_still_tail 40, (by kernel_rfl)
      change wpList _ _ _ _ _ wr.drew
      generalize wr.drew = w4 at hx5 ⊢
      go_wp2
      go_ret
      exact ⟨w4.heap.size, by rw [HP.out]; rfl, by rw [HP.out]; exact Row32.lit w4 _ _ _ (by simp [St.list, plus, cell32]), hx5.size, hx5.alloc _⟩
end Go.Proofs.YtciiooeblknnoaaDoor
