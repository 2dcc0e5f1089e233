/- The walk of CtrTwo. -/
import Derived.Test.YthglecfbcdikaaaTurnT
import Derived.Test.YthglecfbcdikaaaCtrWorks
import Derived.Test.YthglecfbcdikaaaNatOf
namespace Go.Proofs.Ythglecfbcdikaaa
open Go.RowKit
attribute [local irreducible] rkey expand enc dec ctrB ctrC ctrL xorL turnL

set_option maxRecDepth 100000 in
set_option maxHeartbeats 4000000 in
theorem CtrTwo_walk (a b m n : ByteArray) (a4 a5 : Int) (s : ByteArray) (z0 : a.size ≤ 140737488351232) (z1 : b.size ≤ 140737488351232) (z2 : m.size ≤ 140737488351232) (z3 : n.size ≤ 140737488351232) (w4 : (Lit.int .u32 a4).wf = true) (w5 : (Lit.int .u32 a5).wf = true) (z6 : s.size ≤ 140737488351232) (w : World) :
    Calls Try.prog 6 #[.string a, .string b, .string m, .string n, .int .u32 a4, .int .u32 a5, .string s] w fun e w' => e = .returned (.bool true) ∧ Ext w w' := by
  obtain ⟨f, rfl, hf⟩ := nat_of_u32 w4
  obtain ⟨o, rfl, ho⟩ := nat_of_u32 w5
  clear w4 w5
  have x0 := Ext.refl w
  by_cases h1 : 1024 < a.size + b.size + m.size + n.size ∨ 2048 < s.size ∨ 4294966796 < f ∨ 4294966796 < o
  · have h1i : (1024 : Int) < (a.size : Int) + (b.size : Int) + (m.size : Int) + (n.size : Int) ∨ (2048 : Int) < (s.size : Int) ∨ (4294966796 : Int) < (f : Int) ∨ (4294966796 : Int) < (o : Int) := by omega
    clear h1
    go_enter Try.func6, Try.ntmps6
    by_cases c1 : (1024 : Int) < (a.size : Int) + (b.size : Int) + (m.size : Int) + (n.size : Int)
    · clear h1i
      go_wp2_with (go_at_call 7; refine (ctr_works _).mono ?_; rintro e w7 ⟨rfl, h7⟩)
      go_ret
      exact ⟨rfl, h7⟩
    · by_cases c2 : (2048 : Int) < (s.size : Int)
      · clear h1i
        go_wp2_with (go_at_call 7; refine (ctr_works _).mono ?_; rintro e w7 ⟨rfl, h7⟩)
        go_ret
        exact ⟨rfl, h7⟩
      · by_cases c3 : (4294966796 : Int) < (f : Int)
        · clear h1i hf ho
          go_wp2_with (go_at_call 7; refine (ctr_works _).mono ?_; rintro e w7 ⟨rfl, h7⟩)
          go_ret
          exact ⟨rfl, h7⟩
        · have c4 : (4294966796 : Int) < (o : Int) := by
            rcases h1i with h | h | h | h
            · exact absurd h c1
            · exact absurd h c2
            · exact absurd h c3
            · exact h
          clear h1i hf ho
          go_wp2_with (go_at_call 7; refine (ctr_works _).mono ?_; rintro e w7 ⟨rfl, h7⟩)
          go_ret
          exact ⟨rfl, h7⟩
  · have c1 : ¬ (1024 : Int) < (a.size : Int) + (b.size : Int) + (m.size : Int) + (n.size : Int) := by omega
    have c2 : ¬ (2048 : Int) < (s.size : Int) := by omega
    have c3 : ¬ (4294966796 : Int) < (f : Int) := by omega
    have c4 : ¬ (4294966796 : Int) < (o : Int) := by omega
    have hs : s.size ≤ 2048 := by omega
    have hfb : f + blocksOf s.size ≤ 4294967296 := by unfold blocksOf; omega
    have hob : o + blocksOf s.size ≤ 4294967296 := by unfold blocksOf; omega
    have F1 := Lib.hid (fun u => full16_any a u)
    have F2 := Lib.hid (fun u => full16_any b u)
    have F3 := Lib.hid (fun u => full12_any m u)
    have F4 := Lib.hid (fun u => full12_any n u)
    have hK := fulln_size a 16; have hL := fulln_size b 16; have hP := fulln_size m 12; have hQ := fulln_size n 12
    generalize (⟨(fullN a 16).toArray⟩ : ByteArray) = K at *
    generalize (⟨(fullN b 16).toArray⟩ : ByteArray) = L at *
    generalize (⟨(fullN m 12).toArray⟩ : ByteArray) = P at *
    generalize (⟨(fullN n 12).toArray⟩ : ByteArray) = Q at *
    have s1 := turnT_size K P f s hK
    have s2 := turnT_size L Q o s hL
    have T1 := turnT_to K P f s hK hP (by omega) hfb hf
    have T2 := turnT_to L Q o (turnT K P f s) hL hQ (by rw [s1]; omega) (by rw [s1]; exact hob) ho
    have T3 := turnT_to L Q o s hL hQ (by omega) hob ho
    have T4 := turnT_to K P f (turnT L Q o s) hK hP (by rw [s2]; omega) (by rw [s2]; exact hfb) hf
    have T5 := turnT_to K P f (turnT L Q o (turnT K P f s)) hK hP (by rw [turnT_size L Q o _ hL, s1]; omega) (by rw [turnT_size L Q o _ hL, s1]; exact hfb) hf
    have e1 := turnT_two K P f L Q o s hK hL
    have e2 := turnT_twice K P f (turnT L Q o s) hK
    rw [e1] at T2 T5
    rw [e2] at T5
    clear e1 e2 s1 s2
    generalize turnT K P f (turnT L Q o s) = Y at *
    generalize turnT K P f s = X at *
    generalize turnT L Q o s = U at *
    clear h1 hs hfb hob hK hL hP hQ hf ho
    go_enter Try.func6, Try.ntmps6
    go_wp2_with (first
      | (go_at_call 8; with_reducible refine (F1.out _).mono ?_; rintro e v1 ⟨rfl, x1⟩; replace x0 := x0.trans x1)
      | (go_at_call 8; with_reducible refine (F2.out _).mono ?_; rintro e v2 ⟨rfl, x2⟩; replace x0 := x0.trans x2)
      | (go_at_call 8; with_reducible refine (F3.out _).mono ?_; rintro e v3 ⟨rfl, x3⟩; replace x0 := x0.trans x3)
      | (go_at_call 8; with_reducible refine (F4.out _).mono ?_; rintro e v4 ⟨rfl, x4⟩; replace x0 := x0.trans x4)
      | (go_at_call 11; with_reducible refine (T1.out _).mono ?_; rintro e v5 ⟨rfl, x5⟩; replace x0 := x0.trans x5)
      | (go_at_call 11; with_reducible refine (T2.out _).mono ?_; rintro e v6 ⟨rfl, x6⟩; replace x0 := x0.trans x6)
      | (go_at_call 11; with_reducible refine (T3.out _).mono ?_; rintro e v7 ⟨rfl, x7⟩; replace x0 := x0.trans x7)
      | (go_at_call 11; with_reducible refine (T4.out _).mono ?_; rintro e v8 ⟨rfl, x8⟩; replace x0 := x0.trans x8)
      | (go_at_call 11; with_reducible refine (T5.out _).mono ?_; rintro e v9 ⟨rfl, x9⟩; replace x0 := x0.trans x9)
      | (go_at_call 7; refine (ctr_works _).mono ?_; rintro e v10 ⟨rfl, x10⟩; replace x0 := x0.trans x10))
    go_ret
    exact ⟨rfl, x0⟩
end Go.Proofs.Ythglecfbcdikaaa
