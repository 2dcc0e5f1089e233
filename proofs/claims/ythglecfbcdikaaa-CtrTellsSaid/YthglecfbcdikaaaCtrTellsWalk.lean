/- The walk of CtrTells. -/
import Derived.Test.YthglecfbcdikaaaCtrPairs
import Derived.Test.YthglecfbcdikaaaCtrWorks
namespace Go.Proofs.Ythglecfbcdikaaa
open Go.RowKit
attribute [local irreducible] rkey expand enc dec ctrB ctrC ctrL xorL turnL

set_option maxRecDepth 100000 in
set_option maxHeartbeats 4000000 in
theorem CtrTells_walk (k n : ByteArray) (fit : Bool) (a3 : Int) (s : ByteArray) (a5 : Int) (z0 : k.size ≤ 140737488351232) (z1 : n.size ≤ 140737488351232) (w3 : (Lit.int .u32 a3).wf = true) (z4 : s.size ≤ 140737488351232) (w5 : (Lit.int .i64 a5).wf = true) (w : World) :
    Calls Try.prog 3 #[.string k, .string n, .bool fit, .int .u32 a3, .string s, .int .i64 a5] w fun e w' => e = .returned (.bool true) ∧ Ext w w' := by
  obtain ⟨f, rfl, hf⟩ := nat_of_u32 w3
  have hi := (bounds_of_i64 w5).2
  have F16 := Lib.hid (fun u => full16_any k u)
  have F12 := Lib.hid (fun u => full12_any n u)
  have hS1 := stream_pair k n f hf a5 hi
  have hT1 := turn_pair k n s f hf z4
  have hS2 := stream_pair ⟨(fullN k 16).toArray⟩ ⟨(fullN n 12).toArray⟩ f hf a5 hi
  have hT2 := turn_pair ⟨(fullN k 16).toArray⟩ ⟨(fullN n 12).toArray⟩ s f hf z4
  generalize (⟨(fullN k 16).toArray⟩ : ByteArray) = K at *
  generalize (⟨(fullN n 12).toArray⟩ : ByteArray) = N at *
  obtain ⟨A1, e1, P1, R1⟩ := hS1
  obtain ⟨C1, g1, Q1, U1⟩ := hT1
  obtain ⟨A2, e2, P2, R2⟩ := hS2
  obtain ⟨C2, g2, Q2, U2⟩ := hT2
  clear hi w3 w5 hf
  have x0 := Ext.refl w
  by_cases h1 : 1024 < k.size + n.size ∨ 400 < s.size ∨ (400 < a5 ∧ a5 ≤ 1048576)
  · have h1i : (1024 : Int) < (k.size : Int) + (n.size : Int) ∨ (400 : Int) < (s.size : Int) ∨ (400 < a5 ∧ a5 ≤ 1048576) := by omega
    clear P1 R1 Q1 U1 P2 R2 Q2 U2 F16 F12 h1
    go_enter Try.func3, Try.ntmps3
    by_cases c1 : (1024 : Int) < (k.size : Int) + (n.size : Int)
    · go_wp2_with (go_at_call 7; refine (ctr_works _).mono ?_; rintro e w7 ⟨rfl, h7⟩)
      go_ret
      exact ⟨rfl, h7⟩
    · by_cases c2 : (400 : Int) < (s.size : Int)
      · clear h1i
        go_wp2_with (go_at_call 7; refine (ctr_works _).mono ?_; rintro e w7 ⟨rfl, h7⟩)
        go_ret
        exact ⟨rfl, h7⟩
      · have c3 : 400 < a5 ∧ a5 ≤ 1048576 := by
          rcases h1i with h | h | h
          · exact absurd h c1
          · exact absurd h c2
          · exact h
        obtain ⟨c4, c5⟩ := c3
        clear h1i
        go_wp2_with (go_at_call 7; refine (ctr_works _).mono ?_; rintro e w7 ⟨rfl, h7⟩)
        go_ret
        exact ⟨rfl, h7⟩
  · have h1i : ¬ (1024 : Int) < (k.size : Int) + (n.size : Int) := by omega
    have h2i : ¬ (400 : Int) < (s.size : Int) := by omega
    have h3i : a5 ≤ 400 ∨ ¬ a5 ≤ 1048576 := by omega
    clear h1
    rcases h3i with c3 | c3 <;> cases fit
    case' inl.false => clear F16 F12 P2 R2 Q2 U2
    case' inr.false => clear F16 F12 P2 R2 Q2 U2
    case' inl.true => clear P1 R1 Q1 U1
    case' inr.true => clear P1 R1 Q1 U1
    all_goals
      go_enter Try.func3, Try.ntmps3
      go_wp2_with (first
        | (go_at_call 8; with_reducible refine (F16.out _).mono ?_; rintro e v1 ⟨rfl, x1⟩; replace x0 := x0.trans x1)
        | (go_at_call 8; with_reducible refine (F12.out _).mono ?_; rintro e v2 ⟨rfl, x2⟩; replace x0 := x0.trans x2)
        | (go_at_call 9; (first | refine (P1.out _).mono ?_ | refine (P2.out _).mono ?_); rintro e v3 ⟨rfl, x3⟩; replace x0 := x0.trans x3)
        | (go_at_call 10; (first | refine (R1.out _).mono ?_ | refine (R2.out _).mono ?_); rintro e v4 ⟨rfl, x4⟩; replace x0 := x0.trans x4)
        | (go_at_call 11; (first | refine (Q1.out _).mono ?_ | refine (Q2.out _).mono ?_); rintro e v5 ⟨rfl, x5⟩; replace x0 := x0.trans x5)
        | (go_at_call 12; (first | refine (U1.out _).mono ?_ | refine (U2.out _).mono ?_); rintro e v6 ⟨rfl, x6⟩; replace x0 := x0.trans x6)
        | (go_at_call 7; refine (ctr_works _).mono ?_; rintro e w7 ⟨rfl, x7⟩; replace x0 := x0.trans x7))
      go_ret
      exact ⟨rfl, x0⟩
end Go.Proofs.Ythglecfbcdikaaa
