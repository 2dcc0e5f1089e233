/- The walk of CtrEnds. -/
import Derived.Test.YthglecfbcdikaaaCtrWorks
import Derived.Test.YthglecfbcdikaaaNatOf
namespace Go.Proofs.Ythglecfbcdikaaa
open Go.RowKit
attribute [local irreducible] rkey expand enc dec ctrB ctrC ctrL xorL turnL

theorem ends_fit {q d : Nat} (hq : q < 20) (hd : d ≤ q + 1) : 4294967295 - q + blocksOf (16 * d) ≤ 4294967296 := by unfold blocksOf; omega
set_option maxRecDepth 100000 in
set_option maxHeartbeats 4000000 in
theorem CtrEnds_walk (a0 a1 : Int) (long : Bool) (w0 : (Lit.int .u8 a0).wf = true) (w1 : (Lit.int .u8 a1).wf = true) (w : World) :
    Calls Try.prog 5 #[.int .u8 a0, .int .u8 a1, .bool long] w fun e w' => e = .returned (.bool true) ∧ Ext w w' := by
  obtain ⟨l, rfl, hl⟩ := nat_of_u8 w0
  obtain ⟨c, rfl, hc⟩ := nat_of_u8 w1
  clear w0 w1
  have x0 := Ext.refl w
  have F1 : Hid (∀ u, Calls Try.prog 8 #[.string ⟨#[107]⟩, .int .i64 16] u fun e w' => e = .returned (.string ⟨(fullN ⟨#[107]⟩ 16).toArray⟩) ∧ Ext u w') := Lib.hid (fun u => full16_any _ u)
  have F2 : Hid (∀ u, Calls Try.prog 8 #[.string ⟨#[110]⟩, .int .i64 12] u fun e w' => e = .returned (.string ⟨(fullN ⟨#[110]⟩ 12).toArray⟩) ∧ Ext u w') := Lib.hid (fun u => full12_any _ u)
  have hK := fulln_size ⟨#[107]⟩ 16; have hN := fulln_size ⟨#[110]⟩ 12
  generalize (⟨(fullN ⟨#[107]⟩ 16).toArray⟩ : ByteArray) = K at *
  generalize (⟨(fullN ⟨#[110]⟩ 12).toArray⟩ : ByteArray) = N at *
  have hkl : K.data.toList.length = 16 := by rw [size_list]; exact hK
  obtain ⟨q, hq⟩ : ∃ q : Nat, (l : Int) % 20 = (q : Int) := ⟨l % 20, by omega⟩
  obtain ⟨d, hd⟩ : ∃ d : Nat, (c : Int) % 24 = (d : Int) := ⟨c % 24, by omega⟩
  have hq20 : q < 20 := by omega
  have hd24 : d < 24 := by omega
  obtain ⟨fr, hfr⟩ : ∃ fr : Nat, fr = 4294967295 - q := ⟨_, rfl⟩
  have hfi : 4294967295 - (q : Int) = (fr : Int) := by omega
  have hfl : fr < 4294967296 := by omega
  have HL : Hid (∀ u, Calls Try.prog 9 #[.string K, .string N, .int .u32 0, .int .i64 1048577] u fun e w' => e = .returned (.tuple #[.string ⟨#[]⟩, .int .i64 5]) ∧ Ext u w') :=
    Lib.hid (fun u => stream_long K N 0 1048577 hK hN (by decide) (by decide) (by decide) (.inl (by decide)) u)
  obtain ⟨M, hM⟩ : ∃ M : ByteArray, M = ⟨(ctrL K.data.toList N.data.toList 0 1048576).toArray⟩ := ⟨_, rfl⟩
  have hMs : M.size = 1048576 := by rw [hM, txt_size, ctrL_length hkl]
  have HM : Hid (∀ u, Calls Try.prog 9 #[.string K, .string N, .int .u32 0, .int .i64 1048576] u fun e w' => e = .returned (.tuple #[.string M, .int .i64 0]) ∧ Ext u w') :=
    Lib.hid (fun u => by rw [hM]; exact stream_yes K N 0 1048576 hK hN (Nat.le_refl _) (by omega) (by unfold blocksOf; omega) u)
  clear hM
  by_cases hdq : d ≤ q + 1
  case' pos =>
    have hdi : (d : Int) ≤ (q : Int) + 1 := by omega
    obtain ⟨A, hA⟩ : ∃ A : ByteArray, A = ⟨(ctrL K.data.toList N.data.toList fr (16 * d)).toArray⟩ := ⟨_, rfl⟩
    have hAs : A.size = 16 * d := by rw [hA, txt_size, ctrL_length hkl]
    have HS : Hid (∀ u, Calls Try.prog 9 #[.string K, .string N, .int .u32 (fr : Int), .int .i64 (16 * (d : Int))] u fun e w' => e = .returned (.tuple #[.string A, .int .i64 0]) ∧ Ext u w') := Lib.hid (fun u => by
      have h := stream_yes K N fr (16 * d) hK hN (by omega) hfl (by rw [hfr]; exact ends_fit hq20 hdq) u
      rw [← hA, Int.natCast_mul] at h
      exact h)
    clear hA
  case' neg =>
    have hdi : ¬ (d : Int) ≤ (q : Int) + 1 := by omega
    have HS : Hid (∀ u, Calls Try.prog 9 #[.string K, .string N, .int .u32 (fr : Int), .int .i64 (16 * (d : Int))] u fun e w' => e = .returned (.tuple #[.string ⟨#[]⟩, .int .i64 5]) ∧ Ext u w') :=
      Lib.hid (fun u => stream_long K N fr (16 * (d : Int)) hK hN (by omega) (by omega) hfl (.inr (by omega)) u)
  all_goals
    cases long
    all_goals
      have hw1 : IntKind.u64.wrap (q : Int) = (q : Int) := IntWalk.u64_in _ ⟨by omega, by omega⟩
      have hw2 : IntKind.u32.wrap (fr : Int) = (fr : Int) := IntWalk.u32_in _ ⟨by omega, by omega⟩
      clear hK hN hkl hfr hdq hfl hl hc
      go_enter Try.func5, Try.ntmps5
      go_wp2_with (first
        | (go_at_call 8; with_reducible refine (F1.out _).mono ?_; rintro e v1 ⟨rfl, x1⟩; replace x0 := x0.trans x1)
        | (go_at_call 8; with_reducible refine (F2.out _).mono ?_; rintro e v2 ⟨rfl, x2⟩; replace x0 := x0.trans x2)
        | (go_at_call 9; with_reducible refine (HS.out _).mono ?_; rintro e v3 ⟨rfl, x3⟩; replace x0 := x0.trans x3)
        | (go_at_call 9; with_reducible refine (HM.out _).mono ?_; rintro e v4 ⟨rfl, x4⟩; replace x0 := x0.trans x4)
        | (go_at_call 9; with_reducible refine (HL.out _).mono ?_; rintro e v5 ⟨rfl, x5⟩; replace x0 := x0.trans x5)
        | (go_at_call 7; refine (ctr_works _).mono ?_; rintro e v10 ⟨rfl, x10⟩; replace x0 := x0.trans x10))
      go_ret
      exact ⟨rfl, x0⟩
end Go.Proofs.Ythglecfbcdikaaa
