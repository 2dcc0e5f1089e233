/- Contract: the document's example of layer 5. -/
import Derived.Test.YthglecfbcdikaaaCtrTurn
import Derived.Test.YthglecfbcdikaaaFullN
namespace Go.Proofs.Ythglecfbcdikaaa
open Go.RowKit
attribute [local irreducible] rkey expand enc dec ctrB ctrC ctrL xorL turnL

theorem blocks_few {n : Nat} (h : n ≤ 1048576) : blocksOf n ≤ 65536 := by unfold blocksOf; omega
theorem fulln_size (s : ByteArray) (n : Nat) : (⟨(fullN s n).toArray⟩ : ByteArray).size = n := by rw [txt_size, fullN_length]
set_option maxRecDepth 100000 in
set_option maxHeartbeats 2000000 in
theorem ctr_works (w : World) : Calls Try.prog 7 #[] w fun e w' => e = .returned (.bool true) ∧ Ext w w' := by
  have F16 := Lib.hid (fun u => full16_any ⟨#[]⟩ u)
  have F12 := Lib.hid (fun u => full12_any ⟨#[]⟩ u)
  have hK := fulln_size ⟨#[]⟩ 16
  have hN := fulln_size ⟨#[]⟩ 12
  generalize (⟨(fullN ⟨#[]⟩ 16).toArray⟩ : ByteArray) = K at *
  generalize (⟨(fullN ⟨#[]⟩ 12).toArray⟩ : ByteArray) = N at *
  have hkl : K.data.toList.length = 16 := by rw [size_list]; exact hK
  have T0 : Hid (∀ u, Calls Try.prog 11 #[.string K, .string N, .int .u32 0, .string ⟨#[]⟩] u fun e w' => e = .returned (.tuple #[.string ⟨#[]⟩, .int .i64 0]) ∧ Ext u w') := Lib.hid (fun u => by
    have h := turn_yes K N ⟨#[]⟩ 0 hK hN (Nat.zero_le _) (by omega) (by have := blocks_few (n := (⟨#[]⟩ : ByteArray).size) (Nat.zero_le _); omega) u
    have e0 : turnL K.data.toList N.data.toList 0 (⟨#[]⟩ : ByteArray).data.toList = [] := List.length_eq_zero_iff.1 (turnL_length hkl _ _ _)
    rw [e0] at h
    exact h)
  obtain ⟨T, hT⟩ : ∃ T : ByteArray, T = ⟨(turnL K.data.toList N.data.toList 0 (⟨#[97, 98, 99]⟩ : ByteArray).data.toList).toArray⟩ := ⟨_, rfl⟩
  have hT3 : T.size = 3 := by rw [hT, txt_size, turnL_length hkl]; rfl
  have T1 : Hid (∀ u, Calls Try.prog 11 #[.string K, .string N, .int .u32 0, .string ⟨#[97, 98, 99]⟩] u fun e w' => e = .returned (.tuple #[.string T, .int .i64 0]) ∧ Ext u w') := Lib.hid (fun u => by
    rw [hT]
    exact turn_yes K N ⟨#[97, 98, 99]⟩ 0 hK hN (by decide) (by omega) (by decide) u)
  have T2 : Hid (∀ u, Calls Try.prog 11 #[.string K, .string N, .int .u32 0, .string T] u fun e w' => e = .returned (.tuple #[.string ⟨#[97, 98, 99]⟩, .int .i64 0]) ∧ Ext u w') := Lib.hid (fun u => by
    have h := turn_yes K N T 0 hK hN (by omega) (by omega) (by rw [hT3]; decide) u
    have e0 : turnL K.data.toList N.data.toList 0 T.data.toList = (⟨#[97, 98, 99]⟩ : ByteArray).data.toList := by rw [hT]; exact turnL_twice hkl _ _ _
    rw [e0] at h
    exact h)
  have T3 : Hid (∀ u, Calls Try.prog 11 #[.string ⟨#[]⟩, .string N, .int .u32 0, .string ⟨#[97, 98, 99]⟩] u fun e w' => e = .returned (.tuple #[.string ⟨#[]⟩, .int .i64 2]) ∧ Ext u w') :=
    Lib.hid (fun u => turn_err ⟨#[]⟩ N ⟨#[97, 98, 99]⟩ 0 2 (by decide) u (fun v => stream_arg _ _ 0 _ (.inl (by decide)) v))
  clear hK hN hkl hT
  have x0 := Ext.refl w
  go_enter Try.func7, Try.ntmps7
  go_wp2_with (first
    | (go_at_call 8; (with_reducible refine (F16.out _).mono ?_); rintro e v1 ⟨rfl, x1⟩; replace x0 := x0.trans x1)
    | (go_at_call 8; (with_reducible refine (F12.out _).mono ?_); rintro e v2 ⟨rfl, x2⟩; replace x0 := x0.trans x2)
    | (go_at_call 11; (with_reducible refine (T0.out _).mono ?_); rintro e v3 ⟨rfl, x3⟩; replace x0 := x0.trans x3)
    | (go_at_call 11; (with_reducible refine (T1.out _).mono ?_); rintro e v4 ⟨rfl, x4⟩; replace x0 := x0.trans x4)
    | (go_at_call 11; (with_reducible refine (T2.out _).mono ?_); rintro e v5 ⟨rfl, x5⟩; replace x0 := x0.trans x5)
    | (go_at_call 11; (with_reducible refine (T3.out _).mono ?_); rintro e v6 ⟨rfl, x6⟩; replace x0 := x0.trans x6))
  go_ret
  exact ⟨rfl, x0⟩
end Go.Proofs.Ythglecfbcdikaaa
