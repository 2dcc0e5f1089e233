/- Contracts: what is no stream, by the program. -/
import Derived.Test.YthglecfbcdikaaaCtrL
import Derived.Test.YthglecfbcdikaaaNew
namespace Go.Proofs.Ythglecfbcdikaaa
open Go.RowKit
attribute [local irreducible] rkey expand enc dec

theorem room_any (f : Nat) (hfl : f < 4294967296) (w : World) :
    Calls Try.prog 14 #[.int .u32 (f : Int)] w fun e w' => e = .returned (.int .u64 (((4294967296 - f) * 16 : Nat) : Int)) ∧ w' = w := by
  obtain ⟨m, hm⟩ : ∃ m : Nat, (4294967295 : Int) - (f : Int) = (m : Int) := ⟨4294967295 - f, by omega⟩
  have e : (((4294967296 - f) * 16 : Nat) : Int) = ((m : Int) + 1) * 16 := by omega
  rw [e]
  have hml : m < 4294967296 := by omega
  clear e
  have w0 : IntKind.u64.wrap (f : Int) = (f : Int) := IntWalk.u64_in _ ⟨by omega, by omega⟩
  have w1 : IntKind.u64.wrap (m : Int) = (m : Int) := IntWalk.u64_in _ ⟨by omega, by omega⟩
  have w2 : IntKind.u64.wrap ((m : Int) + 1) = (m : Int) + 1 := IntWalk.u64_in _ ⟨by omega, by omega⟩
  have w3 : IntKind.u64.wrap (((m : Int) + 1) * 16) = ((m : Int) + 1) * 16 := IntWalk.u64_in _ ⟨by omega, by omega⟩
  clear hfl hml
  go_enter Try.func14, Try.ntmps14
  go_wp2
  go_ret
  exact ⟨rfl, rfl⟩
set_option maxRecDepth 100000 in
set_option maxHeartbeats 2000000 in
theorem stream_arg (key nonce : ByteArray) (f : Nat) (n : Int) (h : badArg key nonce n) (w : World) :
    Calls Try.prog 9 #[.string key, .string nonce, .int .u32 (f : Int), .int .i64 n] w
      fun e w' => e = .returned (.tuple #[.string ⟨#[]⟩, .int .i64 2]) ∧ Ext w w' := by
  go_enter Try.func9, Try.ntmps9
  by_cases hk : key.size = 16
  · have HNew := Lib.hid (fun u => New_yes u key hk)
    by_cases hn : nonce.size = 12
    · have hni : ((nonce.size : Int) != 12) = false := by simp [hn]
      have hneg : n < 0 := by
        rcases h with h | h | h
        · exact absurd hk h
        · exact absurd hn h
        · exact h
      clear h hk hn
      go_wp2_with (go_at_call 13; refine (HNew.out _).mono ?_; rintro e w1 ⟨c, rfl, hc1, h1x⟩)
      go_ret2
      exact ⟨rfl, h1x⟩
    · have hni : ((nonce.size : Int) != 12) = true := by simp; omega
      clear h hk hn
      go_wp2_with (go_at_call 13; refine (HNew.out _).mono ?_; rintro e w1 ⟨c, rfl, hc1, h1x⟩)
      go_ret2
      exact ⟨rfl, h1x⟩
  · have HNew := Lib.hid (fun u => New_no u key hk)
    clear h hk
    go_wp2_with (go_at_call 13; refine (HNew.out _).mono ?_; rintro e w1 ⟨rfl, rfl⟩)
    go_ret2
    exact ⟨rfl, Ext.refl _⟩
set_option maxRecDepth 100000 in
set_option maxHeartbeats 2000000 in
theorem stream_long (key nonce : ByteArray) (f : Nat) (n : Int) (hk : key.size = 16) (hn : nonce.size = 12) (h0 : 0 ≤ n) (hm : n ≤ 9223372036854775807) (hfl : f < 4294967296) (h : tooLong f n) (w : World) :
    Calls Try.prog 9 #[.string key, .string nonce, .int .u32 (f : Int), .int .i64 n] w
      fun e w' => e = .returned (.tuple #[.string ⟨#[]⟩, .int .i64 5]) ∧ Ext w w' := by
  have HNew := Lib.hid (fun u => New_yes u key hk)
  have HRoom := Lib.hid (fun u => room_any f hfl u)
  have hni : ((nonce.size : Int) != 12) = false := by simp [hn]
  obtain ⟨m, rfl⟩ : ∃ m : Nat, n = (m : Int) := ⟨n.toNat, by omega⟩
  have hw0 : IntKind.u64.wrap (m : Int) = (m : Int) := IntWalk.u64_in _ ⟨by omega, by omega⟩
  obtain ⟨r, hr⟩ : ∃ r : Nat, (4294967296 - f) * 16 = r := ⟨_, rfl⟩
  have h2 : ¬ (1048576 : Int) < (m : Int) → (r : Int) < (m : Int) := fun h1 => by
    unfold tooLong at h
    rcases h with h | h
    · exact absurd h h1
    · omega
  rw [hr] at HRoom
  clear h hr hk hn h0 hm hfl
  go_enter Try.func9, Try.ntmps9
  by_cases h1 : 1048576 < (m : Int)
  · clear h2
    go_wp2_with (go_at_call 13; refine (HNew.out _).mono ?_; rintro e w1 ⟨c, rfl, hc1, h1x⟩)
    go_ret2
    exact ⟨rfl, h1x⟩
  · have h3 := h2 h1
    clear h2
    go_wp2_with (first
      | (go_at_call 13; refine (HNew.out _).mono ?_; rintro e w1 ⟨c, rfl, hc1, h1x⟩)
      | (go_at_call 14; refine (HRoom.out _).mono ?_; rintro e w2 ⟨rfl, rfl⟩))
    go_ret2
    exact ⟨rfl, h1x⟩
end Go.Proofs.Ythglecfbcdikaaa
