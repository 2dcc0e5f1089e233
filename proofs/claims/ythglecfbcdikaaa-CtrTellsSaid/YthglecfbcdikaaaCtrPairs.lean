/- What the program and the document's answer both give: a stream; a text, either or a stream. -/
import Derived.Test.YthglecfbcdikaaaCtrTurn
import Derived.Test.YthglecfbcdikaaaRStreams
import Derived.Test.YthglecfbcdikaaaNatOf
namespace Go.Proofs.Ythglecfbcdikaaa
open Go.RowKit
attribute [local irreducible] rkey expand enc dec ctrB ctrC ctrL xorL turnL

/-- A function of a key, a nonce, a number and one thing more gives a text and an error. -/
def Gives (F : Nat) (K N : ByteArray) (f : Nat) (x : Value) (A : ByteArray) (e : Int) : Prop :=
  ∀ u, Calls Try.prog F #[.string K, .string N, .int .u32 (f : Int), x] u fun o w' => o = .returned (.tuple #[.string A, .int .i64 e]) ∧ Ext u w'
theorem Gives.out {F : Nat} {K N : ByteArray} {f : Nat} {x : Value} {A : ByteArray} {e : Int} (h : Gives F K N f x A e) (u : World) :
    Calls Try.prog F #[.string K, .string N, .int .u32 (f : Int), x] u fun o w' => o = .returned (.tuple #[.string A, .int .i64 e]) ∧ Ext u w' := h u
theorem good_args {K N : ByteArray} {n : Int} (h : ¬ badArg K N n) : K.size = 16 ∧ N.size = 12 ∧ 0 ≤ n := by
  unfold badArg at h
  refine ⟨?_, ?_, ?_⟩
  · exact Decidable.byContradiction fun h1 => h (.inl h1)
  · exact Decidable.byContradiction fun h1 => h (.inr (.inl h1))
  · exact Decidable.byContradiction fun h1 => h (.inr (.inr (by omega)))
theorem stream_pair (K N : ByteArray) (f : Nat) (hfl : f < 4294967296) (n : Int) (hm : n ≤ 9223372036854775807) :
    ∃ A e, Gives 9 K N f (.int .i64 n) A e ∧ Gives 10 K N f (.int .i64 n) A e := by
  by_cases hb : badArg K N n
  · exact ⟨_, _, fun u => stream_arg K N f n hb u, fun u => rstream_arg K N f n hb u⟩
  · obtain ⟨h1, h2, h3⟩ := good_args hb
    by_cases hl : tooLong f n
    · exact ⟨_, _, fun u => stream_long K N f n h1 h2 h3 hm hfl hl u, fun u => rstream_long K N f n h1 h2 h3 hm hfl hl u⟩
    · obtain ⟨m, rfl⟩ : ∃ m : Nat, n = (m : Int) := ⟨n.toNat, by omega⟩
      unfold tooLong at hl
      have hm2 : m ≤ 1048576 := by omega
      have hb2 : f + blocksOf m ≤ 4294967296 := by unfold blocksOf; omega
      exact ⟨_, _, fun u => stream_yes K N f m h1 h2 hm2 hfl hb2 u, fun u => rstream_yes K N f m h1 h2 hm2 hfl hb2 u⟩
theorem turn_pair (K N S : ByteArray) (f : Nat) (hfl : f < 4294967296) (hs : S.size ≤ 140737488351232) :
    ∃ A e, Gives 11 K N f (.string S) A e ∧ Gives 12 K N f (.string S) A e := by
  by_cases hb : badArg K N (S.size : Int)
  · exact ⟨_, _, fun u => turn_err K N S f 2 (by decide) u (fun v => stream_arg K N f _ hb v), fun u => rturn_err K N S f 2 (by decide) u (fun v => rstream_arg K N f _ hb v)⟩
  · obtain ⟨h1, h2, h3⟩ := good_args hb
    by_cases hl : tooLong f (S.size : Int)
    · exact ⟨_, _, fun u => turn_err K N S f 5 (by decide) u (fun v => stream_long K N f _ h1 h2 h3 (by omega) hfl hl v), fun u => rturn_err K N S f 5 (by decide) u (fun v => rstream_long K N f _ h1 h2 h3 (by omega) hfl hl v)⟩
    · unfold tooLong at hl
      have hm2 : S.size ≤ 1048576 := by omega
      have hb2 : f + blocksOf S.size ≤ 4294967296 := by unfold blocksOf; omega
      exact ⟨_, _, fun u => turn_yes K N S f h1 h2 hm2 hfl hb2 u, fun u => rturn_yes K N S f h1 h2 hm2 hfl hb2 u⟩
end Go.Proofs.Ythglecfbcdikaaa
