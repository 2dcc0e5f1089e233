/- Contracts: keys by epochs: what a call does to both rings: the program's and the document's. -/
import Derived.Test.YtdnpgmoiapkhnaaGreatDoorRRet13
import Derived.Test.YtdnpgmoiapkhnaaGreatDoorM10
import Derived.Test.YtdnpgmoiapkhnaaGreatDoorM42
namespace Go.Proofs.YtdnpgmoiapkhnaaGreatDoor
open Go.RowKit
attribute [local irreducible] kd

theorem both_retire (B : Nat) (K : List (Nat × ByteArray)) (hG : GoodK K) (e : Nat) (he : e < 4294967296) (r b d : Nat) :
    ∃ (v : Int) (K' : List (Nat × ByteArray)),
      (∀ u, IsK u r b K → Calls Tryz.prog 12 #[.pointer (some ⟨r, 0, none⟩), .int .u32 (e : Int)] u fun x w' => x = .returned (.int .i64 v) ∧ IsK w' r b K' ∧ u.grownBy w' (some b)) ∧
      (∀ u p c, B ≤ u.heap.size → IsR u B d p c K → Calls Tryz.prog 13 #[.pointer (some ⟨d, 0, none⟩), .int .u32 (e : Int)] u fun x w' => ∃ p' c', x = .returned (.int .i64 v) ∧ IsR w' B d p' c' K' ∧ TurnD B u w') := by
  by_cases h1 : e = top (eps K)
  · subst h1
    exact ⟨2, K, fun u hu => (retire_top u r b K hu).mono fun _ _ q => ⟨q.1, hu.ext q.2, grownK_ext (grown_self u _) q.2⟩, fun u p c hB hu => (rretire_top u B d p c K hu hG).mono fun _ _ q => ⟨p, c, q.1, hu.ext q.2, q.2.turnD hB⟩⟩
  · by_cases h2 : e ∈ eps K
    · exact ⟨0, outK K e, fun u hu => retire_yes u r b K hu e h1 h2, fun u p c hB hu => rretire_yes u B d p c K hB hu hG e h1 h2⟩
    · exact ⟨3, K, fun u hu => (retire_none u r b K hu e he h2).mono fun _ _ q => ⟨q.1, hu.ext q.2, grownK_ext (grown_self u _) q.2⟩, fun u p c hB hu => (rretire_none u B d p c K hu hG e h2).mono fun _ _ q => ⟨p, c, q.1, hu.ext q.2, q.2.turnD hB⟩⟩
theorem both_rotate (B : Nat) (K : List (Nat × ByteArray)) (hG : GoodK K) (s : ByteArray) (r b d : Nat) :
    ∃ (n v : Int) (K' : List (Nat × ByteArray)),
      (∀ u, IsK u r b K → Calls Tryz.prog 14 #[.pointer (some ⟨r, 0, none⟩), .string s] u fun x w' => x = .returned (.tuple #[.int .u32 n, .int .i64 v]) ∧ IsK w' r b K' ∧ u.grownBy w' (some b)) ∧
      (∀ u p c, B ≤ u.heap.size → IsR u B d p c K → Calls Tryz.prog 15 #[.pointer (some ⟨d, 0, none⟩), .string s] u fun x w' => ∃ p' c', x = .returned (.tuple #[.int .u32 n, .int .i64 v]) ∧ IsR w' B d p' c' K' ∧ TurnD B u w') := by
  by_cases hs : s.size = 32
  · by_cases hf : 64 ≤ K.length ∨ top (eps K) = 4294967295
    · exact ⟨0, 4, K, fun u hu => (rotate_full u r b K hu s hs hf).mono fun _ _ q => ⟨q.1, hu.ext q.2, grownK_ext (grown_self u _) q.2⟩, fun u p c hB hu => (rrotate_full u B d p c K hu hG s hs hf).mono fun _ _ q => ⟨p, c, q.1, hu.ext q.2, q.2.turnD hB⟩⟩
    · have ht := hG.top_lt
      exact ⟨_, 0, _, fun u hu => rotate_yes u r b K hu s hs (by omega) (by omega), fun u p c hB hu => rrotate_yes u B d p c K hB hu hG s hs (by omega) (by omega)⟩
  · exact ⟨0, 2, K, fun u hu => (rotate_arg u r b K hu s hs).mono fun _ _ q => ⟨q.1, hu.ext q.2, grownK_ext (grown_self u _) q.2⟩, fun u p c hB hu => (rrotate_arg u d s hs).mono fun _ _ q => ⟨p, c, q.1, hu.ext q.2, q.2.turnD hB⟩⟩
theorem both_keys (w : World) (hL : Laid w) (B : Nat) (K : List (Nat × ByteArray)) (hG : GoodK K) (e : Nat) (he : e < 4294967296) (r b d : Nat) :
    ∃ (D1 D2 : ByteArray) (is : Bool),
      (∀ u, Ext w u → IsK u r b K → Calls Tryz.prog 17 #[.pointer (some ⟨r, 0, none⟩), .int .u32 (e : Int)] u fun x w' => x = .returned (.tuple #[.string D1, .string D2, .bool is]) ∧ Ext u w') ∧
      (∀ u p c, IsR u B d p c K → Calls Tryz.prog 18 #[.pointer (some ⟨d, 0, none⟩), .int .u32 (e : Int)] u fun x w' => x = .returned (.tuple #[.string D1, .string D2, .bool is]) ∧ Ext u w') := by
  by_cases h2 : e ∈ eps K
  · obtain ⟨⟨e', s⟩, hm, rfl⟩ := List.mem_map.1 h2
    exact ⟨_, _, true, fun u hx hu => keys_yes u r b K (hL.ext hx) hu e' s hm, fun u p c hu => rkeysK_yes u B d p c K hu hG e' s hm⟩
  · exact ⟨_, _, false, fun u _ hu => keys_no u r b K hu e he h2, fun u p c hu => rkeysK_no u B d p c K hu hG.few e h2⟩
end Go.Proofs.YtdnpgmoiapkhnaaGreatDoor
