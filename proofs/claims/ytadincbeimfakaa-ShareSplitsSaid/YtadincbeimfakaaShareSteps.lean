/- Contracts of both sides at once: a share that comes; the secret; the shares of a secret; what a share's bytes say. -/
import Derived.Test.YtadincbeimfakaaGAdd
import Derived.Test.YtadincbeimfakaaGSecret
import Derived.Test.YtadincbeimfakaaRAdd
import Derived.Test.YtadincbeimfakaaRSecret
import Derived.Test.YtadincbeimfakaaShareM
import Derived.Test.YtadincbeimfakaaPSplit
import Derived.Test.YtadincbeimfakaaRSplitN
namespace Go.Proofs.Ytadincbeimfakaa
open Go.RowKit
attribute [local irreducible] xorL xorAll

theorem Alike.length {n m : Nat} {L : List (Nat × ByteArray)} (h : Alike n m L) : L.length ≤ n := by
  have := hole n (L.map (·.1)) (by rw [List.pairwise_map]; exact h.once) (fun k hk => by
    obtain ⟨x, hx, rfl⟩ := List.mem_map.1 hk
    have := h.each x hx
    omega)
  simpa using this
theorem IsR.turn {w : World} {r n m n' m' : Nat} {v : Value} (h : IsR w r v n m []) (a : 1 ≤ n') (b : n' ≤ 16) (c : 1 ≤ m') (d : m' ≤ 64) : IsR w r v n' m' [] := ⟨h.blk, h.buf, Alike.nil a b c d⟩
theorem ext_keep {w w' : World} {b : Nat} (h : Ext w w') : w.grownBy w' (some b) := ⟨h.os, h.tape, h.output, h.size, fun i hi _ => h.block i hi⟩
/-- A share that comes: both answer one thing, and keep the same shares. -/
def AddBoth (x : ByteArray) (n m : Nat) (L : List (Nat × ByteArray)) (code : Int) (n' m' : Nat) (L' : List (Nat × ByteArray)) : Prop :=
  (∀ (u : World) (g b : Nat), IsG u g b n m L → Calls Try.prog 15 #[.pointer (some ⟨g, 0, none⟩), .string x] u fun e u' => e = .returned (.int .i64 code) ∧ IsG u' g b n' m' L' ∧ u.grownBy u' (some b)) ∧
  (∀ (u : World) (r : Nat) (v : Value), IsR u r v n m L → Calls Try.prog 16 #[.pointer (some ⟨r, 0, none⟩), .string x] u fun e u' => ∃ v', e = .returned (.int .i64 code) ∧ IsR u' r v' n' m' L' ∧ Below r u u')
theorem add_alike (x : ByteArray) (n : Nat) (L : List (Nat × ByteArray)) (i : Nat) (hs : ShareOf x i n) (hA : Alike n (x.size - 2) L) : ∃ (code : Int) (L' : List (Nat × ByteArray)), AddBoth x n (x.size - 2) L code n (x.size - 2) L' := by
  by_cases hin : ∃ t, (i, t) ∈ L
  · obtain ⟨t, ht⟩ := hin
    refine ⟨8, L, fun u g b h => ?_, fun u r v h => ?_⟩
    · exact (add_have u g b n _ L x i h hs rfl t ht).mono fun e w' q => ⟨q.1, h.ext q.2, ext_keep q.2⟩
    · exact (radd_have u r v n _ L x i h hs rfl (by have := hA.length; have := hA.n16; omega) t ht).mono fun e w' q => ⟨v, q.1, h.ext q.2, Below.mono q.2 (Nat.le_of_lt h.blk.lt)⟩
  · have hnin : ∀ y ∈ L, y.1 ≠ i := fun y hy e => hin ⟨y.2, by rw [← e]; exact hy⟩
    refine ⟨0, L ++ [(i, x.extract 2 x.size)], fun u g b h => ?_, fun u r v h => ?_⟩
    · exact (add_ok u g b n _ L x i h hs rfl hnin).mono fun e w' q => q
    · exact (radd_ok u r v n _ L x i h hs rfl (by have := hA.length; have := hA.n16; omega) hnin).mono fun e w' q => q
theorem add_both (x : ByteArray) (n m : Nat) (L : List (Nat × ByteArray)) (hA : Alike n m L) : ∃ (code : Int) (n' m' : Nat) (L' : List (Nat × ByteArray)), AddBoth x n m L code n' m' L' := by
  rcases share_or x with ⟨i, k, hs⟩ | hno
  · by_cases hL : L = []
    · subst hL
      obtain ⟨h3, h66, n1, n16, i1, hin, _⟩ := id hs
      obtain ⟨code, L', h1, h2⟩ := add_alike x k [] i hs (Alike.nil n1 n16 (by omega) (by omega))
      exact ⟨code, k, _, L', fun u g b h => h1 u g b (h.turn n1 n16 (by omega) (by omega)), fun u r v h => h2 u r v (h.turn n1 n16 (by omega) (by omega))⟩
    · by_cases hlike : k = n ∧ x.size - 2 = m
      · obtain ⟨rfl, rfl⟩ := hlike
        obtain ⟨code, L', h⟩ := add_alike x k L i hs hA
        exact ⟨code, _, _, L', h⟩
      · refine ⟨60, n, m, L, fun u g b h => ?_, fun u r v h => ?_⟩
        · exact (add_other u g b n m L x i k h hs hL hlike).mono fun e w' q => ⟨q.1, h.ext q.2, ext_keep q.2⟩
        · exact (radd_other u r v n m L x i k h hs hL hlike).mono fun e w' q => ⟨v, q.1, h.ext q.2, Below.mono q.2 (Nat.le_of_lt h.blk.lt)⟩
  · refine ⟨7, n, m, L, fun u g b h => ?_, fun u r v h => ?_⟩
    · exact (add_form u g b n m L x h hno).mono fun e w' q => ⟨q.1, h.ext q.2, ext_keep q.2⟩
    · exact (radd_form u r x hno).mono fun e w' q => ⟨v, q.1, h.ext q.2, Below.mono q.2 (Nat.le_of_lt h.blk.lt)⟩
/-- The secret, by both; whether it is there. -/
theorem secret_both (n m : Nat) (L : List (Nat × ByteArray)) (hA : Alike n m L) : ∃ (t : ByteArray) (is : Bool), ((t = ⟨#[]⟩ ∧ is = false) ∨ (t ≠ ⟨#[]⟩ ∧ is = true)) ∧
    (∀ (u : World) (g b : Nat), IsG u g b n m L → Calls Try.prog 18 #[.pointer (some ⟨g, 0, none⟩)] u fun e u' => e = .returned (.tuple #[.string t, .bool is]) ∧ Ext u u') ∧
    (∀ (u : World) (r : Nat) (v : Value), IsR u r v n m L → Calls Try.prog 19 #[.pointer (some ⟨r, 0, none⟩)] u fun e u' => e = .returned (.string t) ∧ Ext u u') := by
  by_cases hl : L.length < n
  · exact ⟨⟨#[]⟩, false, .inl ⟨rfl, rfl⟩, fun u g b h => secret_no u g b n m L h hl, fun u r v h => rsecret_no u r v n m L h hl⟩
  · have hln : L.length = n := by have := hA.length; omega
    obtain ⟨S, h1, h2, h3⟩ := whole n L hA.once (fun x hx => ⟨(hA.each x hx).1, (hA.each x hx).2.1⟩) hln
    have hn1 := hA.n1
    cases S with
    | nil => simp at h1; omega
    | cons s0 St =>
      cases L with
      | nil => simp at hln; omega
      | cons y L =>
        have hs0 : s0.size = m := (hA.each _ (h2 0 s0 rfl)).2.2
        have hy : y.2.size = m := (hA.each y (by simp)).2.2
        have e : xorAll s0.data.toList St = xorAll y.2.data.toList (txtsOf L) := xorAll_rows h3 hs0 hy
        have hlen : (xorAll s0.data.toList St).length = m := by
          refine xorAll_length St _ (by rw [size_list, hs0]) (fun b hb => ?_)
          obtain ⟨j, hj⟩ := List.getElem?_of_mem hb
          exact (hA.each _ (h2 (j + 1) b (by simpa using hj))).2.2
        refine ⟨⟨(xorAll s0.data.toList St).toArray⟩, true, .inr ⟨fun q => ?_, rfl⟩, fun u g b h => secret_yes u g b n m _ h hln s0 St (by simpa using h1) h2, fun u r v h => ?_⟩
        · have := congrArg ByteArray.size q
          rw [txt_size, hlen] at this
          have hm := hA.m1
          have e0 : (⟨#[]⟩ : ByteArray).size = 0 := rfl
          omega
        · rw [e]
          exact rsecret_yes u r v n m y L h (by simpa using hln)
/-- The shares of a secret, by both. -/
theorem split_both (secret : ByteArray) (l : List ByteArray) (hs : secret.size ≤ 1024) (hl : l.length ≤ 50) : ∃ (code : Int) (T : List ByteArray), T.length ≤ 1000 ∧
    (∀ (u : World) (p : Option Addr) (c : Nat), TextsP u p l → Calls Try.prog 10 #[.string secret, .slice p l.length c] u fun e u' => ∃ v, e = .returned (.tuple #[v, .int .i64 code]) ∧ BufS u' u.heap.size v T ∧ Ext u u') ∧
    (∀ (u : World) (p : Option Addr) (c : Nat), TextsP u p l → Calls Try.prog 11 #[.string secret, .slice p l.length c] u fun e u' => ∃ v, e = .returned (.tuple #[v, .int .i64 code]) ∧ BufS u' u.heap.size v T ∧ Ext u u') := by
  by_cases ha : secret.size < 1 ∨ 64 < secret.size ∨ 16 ≤ l.length
  · refine ⟨2, [], by simp, fun u p c h => ?_, fun u p c h => ?_⟩
    · exact (split_arg u secret p l.length c ha (by omega) (by omega)).mono fun e w' q => ⟨_, q.1, BufS.nil _ _, by rw [← q.2]; exact Ext.refl u⟩
    · exact (rsplit_arg u secret p l.length c ha (by omega) (by omega)).mono fun e w' q => ⟨_, q.1, BufS.nil _ _, by rw [← q.2]; exact Ext.refl u⟩
  · rcases first_other secret l with hy | ⟨k, t, hk, ht, hlt⟩
    · refine ⟨0, splitT secret l, by simp [splitT, sharesT_length]; omega, fun u p c h => split_yes u secret p c l (by omega) (by omega) (by omega) h hy, fun u p c h => rsplit_yes u secret p c l (by omega) (by omega) (by omega) h hy⟩
    · refine ⟨2, [], by simp, fun u p c h => ?_, fun u p c h => ?_⟩
      · exact (split_no u secret p c l (by omega) (by omega) (by omega) h k t hk ht hlt).mono fun e w' q => ⟨_, q.1, BufS.nil _ _, q.2⟩
      · exact (rsplit_no u secret p c l (by omega) (by omega) (by omega) h k t hk ht hlt).mono fun e w' q => ⟨_, q.1, BufS.nil _ _, q.2⟩
/-- What a share's bytes say, by both. -/
theorem read_both (x : ByteArray) : ∃ (i n : Int) (s : ByteArray) (code : Int),
    (∀ u : World, Calls Try.prog 12 #[.string x] u fun e u' => e = .returned (.tuple #[.int .i64 i, .int .i64 n, .string s, .int .i64 code]) ∧ Ext u u') ∧
    (∀ u : World, Calls Try.prog 13 #[.string x] u fun e u' => e = .returned (.tuple #[.agg #[.int .i64 i, .int .i64 n, .string s], .int .i64 code]) ∧ Ext u u') := by
  rcases share_or x with ⟨i, n, hs⟩ | hno
  · exact ⟨i, n, x.extract 2 x.size, 0, fun u => read_yes x i n hs u, fun u => rread_yes x i n hs u⟩
  · exact ⟨0, 0, ⟨#[]⟩, 7, fun u => read_no x hno u, fun u => rread_no x hno u⟩
end Go.Proofs.Ytadincbeimfakaa
