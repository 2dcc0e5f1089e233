/- What a stream is: blocks of counted numbers; texts, either or these. -/
import Derived.Test.YthglecfbcdikaaaAesL
import Derived.Test.YthglecfbcdikaaaBytes
import Derived.Test.YthglecfbcdikaaaXor
namespace Go.Proofs.Ythglecfbcdikaaa
open Go.RowKit
attribute [local irreducible] rkey expand enc dec

/-- Pieces, one behind the other. -/
def cat (F : Nat → List UInt8) : Nat → List UInt8
  | 0 => []
  | k + 1 => cat F k ++ F k
theorem cat_succ (F : Nat → List UInt8) (k : Nat) : cat F (k + 1) = cat F k ++ F k := rfl
theorem cat_length {F : Nat → List UInt8} (h : ∀ i, (F i).length = 16) : ∀ k, (cat F k).length = 16 * k
  | 0 => rfl
  | k + 1 => by rw [cat_succ, List.length_append, cat_length h k, h]; omega
theorem cat_add (F : Nat → List UInt8) (k : Nat) : ∀ m, cat F (k + m) = cat F k ++ cat (fun i => F (k + i)) m
  | 0 => by simp [cat]
  | m + 1 => by rw [← Nat.add_assoc, cat_succ, cat_add F k m, cat_succ, List.append_assoc]
theorem cat_same {F G : Nat → List UInt8} : ∀ k, (∀ i, i < k → F i = G i) → cat F k = cat G k
  | 0, _ => rfl
  | k + 1, h => by rw [cat_succ, cat_succ, cat_same k (fun i hi => h i (by omega)), h k (by omega)]
theorem cat_take {F : Nat → List UInt8} (h : ∀ i, (F i).length = 16) (n k m : Nat) (h1 : n ≤ 16 * k) (h2 : k ≤ m) : (cat F m).take n = (cat F k).take n := by
  obtain ⟨d, rfl⟩ : ∃ d, m = k + d := ⟨m - k, by omega⟩
  rw [cat_add, List.take_append, cat_length h, show n - 16 * k = 0 by omega, List.take_zero, List.append_nil]
/-- The block of a number. -/
def ctrB (key nonce : List UInt8) (i : Nat) : List UInt8 := enc (rkey key) (nonce ++ be 4 i)
theorem ctrB_length {key : List UInt8} (h : key.length = 16) (nonce : List UInt8) (i : Nat) : (ctrB key nonce i).length = 16 := enc_length (fun n hn => rkey_length h n hn) _
/-- The blocks from one number on. -/
def ctrC (key nonce : List UInt8) (f k : Nat) : List UInt8 := cat (fun i => ctrB key nonce (f + i)) k
theorem ctrC_length {key : List UInt8} (h : key.length = 16) (nonce : List UInt8) (f k : Nat) : (ctrC key nonce f k).length = 16 * k := cat_length (fun _ => ctrB_length h nonce _) k
theorem ctrC_zero (key nonce : List UInt8) (f : Nat) : ctrC key nonce f 0 = [] := rfl
theorem ctrC_succ (key nonce : List UInt8) (f k : Nat) : ctrC key nonce f (k + 1) = ctrC key nonce f k ++ ctrB key nonce (f + k) := rfl
/-- How many blocks have n bytes. -/
def blocksOf (n : Nat) : Nat := (n + 15) / 16
theorem blocksOf_le (n : Nat) : n ≤ 16 * blocksOf n := by unfold blocksOf; omega
/-- The first n bytes of a stream. -/
def ctrL (key nonce : List UInt8) (f n : Nat) : List UInt8 := (ctrC key nonce f (blocksOf n)).take n
theorem ctrL_length {key : List UInt8} (h : key.length = 16) (nonce : List UInt8) (f n : Nat) : (ctrL key nonce f n).length = n := by
  unfold ctrL
  rw [List.length_take, ctrC_length h]
  have := blocksOf_le n
  omega
theorem ctrL_of {key : List UInt8} (h : key.length = 16) (nonce : List UInt8) (f n k : Nat) (hk : n ≤ 16 * k) : (ctrC key nonce f k).take n = ctrL key nonce f n := by
  unfold ctrL ctrC
  exact cat_take (fun _ => ctrB_length h nonce _) n (blocksOf n) k (blocksOf_le n) (by unfold blocksOf; omega)
theorem ctrL_split {key : List UInt8} (h : key.length = 16) (nonce : List UInt8) (f k m : Nat) : ctrL key nonce f (16 * k + m) = ctrL key nonce f (16 * k) ++ ctrL key nonce (f + k) m := by
  have e1 : ctrL key nonce f (16 * k) = ctrC key nonce f k := by
    rw [← ctrL_of h nonce f (16 * k) k (Nat.le_refl _), List.take_of_length_le (by rw [ctrC_length h]; exact Nat.le_refl _)]
  have e2 : ctrC key nonce f (k + blocksOf m) = ctrC key nonce f k ++ ctrC key nonce (f + k) (blocksOf m) := by
    unfold ctrC
    rw [cat_add]
    congr 1
    exact cat_same _ (fun i _ => by rw [Nat.add_assoc])
  rw [← ctrL_of h nonce f (16 * k + m) (k + blocksOf m) (by have := blocksOf_le m; omega), e2, e1, List.take_append, ctrC_length h, show 16 * k + m - 16 * k = m by omega, List.take_of_length_le (by rw [ctrC_length h]; omega)]
  rfl

theorem xorL_len (a b : List UInt8) (h : b.length = a.length) : (xorL a b).length = a.length := by unfold xorL; rw [List.length_zipWith, h]; omega
theorem xorL_twice : ∀ (a b : List UInt8), b.length = a.length → xorL (xorL a b) b = a
  | [], b, _ => by unfold xorL; simp
  | x :: a, [], h => by simp at h
  | x :: a, y :: b, h => by
    have := xorL_twice a b (by simpa using h)
    unfold xorL at this ⊢
    rw [List.zipWith_cons_cons, List.zipWith_cons_cons, this, UInt8.xor_assoc, UInt8.xor_self, UInt8.xor_zero]
theorem xorL_append (a b c d : List UInt8) (h : a.length = c.length) : xorL (a ++ b) (c ++ d) = xorL a c ++ xorL b d := by unfold xorL; exact List.zipWith_append h
theorem xorL_comm : ∀ (a b c : List UInt8), xorL (xorL a b) c = xorL (xorL a c) b
  | [], b, c => by unfold xorL; simp
  | x :: a, [], c => by cases c <;> simp [xorL]
  | x :: a, y :: b, [] => by simp [xorL]
  | x :: a, y :: b, z :: c => by
    have := xorL_comm a b c
    unfold xorL at this ⊢
    rw [List.zipWith_cons_cons, List.zipWith_cons_cons, List.zipWith_cons_cons, List.zipWith_cons_cons, this, UInt8.xor_assoc, UInt8.xor_comm y z, ← UInt8.xor_assoc]
theorem xorL_zero : ∀ (b : List UInt8), xorL (List.replicate b.length 0) b = b
  | [] => rfl
  | y :: b => by
    have := xorL_zero b
    unfold xorL at this ⊢
    rw [List.length_cons, List.replicate_succ, List.zipWith_cons_cons, this, UInt8.zero_xor]
/-- A text, either or a stream. -/
def turnL (key nonce : List UInt8) (f : Nat) (s : List UInt8) : List UInt8 := xorL s (ctrL key nonce f s.length)
section
variable {key : List UInt8} (h : key.length = 16) (nonce : List UInt8) (f : Nat) (s : List UInt8)
include h
theorem turnL_length : (turnL key nonce f s).length = s.length := xorL_len _ _ (ctrL_length h nonce f _)
theorem turnL_twice : turnL key nonce f (turnL key nonce f s) = s := by
  have e := turnL_length h nonce f s
  unfold turnL at e ⊢
  rw [e]
  exact xorL_twice _ _ (ctrL_length h nonce f _)
theorem turnL_zero (n : Nat) : turnL key nonce f (List.replicate n 0) = ctrL key nonce f n := by
  unfold turnL
  rw [List.length_replicate]
  conv => lhs; lhs; lhs; rw [← ctrL_length h nonce f n]
  exact xorL_zero _
theorem turnL_cut (k : Nat) (hk : 16 * k ≤ s.length) : turnL key nonce f (s.take (16 * k)) ++ turnL key nonce (f + k) (s.drop (16 * k)) = turnL key nonce f s := by
  unfold turnL
  rw [List.length_take, Nat.min_eq_left hk, List.length_drop]
  have e := ctrL_split h nonce f k (s.length - 16 * k)
  rw [show 16 * k + (s.length - 16 * k) = s.length by omega] at e
  rw [e, ← xorL_append _ _ _ _ (by rw [List.length_take, ctrL_length h]; omega), List.take_append_drop]
theorem turnL_two {l : List UInt8} (hl : l.length = 16) (q : List UInt8) (g : Nat) : turnL l q g (turnL key nonce f s) = turnL key nonce f (turnL l q g s) := by
  have e1 := turnL_length h nonce f s
  have e2 := turnL_length hl q g s
  unfold turnL at e1 e2 ⊢
  rw [e1, e2]
  exact xorL_comm _ _ _
end
/-- What may not be. -/
def badArg (key nonce : ByteArray) (n : Int) : Prop := ¬ key.size = 16 ∨ ¬ nonce.size = 12 ∨ n < 0
/-- What is too long. -/
def tooLong (f : Nat) (n : Int) : Prop := 1048576 < n ∨ 4294967296 < (f : Int) + (n + 15) / 16
end Go.Proofs.Ythglecfbcdikaaa
