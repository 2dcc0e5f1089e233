/- Plain: bytes in which bits within 32 in a row are turned about. -/
import Derived.Test.YthoajlajcmcabaaCrcR
import Derived.WalkSpells
import Derived.Laws.BitsAllLaws
namespace Go.Proofs.Ythoajlajcmcabaa
open Go.RowKit

/-- The first i of the bits from k on. -/
def winN (T : BitVec 32) (k i j : Nat) : Bool := decide (k ≤ j ∧ j < k + i) && T.getLsbD (j - k)
theorem winN_no (T : BitVec 32) (k i j : Nat) (h : T.getLsbD i = false) : winN T k (i + 1) j = winN T k i j := by
  unfold winN
  by_cases e : j = k + i
  · subst e
    have h1 : (k ≤ k + i ∧ k + i < k + (i + 1)) := by omega
    have h2 : ¬ (k ≤ k + i ∧ k + i < k + i) := by omega
    simp [h]
  · have : (k ≤ j ∧ j < k + (i + 1)) ↔ (k ≤ j ∧ j < k + i) := by omega
    simp only [this]
theorem winN_yes (T : BitVec 32) (k i j : Nat) (h : T.getLsbD i = true) : winN T k (i + 1) j = (winN T k i j ^^ decide (j = k + i)) := by
  unfold winN
  by_cases e : j = k + i
  · subst e
    have h3 : k + i - k = i := by omega
    rw [h3, h]
    simp
  · have : (k ≤ j ∧ j < k + (i + 1)) ↔ (k ≤ j ∧ j < k + i) := by omega
    simp only [this]
    simp [e]
/-- Bytes in which the first i of the bits from k on are turned about. -/
def Turned (l : List UInt8) (T : BitVec 32) (k i : Nat) (r : List UInt8) : Prop := r.length = l.length ∧ ∀ j, j < 8 * l.length → bitL r j = (bitL l j ^^ winN T k i j)
theorem Turned.zero (l : List UInt8) (T : BitVec 32) (k : Nat) : Turned l T k 0 l := ⟨rfl, fun j _ => by
  unfold winN
  have h : decide (k ≤ j ∧ j < k + 0) = false := by simp
  rw [h, Bool.false_and, Bool.xor_false]⟩
theorem Turned.no {l : List UInt8} {T : BitVec 32} {k i : Nat} {r : List UInt8} (h : Turned l T k i r) (hb : T.getLsbD i = false) : Turned l T k (i + 1) r := ⟨h.1, fun j hj => by rw [winN_no T k i j hb]; exact h.2 j hj⟩
theorem Turned.yes {l : List UInt8} {T : BitVec 32} {k i : Nat} {r : List UInt8} (h : Turned l T k i r) (hb : T.getLsbD i = true) (p q : Nat) (hq : q < 8) (hpq : 8 * p + q = k + i) (x y : UInt8) (hx : r[p]? = some x) (hy : y.toNat = x.toNat ^^^ 2 ^ q) : Turned l T k (i + 1) (r.set p y) := by
  refine ⟨by rw [List.length_set]; exact h.1, fun j hj => ?_⟩
  rw [bitL_set r p q x hx hq y hy j, h.2 j hj, winN_yes T k i j hb, hpq, Bool.xor_assoc]
theorem pow8 (q : Nat) (h : q < 8) : 2 ^ q < 256 := Nat.lt_of_lt_of_le (Nat.pow_lt_pow_right (by decide) h) (by decide)
theorem turned_byte (x : UInt8) (q : Nat) (h : q < 8) : ∃ y : UInt8, y.toNat = x.toNat ^^^ 2 ^ q ∧ bits BinOp.xor IntKind.u8 (x.toNat : Int) ((2 : Int) ^ q % 256) = (y.toNat : Int) := by
  have h1 := pow8 q h
  have h2 : x.toNat ^^^ 2 ^ q < 256 := Nat.xor_lt_two_pow (n := 8) x.toNat_lt h1
  refine ⟨UInt8.ofNat (x.toNat ^^^ 2 ^ q), by rw [UInt8.toNat_ofNat']; omega, ?_⟩
  have e : (2 : Int) ^ q % 256 = ((2 ^ q : Nat) : Int) := by
    have e2 : (2 : Int) ^ q = ((2 ^ q : Nat) : Int) := by simp
    rw [e2]
    exact Int.emod_eq_of_lt (Int.natCast_nonneg _) (Int.ofNat_lt.2 h1)
  rw [e, u8_xor_nat _ _ x.toNat_lt h1, UInt8.toNat_ofNat']
  omega
end Go.Proofs.Ythoajlajcmcabaa
