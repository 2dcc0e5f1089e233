/- Plain: bytes gone over; sums, gone on, joined; bits, one by one. No function of the program is named here. -/
import Derived.Test.YthnoegipadnmeaaCrcL
namespace Go.Proofs.Ythnoegipadnmeaa

theorem xor4 (a b c d : BitVec 32) : (a ^^^ b) ^^^ (c ^^^ d) = (a ^^^ c) ^^^ (b ^^^ d) := by
  rw [BitVec.xor_assoc, BitVec.xor_assoc, ← BitVec.xor_assoc b, BitVec.xor_comm b c, BitVec.xor_assoc c]
/-- A byte as a row of bits. -/
def bt (x : UInt8) : BitVec 32 := BitVec.ofNat 32 x.toNat
theorem bt_zero : bt 0 = 0#32 := rfl
theorem bt_bit (x : UInt8) (i : Nat) (hi : i < 32) : (bt x).getLsbD i = x.toNat.testBit i := by
  unfold bt
  rw [BitVec.getLsbD_ofNat]
  simp [hi]
theorem bt_xor (x y : UInt8) : bt (x ^^^ y) = bt x ^^^ bt y := by
  apply BitVec.eq_of_getLsbD_eq
  intro i hi
  rw [BitVec.getLsbD_xor, bt_bit _ _ hi, bt_bit _ _ hi, bt_bit _ _ hi, UInt8.toNat_xor, Nat.testBit_xor]
/-- A byte gone over. -/
def fed (c : BitVec 32) (x : UInt8) : BitVec 32 := hfN 8 (c ^^^ bt x)
theorem fed_xor (c d : BitVec 32) (x y : UInt8) : fed (c ^^^ d) (x ^^^ y) = fed c x ^^^ fed d y := by
  unfold fed
  rw [bt_xor, xor4, hfN_xor]
theorem fed_more (c d : BitVec 32) (x : UInt8) : fed (c ^^^ d) x = fed c x ^^^ hfN 8 d := by
  have h := fed_xor c d x 0
  rw [UInt8.xor_zero] at h
  rw [h]
  unfold fed
  rw [bt_zero, BitVec.xor_zero]
/-- Bytes gone over. -/
def rowC (c : BitVec 32) (l : List UInt8) : BitVec 32 := l.foldl fed c
theorem rowC_append (c : BitVec 32) (l r : List UInt8) : rowC c (l ++ r) = rowC (rowC c l) r := by unfold rowC; rw [List.foldl_append]
theorem rowC_snoc (c : BitVec 32) (l : List UInt8) (x : UInt8) : rowC c (l ++ [x]) = fed (rowC c l) x := by rw [rowC_append]; rfl
theorem rowC_step (c : BitVec 32) (l : List UInt8) (j : Nat) (x : UInt8) (h : l[j]? = some x) : rowC c (l.take (j + 1)) = fed (rowC c (l.take j)) x := by
  rw [List.take_add_one, h]
  exact rowC_snoc _ _ _
theorem rowC_more (l : List UInt8) : ∀ c d, rowC (c ^^^ d) l = rowC c l ^^^ hfN (8 * l.length) d := by
  induction l with
  | nil => exact fun c d => rfl
  | cons x r ih =>
    intro c d
    show rowC (fed (c ^^^ d) x) r = rowC (fed c x) r ^^^ _
    rw [fed_more, ih, List.length_cons, Nat.mul_succ, Nat.add_comm, hfN_add]
theorem rowC_zeros : ∀ (n : Nat) (c : BitVec 32), rowC c (List.replicate n 0) = hfN (8 * n) c
  | 0, _ => rfl
  | n + 1, c => by
    rw [List.replicate_succ]
    show rowC (fed c 0) _ = _
    rw [rowC_zeros n, Nat.mul_succ, Nat.add_comm, hfN_add]
    unfold fed
    rw [bt_zero, BitVec.xor_zero]
theorem rowC_xor : ∀ (l r : List UInt8) (c d : BitVec 32), l.length = r.length → rowC (c ^^^ d) (List.zipWith (· ^^^ ·) l r) = rowC c l ^^^ rowC d r
  | [], [], _, _, _ => rfl
  | [], _ :: _, _, _, h => by simp at h
  | _ :: _, [], _, _, h => by simp at h
  | x :: l, y :: r, c, d, h => by
    show rowC (fed (c ^^^ d) (x ^^^ y)) _ = rowC (fed c x) l ^^^ rowC (fed d y) r
    rw [fed_xor, rowC_xor l r _ _ (by simpa using h)]
/-- All bits turned about. -/
def ones : BitVec 32 := 0xFFFFFFFF#32
theorem ones_twice (c : BitVec 32) : c ^^^ ones ^^^ ones = c := by rw [BitVec.xor_assoc, BitVec.xor_self, BitVec.xor_zero]
/-- A sum gone on. -/
def moreC (c : BitVec 32) (l : List UInt8) : BitVec 32 := rowC (c ^^^ ones) l ^^^ ones
theorem moreC_nil (c : BitVec 32) : moreC c [] = c := ones_twice c
theorem moreC_append (c : BitVec 32) (l r : List UInt8) : moreC (moreC c l) r = moreC c (l ++ r) := by
  unfold moreC
  rw [ones_twice, rowC_append]
/-- Sums joined. -/
def joinC (a b : BitVec 32) (n : Nat) : BitVec 32 := hfN (8 * n) a ^^^ b
theorem moreC_more (a b : BitVec 32) (l : List UInt8) : moreC (a ^^^ b) l = moreC a l ^^^ hfN (8 * l.length) b := by
  unfold moreC
  rw [BitVec.xor_assoc a b ones, BitVec.xor_comm b ones, ← BitVec.xor_assoc a ones b, rowC_more, BitVec.xor_assoc, BitVec.xor_comm (hfN _ _) ones, ← BitVec.xor_assoc]
theorem join_sum (s t : List UInt8) : joinC (moreC 0#32 s) (moreC 0#32 t) t.length = moreC 0#32 (s ++ t) := by
  have h := moreC_more 0#32 (moreC 0#32 s) t
  rw [BitVec.zero_xor] at h
  rw [← moreC_append, h]
  unfold joinC
  exact BitVec.xor_comm _ _
theorem join_slow (a b : BitVec 32) (n : Nat) : moreC a (List.replicate n 0) ^^^ b ^^^ moreC 0#32 (List.replicate n 0) = joinC a b n := by
  have h := moreC_more 0#32 a (List.replicate n 0)
  rw [BitVec.zero_xor, List.length_replicate] at h
  rw [h]
  unfold joinC
  rw [BitVec.xor_assoc, BitVec.xor_comm b, ← BitVec.xor_assoc, BitVec.xor_comm (moreC _ _), BitVec.xor_assoc (hfN _ _), BitVec.xor_self, BitVec.xor_zero]
theorem join_group (x y z : BitVec 32) (n m : Nat) : joinC (joinC x y n) z m = joinC x (joinC y z m) (n + m) := by
  unfold joinC
  rw [hfN_xor, Nat.mul_add, hfN_add, BitVec.xor_assoc]
theorem join_parts (x y : BitVec 32) (n : Nat) : joinC x y n ^^^ joinC 0#32 y n = joinC x 0#32 n := by
  unfold joinC
  rw [hfN_zero, BitVec.zero_xor, BitVec.xor_assoc, BitVec.xor_self]
/-- Three texts of one length. -/
theorem parts3 (s t u : List UInt8) (h1 : s.length = t.length) (h2 : t.length = u.length) :
    moreC 0#32 (List.zipWith (· ^^^ ·) (List.zipWith (· ^^^ ·) s t) u) = moreC 0#32 s ^^^ moreC 0#32 t ^^^ moreC 0#32 u := by
  unfold moreC
  have e : (0#32 ^^^ ones) = ((0#32 ^^^ ones) ^^^ (0#32 ^^^ ones)) ^^^ (0#32 ^^^ ones) := by decide
  have hr : rowC (0#32 ^^^ ones) (List.zipWith (· ^^^ ·) (List.zipWith (· ^^^ ·) s t) u) = rowC (0#32 ^^^ ones) s ^^^ rowC (0#32 ^^^ ones) t ^^^ rowC (0#32 ^^^ ones) u := by
    have q := rowC_xor (List.zipWith (· ^^^ ·) s t) u ((0#32 ^^^ ones) ^^^ (0#32 ^^^ ones)) (0#32 ^^^ ones) (by rw [List.length_zipWith]; omega)
    rw [← e, rowC_xor s t _ _ h1] at q
    exact q
  rw [hr]
  generalize rowC (0#32 ^^^ ones) s = a
  generalize rowC (0#32 ^^^ ones) t = b
  generalize rowC (0#32 ^^^ ones) u = c
  rw [xor4 a ones b ones, BitVec.xor_self, BitVec.xor_zero, BitVec.xor_assoc (a ^^^ b)]

/-! ### Bit by bit -/
/-- Bits, one by one. -/
def feed (c : BitVec 32) (t : Nat → Bool) : Nat → BitVec 32
  | 0 => c
  | n + 1 => hf (feed c t n ^^^ ifB (t n) 1#32)
theorem feed_congr (c : BitVec 32) {t u : Nat → Bool} : ∀ n, (∀ i, i < n → t i = u i) → feed c t n = feed c u n
  | 0, _ => rfl
  | n + 1, h => by rw [feed, feed, feed_congr c n (fun i hi => h i (by omega)), h n (by omega)]
theorem feed_add (c : BitVec 32) (t : Nat → Bool) (n : Nat) : ∀ m, feed c t (n + m) = feed (feed c t n) (fun i => t (n + i)) m
  | 0 => rfl
  | m + 1 => by rw [← Nat.add_assoc, feed, feed_add c t n m, feed]
theorem feed_xor (c d : BitVec 32) (t u : Nat → Bool) : ∀ n, feed (c ^^^ d) (fun i => t i ^^ u i) n = feed c t n ^^^ feed d u n
  | 0 => rfl
  | n + 1 => by
    rw [feed, feed, feed, feed_xor c d t u n, ifB_sum, xor4, hf_xor]
theorem feed_none (c : BitVec 32) : ∀ n, feed c (fun _ => false) n = hfN n c
  | 0 => rfl
  | n + 1 => by
    rw [feed, feed_none c n, hfN_succ]
    simp [ifB]
/-- As many bits as fit, at once. -/
theorem feed_word (c : BitVec 32) (t : Nat → Bool) : ∀ n, n ≤ 32 → feed c t n = hfN n (c ^^^ xsum (fun i => ifB (t i) (1#32 <<< i)) n)
  | 0, _ => by simp [feed, hfN, xsum]
  | n + 1, h => by
    rw [feed, feed_word c t n (by omega), xsum, ← BitVec.xor_assoc, hfN_succ, hfN_xor n (c ^^^ _), ifB_hfN, hfN_bit n (by omega) n (Nat.le_refl _), Nat.sub_self]
    rfl
/-- The bits of bytes. -/
def bitL (l : List UInt8) (j : Nat) : Bool := (l.getD (j / 8) 0).toNat.testBit (j % 8)
theorem fed_feed (c : BitVec 32) (x : UInt8) : fed c x = feed c (fun i => x.toNat.testBit i) 8 := by
  rw [feed_word c _ 8 (by decide)]
  unfold fed
  congr 2
  have h := bits_low (bt x) 8 (by decide)
  apply BitVec.eq_of_getLsbD_eq
  intro i hi
  have e : xsum (fun i => ifB (x.toNat.testBit i) (1#32 <<< i)) 8 = xsum (fun i => ifB ((bt x).getLsbD i) (1#32 <<< i)) 8 := xsum_congr 8 (fun i hi => by rw [bt_bit x i (by omega)])
  rw [e, h i, bt_bit x i hi]
  by_cases h8 : i < 8
  · simp [h8]
  · have hx := x.toNat_lt
    have : x.toNat.testBit i = false := Nat.testBit_lt_two_pow (Nat.lt_of_lt_of_le hx (show 2 ^ 8 ≤ 2 ^ i from Nat.pow_le_pow_right (by decide) (by omega)))
    simp [this]
theorem bitL_low (x : UInt8) (l : List UInt8) (i : Nat) (hi : i < 8) : bitL (x :: l) i = x.toNat.testBit i := by
  unfold bitL
  rw [Nat.div_eq_of_lt hi, Nat.mod_eq_of_lt hi]
  rfl
theorem bitL_high (x : UInt8) (l : List UInt8) (i : Nat) : bitL (x :: l) (8 + i) = bitL l i := by
  unfold bitL
  rw [show (8 + i) / 8 = i / 8 + 1 by omega, show (8 + i) % 8 = i % 8 by omega]
  rfl
theorem rowC_feed (l : List UInt8) : ∀ c, rowC c l = feed c (bitL l) (8 * l.length) := by
  induction l with
  | nil => exact fun c => rfl
  | cons x r ih =>
    intro c
    show rowC (fed c x) r = _
    rw [List.length_cons, Nat.mul_succ, Nat.add_comm, feed_add, ih, fed_feed]
    have e1 : feed c (bitL (x :: r)) 8 = feed c (fun i => x.toNat.testBit i) 8 := feed_congr c 8 (fun i hi => bitL_low x r i hi)
    rw [e1]
    exact (feed_congr _ _ (fun i _ => bitL_high x r i)).symm
/-- 32 bits in a row, from k on. -/
def win (T : BitVec 32) (k : Nat) (j : Nat) : Bool := decide (k ≤ j ∧ j < k + 32) && T.getLsbD (j - k)
theorem feed_win (T : BitVec 32) (k m : Nat) : feed 0#32 (win T k) (k + 32 + m) = hfN m (hfN 32 T) := by
  rw [feed_add, feed_add]
  have e0 : feed 0#32 (win T k) k = 0#32 := by
    rw [feed_congr 0#32 (u := fun _ => false) k (fun i hi => by
      unfold win
      have : ¬ (k ≤ i ∧ i < k + 32) := by omega
      simp [this]), feed_none, hfN_zero]
  have e1 : feed 0#32 (fun i => win T k (k + i)) 32 = hfN 32 T := by
    rw [feed_word _ _ 32 (Nat.le_refl _), BitVec.zero_xor]
    have e : xsum (fun i => ifB (win T k (k + i)) (1#32 <<< i)) 32 = xsum (fun i => ifB (T.getLsbD i) (1#32 <<< i)) 32 := xsum_congr 32 (fun i hi => by
      have h1 : (k ≤ k + i ∧ k + i < k + 32) := by omega
      have h2 : k + i - k = i := by omega
      unfold win
      rw [h2]
      simp [h1, hi])
    rw [e, bits_all]
  rw [e0, e1, feed_congr _ (u := fun _ => false) m (fun i _ => by
    unfold win
    have : ¬ (k ≤ k + 32 + i ∧ k + 32 + i < k + 32) := by omega
    simp [this]), feed_none]
/-- Texts that differ in bits within 32 in a row. -/
theorem apart (c T : BitVec 32) (k : Nat) (l r : List UInt8) (hl : l.length = r.length) (hk : k + 32 ≤ 8 * l.length) (h : ∀ j, j < 8 * l.length → bitL r j = (bitL l j ^^ win T k j)) : moreC c r = moreC c l ↔ T = 0#32 := by
  obtain ⟨m, hm⟩ : ∃ m, 8 * l.length = k + 32 + m := ⟨8 * l.length - (k + 32), by omega⟩
  have e : rowC (c ^^^ ones) r = rowC (c ^^^ ones) l ^^^ hfN m (hfN 32 T) := by
    rw [rowC_feed, rowC_feed, ← hl, feed_congr _ (u := fun j => bitL l j ^^ win T k j) _ h]
    have q := feed_xor (c ^^^ ones) 0#32 (bitL l) (win T k) (8 * l.length)
    rw [BitVec.xor_zero] at q
    rw [q, hm, feed_win]
  unfold moreC
  constructor
  · intro he
    have h1 : rowC (c ^^^ ones) r = rowC (c ^^^ ones) l := by
      have := congrArg (· ^^^ ones) he
      simpa [BitVec.xor_assoc, BitVec.xor_self] using this
    rw [e] at h1
    have h2 : hfN m (hfN 32 T) = 0#32 := by
      have := congrArg (rowC (c ^^^ ones) l ^^^ ·) h1
      simpa [← BitVec.xor_assoc, BitVec.xor_self] using this
    have h3 : hfN m (hfN 32 T) = hfN m (hfN 32 0#32) := by rw [h2, hfN_zero, hfN_zero]
    exact hfN_inj 32 (hfN_inj m h3)
  · intro hT
    rw [e, hT, hfN_zero, hfN_zero, BitVec.xor_zero]
/-- A bit of a byte turned about. -/
theorem bitL_set (l : List UInt8) (p q : Nat) (x : UInt8) (hp : l[p]? = some x) (hq : q < 8) (y : UInt8) (hy : y.toNat = x.toNat ^^^ 2 ^ q) (j : Nat) : bitL (l.set p y) j = (bitL l j ^^ decide (j = 8 * p + q)) := by
  have hpl : p < l.length := (List.getElem?_eq_some_iff.1 hp).1
  unfold bitL
  by_cases e : j / 8 = p
  · have e1 : (l.set p y).getD (j / 8) 0 = y := by rw [e, List.getD_eq_getElem?_getD, List.getElem?_set_self hpl]; rfl
    have e2 : l.getD (j / 8) 0 = x := by rw [e, List.getD_eq_getElem?_getD, hp]; rfl
    rw [e1, e2, hy, Nat.testBit_xor, Nat.testBit_two_pow]
    congr 1
    have : (q = j % 8) ↔ (j = 8 * p + q) := by omega
    simp [this]
  · have e1 : (l.set p y).getD (j / 8) 0 = l.getD (j / 8) 0 := by rw [List.getD_eq_getElem?_getD, List.getD_eq_getElem?_getD, List.getElem?_set_ne (Ne.symm e)]
    rw [e1]
    have : ¬ j = 8 * p + q := by omega
    simp [this]
end Go.Proofs.Ythnoegipadnmeaa
