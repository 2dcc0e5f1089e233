/- Plain: bytes gone over; sums, gone on, joined; bits, one by one. No function of the program is named here. Plain: records in frames: which bytes a frame is, and what is read of bytes. No function of the program is named here. -/
import Derived.Test.YtbekdcpdfmfopaaGreatM02
section
namespace Go.Proofs.YtbekdcpdfmfopaaGreat

theorem xor4 (a b c d : BitVec 32) : (a ^^^ b) ^^^ (c ^^^ d) = (a ^^^ c) ^^^ (b ^^^ d) := by
  rw [BitVec.xor_assoc, BitVec.xor_assoc, ← BitVec.xor_assoc b, BitVec.xor_comm b c, BitVec.xor_assoc c]
/-- A byte as a row of bits. -/
def bt (x : UInt8) : BitVec 32 := BitVec.ofNat 32 x.toNat
theorem bt_zero : bt 0 = 0#32 := rfl
theorem bt_bit (x : UInt8) (i : Nat) (hi : i < 32) : (bt x).getLsbD i = x.toNat.testBit i := by
  unfold bt
  rw [BitVec.getLsbD_ofNat]
  simp [hi]
theorem bt_xor (x y : UInt8) : bt (x ^^^ y) = bt x ^^^ bt y := by
  apply BitVec.eq_of_getLsbD_eq
  intro i hi
  rw [BitVec.getLsbD_xor, bt_bit _ _ hi, bt_bit _ _ hi, bt_bit _ _ hi, UInt8.toNat_xor, Nat.testBit_xor]
/-- A byte gone over. -/
def fed (c : BitVec 32) (x : UInt8) : BitVec 32 := hfN 8 (c ^^^ bt x)
theorem fed_xor (c d : BitVec 32) (x y : UInt8) : fed (c ^^^ d) (x ^^^ y) = fed c x ^^^ fed d y := by
  unfold fed
  rw [bt_xor, xor4, hfN_xor]
theorem fed_more (c d : BitVec 32) (x : UInt8) : fed (c ^^^ d) x = fed c x ^^^ hfN 8 d := by
  have h := fed_xor c d x 0
  rw [UInt8.xor_zero] at h
  rw [h]
  unfold fed
  rw [bt_zero, BitVec.xor_zero]
/-- Bytes gone over. -/
def rowC (c : BitVec 32) (l : List UInt8) : BitVec 32 := l.foldl fed c
theorem rowC_append (c : BitVec 32) (l r : List UInt8) : rowC c (l ++ r) = rowC (rowC c l) r := by unfold rowC; rw [List.foldl_append]
theorem rowC_snoc (c : BitVec 32) (l : List UInt8) (x : UInt8) : rowC c (l ++ [x]) = fed (rowC c l) x := by rw [rowC_append]; rfl
theorem rowC_step (c : BitVec 32) (l : List UInt8) (j : Nat) (x : UInt8) (h : l[j]? = some x) : rowC c (l.take (j + 1)) = fed (rowC c (l.take j)) x := by
  rw [List.take_add_one, h]
  exact rowC_snoc _ _ _
theorem rowC_more (l : List UInt8) : ∀ c d, rowC (c ^^^ d) l = rowC c l ^^^ hfN (8 * l.length) d := by
  induction l with
  | nil => exact fun c d => rfl
  | cons x r ih =>
    intro c d
    show rowC (fed (c ^^^ d) x) r = rowC (fed c x) r ^^^ _
    rw [fed_more, ih, List.length_cons, Nat.mul_succ, Nat.add_comm, hfN_add]
theorem rowC_zeros : ∀ (n : Nat) (c : BitVec 32), rowC c (List.replicate n 0) = hfN (8 * n) c
  | 0, _ => rfl
  | n + 1, c => by
    rw [List.replicate_succ]
    show rowC (fed c 0) _ = _
    rw [rowC_zeros n, Nat.mul_succ, Nat.add_comm, hfN_add]
    unfold fed
    rw [bt_zero, BitVec.xor_zero]
theorem rowC_xor : ∀ (l r : List UInt8) (c d : BitVec 32), l.length = r.length → rowC (c ^^^ d) (List.zipWith (· ^^^ ·) l r) = rowC c l ^^^ rowC d r
  | [], [], _, _, _ => rfl
  | [], _ :: _, _, _, h => by simp at h
  | _ :: _, [], _, _, h => by simp at h
  | x :: l, y :: r, c, d, h => by
    show rowC (fed (c ^^^ d) (x ^^^ y)) _ = rowC (fed c x) l ^^^ rowC (fed d y) r
    rw [fed_xor, rowC_xor l r _ _ (by simpa using h)]
/-- All bits turned about. -/
def ones : BitVec 32 := 0xFFFFFFFF#32
theorem ones_twice (c : BitVec 32) : c ^^^ ones ^^^ ones = c := by rw [BitVec.xor_assoc, BitVec.xor_self, BitVec.xor_zero]
/-- A sum gone on. -/
def moreC (c : BitVec 32) (l : List UInt8) : BitVec 32 := rowC (c ^^^ ones) l ^^^ ones
theorem moreC_nil (c : BitVec 32) : moreC c [] = c := ones_twice c
theorem moreC_append (c : BitVec 32) (l r : List UInt8) : moreC (moreC c l) r = moreC c (l ++ r) := by
  unfold moreC
  rw [ones_twice, rowC_append]
/-- Sums joined. -/
def joinC (a b : BitVec 32) (n : Nat) : BitVec 32 := hfN (8 * n) a ^^^ b
theorem moreC_more (a b : BitVec 32) (l : List UInt8) : moreC (a ^^^ b) l = moreC a l ^^^ hfN (8 * l.length) b := by
  unfold moreC
  rw [BitVec.xor_assoc a b ones, BitVec.xor_comm b ones, ← BitVec.xor_assoc a ones b, rowC_more, BitVec.xor_assoc, BitVec.xor_comm (hfN _ _) ones, ← BitVec.xor_assoc]
theorem join_sum (s t : List UInt8) : joinC (moreC 0#32 s) (moreC 0#32 t) t.length = moreC 0#32 (s ++ t) := by
  have h := moreC_more 0#32 (moreC 0#32 s) t
  rw [BitVec.zero_xor] at h
  rw [← moreC_append, h]
  unfold joinC
  exact BitVec.xor_comm _ _
theorem join_slow (a b : BitVec 32) (n : Nat) : moreC a (List.replicate n 0) ^^^ b ^^^ moreC 0#32 (List.replicate n 0) = joinC a b n := by
  have h := moreC_more 0#32 a (List.replicate n 0)
  rw [BitVec.zero_xor, List.length_replicate] at h
  rw [h]
  unfold joinC
  rw [BitVec.xor_assoc, BitVec.xor_comm b, ← BitVec.xor_assoc, BitVec.xor_comm (moreC _ _), BitVec.xor_assoc (hfN _ _), BitVec.xor_self, BitVec.xor_zero]
theorem join_group (x y z : BitVec 32) (n m : Nat) : joinC (joinC x y n) z m = joinC x (joinC y z m) (n + m) := by
  unfold joinC
  rw [hfN_xor, Nat.mul_add, hfN_add, BitVec.xor_assoc]
theorem join_parts (x y : BitVec 32) (n : Nat) : joinC x y n ^^^ joinC 0#32 y n = joinC x 0#32 n := by
  unfold joinC
  rw [hfN_zero, BitVec.zero_xor, BitVec.xor_assoc, BitVec.xor_self]
/-- Three texts of one length. -/
theorem parts3 (s t u : List UInt8) (h1 : s.length = t.length) (h2 : t.length = u.length) :
    moreC 0#32 (List.zipWith (· ^^^ ·) (List.zipWith (· ^^^ ·) s t) u) = moreC 0#32 s ^^^ moreC 0#32 t ^^^ moreC 0#32 u := by
  unfold moreC
  have e : (0#32 ^^^ ones) = ((0#32 ^^^ ones) ^^^ (0#32 ^^^ ones)) ^^^ (0#32 ^^^ ones) := by decide
  have hr : rowC (0#32 ^^^ ones) (List.zipWith (· ^^^ ·) (List.zipWith (· ^^^ ·) s t) u) = rowC (0#32 ^^^ ones) s ^^^ rowC (0#32 ^^^ ones) t ^^^ rowC (0#32 ^^^ ones) u := by
    have q := rowC_xor (List.zipWith (· ^^^ ·) s t) u ((0#32 ^^^ ones) ^^^ (0#32 ^^^ ones)) (0#32 ^^^ ones) (by rw [List.length_zipWith]; omega)
    rw [← e, rowC_xor s t _ _ h1] at q
    exact q
  rw [hr]
  generalize rowC (0#32 ^^^ ones) s = a
  generalize rowC (0#32 ^^^ ones) t = b
  generalize rowC (0#32 ^^^ ones) u = c
  rw [xor4 a ones b ones, BitVec.xor_self, BitVec.xor_zero, BitVec.xor_assoc (a ^^^ b)]

/-! ### Bit by bit -/
/-- Bits, one by one. -/
def feed (c : BitVec 32) (t : Nat → Bool) : Nat → BitVec 32
  | 0 => c
  | n + 1 => hf (feed c t n ^^^ ifB (t n) 1#32)
theorem feed_congr (c : BitVec 32) {t u : Nat → Bool} : ∀ n, (∀ i, i < n → t i = u i) → feed c t n = feed c u n
  | 0, _ => rfl
  | n + 1, h => by rw [feed, feed, feed_congr c n (fun i hi => h i (by omega)), h n (by omega)]
theorem feed_add (c : BitVec 32) (t : Nat → Bool) (n : Nat) : ∀ m, feed c t (n + m) = feed (feed c t n) (fun i => t (n + i)) m
  | 0 => rfl
  | m + 1 => by rw [← Nat.add_assoc, feed, feed_add c t n m, feed]
theorem feed_xor (c d : BitVec 32) (t u : Nat → Bool) : ∀ n, feed (c ^^^ d) (fun i => t i ^^ u i) n = feed c t n ^^^ feed d u n
  | 0 => rfl
  | n + 1 => by
    rw [feed, feed, feed, feed_xor c d t u n, ifB_sum, xor4, hf_xor]
theorem feed_none (c : BitVec 32) : ∀ n, feed c (fun _ => false) n = hfN n c
  | 0 => rfl
  | n + 1 => by
    rw [feed, feed_none c n, hfN_succ]
    simp [ifB]
/-- As many bits as fit, at once. -/
theorem feed_word (c : BitVec 32) (t : Nat → Bool) : ∀ n, n ≤ 32 → feed c t n = hfN n (c ^^^ xsum (fun i => ifB (t i) (1#32 <<< i)) n)
  | 0, _ => by simp [feed, hfN, xsum]
  | n + 1, h => by
    rw [feed, feed_word c t n (by omega), xsum, ← BitVec.xor_assoc, hfN_succ, hfN_xor n (c ^^^ _), ifB_hfN, hfN_bit n (by omega) n (Nat.le_refl _), Nat.sub_self]
    rfl
/-- The bits of bytes. -/
def bitL (l : List UInt8) (j : Nat) : Bool := (l.getD (j / 8) 0).toNat.testBit (j % 8)
theorem fed_feed (c : BitVec 32) (x : UInt8) : fed c x = feed c (fun i => x.toNat.testBit i) 8 := by
  rw [feed_word c _ 8 (by decide)]
  unfold fed
  congr 2
  have h := bits_low (bt x) 8 (by decide)
  apply BitVec.eq_of_getLsbD_eq
  intro i hi
  have e : xsum (fun i => ifB (x.toNat.testBit i) (1#32 <<< i)) 8 = xsum (fun i => ifB ((bt x).getLsbD i) (1#32 <<< i)) 8 := xsum_congr 8 (fun i hi => by rw [bt_bit x i (by omega)])
  rw [e, h i, bt_bit x i hi]
  by_cases h8 : i < 8
  · simp [h8]
  · have hx := x.toNat_lt
    have : x.toNat.testBit i = false := Nat.testBit_lt_two_pow (Nat.lt_of_lt_of_le hx (show 2 ^ 8 ≤ 2 ^ i from Nat.pow_le_pow_right (by decide) (by omega)))
    simp [this]
theorem bitL_low (x : UInt8) (l : List UInt8) (i : Nat) (hi : i < 8) : bitL (x :: l) i = x.toNat.testBit i := by
  unfold bitL
  rw [Nat.div_eq_of_lt hi, Nat.mod_eq_of_lt hi]
  rfl
theorem bitL_high (x : UInt8) (l : List UInt8) (i : Nat) : bitL (x :: l) (8 + i) = bitL l i := by
  unfold bitL
  rw [show (8 + i) / 8 = i / 8 + 1 by omega, show (8 + i) % 8 = i % 8 by omega]
  rfl
theorem rowC_feed (l : List UInt8) : ∀ c, rowC c l = feed c (bitL l) (8 * l.length) := by
  induction l with
  | nil => exact fun c => rfl
  | cons x r ih =>
    intro c
    show rowC (fed c x) r = _
    rw [List.length_cons, Nat.mul_succ, Nat.add_comm, feed_add, ih, fed_feed]
    have e1 : feed c (bitL (x :: r)) 8 = feed c (fun i => x.toNat.testBit i) 8 := feed_congr c 8 (fun i hi => bitL_low x r i hi)
    rw [e1]
    exact (feed_congr _ _ (fun i _ => bitL_high x r i)).symm
/-- 32 bits in a row, from k on. -/
def win (T : BitVec 32) (k : Nat) (j : Nat) : Bool := decide (k ≤ j ∧ j < k + 32) && T.getLsbD (j - k)
theorem feed_win (T : BitVec 32) (k m : Nat) : feed 0#32 (win T k) (k + 32 + m) = hfN m (hfN 32 T) := by
  rw [feed_add, feed_add]
  have e0 : feed 0#32 (win T k) k = 0#32 := by
    rw [feed_congr 0#32 (u := fun _ => false) k (fun i hi => by
      unfold win
      have : ¬ (k ≤ i ∧ i < k + 32) := by omega
      simp [this]), feed_none, hfN_zero]
  have e1 : feed 0#32 (fun i => win T k (k + i)) 32 = hfN 32 T := by
    rw [feed_word _ _ 32 (Nat.le_refl _), BitVec.zero_xor]
    have e : xsum (fun i => ifB (win T k (k + i)) (1#32 <<< i)) 32 = xsum (fun i => ifB (T.getLsbD i) (1#32 <<< i)) 32 := xsum_congr 32 (fun i hi => by
      have h1 : (k ≤ k + i ∧ k + i < k + 32) := by omega
      have h2 : k + i - k = i := by omega
      unfold win
      rw [h2]
      simp [h1, hi])
    rw [e, bits_all]
  rw [e0, e1, feed_congr _ (u := fun _ => false) m (fun i _ => by
    unfold win
    have : ¬ (k ≤ k + 32 + i ∧ k + 32 + i < k + 32) := by omega
    simp [this]), feed_none]
/-- Texts that differ in bits within 32 in a row. -/
theorem apart (c T : BitVec 32) (k : Nat) (l r : List UInt8) (hl : l.length = r.length) (hk : k + 32 ≤ 8 * l.length) (h : ∀ j, j < 8 * l.length → bitL r j = (bitL l j ^^ win T k j)) : moreC c r = moreC c l ↔ T = 0#32 := by
  obtain ⟨m, hm⟩ : ∃ m, 8 * l.length = k + 32 + m := ⟨8 * l.length - (k + 32), by omega⟩
  have e : rowC (c ^^^ ones) r = rowC (c ^^^ ones) l ^^^ hfN m (hfN 32 T) := by
    rw [rowC_feed, rowC_feed, ← hl, feed_congr _ (u := fun j => bitL l j ^^ win T k j) _ h]
    have q := feed_xor (c ^^^ ones) 0#32 (bitL l) (win T k) (8 * l.length)
    rw [BitVec.xor_zero] at q
    rw [q, hm, feed_win]
  unfold moreC
  constructor
  · intro he
    have h1 : rowC (c ^^^ ones) r = rowC (c ^^^ ones) l := by
      have := congrArg (· ^^^ ones) he
      simpa [BitVec.xor_assoc, BitVec.xor_self] using this
    rw [e] at h1
    have h2 : hfN m (hfN 32 T) = 0#32 := by
      have := congrArg (rowC (c ^^^ ones) l ^^^ ·) h1
      simpa [← BitVec.xor_assoc, BitVec.xor_self] using this
    have h3 : hfN m (hfN 32 T) = hfN m (hfN 32 0#32) := by rw [h2, hfN_zero, hfN_zero]
    exact hfN_inj 32 (hfN_inj m h3)
  · intro hT
    rw [e, hT, hfN_zero, hfN_zero, BitVec.xor_zero]
/-- A bit of a byte turned about. -/
theorem bitL_set (l : List UInt8) (p q : Nat) (x : UInt8) (hp : l[p]? = some x) (hq : q < 8) (y : UInt8) (hy : y.toNat = x.toNat ^^^ 2 ^ q) (j : Nat) : bitL (l.set p y) j = (bitL l j ^^ decide (j = 8 * p + q)) := by
  have hpl : p < l.length := (List.getElem?_eq_some_iff.1 hp).1
  unfold bitL
  by_cases e : j / 8 = p
  · have e1 : (l.set p y).getD (j / 8) 0 = y := by rw [e, List.getD_eq_getElem?_getD, List.getElem?_set_self hpl]; rfl
    have e2 : l.getD (j / 8) 0 = x := by rw [e, List.getD_eq_getElem?_getD, hp]; rfl
    rw [e1, e2, hy, Nat.testBit_xor, Nat.testBit_two_pow]
    congr 1
    have : (q = j % 8) ↔ (j = 8 * p + q) := by omega
    simp [this]
  · have e1 : (l.set p y).getD (j / 8) 0 = l.getD (j / 8) 0 := by rw [List.getD_eq_getElem?_getD, List.getD_eq_getElem?_getD, List.getElem?_set_ne (Ne.symm e)]
    rw [e1]
    have : ¬ j = 8 * p + q := by omega
    simp [this]
end Go.Proofs.YtbekdcpdfmfopaaGreat
end

section
namespace Go.Proofs.YtbekdcpdfmfopaaGreat

theorem num_cons (b : UInt8) (l : List UInt8) : num (b :: l) = b.toNat * 256 ^ l.length + num l := by
  have key : ∀ (l : List UInt8) (x : Nat), l.foldl (fun n b => n * 256 + b.toNat) x = x * 256 ^ l.length + num l := by
    intro l
    induction l with
    | nil => intro x; simp [num]
    | cons c r ih =>
      intro x
      have e : num (c :: r) = c.toNat * 256 ^ r.length + num r := by
        show List.foldl _ (0 * 256 + c.toNat) r = _
        rw [ih]; simp
      rw [List.foldl_cons, ih, e, List.length_cons, Nat.pow_succ, Nat.add_mul, Nat.mul_assoc, Nat.mul_comm 256, Nat.add_assoc]
  show List.foldl _ (0 * 256 + b.toNat) l = _
  rw [key]; simp
theorem num_be (n : Nat) : ∀ k, num (be k n) = n % 256 ^ k
  | 0 => by simp [be, num, Nat.mod_one]
  | k + 1 => by
    rw [be, num_cons, num_be n k, be_length, Nat.mod_pow_succ, Nat.add_comm, Nat.mul_comm]
    rfl
theorem num_inj : ∀ (l r : List UInt8), l.length = r.length → num l = num r → l = r
  | [], [], _, _ => rfl
  | [], _ :: _, h, _ => by simp at h
  | _ :: _, [], h, _ => by simp at h
  | a :: l, b :: r, h, e => by
    have hl : l.length = r.length := by simpa using h
    rw [num_cons, num_cons, hl] at e
    have h1 := num_lt r.length l hl
    have h2 := num_lt r.length r rfl
    have hp : 0 < 256 ^ r.length := Nat.pow_pos (by decide)
    have ha : a.toNat = b.toNat := by
      have q1 : (a.toNat * 256 ^ r.length + num l) / 256 ^ r.length = a.toNat := by
        rw [Nat.add_comm, Nat.add_mul_div_right _ _ hp, Nat.div_eq_of_lt h1, Nat.zero_add]
      have q2 : (b.toNat * 256 ^ r.length + num r) / 256 ^ r.length = b.toNat := by
        rw [Nat.add_comm, Nat.add_mul_div_right _ _ hp, Nat.div_eq_of_lt h2, Nat.zero_add]
      rw [← q1, ← q2, e]
    have hb : a = b := UInt8.toNat_inj.1 ha
    subst hb
    rw [num_inj l r hl (by omega)]
theorem be_num (l : List UInt8) (k : Nat) (h : l.length = k) : be k (num l) = l :=
  num_inj _ _ (by rw [be_length, h]) (by rw [num_be, Nat.mod_eq_of_lt (num_lt k l h)])

/-- A record. -/
structure Rec where
  n : Nat
  t : ByteArray
theorem Rec.ext' {a b : Rec} (h1 : a.n = b.n) (h2 : a.t = b.t) : a = b := by cases a; cases b; cases h1; cases h2; rfl
/-- A record as a value. -/
def recV (r : Rec) : Value := .agg #[.int .u64 (r.n : Int), .string r.t]
def Rec.zero : Rec := ⟨0, ⟨#[]⟩⟩
/-- The sum of bytes, as a number. -/
def sumN (l : List UInt8) : Nat := (moreC 0#32 l).toNat
theorem sumN_lt (l : List UInt8) : sumN l < 4294967296 := (moreC 0#32 l).isLt
/-- What stands ahead of the sum. -/
def headL (k n : Nat) : List UInt8 := be 4 k ++ be 8 n
theorem headL_length (k n : Nat) : (headL k n).length = 12 := by simp [headL, be_length]
/-- What stands ahead of the text. -/
def headS (k n : Nat) (t : List UInt8) : List UInt8 := headL k n ++ be 4 (sumN (headL k n ++ t))
theorem headS_length (k n : Nat) (t : List UInt8) : (headS k n t).length = 16 := by simp [headS, headL_length, be_length]
def frameL (r : Rec) : List UInt8 := headS r.t.size r.n r.t.data.toList ++ r.t.data.toList
theorem frameL_length (r : Rec) : (frameL r).length = 16 + r.t.size := by unfold frameL; rw [List.length_append, headS_length, size_list]
def frameT (r : Rec) : ByteArray := ⟨(frameL r).toArray⟩
theorem frameT_size (r : Rec) : (frameT r).size = 16 + r.t.size := by rw [← frameL_length]; rfl
theorem frameT_list (r : Rec) : (frameT r).data.toList = frameL r := rfl
def encF (r : Rec) : ByteArray × Nat := if 65536 < r.t.size then (⟨#[]⟩, 5) else (frameT r, 0)
/-- The number that stands in a text. -/
def numAt (s : ByteArray) (a k : Nat) : Nat := num ((s.data.toList.drop a).take k)
theorem numAt_lt (s : ByteArray) (a k : Nat) (h : a + k ≤ s.size) : numAt s a k < 256 ^ k := num_lt k _ (by rw [List.length_take, List.length_drop, size_list]; omega)
def Sums (s : ByteArray) : Prop := numAt s 12 4 = sumN (s.data.toList.take 12 ++ (s.data.toList.drop 16).take (numAt s 0 4))
/-- The record in front of bytes, how many bytes its frame has, the fault. -/
noncomputable def decF (s : ByteArray) : Rec × Nat × Nat :=
  open Classical in
  if s.size < 16 then (Rec.zero, 0, 100)
  else if 65536 < numAt s 0 4 then (Rec.zero, 0, 5)
  else if s.size < 16 + numAt s 0 4 then (Rec.zero, 0, 100)
  else if Sums s then (⟨numAt s 4 8, s.extract 16 (16 + numAt s 0 4)⟩, 16 + numAt s 0 4, 0)
  else (Rec.zero, 0, 101)
section
variable {s : ByteArray}
theorem decF_short (h : s.size < 16) : decF s = (Rec.zero, 0, 100) := by unfold decF; rw [if_pos h]
theorem decF_long (h : ¬ s.size < 16) (h2 : 65536 < numAt s 0 4) : decF s = (Rec.zero, 0, 5) := by unfold decF; rw [if_neg h, if_pos h2]
theorem decF_torn (h : ¬ s.size < 16) (h2 : ¬ 65536 < numAt s 0 4) (h3 : s.size < 16 + numAt s 0 4) : decF s = (Rec.zero, 0, 100) := by unfold decF; rw [if_neg h, if_neg h2, if_pos h3]
theorem decF_sum (h : ¬ s.size < 16) (h2 : ¬ 65536 < numAt s 0 4) (h3 : ¬ s.size < 16 + numAt s 0 4) (h4 : ¬ Sums s) : decF s = (Rec.zero, 0, 101) := by unfold decF; rw [if_neg h, if_neg h2, if_neg h3, if_neg h4]
theorem decF_ok (h : ¬ s.size < 16) (h2 : ¬ 65536 < numAt s 0 4) (h3 : ¬ s.size < 16 + numAt s 0 4) (h4 : Sums s) : decF s = (⟨numAt s 4 8, s.extract 16 (16 + numAt s 0 4)⟩, 16 + numAt s 0 4, 0) := by unfold decF; rw [if_neg h, if_neg h2, if_neg h3, if_pos h4]
/-- Either a fault, or a record. -/
theorem decF_any (s : ByteArray) : (∃ e, decF s = (Rec.zero, 0, e) ∧ e ≠ 0 ∧ e ≤ 101) ∨
    (16 ≤ s.size ∧ numAt s 0 4 ≤ 65536 ∧ 16 + numAt s 0 4 ≤ s.size ∧ Sums s ∧ decF s = (⟨numAt s 4 8, s.extract 16 (16 + numAt s 0 4)⟩, 16 + numAt s 0 4, 0)) := by
  by_cases h : s.size < 16
  · exact .inl ⟨100, decF_short h, by decide, by decide⟩
  by_cases h2 : 65536 < numAt s 0 4
  · exact .inl ⟨5, decF_long h h2, by decide, by decide⟩
  by_cases h3 : s.size < 16 + numAt s 0 4
  · exact .inl ⟨100, decF_torn h h2 h3, by decide, by decide⟩
  by_cases h4 : Sums s
  · exact .inr ⟨by omega, by omega, by omega, h4, decF_ok h h2 h3 h4⟩
  · exact .inl ⟨101, decF_sum h h2 h3 h4, by decide, by decide⟩
end
/-- What an iterator hands out: a record, or a fault. -/
abbrev Itm := { x : Rec × Nat // x.1.t.size ≤ 65536 ∧ x.1.n < 18446744073709551616 ∧ x.2 ≤ 101 }
theorem decF_itm (s : ByteArray) : (decF s).1.t.size ≤ 65536 ∧ (decF s).1.n < 18446744073709551616 ∧ (decF s).2.2 ≤ 101 := by
  rcases decF_any s with ⟨e, h, _, h2⟩ | ⟨h0, h1, h2, h3, h⟩
  · rw [h]; exact ⟨Nat.zero_le _, Nat.zero_lt_succ _, h2⟩
  · rw [h]
    refine ⟨?_, numAt_lt s 4 8 (by omega), Nat.zero_le _⟩
    show (s.extract 16 (16 + numAt s 0 4)).size ≤ 65536
    rw [ByteArray.size_extract]; omega
noncomputable def itm (s : ByteArray) : Itm := ⟨((decF s).1, (decF s).2.2), decF_itm s⟩
noncomputable def items : Nat → ByteArray → List Itm
  | 0, _ => []
  | f + 1, s => if s.size = 0 then [] else itm s :: (if (decF s).2.2 = 0 then items f (s.extract (decF s).2.1 s.size) else [])
/-- The records of a row of items, their number, and the fault. -/
def scanI : List Itm → Nat → List Rec × Nat × Nat
  | [], _ => ([], 0, 0)
  | x :: l, first =>
    if x.1.2 ≠ 0 then ([], 0, x.1.2) else if x.1.1.n ≠ first then ([], 0, 7)
    else (x.1.1 :: (scanI l ((first + 1) % 18446744073709551616)).1, 16 + x.1.1.t.size + (scanI l ((first + 1) % 18446744073709551616)).2.1, (scanI l ((first + 1) % 18446744073709551616)).2.2)
noncomputable def scanF (s : ByteArray) (first : Nat) : List Rec × Nat × Nat := scanI (items s.size s) first
end Go.Proofs.YtbekdcpdfmfopaaGreat
end
