/- Plain: numbers, whole numbers and texts as bytes; the number in front of bytes. -/
import Derived.Test.YthnoegipadnmeaaBytes
namespace Go.Proofs.Ythnoegipadnmeaa

/-- A number's bytes: at most k + 1. -/
def wnF : Nat → Nat → List UInt8
  | 0, n => [UInt8.ofNat n]
  | k + 1, n => if n < 128 then [UInt8.ofNat n] else UInt8.ofNat (n % 128 + 128) :: wnF k (n / 128)
def wn (n : Nat) : List UInt8 := wnF 9 n
/-- The number in front of bytes, how many bytes it has, the fault; i bytes of it, worth acc, stand ahead. -/
def numG (i acc : Nat) : List UInt8 → Nat × Nat × Nat
  | [] => (0, 0, if i < 10 then 6 else 7)
  | b :: r => if i = 10 then (0, 0, 7) else if 128 ≤ b.toNat then numG (i + 1) (acc + b.toNat % 128 * 128 ^ i) r
      else if (0 < i ∧ b.toNat = 0) ∨ (i = 9 ∧ 1 < b.toNat) then (0, 0, 7) else (acc + b.toNat * 128 ^ i, i + 1, 0)
def numR (l : List UInt8) : Nat × Nat × Nat := numG 0 0 l

theorem wnF_low (k n : Nat) (h : n < 128) : wnF k n = [UInt8.ofNat n] := by
  cases k with
  | zero => rfl
  | succ k => rw [wnF, if_pos h]
theorem wnF_high (k n : Nat) (h : ¬ n < 128) : wnF (k + 1) n = UInt8.ofNat (n % 128 + 128) :: wnF k (n / 128) := by rw [wnF, if_neg h]
theorem wnF_length (k : Nat) : ∀ n, 1 ≤ (wnF k n).length ∧ (wnF k n).length ≤ k + 1 := by
  induction k with
  | zero => intro n; simp [wnF]
  | succ k ih =>
    intro n
    by_cases h : n < 128
    · rw [wnF_low _ _ h]; simp
    · rw [wnF_high _ _ h, List.length_cons]
      have := ih (n / 128)
      omega
theorem wn_length (n : Nat) : 1 ≤ (wn n).length ∧ (wn n).length ≤ 10 := wnF_length 9 n
theorem ofNat_toNat (n : Nat) (h : n < 256) : (UInt8.ofNat n).toNat = n := by simp; omega
theorem pow_step (i : Nat) : 128 ^ (i + 1) = 128 * 128 ^ i := by rw [Nat.pow_succ, Nat.mul_comm]
theorem digit_sum (n p : Nat) : n % 128 * p + n / 128 * (128 * p) = n * p := by
  have e : n / 128 * (128 * p) = (128 * (n / 128)) * p := by rw [← Nat.mul_assoc, Nat.mul_comm (n / 128) 128]
  rw [e, ← Nat.add_mul, Nat.mod_add_div]
/-- What was written is read. -/
theorem numG_back (k : Nat) : ∀ (i n acc : Nat) (r : List UInt8), i + k = 9 → n < 2 * 128 ^ k → (0 < i → 0 < n) → numG i acc (wnF k n ++ r) = (acc + n * 128 ^ i, i + (wnF k n).length, 0) := by
  induction k with
  | zero =>
    intro i n acc r hi hn hp
    have h2 : n < 2 := by simpa using hn
    obtain rfl : i = 9 := by omega
    have e := ofNat_toNat n (by omega)
    rw [wnF_low _ _ (by omega), List.singleton_append, numG, e, if_neg (by omega), if_neg (by omega), if_neg (by omega)]
    simp
  | succ k ih =>
    intro i n acc r hi hn hp
    by_cases h : n < 128
    · have e := ofNat_toNat n (by omega)
      rw [wnF_low _ _ h, List.singleton_append, numG, e, if_neg (by omega), if_neg (by omega), if_neg (by omega)]
      simp
    · have e := ofNat_toNat (n % 128 + 128) (by omega)
      rw [wnF_high _ _ h, List.cons_append, numG, e, if_neg (by omega), if_pos (by omega), ih (i + 1) (n / 128) _ r (by omega) (by rw [pow_step] at hn; omega) (by omega)]
      rw [pow_step, show (n % 128 + 128) % 128 = n % 128 by omega, Nat.add_assoc, digit_sum, List.length_cons]
      congr 2
      omega
theorem numR_back (n : Nat) (r : List UInt8) (h : n < 18446744073709551616) : numR (wn n ++ r) = (n, (wn n).length, 0) := by
  have := numG_back 9 0 n 0 r rfl (by omega) (by omega)
  simpa [numR, wn] using this
/-- What is read was written. -/
theorem numG_from (l : List UInt8) : ∀ (i acc v sz : Nat), i ≤ 10 → numG i acc l = (v, sz, 0) → ∃ n, i ≤ 9 ∧ l.take (sz - i) = wnF (9 - i) n ∧ v = acc + n * 128 ^ i ∧ i < sz ∧ sz ≤ 10 ∧ n < 2 * 128 ^ (9 - i) ∧ sz - i ≤ l.length ∧ (0 < i → 0 < n) := by
  induction l with
  | nil =>
    intro i acc v sz hi h
    simp only [numG, Prod.mk.injEq] at h
    split at h <;> omega
  | cons b r ih =>
    intro i acc v sz hi h
    have hb := b.toNat_lt
    rw [numG] at h
    by_cases h10 : i = 10
    · rw [if_pos h10] at h; simp at h
    · rw [if_neg h10] at h
      by_cases h128 : 128 ≤ b.toNat
      · rw [if_pos h128] at h
        obtain ⟨n, h1, h2, h3, h4, h5, h6, h7, h8⟩ := ih (i + 1) _ v sz (by omega) h
        have hn := h8 (by omega)
        have e9 : 9 - i = (9 - (i + 1)) + 1 := by omega
        have ew : sz - i = (sz - (i + 1)) + 1 := by omega
        have hnn : ¬ (b.toNat % 128 + 128 * n) < 128 := by omega
        refine ⟨b.toNat % 128 + 128 * n, by omega, ?_, ?_, by omega, h5, ?_, by rw [List.length_cons]; omega, by omega⟩
        · rw [ew, e9, List.take_succ_cons, wnF_high _ _ hnn, h2]
          congr 1
          · apply UInt8.toNat_inj.1
            rw [ofNat_toNat _ (by omega)]
            omega
          · congr 1
            omega
        · rw [h3, pow_step, Nat.add_assoc]
          congr 1
          rw [Nat.add_mul, ← Nat.mul_assoc, Nat.mul_comm n 128]
        · rw [e9, pow_step]
          omega
      · rw [if_neg h128] at h
        by_cases hbad : (0 < i ∧ b.toNat = 0) ∨ (i = 9 ∧ 1 < b.toNat)
        · rw [if_pos hbad] at h; simp at h
        · rw [if_neg hbad] at h
          simp only [Prod.mk.injEq] at h
          obtain ⟨rfl, rfl, _⟩ := h
          refine ⟨b.toNat, by omega, ?_, rfl, by omega, by omega, ?_, by rw [List.length_cons]; omega, by omega⟩
          · rw [show i + 1 - i = 1 by omega, wnF_low _ _ (by omega)]
            simp
          · by_cases h9 : i = 9
            · subst h9; simp; omega
            · have : 128 ^ (9 - i) = 128 * 128 ^ (8 - i) := by rw [← pow_step]; congr 1; omega
              have hp : 0 < 128 ^ (8 - i) := Nat.pow_pos (by decide)
              rw [this]
              omega
theorem numR_from (l : List UInt8) (v sz : Nat) (h : numR l = (v, sz, 0)) : l.take sz = wn v ∧ v < 18446744073709551616 ∧ 1 ≤ sz ∧ sz ≤ 10 ∧ sz ≤ l.length := by
  obtain ⟨n, _, h2, h3, h4, h5, h6, h7, _⟩ := numG_from l 0 0 v sz (by omega) h
  simp at h2 h3 h6 h7
  subst h3
  exact ⟨h2, by omega, by omega, h5, h7⟩
/-- Which answers there are. -/
theorem numG_kinds (l : List UInt8) : ∀ i acc, (numG i acc l).2.2 = 0 ∨ numG i acc l = (0, 0, 6) ∨ numG i acc l = (0, 0, 7) := by
  induction l with
  | nil => intro i acc; simp only [numG]; split <;> simp
  | cons b r ih =>
    intro i acc
    rw [numG]
    split
    · simp
    · split
      · exact ih _ _
      · split <;> simp
/-- What is read, or which fault there is. -/
theorem numR_or (l : List UInt8) : (∃ v sz, numR l = (v, sz, 0) ∧ l.take sz = wn v ∧ v < 18446744073709551616 ∧ 1 ≤ sz ∧ sz ≤ 10 ∧ sz ≤ l.length) ∨ numR l = (0, 0, 6) ∨ numR l = (0, 0, 7) := by
  rcases numG_kinds l 0 0 with h | h
  · left
    rcases hn : numR l with ⟨v, sz, f⟩
    have : f = 0 := by unfold numR at hn; rw [hn] at h; exact h
    subst this
    exact ⟨v, sz, rfl, numR_from l v sz hn⟩
  · exact .inr h
theorem wn_inj (a b : Nat) (r s : List UInt8) (ha : a < 18446744073709551616) (hb : b < 18446744073709551616) (h : wn a ++ r = wn b ++ s) : a = b ∧ r = s := by
  have h1 := numR_back a r ha
  rw [h, numR_back b s hb] at h1
  have e : b = a := congrArg Prod.fst h1
  subst e
  exact ⟨rfl, List.append_cancel_left h⟩

/-! ### Whole numbers -/
def zig (n : Int) : Nat := if 0 ≤ n then 2 * n.toNat else 2 * (-(n + 1)).toNat + 1
def zag (m : Nat) : Int := if m % 2 = 0 then (m / 2 : Nat) else -((m / 2 : Nat) : Int) - 1
theorem zag_zig (n : Int) : zag (zig n) = n := by
  unfold zig zag
  split
  · rw [if_pos (by omega)]; omega
  · rw [if_neg (by omega)]; omega
theorem zig_zag (m : Nat) : zig (zag m) = m := by
  unfold zig zag
  split
  · rw [if_pos (by omega)]; omega
  · rw [if_neg (by omega)]; omega
theorem zig_lt (n : Int) (h0 : -9223372036854775808 ≤ n) (h1 : n ≤ 9223372036854775807) : zig n < 18446744073709551616 := by
  unfold zig
  split <;> omega
theorem zag_range (m : Nat) (h : m < 18446744073709551616) : -9223372036854775808 ≤ zag m ∧ zag m ≤ 9223372036854775807 := by
  unfold zag
  split <;> omega

/-! ### Texts, lists -/
def wt (s : ByteArray) : List UInt8 := wn s.size ++ s.data.toList
def wb (b : Bool) : List UInt8 := [if b then 1 else 0]
def wl (l : List ByteArray) : List UInt8 := wn l.length ++ l.flatMap wt
theorem txt_ext {s t : ByteArray} (h : s.data.toList = t.data.toList) : s = t := by
  apply ByteArray.ext
  exact Array.toList_inj.1 h
theorem wt_inj (s t : ByteArray) (a b : List UInt8) (hs : s.size < 18446744073709551616) (ht : t.size < 18446744073709551616) (h : wt s ++ a = wt t ++ b) : s = t ∧ a = b := by
  unfold wt at h
  rw [List.append_assoc, List.append_assoc] at h
  obtain ⟨h1, h2⟩ := wn_inj _ _ _ _ hs ht h
  have hl : s.data.toList.length = t.data.toList.length := by rw [size_list, size_list, h1]
  obtain ⟨h3, h4⟩ := List.append_inj h2 hl
  exact ⟨txt_ext h3, h4⟩
theorem texts_inj : ∀ (l m : List ByteArray), l.length = m.length → (∀ s ∈ l, s.size < 18446744073709551616) → (∀ s ∈ m, s.size < 18446744073709551616) → l.flatMap wt = m.flatMap wt → l = m
  | [], [], _, _, _, _ => rfl
  | [], _ :: _, h, _, _, _ => by simp at h
  | _ :: _, [], h, _, _, _ => by simp at h
  | s :: l, t :: m, h, hl, hm, he => by
    rw [List.flatMap_cons, List.flatMap_cons] at he
    obtain ⟨h1, h2⟩ := wt_inj s t _ _ (hl s (by simp)) (hm t (by simp)) he
    rw [h1, texts_inj l m (by simpa using h) (fun x hx => hl x (by simp [hx])) (fun x hx => hm x (by simp [hx])) h2]
theorem wl_inj (l m : List ByteArray) (h1 : l.length < 18446744073709551616) (h2 : m.length < 18446744073709551616) (hl : ∀ s ∈ l, s.size < 18446744073709551616) (hm : ∀ s ∈ m, s.size < 18446744073709551616) (h : wl l = wl m) : l = m := by
  obtain ⟨h3, h4⟩ := wn_inj _ _ _ _ h1 h2 h
  exact texts_inj l m h3 hl hm h4
end Go.Proofs.Ythnoegipadnmeaa
