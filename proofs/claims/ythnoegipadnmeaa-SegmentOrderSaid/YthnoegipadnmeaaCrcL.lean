/- Plain: rows of bits over a polynomial: half a step, bytes, many bytes 0; products of polynomials. No function of the program is named here. -/
import Derived.Test.YthnoegipadnmeaaBytes
namespace Go.Proofs.Ythnoegipadnmeaa

/-- The polynomial, turned about. -/
def crcPoly : BitVec 32 := 0xEDB88320#32
/-- One step. -/
def hf (c : BitVec 32) : BitVec 32 := (c >>> 1) ^^^ (if c.getLsbD 0 then crcPoly else 0#32)
theorem hf_xor (a b : BitVec 32) : hf (a ^^^ b) = hf a ^^^ hf b := by
  unfold hf
  have e : (a ^^^ b) >>> 1 = (a >>> 1) ^^^ (b >>> 1) := by
    apply BitVec.eq_of_getLsbD_eq
    intro i hi
    simp [BitVec.getLsbD_ushiftRight]
  rw [e, BitVec.getLsbD_xor]
  cases a.getLsbD 0 <;> cases b.getLsbD 0 <;> simp [BitVec.xor_assoc, BitVec.xor_comm crcPoly]
theorem hf_zero : hf 0#32 = 0#32 := by decide
/-- So many steps. -/
def hfN : Nat → BitVec 32 → BitVec 32
  | 0, c => c
  | n + 1, c => hfN n (hf c)
theorem hfN_xor : ∀ (n : Nat) (a b : BitVec 32), hfN n (a ^^^ b) = hfN n a ^^^ hfN n b
  | 0, _, _ => rfl
  | n + 1, a, b => by rw [hfN, hfN, hfN, hf_xor, hfN_xor n]
theorem hfN_zero : ∀ n : Nat, hfN n 0#32 = 0#32
  | 0 => rfl
  | n + 1 => by rw [hfN, hf_zero, hfN_zero n]
theorem hfN_add : ∀ (n m : Nat) (c : BitVec 32), hfN (n + m) c = hfN m (hfN n c)
  | 0, m, c => by rw [Nat.zero_add]; rfl
  | n + 1, m, c => by rw [show n + 1 + m = (n + m) + 1 by omega, hfN, hfN, hfN_add n m]
theorem hfN_succ (n : Nat) (c : BitVec 32) : hfN (n + 1) c = hf (hfN n c) := hfN_add n 1 c
theorem hfN_comm (n m : Nat) (c : BitVec 32) : hfN n (hfN m c) = hfN m (hfN n c) := by rw [← hfN_add, Nat.add_comm, hfN_add]
/-- A step may be undone: bit 31 tells whether the polynomial came in. -/
theorem hf_top (c : BitVec 32) : (hf c).getLsbD 31 = c.getLsbD 0 := by
  unfold hf
  rw [BitVec.getLsbD_xor, BitVec.getLsbD_ushiftRight]
  have h32 : c.getLsbD 32 = false := BitVec.getLsbD_of_ge c 32 (Nat.le_refl _)
  cases c.getLsbD 0
  · simp
  · simp [crcPoly]
theorem hf_inj {a b : BitVec 32} (h : hf a = hf b) : a = b := by
  have h0 : a.getLsbD 0 = b.getLsbD 0 := by rw [← hf_top, ← hf_top, h]
  unfold hf at h
  rw [h0] at h
  have h1 : a >>> 1 = b >>> 1 := by
    have := congrArg (· ^^^ (if b.getLsbD 0 = true then crcPoly else 0#32)) h
    simpa [BitVec.xor_assoc, BitVec.xor_self] using this
  apply BitVec.eq_of_getLsbD_eq
  intro i hi
  cases i with
  | zero => exact h0
  | succ i =>
    have := congrArg (fun c : BitVec 32 => c.getLsbD i) h1
    simp only [BitVec.getLsbD_ushiftRight] at this
    rwa [Nat.add_comm 1 i] at this
theorem hfN_inj : ∀ (n : Nat) {a b : BitVec 32}, hfN n a = hfN n b → a = b
  | 0, _, _, h => h
  | n + 1, _, _, h => hf_inj (hfN_inj n h)
/-- A bit goes one place down. -/
theorem hf_bit : ∀ i, i < 31 → hf (1#32 <<< (i + 1)) = 1#32 <<< i := by decide
theorem hfN_bit (i : Nat) (hi : i < 32) : ∀ k, k ≤ i → hfN k (1#32 <<< i) = 1#32 <<< (i - k)
  | 0, _ => rfl
  | k + 1, h => by
    rw [hfN_succ, hfN_bit i hi k (by omega), show i - k = (i - (k + 1)) + 1 by omega, hf_bit _ (by omega)]

/-! ### Sums over bits -/
/-- The sum of the first n, by exclusive or. -/
def xsum (f : Nat → BitVec 32) : Nat → BitVec 32
  | 0 => 0#32
  | n + 1 => xsum f n ^^^ f n
theorem xsum_congr {f g : Nat → BitVec 32} : ∀ n, (∀ i, i < n → f i = g i) → xsum f n = xsum g n
  | 0, _ => rfl
  | n + 1, h => by rw [xsum, xsum, xsum_congr n (fun i hi => h i (by omega)), h n (by omega)]
theorem xsum_xor (f g : Nat → BitVec 32) : ∀ n, xsum (fun i => f i ^^^ g i) n = xsum f n ^^^ xsum g n
  | 0 => by simp [xsum]
  | n + 1 => by
    rw [xsum, xsum, xsum, xsum_xor f g n]
    rw [BitVec.xor_assoc, BitVec.xor_assoc, ← BitVec.xor_assoc (xsum g n), BitVec.xor_comm (xsum g n) (f n), BitVec.xor_assoc]
theorem xsum_hfN (f : Nat → BitVec 32) (k : Nat) : ∀ n, xsum (fun i => hfN k (f i)) n = hfN k (xsum f n)
  | 0 => by rw [xsum, xsum, hfN_zero]
  | n + 1 => by rw [xsum, xsum, xsum_hfN f k n, hfN_xor]
/-- If it is so: this; else nothing. -/
def ifB (b : Bool) (c : BitVec 32) : BitVec 32 := if b then c else 0#32
theorem ifB_hfN (b : Bool) (k : Nat) (c : BitVec 32) : hfN k (ifB b c) = ifB b (hfN k c) := by cases b <;> simp [ifB, hfN_zero]
theorem ifB_xor (b : Bool) (c d : BitVec 32) : ifB b (c ^^^ d) = ifB b c ^^^ ifB b d := by cases b <;> simp [ifB]
theorem ifB_sum (a b : Bool) (c : BitVec 32) : ifB (a ^^ b) c = ifB a c ^^^ ifB b c := by cases a <;> cases b <;> simp [ifB]
/-- What keeps sums. -/
def Lin (F : BitVec 32 → BitVec 32) : Prop := ∀ a b, F (a ^^^ b) = F a ^^^ F b
theorem Lin.zero {F : BitVec 32 → BitVec 32} (h : Lin F) : F 0#32 = 0#32 := by
  have := h 0#32 0#32
  rw [BitVec.xor_self] at this
  rw [this, BitVec.xor_self]
theorem Lin.xsum {F : BitVec 32 → BitVec 32} (h : Lin F) (f : Nat → BitVec 32) : ∀ n, F (xsum f n) = Go.Proofs.Ythnoegipadnmeaa.xsum (fun i => F (f i)) n
  | 0 => h.zero
  | n + 1 => by rw [Go.Proofs.Ythnoegipadnmeaa.xsum, Go.Proofs.Ythnoegipadnmeaa.xsum, h, Lin.xsum h f n]
theorem Lin.ifB {F : BitVec 32 → BitVec 32} (h : Lin F) (b : Bool) (c : BitVec 32) : F (ifB b c) = Go.Proofs.Ythnoegipadnmeaa.ifB b (F c) := by cases b <;> simp [Go.Proofs.Ythnoegipadnmeaa.ifB, h.zero]
theorem Lin.hfN (n : Nat) : Lin (hfN n) := hfN_xor n
/-- The bits of a number. -/
theorem bits_low (c : BitVec 32) : ∀ n, n ≤ 32 → ∀ i, (xsum (fun i => ifB (c.getLsbD i) (1#32 <<< i)) n).getLsbD i = (decide (i < n) && c.getLsbD i)
  | 0, _, i => by simp [xsum]
  | n + 1, h, i => by
    rw [xsum, BitVec.getLsbD_xor, bits_low c n (by omega) i]
    have e : (ifB (c.getLsbD n) (1#32 <<< n)).getLsbD i = (decide (i = n) && c.getLsbD n) := by
      have e1 : (1#32 <<< n).getLsbD i = decide (i = n) := by
        rw [BitVec.getLsbD_shiftLeft, BitVec.getLsbD_one]
        by_cases hin : i = n
        · subst hin; simp; omega
        · have : ¬ (decide (i < 32) && !decide (i < n) && decide (i - n = 0)) = true := by simp; omega
          simp [hin]
          intro _ h2 h3
          omega
      cases hc : c.getLsbD n
      · simp [ifB]
      · simp only [ifB, if_true, e1, Bool.and_true]
    rw [e]
    by_cases h1 : i < n
    · have h2 : ¬ i = n := by omega
      have h3 : i < n + 1 := by omega
      simp [h1, h2, h3]
    · by_cases h2 : i = n
      · subst h2; simp
      · have h3 : ¬ i < n + 1 := by omega
        simp [h1, h2, h3]
theorem bits_all (c : BitVec 32) : xsum (fun i => ifB (c.getLsbD i) (1#32 <<< i)) 32 = c := by
  apply BitVec.eq_of_getLsbD_eq
  intro i hi
  rw [bits_low c 32 (Nat.le_refl _) i]
  simp [hi]
/-- Rows of what each bit does: multiplied by a number. -/
theorem Lin.rows {F : BitVec 32 → BitVec 32} (h : Lin F) (c : BitVec 32) : Go.Proofs.Ythnoegipadnmeaa.xsum (fun i => Go.Proofs.Ythnoegipadnmeaa.ifB (c.getLsbD i) (F (1#32 <<< i))) 32 = F c := by
  have e := h.xsum (fun i => Go.Proofs.Ythnoegipadnmeaa.ifB (c.getLsbD i) (1#32 <<< i)) 32
  rw [bits_all] at e
  rw [e]
  exact xsum_congr 32 (fun i _ => (h.ifB _ _).symm)

/-! ### Products of polynomials -/
/-- The product of two polynomials. -/
def pr (a b : BitVec 32) : BitVec 32 := xsum (fun k => ifB (a.getLsbD (31 - k)) (hfN k b)) 32
theorem pr_lin (a : BitVec 32) : Lin (pr a) := fun b c => by
  unfold pr
  rw [← xsum_xor]
  exact xsum_congr 32 (fun i _ => by rw [hfN_xor, ifB_xor])
theorem pr_left (a b c : BitVec 32) : pr (a ^^^ b) c = pr a c ^^^ pr b c := by
  unfold pr
  rw [← xsum_xor]
  exact xsum_congr 32 (fun i _ => by rw [BitVec.getLsbD_xor, ifB_sum])
theorem pr_hfN (a b : BitVec 32) (k : Nat) : hfN k (pr a b) = pr a (hfN k b) := by
  unfold pr
  rw [← xsum_hfN]
  exact xsum_congr 32 (fun i _ => by rw [ifB_hfN, hfN_comm])
/-- Two products, either one first. -/
theorem pr_swap (a b c : BitVec 32) : pr a (pr b c) = pr b (pr a c) := by
  have e : pr a (pr b c) = xsum (fun k => ifB (b.getLsbD (31 - k)) (pr a (hfN k c))) 32 := by
    show pr a (xsum _ 32) = _
    rw [(pr_lin a).xsum]
    exact xsum_congr 32 (fun i _ => (pr_lin a).ifB _ _)
  rw [e]
  show _ = xsum _ 32
  exact xsum_congr 32 (fun i _ => by rw [pr_hfN])
theorem xsum_back (f : Nat → BitVec 32) : ∀ n, xsum f n = xsum (fun i => f (n - 1 - i)) n
  | 0 => rfl
  | n + 1 => by
    have key : ∀ (g : Nat → BitVec 32) (m : Nat), xsum g (m + 1) = g 0 ^^^ xsum (fun i => g (i + 1)) m := fun g m => by
      induction m with
      | zero => simp [xsum]
      | succ m ih => rw [xsum, ih, xsum, BitVec.xor_assoc]
    rw [key (fun i => f (n + 1 - 1 - i)) n, xsum, xsum_back f n, BitVec.xor_comm]
    congr 1
    exact xsum_congr n (fun i hi => by congr 1; omega)
/-- Each number is the product of itself and the number 1. -/
theorem pr_one (b : BitVec 32) : pr b (1#32 <<< 31) = b := by
  unfold pr
  have e : xsum (fun k => ifB (b.getLsbD (31 - k)) (hfN k (1#32 <<< 31))) 32 = xsum (fun k => ifB (b.getLsbD (32 - 1 - k)) (1#32 <<< (32 - 1 - k))) 32 :=
    xsum_congr 32 (fun i hi => by rw [hfN_bit 31 (by omega) i (by omega)])
  rw [e, ← xsum_back (fun i => ifB (b.getLsbD i) (1#32 <<< i)), bits_all]
theorem pr_comm (a b : BitVec 32) : pr a b = pr b a := by
  have h := pr_swap a b (1#32 <<< 31)
  rwa [pr_one, pr_one] at h
/-- A product, taken further. -/
theorem pr_step (a b : BitVec 32) (k : Nat) : pr (hfN k a) b = hfN k (pr a b) := by rw [pr_comm, ← pr_hfN, pr_comm]
theorem pr_x (k : Nat) (hk : k < 32) (b : BitVec 32) : pr (1#32 <<< (31 - k)) b = hfN k b := by
  have e : (1#32 <<< (31 - k)) = hfN k (1#32 <<< 31) := (hfN_bit 31 (by omega) k (by omega)).symm
  rw [e, pr_step, pr_comm, pr_one]
/-- What a power of x is. -/
def xp (n : Nat) : BitVec 32 := hfN n (1#32 <<< 31)
theorem pr_xp (n : Nat) (b : BitVec 32) : pr (xp n) b = hfN n b := by
  unfold xp
  rw [pr_step, pr_comm, pr_one]
theorem xp_add (n m : Nat) : pr (xp n) (xp m) = xp (m + n) := by rw [pr_xp]; unfold xp; rw [hfN_add]
theorem xp_one : xp 1 = 1#32 <<< 30 := by decide
end Go.Proofs.Ythnoegipadnmeaa
