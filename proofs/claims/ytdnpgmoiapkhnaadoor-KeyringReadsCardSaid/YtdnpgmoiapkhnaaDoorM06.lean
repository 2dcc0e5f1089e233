/- Plain words: blocks of a text, reckoned. Plain words: bytes as polynomials: products, and their laws. No function of the program is named here. -/
import Derived.Test.YtdnpgmoiapkhnaaDoorM01
import Derived.KernelRfl
section
namespace Go.Proofs.YtdnpgmoiapkhnaaDoor
open Go.RowKit

/-- f of n, n reckoned first. -/
def force {α : Type} (n : Nat) (f : Nat → α) : α := match n with | 0 => f 0 | m + 1 => f (m + 1)
theorem force_eq {α : Type} (n : Nat) (f : Nat → α) : force n f = f n := by cases n <;> rfl
def rl (s : St) : List (Nat × Nat) → St
  | [] => s
  | p :: r => rl (rnd s p.1 p.2) r
theorem rl_append (s : St) (l r : List (Nat × Nat)) : rl s (l ++ r) = rl (rl s l) r := by
  induction l generalizing s with
  | nil => rfl
  | cons p l ih => exact ih _
theorem rnds_rl (w : List Nat) (hw : w.length = 64) (s : St) : ∀ t, t ≤ 64 → rnds w s t = rl s ((Kc.zip w).take t)
  | 0, _ => by simp [rnds, rl]
  | t + 1, h => by
    have hl : t < (Kc.zip w).length := by rw [List.length_zip, Kc_length, hw]; omega
    rw [rnds, rnds_rl w hw s t (by omega), List.take_succ_eq_append_getElem hl, rl_append]
    have h1 : t < Kc.length := by rw [Kc_length]; omega
    have h2 : t < w.length := by omega
    rw [List.getElem_zip, List.getD_eq_getElem?_getD, List.getD_eq_getElem?_getD, List.getElem?_eq_getElem h1, List.getElem?_eq_getElem h2]
    rfl
def evalR (a b c d e f g h : Nat) : List (Nat × Nat) → St
  | [] => ⟨a, b, c, d, e, f, g, h⟩
  | p :: r => force (xv ⟨a, b, c, d, e, f, g, h⟩ p.1 p.2) fun x => force (yv ⟨a, b, c, d, e, f, g, h⟩) fun y => force ((x + y) % 4294967296) fun a' => force ((d + x) % 4294967296) fun e' => evalR a' a b c e' e f g r
theorem evalR_eq (a b c d e f g h : Nat) (l : List (Nat × Nat)) : evalR a b c d e f g h l = rl ⟨a, b, c, d, e, f, g, h⟩ l := by
  induction l generalizing a b c d e f g h with
  | nil => rfl
  | cons p l ih =>
    rw [evalR, force_eq, force_eq, force_eq, force_eq, ih]
    rfl
def evalW : Nat → List Nat → List Nat
  | 0, w => w
  | n + 1, w => force (wnext w w.length) fun x => evalW n (w ++ [x])
theorem evalW_eq (l : List UInt8) : ∀ (n t : Nat), 16 ≤ t → evalW n (ws l t) = ws l (t + n)
  | 0, _, _ => rfl
  | n + 1, t, h => by
    rw [evalW, force_eq, ws_length]
    have e : ws l t ++ [wnext (ws l t) t] = ws l (t + 1) := by rw [ws, if_neg (by omega)]
    rw [e, evalW_eq l n (t + 1) (by omega)]
    congr 1
    omega
/-- A block, by its words and what its rounds come to. -/
theorem stp_by (B : List UInt8) (s s1 s2 : St) (w16 w : List Nat) (h16 : ws B 16 = w16) (hw : evalW 48 w16 = w) (hl : w.length = 64) (hr : evalR s.a s.b s.c s.d s.e s.f s.g s.h ((Kc.zip w).take 64) = s1) (hp : plus s s1 = s2) : stp B s = s2 := by
  have e : ws B 64 = w := by
    have := evalW_eq B 48 16 (Nat.le_refl _)
    rw [h16, hw] at this
    exact this.symm
  have e2 : rnds w s 64 = s1 := by rw [rnds_rl w hl s 64 (Nat.le_refl _), ← hr, evalR_eq]
  rw [stp_eq _ _ _ rfl, e, e2, hp]
end Go.Proofs.YtdnpgmoiapkhnaaDoor
end

section
namespace Go.Proofs.YtdnpgmoiapkhnaaDoor

def pickb (c : Bool) (x : Nat) : Nat := match c with | true => x | false => 0
/-- x by a. -/
def xt (a : Nat) : Nat := (2 * a) % 256 ^^^ pickb (a.testBit 7) 27
/-- x to the power of i, by a. -/
def xp (a : Nat) : Nat → Nat
  | 0 => a
  | i + 1 => xt (xp a i)
/-- The first n bits of b, each times its power, by a. -/
def tmN (a b : Nat) : Nat → Nat
  | 0 => 0
  | i + 1 => tmN a b i ^^^ pickb (b.testBit i) (xp a i)
/-- The product. -/
def tm (a b : Nat) : Nat := tmN a b 8
theorem pickb_xor (c d : Bool) (x : Nat) : pickb (c ^^ d) x = pickb c x ^^^ pickb d x := by cases c <;> cases d <;> simp [pickb]
theorem xor4 (a b c d : Nat) : (a ^^^ b) ^^^ (c ^^^ d) = (a ^^^ c) ^^^ (b ^^^ d) := by
  rw [Nat.xor_assoc, Nat.xor_assoc, ← Nat.xor_assoc b, Nat.xor_comm b c, Nat.xor_assoc c]
theorem tmN_right (a b d : Nat) : ∀ n, tmN a (b ^^^ d) n = tmN a b n ^^^ tmN a d n
  | 0 => by simp [tmN]
  | n + 1 => by rw [tmN, tmN, tmN, tmN_right a b d n, Nat.testBit_xor, pickb_xor, xor4]
theorem tm_right (a b d : Nat) : tm a (b ^^^ d) = tm a b ^^^ tm a d := tmN_right a b d 8
theorem xor_lt256 {a b : Nat} (ha : a < 256) (hb : b < 256) : a ^^^ b < 256 := Nat.xor_lt_two_pow (n := 8) ha hb
theorem pickb_lt {n : Nat} (c : Bool) (x : Nat) (h0 : 0 < n) (h : x < n) : pickb c x < n := by cases c <;> simp [pickb, h0, h]
theorem two_xor (a c : Nat) : 2 * (a ^^^ c) = 2 * a ^^^ 2 * c := by
  have h := Nat.shiftLeft_xor_distrib (a := a) (b := c) (i := 1)
  simpa [Nat.shiftLeft_eq, Nat.mul_comm] using h
theorem xt_xor (a c : Nat) : xt (a ^^^ c) = xt a ^^^ xt c := by
  unfold xt
  rw [two_xor, Nat.testBit_xor, pickb_xor, show (256 : Nat) = 2 ^ 8 from rfl, Nat.xor_mod_two_pow, xor4]
theorem xt_lt (a : Nat) : xt a < 256 := xor_lt256 (Nat.mod_lt _ (by decide)) (pickb_lt _ _ (by decide) (by decide))
theorem xp_lt {a : Nat} (h : a < 256) : ∀ i, xp a i < 256
  | 0 => h
  | _ + 1 => xt_lt _
theorem xp_xor (a c : Nat) : ∀ i, xp (a ^^^ c) i = xp a i ^^^ xp c i
  | 0 => rfl
  | i + 1 => by rw [xp, xp, xp, xp_xor a c i, xt_xor]
theorem pickb_sum (c : Bool) (x y : Nat) : pickb c (x ^^^ y) = pickb c x ^^^ pickb c y := by cases c <;> simp [pickb]
theorem tmN_left (a c b : Nat) : ∀ n, tmN (a ^^^ c) b n = tmN a b n ^^^ tmN c b n
  | 0 => by simp [tmN]
  | n + 1 => by rw [tmN, tmN, tmN, tmN_left a c b n, xp_xor, pickb_sum, xor4]
theorem tm_left (a c b : Nat) : tm (a ^^^ c) b = tm a b ^^^ tm c b := tmN_left a c b 8
theorem tmN_lt {a : Nat} (h : a < 256) (b : Nat) : ∀ n, tmN a b n < 256
  | 0 => by simp [tmN]
  | n + 1 => by
    rw [tmN]
    exact xor_lt256 (tmN_lt h b n) (pickb_lt _ _ (by decide) (xp_lt h n))
theorem tm_lt {a : Nat} (h : a < 256) (b : Nat) : tm a b < 256 := tmN_lt h b 8
theorem tm_one : ∀ a, a < 256 → tm a 1 = a := by decide +kernel
theorem tm_zero (a : Nat) : tm a 0 = 0 := by simp [tm, tmN, pickb]
/-- A byte by its bits. -/
def bitsum (d : Nat) : Nat → Nat
  | 0 => 0
  | i + 1 => bitsum d i ^^^ pickb (d.testBit i) (2 ^ i)
theorem bitsum_eq : ∀ d, d < 256 → bitsum d 8 = d := by decide +kernel
theorem pow_lt256 {i : Nat} (h : i < 8) : 2 ^ i < 256 := Nat.lt_of_lt_of_le (Nat.pow_lt_pow_right (by decide) h) (by decide)
theorem bitsum_lt (d : Nat) : ∀ i, i ≤ 8 → bitsum d i < 256
  | 0, _ => by simp [bitsum]
  | i + 1, h => by
    rw [bitsum]
    exact xor_lt256 (bitsum_lt d i (by omega)) (pickb_lt _ _ (by decide) (pow_lt256 (by omega)))
/-- What goes over sums, and is the same at each bit, is the same. -/
theorem linear_eq {f g : Nat → Nat} (hf : ∀ x y, x < 256 → y < 256 → f (x ^^^ y) = f x ^^^ f y) (hg : ∀ x y, x < 256 → y < 256 → g (x ^^^ y) = g x ^^^ g y)
    (hb : ∀ i, i < 8 → f (2 ^ i) = g (2 ^ i)) (d : Nat) (hd : d < 256) : f d = g d := by
  have f0 : f 0 = 0 := by have := hf 0 0 (by decide) (by decide); simpa using this
  have g0 : g 0 = 0 := by have := hg 0 0 (by decide) (by decide); simpa using this
  have key : ∀ i, i ≤ 8 → f (bitsum d i) = g (bitsum d i) := by
    intro i
    induction i with
    | zero => intro _; rw [bitsum, f0, g0]
    | succ i ih =>
      intro hi
      have h1 := bitsum_lt d i (by omega)
      have h2 : pickb (d.testBit i) (2 ^ i) < 256 := pickb_lt _ _ (by decide) (pow_lt256 (by omega))
      rw [bitsum, hf _ _ h1 h2, hg _ _ h1 h2, ih (by omega)]
      congr 1
      cases d.testBit i
      · simp only [pickb]; rw [f0, g0]
      · simp only [pickb]; exact hb i (by omega)
  have := key 8 (Nat.le_refl _)
  rwa [bitsum_eq d hd] at this
theorem tm_comm_bits : ∀ i, i < 8 → ∀ j, j < 8 → tm (2 ^ i) (2 ^ j) = tm (2 ^ j) (2 ^ i) := by decide +kernel
theorem tm_comm {a b : Nat} (ha : a < 256) (hb : b < 256) : tm a b = tm b a := by
  refine linear_eq (f := fun b => tm a b) (g := fun b => tm b a) (fun x y _ _ => tm_right _ _ _) (fun x y _ _ => tm_left _ _ _) (fun j hj => ?_) b hb
  exact linear_eq (f := fun a => tm a (2 ^ j)) (g := fun a => tm (2 ^ j) a) (fun x y _ _ => tm_left _ _ _) (fun x y _ _ => tm_right _ _ _) (fun i hi => tm_comm_bits i hi j hj) a ha
theorem tm_bits : ∀ i, i < 8 → ∀ j, j < 8 → ∀ k, k < 8 → tm (2 ^ i) (tm (2 ^ j) (2 ^ k)) = tm (tm (2 ^ i) (2 ^ j)) (2 ^ k) := by decide +kernel
theorem tm_assoc {a b d : Nat} (ha : a < 256) (hb : b < 256) (hd : d < 256) : tm a (tm b d) = tm (tm a b) d := by
  refine linear_eq (f := fun d => tm a (tm b d)) (g := fun d => tm (tm a b) d) (fun x y _ _ => by simp only [tm_right]) (fun x y _ _ => tm_right _ _ _) (fun k hk => ?_) d hd
  refine linear_eq (f := fun b => tm a (tm b (2 ^ k))) (g := fun b => tm (tm a b) (2 ^ k)) (fun x y _ _ => by simp only [tm_left, tm_right]) (fun x y _ _ => by simp only [tm_right, tm_left]) (fun j hj => ?_) b hb
  exact linear_eq (f := fun a => tm a (tm (2 ^ j) (2 ^ k))) (g := fun a => tm (tm a (2 ^ j)) (2 ^ k)) (fun x y _ _ => tm_left _ _ _) (fun x y _ _ => by simp only [tm_left]) (fun i hi => tm_bits i hi j hj k hk) a ha

/-! ### Bytes -/
def mulB (a b : UInt8) : UInt8 := UInt8.ofNat (tm a.toNat b.toNat)
theorem mulB_nat (a b : UInt8) : (mulB a b).toNat = tm a.toNat b.toNat := by
  unfold mulB
  rw [UInt8.toNat_ofNat']
  exact Nat.mod_eq_of_lt (tm_lt a.toNat_lt _)
theorem mulB_comm (a b : UInt8) : mulB a b = mulB b a := UInt8.toNat_inj.1 (by rw [mulB_nat, mulB_nat]; exact tm_comm a.toNat_lt b.toNat_lt)
theorem mulB_right (a b d : UInt8) : mulB a (b ^^^ d) = mulB a b ^^^ mulB a d := UInt8.toNat_inj.1 (by rw [UInt8.toNat_xor, mulB_nat, mulB_nat, mulB_nat, UInt8.toNat_xor]; exact tm_right _ _ _)
theorem mulB_left (a c b : UInt8) : mulB (a ^^^ c) b = mulB a b ^^^ mulB c b := by rw [mulB_comm, mulB_right, mulB_comm b a, mulB_comm b c]
theorem mulB_assoc (a b d : UInt8) : mulB a (mulB b d) = mulB (mulB a b) d := UInt8.toNat_inj.1 (by rw [mulB_nat, mulB_nat, mulB_nat, mulB_nat]; exact tm_assoc a.toNat_lt b.toNat_lt d.toNat_lt)
theorem mulB_one (a : UInt8) : mulB a 1 = a := UInt8.toNat_inj.1 (by rw [mulB_nat]; exact tm_one _ a.toNat_lt)
theorem mulB_zero (a : UInt8) : mulB 0 a = 0 := by rw [mulB_comm]; exact UInt8.toNat_inj.1 (by rw [mulB_nat]; exact tm_zero _)
/-- Four columns' worth of a row, by four factors. -/
def dot (p q r s a b c d : UInt8) : UInt8 := ((mulB p a ^^^ mulB q b) ^^^ mulB r c) ^^^ mulB s d
theorem dot_mul (x p q r s a b c d : UInt8) : mulB x (dot p q r s a b c d) = dot (mulB x p) (mulB x q) (mulB x r) (mulB x s) a b c d := by
  unfold dot
  rw [mulB_right, mulB_right, mulB_right, mulB_assoc, mulB_assoc, mulB_assoc, mulB_assoc]
theorem xor8 (a b c d : UInt8) : (a ^^^ b) ^^^ (c ^^^ d) = (a ^^^ c) ^^^ (b ^^^ d) := by
  rw [UInt8.xor_assoc, UInt8.xor_assoc, ← UInt8.xor_assoc b, UInt8.xor_comm b c, UInt8.xor_assoc c]
theorem dot_add (p q r s p' q' r' s' a b c d : UInt8) : dot p q r s a b c d ^^^ dot p' q' r' s' a b c d = dot (p ^^^ p') (q ^^^ q') (r ^^^ r') (s ^^^ s') a b c d := by
  unfold dot
  rw [mulB_left, mulB_left, mulB_left, mulB_left, xor8 (mulB p a ^^^ mulB q b ^^^ mulB r c) (mulB s d), xor8 (mulB p a ^^^ mulB q b) (mulB r c), xor8 (mulB p a) (mulB q b)]
/-- Rows times rows: what the factors come to. -/
theorem dot_dot (x y z u p0 q0 r0 s0 p1 q1 r1 s1 p2 q2 r2 s2 p3 q3 r3 s3 a b c d : UInt8) :
    dot x y z u (dot p0 q0 r0 s0 a b c d) (dot p1 q1 r1 s1 a b c d) (dot p2 q2 r2 s2 a b c d) (dot p3 q3 r3 s3 a b c d) =
      dot (dot x y z u p0 p1 p2 p3) (dot x y z u q0 q1 q2 q3) (dot x y z u r0 r1 r2 r3) (dot x y z u s0 s1 s2 s3) a b c d := by
  have e : ∀ A B C D : UInt8, dot x y z u A B C D = ((mulB x A ^^^ mulB y B) ^^^ mulB z C) ^^^ mulB u D := fun _ _ _ _ => rfl
  rw [e (dot p0 q0 r0 s0 a b c d), dot_mul, dot_mul, dot_mul, dot_mul, dot_add, dot_add, dot_add]
  rfl
theorem dot_a (a b c d : UInt8) : dot 1 0 0 0 a b c d = a := by unfold dot; rw [mulB_comm 1, mulB_one, mulB_zero, mulB_zero, mulB_zero]; simp
theorem dot_b (a b c d : UInt8) : dot 0 1 0 0 a b c d = b := by unfold dot; rw [mulB_comm 1, mulB_one, mulB_zero, mulB_zero, mulB_zero]; simp
theorem dot_c (a b c d : UInt8) : dot 0 0 1 0 a b c d = c := by unfold dot; rw [mulB_comm 1, mulB_one, mulB_zero, mulB_zero, mulB_zero]; simp
theorem dot_d (a b c d : UInt8) : dot 0 0 0 1 a b c d = d := by unfold dot; rw [mulB_comm 1, mulB_one, mulB_zero, mulB_zero, mulB_zero]; simp
end Go.Proofs.YtdnpgmoiapkhnaaDoor
end
