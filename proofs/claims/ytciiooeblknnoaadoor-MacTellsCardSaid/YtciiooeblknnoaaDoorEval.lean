/- Plain words: blocks of a text, reckoned. -/
import Derived.Test.YtciiooeblknnoaaDoorSha
import Derived.KernelRfl
namespace Go.Proofs.YtciiooeblknnoaaDoor
open Go.RowKit

/-- f of n, n reckoned first. -/
def force {α : Type} (n : Nat) (f : Nat → α) : α := match n with | 0 => f 0 | m + 1 => f (m + 1)
theorem force_eq {α : Type} (n : Nat) (f : Nat → α) : force n f = f n := by cases n <;> rfl
def rl (s : St) : List (Nat × Nat) → St
  | [] => s
  | p :: r => rl (rnd s p.1 p.2) r
theorem rl_append (s : St) (l r : List (Nat × Nat)) : rl s (l ++ r) = rl (rl s l) r := by
  induction l generalizing s with
  | nil => rfl
  | cons p l ih => exact ih _
theorem rnds_rl (w : List Nat) (hw : w.length = 64) (s : St) : ∀ t, t ≤ 64 → rnds w s t = rl s ((Kc.zip w).take t)
  | 0, _ => by simp [rnds, rl]
  | t + 1, h => by
    have hl : t < (Kc.zip w).length := by rw [List.length_zip, Kc_length, hw]; omega
    rw [rnds, rnds_rl w hw s t (by omega), List.take_succ_eq_append_getElem hl, rl_append]
    have h1 : t < Kc.length := by rw [Kc_length]; omega
    have h2 : t < w.length := by omega
    rw [List.getElem_zip, List.getD_eq_getElem?_getD, List.getD_eq_getElem?_getD, List.getElem?_eq_getElem h1, List.getElem?_eq_getElem h2]
    rfl
def evalR (a b c d e f g h : Nat) : List (Nat × Nat) → St
  | [] => ⟨a, b, c, d, e, f, g, h⟩
  | p :: r => force (xv ⟨a, b, c, d, e, f, g, h⟩ p.1 p.2) fun x => force (yv ⟨a, b, c, d, e, f, g, h⟩) fun y => force ((x + y) % 4294967296) fun a' => force ((d + x) % 4294967296) fun e' => evalR a' a b c e' e f g r
theorem evalR_eq (a b c d e f g h : Nat) (l : List (Nat × Nat)) : evalR a b c d e f g h l = rl ⟨a, b, c, d, e, f, g, h⟩ l := by
  induction l generalizing a b c d e f g h with
  | nil => rfl
  | cons p l ih =>
    rw [evalR, force_eq, force_eq, force_eq, force_eq, ih]
    rfl
def evalW : Nat → List Nat → List Nat
  | 0, w => w
  | n + 1, w => force (wnext w w.length) fun x => evalW n (w ++ [x])
theorem evalW_eq (l : List UInt8) : ∀ (n t : Nat), 16 ≤ t → evalW n (ws l t) = ws l (t + n)
  | 0, _, _ => rfl
  | n + 1, t, h => by
    rw [evalW, force_eq, ws_length]
    have e : ws l t ++ [wnext (ws l t) t] = ws l (t + 1) := by rw [ws, if_neg (by omega)]
    rw [e, evalW_eq l n (t + 1) (by omega)]
    congr 1
    omega
/-- A block, by its words and what its rounds come to. -/
theorem stp_by (B : List UInt8) (s s1 s2 : St) (w16 w : List Nat) (h16 : ws B 16 = w16) (hw : evalW 48 w16 = w) (hl : w.length = 64) (hr : evalR s.a s.b s.c s.d s.e s.f s.g s.h ((Kc.zip w).take 64) = s1) (hp : plus s s1 = s2) : stp B s = s2 := by
  have e : ws B 64 = w := by
    have := evalW_eq B 48 16 (Nat.le_refl _)
    rw [h16, hw] at this
    exact this.symm
  have e2 : rnds w s 64 = s1 := by rw [rnds_rl w hl s 64 (Nat.le_refl _), ← hr, evalR_eq]
  rw [stp_eq _ _ _ rfl, e, e2, hp]
end Go.Proofs.YtciiooeblknnoaaDoor
