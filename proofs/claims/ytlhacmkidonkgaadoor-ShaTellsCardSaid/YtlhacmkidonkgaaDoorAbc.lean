/- Plain words: the document's example, reckoned. -/
import Derived.Test.YtlhacmkidonkgaaDoorSha
import Derived.KernelRfl
namespace Go.Proofs.YtlhacmkidonkgaaDoor
open Go.RowKit

/-- f of n, n reckoned first. -/
def force {α : Type} (n : Nat) (f : Nat → α) : α := match n with | 0 => f 0 | m + 1 => f (m + 1)
theorem force_eq {α : Type} (n : Nat) (f : Nat → α) : force n f = f n := by cases n <;> rfl
def rl (s : St) : List (Nat × Nat) → St
  | [] => s
  | p :: r => rl (rnd s p.1 p.2) r
theorem rl_append (s : St) (l r : List (Nat × Nat)) : rl s (l ++ r) = rl (rl s l) r := by
  induction l generalizing s with
  | nil => rfl
  | cons p l ih => exact ih _
theorem rnds_rl (w : List Nat) (hw : w.length = 64) (s : St) : ∀ t, t ≤ 64 → rnds w s t = rl s ((Kc.zip w).take t)
  | 0, _ => by simp [rnds, rl]
  | t + 1, h => by
    have hl : t < (Kc.zip w).length := by rw [List.length_zip, Kc_length, hw]; omega
    rw [rnds, rnds_rl w hw s t (by omega), List.take_succ_eq_append_getElem hl, rl_append]
    have h1 : t < Kc.length := by rw [Kc_length]; omega
    have h2 : t < w.length := by omega
    rw [List.getElem_zip, List.getD_eq_getElem?_getD, List.getD_eq_getElem?_getD, List.getElem?_eq_getElem h1, List.getElem?_eq_getElem h2]
    rfl
def evalR (a b c d e f g h : Nat) : List (Nat × Nat) → St
  | [] => ⟨a, b, c, d, e, f, g, h⟩
  | p :: r => force (xv ⟨a, b, c, d, e, f, g, h⟩ p.1 p.2) fun x => force (yv ⟨a, b, c, d, e, f, g, h⟩) fun y => force ((x + y) % 4294967296) fun a' => force ((d + x) % 4294967296) fun e' => evalR a' a b c e' e f g r
theorem evalR_eq (a b c d e f g h : Nat) (l : List (Nat × Nat)) : evalR a b c d e f g h l = rl ⟨a, b, c, d, e, f, g, h⟩ l := by
  induction l generalizing a b c d e f g h with
  | nil => rfl
  | cons p l ih =>
    rw [evalR, force_eq, force_eq, force_eq, force_eq, ih]
    rfl
def evalW : Nat → List Nat → List Nat
  | 0, w => w
  | n + 1, w => force (wnext w w.length) fun x => evalW n (w ++ [x])
theorem evalW_eq (l : List UInt8) : ∀ (n t : Nat), 16 ≤ t → evalW n (ws l t) = ws l (t + n)
  | 0, _, _ => rfl
  | n + 1, t, h => by
    rw [evalW, force_eq, ws_length]
    have e : ws l t ++ [wnext (ws l t) t] = ws l (t + 1) := by rw [ws, if_neg (by omega)]
    rw [e, evalW_eq l n (t + 1) (by omega)]
    congr 1
    omega
def abc : List UInt8 := [97, 98, 99]
def abcW : List Nat := [1633837952, 0, 0, 0, 0, 0, 0, 0, 0, 0, 0, 0, 0, 0, 0, 24, 1633837952, 983040, 2108187653, 1610613702, 1050508152, 25426944, 316456923, 3806512014, 3357629466, 3073800610, 3854317833, 845560923, 2636160359, 3968280267, 1881225380, 3552024379, 2482346367, 996719219, 2952069057, 4043988066, 176896406, 1924104970, 2483675966, 610538786, 2672279444, 4037431130, 1042573945, 657669027, 206005234, 2215296807, 2049510749, 106709978, 4215179723, 3430291419, 3118885940, 2845390439, 2226839261, 3256115900, 344409900, 2987358873, 4015503821, 3957764664, 2682456414, 2025622859, 2755645205, 1720397816, 4004225740, 313650667]
theorem abc_pad : abc ++ tailOf abc.length = [97, 98, 99, 128] ++ List.replicate 52 0 ++ [0, 0, 0, 0, 0, 0, 0, 24] := by decide
theorem abc_16 : ws (abc ++ tailOf abc.length) 16 = abcW.take 16 := by rw [abc_pad]; decide +kernel
theorem abc_64 : ws (abc ++ tailOf abc.length) 64 = abcW := by
  have := evalW_eq (abc ++ tailOf abc.length) 48 16 (Nat.le_refl _)
  rw [abc_16] at this
  rw [← this]
  decide +kernel
theorem abc_len : (abc ++ tailOf abc.length).length = 64 := by rw [abc_pad]; decide
theorem abc_st : evalR init.a init.b init.c init.d init.e init.f init.g init.h ((Kc.zip abcW).take 64) = ⟨1349398616, 3550093669, 80891244, 3093179625, 1593118500, 4212265488, 2492278198, 2518632596⟩ := by kernel_rfl
theorem shaL_abc : shaL abc = [186, 120, 22, 191, 143, 1, 207, 234, 65, 65, 64, 222, 93, 174, 34, 35, 176, 3, 97, 163, 150, 23, 122, 156, 180, 16, 255, 97, 242, 0, 21, 173] := by
  have e1 : shaL abc = txt (stp (abc ++ tailOf abc.length) init) := by
    unfold shaL
    have e : (abc.length + zeros abc.length + 9) / 64 = 0 + 1 := by decide
    rw [e, folds_succ, folds_zero, List.take_of_length_le (by rw [abc_len]; exact Nat.le_refl _)]
  have e2 : rnds abcW init 64 = ⟨1349398616, 3550093669, 80891244, 3093179625, 1593118500, 4212265488, 2492278198, 2518632596⟩ := by
    rw [rnds_rl abcW (by decide) init 64 (Nat.le_refl _), ← abc_st, evalR_eq]
  rw [e1, stp_eq _ _ _ rfl, abc_64, e2]
  decide +kernel
end Go.Proofs.YtlhacmkidonkgaaDoor
