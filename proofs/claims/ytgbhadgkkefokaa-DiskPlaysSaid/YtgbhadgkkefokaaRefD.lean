/- A disk as the document's answer keeps it: what was synced, and calls. -/
import Derived.Test.YtgbhadgkkefokaaCopied
import Derived.RegionTactic
import Derived.ChangeAlike
import Derived.BigRegion
import Derived.Deep.QuietTactic
import Derived.StillTailTactics
import Derived.Deep.RegionLaw
namespace Go.Proofs.Ytgbhadgkkefokaa
open Go.RowKit

theorem infoT : (Try.prog.info? 9).map (fun i => (i.zero, i.size, i.bytes)) = some (some (.string ⟨#[]⟩), 1, 16) := by kernel_rfl
theorem infoCa : (Try.prog.info? 63).map (fun i => (i.zero, i.size, i.bytes)) = some (some (.agg #[.int .i64 0, .bool false, .int .i64 0, .string ⟨#[]⟩]), 4, 40) := by kernel_rfl
/-- Texts of the first n files. -/
def txs (N : Fs) (n : Nat) : List Value := (List.range n).map fun i => Value.string (N i)
theorem txs_length (N : Fs) (n : Nat) : (txs N n).length = n := by simp [txs]
theorem txs_at (N : Fs) (n i : Nat) (h : i < n) : (txs N n)[i]? = some (.string (N i)) := by simp [txs, h]
theorem txs_one (N : Fs) (n : Nat) : ∀ u ∈ txs N n, u.oneCell' = true := fun u hu => by
  obtain ⟨_, _, rfl⟩ := List.mem_map.1 hu
  rfl
theorem txs_set (N : Fs) (n f : Nat) (x : ByteArray) : (txs N n).set f (.string x) = txs (upd N f x) n := by
  apply List.ext_getElem
  · simp [txs]
  · intro i h1 h2
    simp only [txs, List.getElem_set, List.getElem_map, List.getElem_range]
    by_cases e : f = i
    · subst e; simp [upd]
    · simp [e, Ne.symm e, upd]
/-- A call's cells. -/
def chgV : Chg → List Value
  | .wr f s => [.int .i64 (f : Int), .bool false, .int .i64 0, .string s]
  | .cut f n => [.int .i64 (f : Int), .bool true, .int .i64 (n : Int), .string ⟨#[]⟩]
theorem chgV_length (c : Chg) : (chgV c).length = 4 := by cases c <;> rfl
theorem chgV_one (c : Chg) : ∀ u ∈ chgV c, u.oneCell' = true := by
  intro u hu
  cases c <;> (simp [chgV] at hu; rcases hu with rfl | rfl | rfl | rfl <;> rfl)
def chgsV (L : List Chg) : List Value := L.flatMap chgV
theorem chgsV_length (L : List Chg) : (chgsV L).length = L.length * 4 := by
  induction L with
  | nil => rfl
  | cons c r ih => simp only [chgsV, List.flatMap_cons, List.length_append, List.length_cons, chgV_length] at ih ⊢; omega
theorem chgsV_snoc (L : List Chg) (c : Chg) : chgsV (L ++ [c]) = chgsV L ++ chgV c := by simp [chgsV]
theorem chgsV_one (L : List Chg) : ∀ u ∈ chgsV L, u.oneCell' = true := by
  intro u hu
  obtain ⟨c, _, h⟩ := List.mem_flatMap.1 hu
  exact chgV_one c u h
theorem chgsV_at : ∀ (L : List Chg) (j k : Nat) (c : Chg), L[j]? = some c → k < 4 → (chgsV L)[j * 4 + k]? = (chgV c)[k]?
  | [], j, k, c, h, _ => by simp at h
  | a :: r, 0, k, c, h, hk => by
    simp at h; subst h
    unfold chgsV
    rw [List.flatMap_cons, List.getElem?_append_left (by rw [chgV_length]; omega)]
    congr 1; omega
  | a :: r, j + 1, k, c, h, hk => by
    have ih := chgsV_at r j k c (by simpa using h) hk
    unfold chgsV at ih ⊢
    rw [List.flatMap_cons, List.getElem?_append_right (by rw [chgV_length]; omega), chgV_length, ← ih]
    congr 1; omega
/-- Block r is a disk of the document's answer. -/
structure IsX (w : World) (r : Nat) (κ : Foot) (d : DS) : Prop where
  lay : ∃ sp sc lp lc, Blk w r 60 [.slice sp d.m sc, .slice lp d.L.length lc, .int .i64 (d.room : Int), .int .i64 d.fuse] ∧ Sl w κ 3 1 9 sp d.m sc (txs d.S d.m) ∧ Sl w κ 4 4 63 lp d.L.length lc (chgsV d.L)
  disk : κ r = 2
  ins : ∀ g, κ g ≠ 0 → g < w.heap.size
  ok : d.Ok
section
variable {w w' : World} {r : Nat} {κ : Foot} {d : DS}
theorem IsX.keep (h : IsX w r κ d) (hb : ∀ g, g < w.heap.size → κ g ≠ 0 → w'.heap[g]? = w.heap[g]?) (hs : w.heap.size ≤ w'.heap.size) : IsX w' r κ d := by
  obtain ⟨sp, sc, lp, lc, h1, h2, h3⟩ := h.lay
  exact ⟨⟨sp, sc, lp, lc, (hb r h1.lt (by rw [h.disk]; decide)).trans h1, h2.same (fun g hg e => hb g hg (by omega)) (fun _ _ e => e), h3.same (fun g hg e => hb g hg (by omega)) (fun _ _ e => e)⟩, h.disk, fun g hg => Nat.lt_of_lt_of_le (h.ins g hg) hs, h.ok⟩
theorem IsX.ext (h : IsX w r κ d) (hx : Ext w w') : IsX w' r κ d := h.keep (fun g hg _ => hx.block g hg) hx.size
theorem IsX.drewN (h : IsX w r κ d) (n : Nat) : IsX (w.drewN n) r κ d := h.ext ((Ext.refl w).drewN n)
theorem IsX.apart {κ2 κ2' : Foot} (h : IsX w r κ d) (f : Fr κ2 (2 ≤ ·) w w' κ2') (ha : ∀ g, κ g ≠ 0 → κ2 g ≤ 1) : IsX w' r κ d :=
  h.keep (fun g hg hk => f.other g hg (by have := ha g hk; omega)) f.size
theorem IsX.lt (h : IsX w r κ d) : r < w.heap.size := by
  obtain ⟨sp, sc, lp, lc, h1, h2, h3⟩ := h.lay
  exact h1.lt
end
/-- What a call on it leaves. -/
def PostX (w : World) (r : Nat) (κ : Foot) (w' : World) (d : DS) : Prop := ∃ κ', IsX w' r κ' d ∧ Fr κ (2 ≤ ·) w w' κ'
end Go.Proofs.Ytgbhadgkkefokaa
