/- Plain: rows of what each bit does, as cells. No function of the program is named here. -/
import Derived.Test.YtnecafoickjleaaRCrc
import Derived.Test.YtnecafoickjleaaBlk
import Derived.Laws.Rows
import Derived.Laws.Tables
namespace Go.Proofs.Ytnecafoickjleaa
open Go.RowKit

/-- What each bit does, as cells. -/
def tab (F : BitVec 32 → BitVec 32) : List Value := (List.range 32).map fun i => w32 (F (1#32 <<< i))
theorem tab_length (F : BitVec 32 → BitVec 32) : (tab F).length = 32 := by simp [tab]
theorem tab_at (F : BitVec 32 → BitVec 32) (i : Nat) (hi : i < 32) : (tab F)[i]? = some (.int .u32 ((F (1#32 <<< i)).toNat : Int)) := by
  simp [tab, hi, w32]
theorem tab_congr {F G : BitVec 32 → BitVec 32} (h : ∀ c, F c = G c) : tab F = tab G := by
  have : F = G := funext h
  rw [this]
/-- The first j of the new ones, the others as they were. -/
def mixV (new old : List Value) (j : Nat) : List Value := new.take j ++ old.drop j
section
variable {new old : List Value}
theorem mixV_zero : mixV new old 0 = old := by simp [mixV]
theorem mixV_all (h : new.length = 32) (ho : old.length = 32) : mixV new old 32 = new := by
  unfold mixV
  rw [List.take_of_length_le (by omega), List.drop_of_length_le (by omega), List.append_nil]
theorem mixV_length (h : new.length = 32) (ho : old.length = 32) (j : Nat) (hj : j ≤ 32) : (mixV new old j).length = 32 := by simp [mixV, h, ho]; omega
theorem mixV_at (h : new.length = 32) (j i : Nat) (hj : j ≤ 32) (hi : j ≤ i) : (mixV new old j)[i]? = old[i]? := by
  unfold mixV
  rw [List.getElem?_append_right (by simp [h]; omega), List.getElem?_drop, List.length_take, h, Nat.min_eq_left hj]
  congr 1; omega
theorem mixV_set (h : new.length = 32) (ho : old.length = 32) (j : Nat) (hj : j < 32) (b : Value) (hb : new[j]? = some b) : (mixV new old j).set j b = mixV new old (j + 1) := by
  unfold mixV
  have hg : new[j] = b := by rw [List.getElem?_eq_getElem (by omega)] at hb; simpa using hb
  rw [List.set_append_right _ _ (by simp [h]; omega), List.length_take, h, Nat.min_eq_left (by omega), Nat.sub_self, List.drop_eq_getElem_cons (by omega), List.set_cons_zero, List.take_succ_eq_append_getElem (by omega), hg, List.append_assoc]
  rfl
theorem blk_mixV {w : World} {g : Nat} {t : TypeId} (h : new.length = 32) (ho : old.length = 32) (j : Nat) (hj : j < 32) (hr : Blk w g t (mixV new old j)) (b : Value) (hb : new[j]? = some b) :
    Blk (w.setCell ⟨g, j, none⟩ b) g t (mixV new old (j + 1)) := by
  have h2 := hr.set_ j b
  rwa [mixV_set h ho j hj b hb] at h2
end
theorem tab_one (F : BitVec 32 → BitVec 32) : ((tab F).toArray).all (·.oneCell') = true := by
  rw [Array.all_eq_true_iff_forall_mem]
  intro v hv
  simp only [tab, List.mem_toArray, List.mem_map] at hv
  obtain ⟨n, _, rfl⟩ := hv
  rfl
/-- Cells of nothing. -/
def z32 : List Value := List.replicate 32 (.int .u32 0)
theorem z32_length : z32.length = 32 := rfl
theorem z32_at (i : Nat) (hi : i < 32) : z32[i]? = some (.int .u32 0) := List.getElem?_replicate_of_lt hi
end Go.Proofs.Ytnecafoickjleaa
