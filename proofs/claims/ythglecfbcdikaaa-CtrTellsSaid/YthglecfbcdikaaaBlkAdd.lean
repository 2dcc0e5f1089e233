/- Contracts: a block, either or with a round key; its bytes through a table; by the program. -/
import Derived.Test.YthglecfbcdikaaaZero
import Derived.Test.YthglecfbcdikaaaAesL
import Derived.Laws.BitsAllLaws
import Derived.Deep.QuietTactic
import Derived.BigQuiet
import Derived.RegionTactic
import Derived.ChangeAlike
import Derived.BigRegion
import Derived.Outline
namespace Go.Proofs.Ythglecfbcdikaaa
open Go.RowKit

/-- The first j of the new ones, the others as they were. -/
def mixd (new old : List UInt8) (j : Nat) : List UInt8 := new.take j ++ old.drop j
section
variable {new old : List UInt8}
theorem mixd_zero : mixd new old 0 = old := by simp [mixd]
theorem mixd_all (h : new.length = 16) (ho : old.length = 16) : mixd new old 16 = new := by
  unfold mixd
  rw [List.take_of_length_le (by omega), List.drop_of_length_le (by omega), List.append_nil]
theorem mixd_length (h : new.length = 16) (ho : old.length = 16) (j : Nat) (hj : j ≤ 16) : (mixd new old j).length = 16 := by simp [mixd, h, ho]; omega
theorem mixd_at (h : new.length = 16) (j i : Nat) (hj : j ≤ 16) (hi : j ≤ i) : (mixd new old j)[i]? = old[i]? := by
  unfold mixd
  rw [List.getElem?_append_right (by simp [h]; omega), List.getElem?_drop, List.length_take, h, Nat.min_eq_left hj]
  congr 1; omega
theorem mixd_set (h : new.length = 16) (ho : old.length = 16) (j : Nat) (hj : j < 16) (b : UInt8) (hb : new[j]? = some b) : (mixd new old j).set j b = mixd new old (j + 1) := by
  unfold mixd
  have hg : new[j] = b := by rw [List.getElem?_eq_getElem (by omega)] at hb; simpa using hb
  rw [List.set_append_right _ _ (by simp [h]; omega), List.length_take, h, Nat.min_eq_left (by omega), Nat.sub_self, List.drop_eq_getElem_cons (by omega), List.set_cons_zero, List.take_succ_eq_append_getElem (by omega), hg, List.append_assoc]
  rfl
theorem row_mixd {w : World} {g : Nat} {t : TypeId} (h : new.length = 16) (ho : old.length = 16) (j : Nat) (hj : j < 16) (hr : Row w g t (mixd new old j)) (b : UInt8) (hb : new[j]? = some b) (x : Int) (hx : x = (b.toNat : Int)) :
    Row (w.setCell ⟨g, j, none⟩ (.int .u8 x)) g t (mixd new old (j + 1)) := by
  have hb2 := b.toNat_lt
  have h2 := hr.set_ j x (by omega) (by omega)
  have e : UInt8.ofNat x.toNat = b := by rw [hx]; simp
  rw [e, mixd_set h ho j hj b hb] at h2
  exact h2
end
/-- Block k holds, from o on, these bytes. -/
def Bytes (w : World) (k o : Nat) (l : List UInt8) : Prop := ∀ (i : Nat) (b : UInt8), l[i]? = some b → w.cell? ⟨k, o + i, none⟩ = some (.int .u8 (b.toNat : Int))
theorem Bytes.below {w w' : World} {k o B : Nat} {l : List UInt8} (h : Bytes w k o l) (hb : Below B w w') (hk : k < B) : Bytes w' k o l := fun i b hi => (hb.cell (p := ⟨k, o + i, none⟩) hk).trans (h i b hi)
theorem xor_nat8 (a b : UInt8) : bits BinOp.xor IntKind.u8 (a.toNat : Int) (b.toNat : Int) = ((a ^^^ b).toNat : Int) := by
  rw [u8_xor_nat _ _ a.toNat_lt b.toNat_lt, UInt8.toNat_xor]
set_option maxRecDepth 100000 in
set_option maxHeartbeats 1000000 in
theorem add_any (w : World) (g k o : Nat) (t : TypeId) (l key : List UInt8) (hr : Row w g t l) (hl : l.length = 16) (hk : key.length = 16) (hkb : Bytes w k o key) (hkg : k < g) :
    Calls Try.prog 39 #[.pointer (some ⟨g, 0, none⟩), .pointer (some ⟨k, o, none⟩)] w fun e w' => e = .returned (.tuple #[]) ∧ Below g w w' ∧ Row w' g t (addK key l) := by
  have HL := Lib.hid hl; have HK := Lib.hid hk; have HKB := Lib.hid hkb
  have HA := Lib.hid (addK_length hk hl)
  clear hl hk hkb
  go_enter Try.func39, Try.ntmps39
  go_wp2
  go_loopw [5] (fun i wr => ∃ j : Nat, j ≤ 16 ∧ i = .int .i64 j ∧ Row wr g t (mixd (addK key l) l j) ∧ Below g w wr) (fun i _ => 16 - (intOf i).toNat)
  case atStart => exact ⟨0, Nat.zero_le _, rfl, by rw [mixd_zero]; exact hr, Below.refl _ _⟩
  case round =>
    obtain ⟨j, hj, rfl, hrow, hb⟩ := hrel
    by_cases hlt : j < 16
    · obtain ⟨x, hx⟩ : ∃ x, l[j]? = some x := ⟨_, List.getElem?_eq_getElem (by rw [HL.out]; exact hlt)⟩
      obtain ⟨y, hy⟩ : ∃ y, key[j]? = some y := ⟨_, List.getElem?_eq_getElem (by rw [HK.out]; exact hlt)⟩
      have hn : (addK key l)[j]? = some (x ^^^ y) := by unfold addK; rw [List.getElem?_zipWith, hx, hy]
      have c1 := hrow.cell j x (by rw [mixd_at HA.out j j (by omega) (Nat.le_refl _)]; exact hx)
      have c2 := (HKB.out.below hb hkg) j y hy
      have f1 := hrow.frozen j
      have HS := Lib.hid (fun v hv => row_mixd HA.out HL.out j hlt hrow _ hn v hv)
      have hxor := xor_nat8 x y
      have HB := Lib.hid hb
      clear hx hy hn hrow hb
      generalize (x ^^^ y).toNat = z at *
      generalize x.toNat = xn at *
      generalize y.toNat = yn at *
      go_wp2
      go_region
      go_wp2
      go_roundw
      case rel => exact ⟨j + 1, by omega, by go_num, HS.out _ (by first | rfl | exact hxor), (HB.out.setCell (p := ⟨g, _, none⟩) (Nat.le_refl _) _).drew⟩
      case measure => simp [intOf]; omega
    · obtain rfl : j = 16 := by omega
      rw [mixd_all HA.out HL.out] at hrow
      have e16 : ((16 : Nat) : Int) = 16 := rfl
      rw [e16]
      clear e16
      go_wp2
      go_end0
      exact ⟨rfl, hb, hrow⟩
end Go.Proofs.Ythglecfbcdikaaa
