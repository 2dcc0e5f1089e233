/- A cipher in memory; what a block becomes, round by round. -/
import Derived.Test.YthglecfbcdikaaaBoxes
import Derived.Test.YthglecfbcdikaaaBlkMix
import Derived.Test.YthglecfbcdikaaaCopyT
namespace Go.Proofs.Ythglecfbcdikaaa
open Go.RowKit

def cipherL (key : List UInt8) : List UInt8 := boxesL ++ expand key 40
/-- Block c is the cipher of a key. -/
structure IsCipher (w : World) (c : Nat) (key : List UInt8) : Prop where
  size : key.length = 16
  blk : Blk w c 57 ([.bool true] ++ (cipherL key).map cellOf)
section
variable {w w' : World} {c : Nat} {key : List UInt8}
theorem IsCipher.lt (h : IsCipher w c key) : c < w.heap.size := h.blk.lt
theorem IsCipher.below {B : Nat} (h : IsCipher w c key) (hb : Below B w w') (hc : c < B) : IsCipher w' c key := ⟨h.size, h.blk.below hb hc⟩
theorem IsCipher.ext (h : IsCipher w c key) (hb : Ext w w') : IsCipher w' c key := h.below hb h.lt
theorem IsCipher.made (h : IsCipher w c key) : w.cell? ⟨c, 0, none⟩ = some (.bool true) := h.blk.cell 0 _ rfl
theorem IsCipher.at_ (h : IsCipher w c key) (i : Nat) (b : UInt8) (hb : (cipherL key)[i]? = some b) : w.cell? ⟨c, 1 + i, none⟩ = some (.int .u8 (b.toNat : Int)) := by
  apply h.blk.cell
  rw [List.getElem?_append_right (by simp)]
  simp [hb, cellOf]
theorem IsCipher.box (h : IsCipher w c key) : Bytes w c 1 boxT := fun i b hi => by
  have hl : i < boxT.length := (List.getElem?_eq_some_iff.1 hi).1
  rw [boxT_length] at hl
  have e := boxesL_at i hl
  rw [boxT_at i hl] at hi
  apply h.at_
  unfold cipherL
  rw [List.getElem?_append_left (by rw [boxesL_length]; omega), e, hi]
theorem IsCipher.unbox (h : IsCipher w c key) : Bytes w c 257 unboxT := fun i b hi => by
  have hl : i < unboxT.length := (List.getElem?_eq_some_iff.1 hi).1
  rw [unboxT_length] at hl
  have e := boxesL_un i hl
  rw [unboxT_at i hl] at hi
  have := h.at_ (256 + i) b (by unfold cipherL; rw [List.getElem?_append_left (by rw [boxesL_length]; omega), e, hi])
  rw [show 257 + i = 1 + (256 + i) by omega]
  exact this
theorem IsCipher.rk (h : IsCipher w c key) (n : Nat) (hn : n ≤ 10) : Bytes w c (513 + 16 * n) (rkey key n) := fun i b hi => by
  have hl : i < (rkey key n).length := (List.getElem?_eq_some_iff.1 hi).1
  rw [rkey_length h.size n hn] at hl
  unfold rkey at hi
  rw [List.getElem?_take, if_pos hl, List.getElem?_drop] at hi
  have := h.at_ (512 + (16 * n + i)) b (by unfold cipherL; rw [List.getElem?_append_right (by rw [boxesL_length]; omega), boxesL_length, Nat.add_sub_cancel_left, hi])
  rw [show 513 + 16 * n + i = 1 + (512 + (16 * n + i)) by omega]
  exact this
end
theorem boxT_byte (b : UInt8) : boxT[b.toNat]? = some (boxB b) := by rw [boxT_at _ b.toNat_lt, UInt8.ofNat_toNat]
theorem unboxT_byte (b : UInt8) : unboxT[b.toNat]? = some (unboxB b) := by rw [unboxT_at _ b.toNat_lt, UInt8.ofNat_toNat]
theorem sub_all (b : List UInt8) (h : b.length = 16) : shL (b.map boxB) = subShift b := shL_sub h
section
variable (K : Nat → List UInt8)
/-- A block behind i rounds. -/
def encS (l : List UInt8) : Nat → List UInt8
  | 0 => addK (K 0) l
  | i + 1 => addK (K (i + 1)) (if i + 1 < 10 then mixC (subShift (encS l i)) else subShift (encS l i))
theorem encS_lt (l : List UInt8) : ∀ i, i < 10 → encS K l i = encN K l i
  | 0, _ => rfl
  | i + 1, h => by rw [encS, if_pos h, encS_lt l i (by omega), encN]
theorem encS_all (l : List UInt8) : encS K l 10 = enc K l := by
  rw [show 10 = 9 + 1 from rfl, encS, if_neg (by omega), encS_lt K l 9 (by omega)]; rfl
/-- Back, i rounds. -/
def decS (x : List UInt8) : Nat → List UInt8
  | 0 => x
  | i + 1 => unSubShift (if i = 0 then addK (K 10) x else unmixC (addK (K (10 - i)) (decS x i)))
theorem decS_all (x : List UInt8) : addK (K 0) (decS K x 10) = dec K x := by
  have h1 : decS K x 1 = unSubShift (addK (K 10) x) := rfl
  have hs : ∀ i, decS K x (i + 2) = unSubShift (unmixC (addK (K (10 - (i + 1))) (decS K x (i + 1)))) := fun _ => rfl
  have key : ∀ n i, n + i = 9 → decN K (decS K x (i + 1)) n = addK (K 0) (decS K x 10) := by
    intro n
    induction n with
    | zero => intro i hi; obtain rfl : i = 9 := by omega
              rfl
    | succ n ih =>
      intro i hi
      rw [decN, ← ih (i + 1) (by omega), hs, show 10 - (i + 1) = n + 1 by omega]
  unfold dec
  rw [← h1, key 9 0 rfl]
variable {K}
theorem encS_length (hK : ∀ n, n ≤ 10 → (K n).length = 16) {l : List UInt8} (h : l.length = 16) : ∀ i, i ≤ 10 → (encS K l i).length = 16
  | 0, _ => addK_length (hK 0 (by omega)) h
  | i + 1, hi => addK_length (hK _ hi) (by split; exact mixC_length _; exact subShift_length _)
theorem decS_length {x : List UInt8} (h : x.length = 16) : ∀ i, (decS K x i).length = 16
  | 0 => h
  | _ + 1 => unSubShift_length _
end
theorem encS_zero (K : Nat → List UInt8) (l : List UInt8) : encS K l 0 = addK (K 0) l := rfl
theorem encS_mid (K : Nat → List UInt8) (l : List UInt8) (i : Nat) (h : i + 1 < 10) : encS K l (i + 1) = addK (K (i + 1)) (mixC (subShift (encS K l i))) := by rw [encS, if_pos h]
theorem encS_last (K : Nat → List UInt8) (l : List UInt8) : encS K l 10 = addK (K 10) (subShift (encS K l 9)) := by rw [show 10 = 9 + 1 from rfl, encS, if_neg (by omega)]
theorem decS_zero (K : Nat → List UInt8) (x : List UInt8) : decS K x 0 = x := rfl
theorem decS_one (K : Nat → List UInt8) (x : List UInt8) : decS K x 1 = unSubShift (addK (K 10) (decS K x 0)) := rfl
theorem decS_more (K : Nat → List UInt8) (x : List UInt8) (i : Nat) (h : 0 < i) : decS K x (i + 1) = unSubShift (unmixC (addK (K (10 - i)) (decS K x i))) := by rw [decS, if_neg (by omega)]
attribute [irreducible] encS decS cipherL
theorem cthere_any (w : World) (c : Nat) (key : List UInt8) (h : IsCipher w c key) :
    Calls Try.prog 38 #[.pointer (some ⟨c, 0, none⟩)] w fun e w' => e = .returned (.bool true) ∧ w = w' := by
  have hm := h.made
  clear h
  go_enter Try.func38, Try.ntmps38
  go_wp2
  go_ret
  exact ⟨rfl, rfl⟩
theorem cthere_none (w : World) :
    Calls Try.prog 38 #[.pointer none] w fun e w' => e = .returned (.bool false) ∧ w = w' := by
  go_enter Try.func38, Try.ntmps38
  go_wp2
  go_ret
  exact ⟨rfl, rfl⟩
end Go.Proofs.Ythglecfbcdikaaa
