/- What the program's Turn gives, as a text. -/
import Derived.Test.YthglecfbcdikaaaCtrTurn
namespace Go.Proofs.Ythglecfbcdikaaa
open Go.RowKit
attribute [local irreducible] rkey expand enc dec ctrB ctrC ctrL xorL turnL

/-- What the program's Turn gives. -/
def TurnsTo (K P : ByteArray) (f : Nat) (S X : ByteArray) : Prop :=
  ∀ u, Calls Try.prog 11 #[.string K, .string P, .int .u32 (f : Int), .string S] u fun e w' => e = .returned (.tuple #[.string X, .int .i64 0]) ∧ Ext u w'
theorem TurnsTo.out {K P : ByteArray} {f : Nat} {S X : ByteArray} (h : TurnsTo K P f S X) (u : World) :
    Calls Try.prog 11 #[.string K, .string P, .int .u32 (f : Int), .string S] u fun e w' => e = .returned (.tuple #[.string X, .int .i64 0]) ∧ Ext u w' := h u
/-- The text that it gives. -/
def turnT (K P : ByteArray) (f : Nat) (S : ByteArray) : ByteArray := ⟨(turnL K.data.toList P.data.toList f S.data.toList).toArray⟩
theorem turnT_to (K P : ByteArray) (f : Nat) (S : ByteArray) (hK : K.size = 16) (hP : P.size = 12) (hs : S.size ≤ 1048576) (hf : f + blocksOf S.size ≤ 4294967296) (hfl : f < 4294967296) : TurnsTo K P f S (turnT K P f S) :=
  fun u => turn_yes K P S f hK hP hs hfl hf u
theorem turnT_size (K P : ByteArray) (f : Nat) (S : ByteArray) (hK : K.size = 16) : (turnT K P f S).size = S.size := by
  unfold turnT; rw [txt_size, turnL_length (by rw [size_list]; exact hK), size_list]
theorem turnT_twice (K P : ByteArray) (f : Nat) (S : ByteArray) (hK : K.size = 16) : turnT K P f (turnT K P f S) = S := by
  have h := turnL_twice (key := K.data.toList) (by rw [size_list]; exact hK) P.data.toList f S.data.toList
  unfold turnT
  exact congrArg (fun l : List UInt8 => (⟨l.toArray⟩ : ByteArray)) h
theorem turnT_two (K P : ByteArray) (f : Nat) (L Q : ByteArray) (o : Nat) (S : ByteArray) (hK : K.size = 16) (hL : L.size = 16) : turnT L Q o (turnT K P f S) = turnT K P f (turnT L Q o S) := by
  have h := turnL_two (key := K.data.toList) (by rw [size_list]; exact hK) P.data.toList f S.data.toList (l := L.data.toList) (by rw [size_list]; exact hL) Q.data.toList o
  unfold turnT
  exact congrArg (fun l : List UInt8 => (⟨l.toArray⟩ : ByteArray)) h
theorem turnT_cut (K P : ByteArray) (f : Nat) (S : ByteArray) (hK : K.size = 16) (k : Nat) (hk : 16 * k ≤ S.size) : turnT K P f (S.extract 0 (16 * k)) ++ turnT K P (f + k) (S.extract (16 * k) S.size) = turnT K P f S := by
  have h := turnL_cut (key := K.data.toList) (by rw [size_list]; exact hK) P.data.toList f S.data.toList k (by rw [size_list]; exact hk)
  have e1 : (S.extract 0 (16 * k)).data.toList = S.data.toList.take (16 * k) := by rw [Lib.extract_data]; simp
  have e2 : (S.extract (16 * k) S.size).data.toList = S.data.toList.drop (16 * k) := by
    rw [Lib.extract_data]
    exact List.take_of_length_le (by rw [List.length_drop, size_list]; exact Nat.le_refl _)
  unfold turnT
  rw [e1, e2, str_append, h]
theorem turnT_zero (K P : ByteArray) (f n : Nat) (hK : K.size = 16) : turnT K P f ⟨(List.replicate n 0).toArray⟩ = ⟨(ctrL K.data.toList P.data.toList f n).toArray⟩ := by
  have h := turnL_zero (key := K.data.toList) (by rw [size_list]; exact hK) P.data.toList f n
  unfold turnT
  exact congrArg (fun l : List UInt8 => (⟨l.toArray⟩ : ByteArray)) h
end Go.Proofs.Ythglecfbcdikaaa
