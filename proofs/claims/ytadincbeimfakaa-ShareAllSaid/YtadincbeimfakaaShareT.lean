/- Plain: rows of shares, byte by byte. -/
import Derived.Test.YtadincbeimfakaaShareM
import Derived.Test.YtadincbeimfakaaTextsOf
import Derived.Test.YtadincbeimfakaaShareRead
namespace Go.Proofs.Ytadincbeimfakaa
open Go.RowKit
attribute [local irreducible] xorL xorAll

theorem textsOf_size (l : List ByteArray) (n : Nat) : ∀ s ∈ textsOf l n, s.size = n := by
  intro s hs
  obtain ⟨t, _, rfl⟩ := List.mem_map.1 hs
  rw [txt_size, fullN_length]
theorem shareT_size (i n : Nat) (s : ByteArray) : (shareT i n s).size = s.size + 2 := by
  unfold shareT
  rw [txt_size, List.length_cons, List.length_cons, size_list]
theorem shareT_rest (i n : Nat) (s : ByteArray) : (shareT i n s).extract 2 (shareT i n s).size = s := by
  rw [shareT_size]
  apply ByteArray.ext
  simp [shareT]
  rw [List.take_of_length_le (by rw [size_list]; exact Nat.le_refl _)]
theorem shareT_of (i n : Nat) (s : ByteArray) (h1 : 1 ≤ i) (h2 : i ≤ n) (h3 : n ≤ 16) (h4 : 1 ≤ s.size) (h5 : s.size ≤ 64) : ShareOf (shareT i n s) i n := by
  refine ⟨by rw [shareT_size]; omega, by rw [shareT_size]; omega, by omega, h3, h1, h2, UInt8.ofNat i, UInt8.ofNat n, rfl, rfl, ?_, ?_⟩
  · rw [UInt8.toNat_ofNat']; omega
  · rw [UInt8.toNat_ofNat']; omega
theorem splitT_all (secret : ByteArray) (l : List ByteArray) : splitT secret l = sharesT (l.length + 1) (allT secret l) := by
  unfold splitT allT sharesT lastT
  rw [List.mapIdx_append]
  simp
theorem splitT_get (secret : ByteArray) (l : List ByteArray) (j : Nat) (s : ByteArray) (h : (allT secret l)[j]? = some s) : (splitT secret l)[j]? = some (shareT (j + 1) (l.length + 1) s) := by
  rw [splitT_all]
  simp [sharesT, h]
theorem splitT_length (secret : ByteArray) (l : List ByteArray) : (splitT secret l).length = l.length + 1 := by simp [splitT, sharesT_length]
end Go.Proofs.Ytadincbeimfakaa
