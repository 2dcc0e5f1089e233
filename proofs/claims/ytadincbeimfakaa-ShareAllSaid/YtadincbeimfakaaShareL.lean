/- What the shares of a secret are. -/
import Derived.Test.YtadincbeimfakaaTxt
import Derived.Test.YtadincbeimfakaaXor
namespace Go.Proofs.Ytadincbeimfakaa
open Go.RowKit

/-- A share's bytes. -/
def shareT (i n : Nat) (s : ByteArray) : ByteArray := ⟨(UInt8.ofNat i :: UInt8.ofNat n :: s.data.toList).toArray⟩
/-- The bytes of the shares that texts are. -/
def sharesT (n : Nat) (l : List ByteArray) : List ByteArray := l.mapIdx fun i s => shareT (i + 1) n s
theorem sharesT_length (n : Nat) (l : List ByteArray) : (sharesT n l).length = l.length := by simp [sharesT]
theorem sharesT_take (n : Nat) (l : List ByteArray) (j : Nat) (s : ByteArray) (h : l[j]? = some s) : (sharesT n l).take (j + 1) = (sharesT n l).take j ++ [shareT (j + 1) n s] := by
  rw [List.take_add_one]
  congr 1
  simp [sharesT, h]
/-- A text, either or all of them. -/
def xorAll (s : List UInt8) (l : List ByteArray) : List UInt8 := l.foldl (fun a b => xorL a b.data.toList) s
theorem xorAll_step (s : List UInt8) (l : List ByteArray) (j : Nat) (b : ByteArray) (h : l[j]? = some b) : xorAll s (l.take (j + 1)) = xorL (xorAll s (l.take j)) b.data.toList := by
  unfold xorAll
  rw [List.take_add_one, h]
  simp
theorem xorAll_length {n : Nat} : ∀ (l : List ByteArray) (s : List UInt8), s.length = n → (∀ b, b ∈ l → b.size = n) → (xorAll s l).length = n
  | [], _, h, _ => h
  | b :: r, s, h, hl => by
    have e : (xorL s b.data.toList).length = n := by unfold xorL; rw [List.length_zipWith, h, size_list, hl b (by simp)]; omega
    exact xorAll_length r _ e (fun c hc => hl c (by simp [hc]))
/-- The shares of a secret by texts. -/
def splitT (secret : ByteArray) (l : List ByteArray) : List ByteArray := sharesT (l.length + 1) l ++ [shareT (l.length + 1) (l.length + 1) ⟨(xorAll secret.data.toList l).toArray⟩]
theorem share_cat (i n : Nat) (x y : UInt8) (s : ByteArray) (hx : x = UInt8.ofNat i) (hy : y = UInt8.ofNat n) : (⟨#[x, y]⟩ : ByteArray) ++ s = shareT i n s := by
  subst hx hy
  unfold shareT
  apply ByteArray.ext
  rw [ByteArray.data_append]
  simp
end Go.Proofs.Ytadincbeimfakaa
