/- Plain words: boxes, round keys, and what a block becomes, over rows of bytes. No function of the program is named here. Contracts: a byte doubled, products, and bits of a byte turned, by the program. -/
import Derived.Test.YtcjdnifckngcfaaGreatDoorM24
import Derived.Test.YtcjdnifckngcfaaGreatDoorM25
import Derived.Deep.QuietTactic
import Derived.BigQuiet
section
namespace Go.Proofs.YtcjdnifckngcfaaGreatDoor

/-! ### Boxes -/
def boxT : List UInt8 := [99, 124, 119, 123, 242, 107, 111, 197, 48, 1, 103, 43, 254, 215, 171, 118, 202, 130, 201, 125, 250, 89, 71, 240, 173, 212, 162, 175, 156, 164, 114, 192, 183, 253, 147, 38, 54, 63, 247, 204, 52, 165, 229, 241, 113, 216, 49, 21, 4, 199, 35, 195, 24, 150, 5, 154, 7, 18, 128, 226, 235, 39, 178, 117, 9, 131, 44, 26, 27, 110, 90, 160, 82, 59, 214, 179, 41, 227, 47, 132, 83, 209, 0, 237, 32, 252, 177, 91, 106, 203, 190, 57, 74, 76, 88, 207, 208, 239, 170, 251, 67, 77, 51, 133, 69, 249, 2, 127, 80, 60, 159, 168, 81, 163, 64, 143, 146, 157, 56, 245, 188, 182, 218, 33, 16, 255, 243, 210, 205, 12, 19, 236, 95, 151, 68, 23, 196, 167, 126, 61, 100, 93, 25, 115, 96, 129, 79, 220, 34, 42, 144, 136, 70, 238, 184, 20, 222, 94, 11, 219, 224, 50, 58, 10, 73, 6, 36, 92, 194, 211, 172, 98, 145, 149, 228, 121, 231, 200, 55, 109, 141, 213, 78, 169, 108, 86, 244, 234, 101, 122, 174, 8, 186, 120, 37, 46, 28, 166, 180, 198, 232, 221, 116, 31, 75, 189, 139, 138, 112, 62, 181, 102, 72, 3, 246, 14, 97, 53, 87, 185, 134, 193, 29, 158, 225, 248, 152, 17, 105, 217, 142, 148, 155, 30, 135, 233, 206, 85, 40, 223, 140, 161, 137, 13, 191, 230, 66, 104, 65, 153, 45, 15, 176, 84, 187, 22]
def unboxT : List UInt8 := [82, 9, 106, 213, 48, 54, 165, 56, 191, 64, 163, 158, 129, 243, 215, 251, 124, 227, 57, 130, 155, 47, 255, 135, 52, 142, 67, 68, 196, 222, 233, 203, 84, 123, 148, 50, 166, 194, 35, 61, 238, 76, 149, 11, 66, 250, 195, 78, 8, 46, 161, 102, 40, 217, 36, 178, 118, 91, 162, 73, 109, 139, 209, 37, 114, 248, 246, 100, 134, 104, 152, 22, 212, 164, 92, 204, 93, 101, 182, 146, 108, 112, 72, 80, 253, 237, 185, 218, 94, 21, 70, 87, 167, 141, 157, 132, 144, 216, 171, 0, 140, 188, 211, 10, 247, 228, 88, 5, 184, 179, 69, 6, 208, 44, 30, 143, 202, 63, 15, 2, 193, 175, 189, 3, 1, 19, 138, 107, 58, 145, 17, 65, 79, 103, 220, 234, 151, 242, 207, 206, 240, 180, 230, 115, 150, 172, 116, 34, 231, 173, 53, 133, 226, 249, 55, 232, 28, 117, 223, 110, 71, 241, 26, 113, 29, 41, 197, 137, 111, 183, 98, 14, 170, 24, 190, 27, 252, 86, 62, 75, 198, 210, 121, 32, 154, 219, 192, 254, 120, 205, 90, 244, 31, 221, 168, 51, 136, 7, 199, 49, 177, 18, 16, 89, 39, 128, 236, 95, 96, 81, 127, 169, 25, 181, 74, 13, 45, 229, 122, 159, 147, 201, 156, 239, 160, 224, 59, 77, 174, 42, 245, 176, 200, 235, 187, 60, 131, 83, 153, 97, 23, 43, 4, 126, 186, 119, 214, 38, 225, 105, 20, 99, 85, 33, 12, 125]
def boxB (b : UInt8) : UInt8 := boxT.getD b.toNat 0
def unboxB (b : UInt8) : UInt8 := unboxT.getD b.toNat 0
theorem byte_all {p : UInt8 → Prop} (h : ∀ n, n < 256 → p (UInt8.ofNat n)) (b : UInt8) : p b := by
  have := h b.toNat b.toNat_lt
  rwa [UInt8.ofNat_toNat] at this
theorem unbox_box (b : UInt8) : unboxB (boxB b) = b := byte_all (p := fun b => unboxB (boxB b) = b) (by decide +kernel) b
theorem box_unbox (b : UInt8) : boxB (unboxB b) = b := byte_all (p := fun b => boxB (unboxB b) = b) (by decide +kernel) b
theorem box_inj {a b : UInt8} (h : boxB a = boxB b) : a = b := by rw [← unbox_box a, h, unbox_box]
theorem box_own (b : UInt8) : boxB b ≠ b := byte_all (p := fun b => boxB b ≠ b) (by decide +kernel) b

/-! ### A block of 16 bytes -/
/-- Boxed, and the rows turned. -/
def subShift (l : List UInt8) : List UInt8 := (List.range 16).map fun i => boxB (l.getD (4 * ((i / 4 + i % 4) % 4) + i % 4) 0)
def unSubShift (l : List UInt8) : List UInt8 := (List.range 16).map fun i => unboxB (l.getD (4 * ((i / 4 + 4 - i % 4) % 4) + i % 4) 0)
def fac (p : UInt8 × UInt8 × UInt8 × UInt8) (k : Nat) : UInt8 := match k with | 0 => p.1 | 1 => p.2.1 | 2 => p.2.2.1 | _ => p.2.2.2
def mixBy (p : UInt8 × UInt8 × UInt8 × UInt8) (l : List UInt8) : List UInt8 := (List.range 16).map fun i =>
  dot (fac p ((4 - i % 4) % 4)) (fac p ((5 - i % 4) % 4)) (fac p ((6 - i % 4) % 4)) (fac p ((7 - i % 4) % 4)) (l.getD (4 * (i / 4)) 0) (l.getD (4 * (i / 4) + 1) 0) (l.getD (4 * (i / 4) + 2) 0) (l.getD (4 * (i / 4) + 3) 0)
/-- The columns mixed. -/
def mixC (l : List UInt8) : List UInt8 := mixBy (2, 3, 1, 1) l
def unmixC (l : List UInt8) : List UInt8 := mixBy (14, 11, 13, 9) l
theorem sixteen {l : List UInt8} (h : l.length = 16) : ∃ a0 a1 a2 a3 a4 a5 a6 a7 a8 a9 a10 a11 a12 a13 a14 a15, l = [a0, a1, a2, a3, a4, a5, a6, a7, a8, a9, a10, a11, a12, a13, a14, a15] := by
  match l, h with
  | [a0, a1, a2, a3, a4, a5, a6, a7, a8, a9, a10, a11, a12, a13, a14, a15], _ => exact ⟨a0, a1, a2, a3, a4, a5, a6, a7, a8, a9, a10, a11, a12, a13, a14, a15, rfl⟩
theorem subShift_length (l : List UInt8) : (subShift l).length = 16 := by simp [subShift]
theorem unSubShift_length (l : List UInt8) : (unSubShift l).length = 16 := by simp [unSubShift]
theorem mixC_length (l : List UInt8) : (mixC l).length = 16 := by simp [mixC, mixBy]
theorem unmixC_length (l : List UInt8) : (unmixC l).length = 16 := by simp [unmixC, mixBy]
section
variable (a0 a1 a2 a3 a4 a5 a6 a7 a8 a9 a10 a11 a12 a13 a14 a15 : UInt8)
theorem subShift_eq : subShift [a0, a1, a2, a3, a4, a5, a6, a7, a8, a9, a10, a11, a12, a13, a14, a15] = [boxB a0, boxB a5, boxB a10, boxB a15, boxB a4, boxB a9, boxB a14, boxB a3, boxB a8, boxB a13, boxB a2, boxB a7, boxB a12, boxB a1, boxB a6, boxB a11] := rfl
theorem unSubShift_eq : unSubShift [a0, a1, a2, a3, a4, a5, a6, a7, a8, a9, a10, a11, a12, a13, a14, a15] = [unboxB a0, unboxB a13, unboxB a10, unboxB a7, unboxB a4, unboxB a1, unboxB a14, unboxB a11, unboxB a8, unboxB a5, unboxB a2, unboxB a15, unboxB a12, unboxB a9, unboxB a6, unboxB a3] := rfl
theorem mixC_eq : mixC [a0, a1, a2, a3, a4, a5, a6, a7, a8, a9, a10, a11, a12, a13, a14, a15] = [dot 2 3 1 1 a0 a1 a2 a3, dot 1 2 3 1 a0 a1 a2 a3, dot 1 1 2 3 a0 a1 a2 a3, dot 3 1 1 2 a0 a1 a2 a3, dot 2 3 1 1 a4 a5 a6 a7, dot 1 2 3 1 a4 a5 a6 a7, dot 1 1 2 3 a4 a5 a6 a7, dot 3 1 1 2 a4 a5 a6 a7, dot 2 3 1 1 a8 a9 a10 a11, dot 1 2 3 1 a8 a9 a10 a11, dot 1 1 2 3 a8 a9 a10 a11, dot 3 1 1 2 a8 a9 a10 a11, dot 2 3 1 1 a12 a13 a14 a15, dot 1 2 3 1 a12 a13 a14 a15, dot 1 1 2 3 a12 a13 a14 a15, dot 3 1 1 2 a12 a13 a14 a15] := rfl
theorem unmixC_eq : unmixC [a0, a1, a2, a3, a4, a5, a6, a7, a8, a9, a10, a11, a12, a13, a14, a15] = [dot 14 11 13 9 a0 a1 a2 a3, dot 9 14 11 13 a0 a1 a2 a3, dot 13 9 14 11 a0 a1 a2 a3, dot 11 13 9 14 a0 a1 a2 a3, dot 14 11 13 9 a4 a5 a6 a7, dot 9 14 11 13 a4 a5 a6 a7, dot 13 9 14 11 a4 a5 a6 a7, dot 11 13 9 14 a4 a5 a6 a7, dot 14 11 13 9 a8 a9 a10 a11, dot 9 14 11 13 a8 a9 a10 a11, dot 13 9 14 11 a8 a9 a10 a11, dot 11 13 9 14 a8 a9 a10 a11, dot 14 11 13 9 a12 a13 a14 a15, dot 9 14 11 13 a12 a13 a14 a15, dot 13 9 14 11 a12 a13 a14 a15, dot 11 13 9 14 a12 a13 a14 a15] := rfl
end
theorem un_subShift {l : List UInt8} (h : l.length = 16) : unSubShift (subShift l) = l := by
  obtain ⟨a0, a1, a2, a3, a4, a5, a6, a7, a8, a9, a10, a11, a12, a13, a14, a15, rfl⟩ := sixteen h
  rw [subShift_eq, unSubShift_eq]
  simp only [unbox_box]
theorem subShift_un {l : List UInt8} (h : l.length = 16) : subShift (unSubShift l) = l := by
  obtain ⟨a0, a1, a2, a3, a4, a5, a6, a7, a8, a9, a10, a11, a12, a13, a14, a15, rfl⟩ := sixteen h
  rw [unSubShift_eq, subShift_eq]
  simp only [box_unbox]
theorem um00 : dot 14 11 13 9 2 1 1 3 = 1 := by decide +kernel
theorem um01 : dot 14 11 13 9 3 2 1 1 = 0 := by decide +kernel
theorem um02 : dot 14 11 13 9 1 3 2 1 = 0 := by decide +kernel
theorem um03 : dot 14 11 13 9 1 1 3 2 = 0 := by decide +kernel
theorem um10 : dot 9 14 11 13 2 1 1 3 = 0 := by decide +kernel
theorem um11 : dot 9 14 11 13 3 2 1 1 = 1 := by decide +kernel
theorem um12 : dot 9 14 11 13 1 3 2 1 = 0 := by decide +kernel
theorem um13 : dot 9 14 11 13 1 1 3 2 = 0 := by decide +kernel
theorem um20 : dot 13 9 14 11 2 1 1 3 = 0 := by decide +kernel
theorem um21 : dot 13 9 14 11 3 2 1 1 = 0 := by decide +kernel
theorem um22 : dot 13 9 14 11 1 3 2 1 = 1 := by decide +kernel
theorem um23 : dot 13 9 14 11 1 1 3 2 = 0 := by decide +kernel
theorem um30 : dot 11 13 9 14 2 1 1 3 = 0 := by decide +kernel
theorem um31 : dot 11 13 9 14 3 2 1 1 = 0 := by decide +kernel
theorem um32 : dot 11 13 9 14 1 3 2 1 = 0 := by decide +kernel
theorem um33 : dot 11 13 9 14 1 1 3 2 = 1 := by decide +kernel
theorem mu00 : dot 2 3 1 1 14 9 13 11 = 1 := by decide +kernel
theorem mu01 : dot 2 3 1 1 11 14 9 13 = 0 := by decide +kernel
theorem mu02 : dot 2 3 1 1 13 11 14 9 = 0 := by decide +kernel
theorem mu03 : dot 2 3 1 1 9 13 11 14 = 0 := by decide +kernel
theorem mu10 : dot 1 2 3 1 14 9 13 11 = 0 := by decide +kernel
theorem mu11 : dot 1 2 3 1 11 14 9 13 = 1 := by decide +kernel
theorem mu12 : dot 1 2 3 1 13 11 14 9 = 0 := by decide +kernel
theorem mu13 : dot 1 2 3 1 9 13 11 14 = 0 := by decide +kernel
theorem mu20 : dot 1 1 2 3 14 9 13 11 = 0 := by decide +kernel
theorem mu21 : dot 1 1 2 3 11 14 9 13 = 0 := by decide +kernel
theorem mu22 : dot 1 1 2 3 13 11 14 9 = 1 := by decide +kernel
theorem mu23 : dot 1 1 2 3 9 13 11 14 = 0 := by decide +kernel
theorem mu30 : dot 3 1 1 2 14 9 13 11 = 0 := by decide +kernel
theorem mu31 : dot 3 1 1 2 11 14 9 13 = 0 := by decide +kernel
theorem mu32 : dot 3 1 1 2 13 11 14 9 = 0 := by decide +kernel
theorem mu33 : dot 3 1 1 2 9 13 11 14 = 1 := by decide +kernel
theorem un_mixC {l : List UInt8} (h : l.length = 16) : unmixC (mixC l) = l := by
  obtain ⟨a0, a1, a2, a3, a4, a5, a6, a7, a8, a9, a10, a11, a12, a13, a14, a15, rfl⟩ := sixteen h
  rw [mixC_eq, unmixC_eq]
  simp only [dot_dot, um00, um01, um02, um03, um10, um11, um12, um13, um20, um21, um22, um23, um30, um31, um32, um33, dot_a, dot_b, dot_c, dot_d]
theorem mixC_un {l : List UInt8} (h : l.length = 16) : mixC (unmixC l) = l := by
  obtain ⟨a0, a1, a2, a3, a4, a5, a6, a7, a8, a9, a10, a11, a12, a13, a14, a15, rfl⟩ := sixteen h
  rw [unmixC_eq, mixC_eq]
  simp only [dot_dot, mu00, mu01, mu02, mu03, mu10, mu11, mu12, mu13, mu20, mu21, mu22, mu23, mu30, mu31, mu32, mu33, dot_a, dot_b, dot_c, dot_d]
/-- Either or of a round key. -/
def addK (k l : List UInt8) : List UInt8 := List.zipWith (· ^^^ ·) l k
theorem addK_length {k l : List UInt8} (hk : k.length = 16) (hl : l.length = 16) : (addK k l).length = 16 := by unfold addK; rw [List.length_zipWith, hk, hl]; rfl
theorem addK_addK {k l : List UInt8} (hk : k.length = 16) (hl : l.length = 16) : addK k (addK k l) = l := by
  unfold addK
  apply List.ext_getElem (by rw [List.length_zipWith, List.length_zipWith, hk, hl]; rfl)
  intro i h1 h2
  simp [UInt8.xor_assoc]

/-! ### The rounds -/
section
variable (K : Nat → List UInt8)
/-- A block behind n rounds. -/
def encN (l : List UInt8) : Nat → List UInt8
  | 0 => addK (K 0) l
  | n + 1 => addK (K (n + 1)) (mixC (subShift (encN l n)))
/-- A block ciphered. -/
def enc (l : List UInt8) : List UInt8 := addK (K 10) (subShift (encN K l 9))
/-- Back from behind round n, n rounds. -/
def decN (x : List UInt8) : Nat → List UInt8
  | 0 => addK (K 0) x
  | n + 1 => decN (unSubShift (unmixC (addK (K (n + 1)) x))) n
/-- The block that ciphered is x. -/
def dec (x : List UInt8) : List UInt8 := decN K (unSubShift (addK (K 10) x)) 9
variable {K} (hK : ∀ n, n ≤ 10 → (K n).length = 16)
include hK
theorem encN_length {l : List UInt8} (h : l.length = 16) : ∀ n, n ≤ 10 → (encN K l n).length = 16
  | 0, _ => addK_length (hK 0 (by omega)) h
  | n + 1, hn => addK_length (hK (n + 1) hn) (mixC_length _)
theorem enc_length (l : List UInt8) : (enc K l).length = 16 := addK_length (hK 10 (by omega)) (subShift_length _)
theorem decN_encN {l : List UInt8} (h : l.length = 16) : ∀ n, n ≤ 9 → decN K (encN K l n) n = l
  | 0, _ => addK_addK (hK 0 (by omega)) h
  | n + 1, hn => by
    rw [encN, decN, addK_addK (hK _ (by omega)) (mixC_length _), un_mixC (subShift_length _), un_subShift (encN_length hK h n (by omega)), decN_encN h n (by omega)]
theorem dec_enc {l : List UInt8} (h : l.length = 16) : dec K (enc K l) = l := by
  unfold dec enc
  rw [addK_addK (hK 10 (by omega)) (subShift_length _), un_subShift (encN_length hK h 9 (by omega)), decN_encN hK h 9 (by omega)]
theorem decN_length {x : List UInt8} (h : x.length = 16) : ∀ n, n ≤ 9 → (decN K x n).length = 16
  | 0, _ => addK_length (hK 0 (by omega)) h
  | n + 1, hn => decN_length (unSubShift_length _) n (by omega)
theorem dec_length {x : List UInt8} : (dec K x).length = 16 := decN_length hK (unSubShift_length _) 9 (by omega)
theorem encN_decN {x : List UInt8} (h : x.length = 16) : ∀ n, n ≤ 9 → encN K (decN K x n) n = x
  | 0, _ => addK_addK (hK 0 (by omega)) h
  | n + 1, hn => by
    rw [decN, encN, encN_decN (unSubShift_length _) n (by omega), subShift_un (unmixC_length _), mixC_un (addK_length (hK _ (by omega)) h), addK_addK (hK _ (by omega)) h]
theorem enc_dec {x : List UInt8} (h : x.length = 16) : enc K (dec K x) = x := by
  unfold dec enc
  rw [encN_decN hK (unSubShift_length _) 9 (by omega), subShift_un (addK_length (hK 10 (by omega)) h), addK_addK (hK 10 (by omega)) h]
theorem enc_inj {l m : List UInt8} (hl : l.length = 16) (hm : m.length = 16) (h : enc K l = enc K m) : l = m := by
  rw [← dec_enc hK hl, h, dec_enc hK hm]
end

/-! ### The round keys -/
def rcon : Nat → UInt8
  | 0 => 1
  | n + 1 => mulB (rcon n) 2
/-- The next word, out of all bytes of the i words ahead of it. -/
def nextW (w : List UInt8) (i : Nat) : List UInt8 :=
  let b := fun k => w.getD (4 * i - 4 + k) 0
  let g := if i % 4 = 0 then [boxB (b 1) ^^^ rcon (i / 4 - 1), boxB (b 2), boxB (b 3), boxB (b 0)] else [b 0, b 1, b 2, b 3]
  (List.range 4).map fun k => w.getD (4 * i - 16 + k) 0 ^^^ g.getD k 0
/-- All bytes of the first m + 4 words. -/
def expand (key : List UInt8) : Nat → List UInt8
  | 0 => key
  | m + 1 => expand key m ++ nextW (expand key m) (m + 4)
theorem nextW_length (w : List UInt8) (i : Nat) : (nextW w i).length = 4 := by simp [nextW]
theorem expand_length {key : List UInt8} (h : key.length = 16) : ∀ m, (expand key m).length = 16 + 4 * m
  | 0 => h
  | m + 1 => by rw [expand, List.length_append, expand_length h m, nextW_length]; omega
/-- Round key n. -/
def rkey (key : List UInt8) (n : Nat) : List UInt8 := ((expand key 40).drop (16 * n)).take 16
theorem rkey_length {key : List UInt8} (h : key.length = 16) (n : Nat) (hn : n ≤ 10) : (rkey key n).length = 16 := by
  unfold rkey
  rw [List.length_take, List.length_drop, expand_length h]; omega
theorem rkey_zero {key : List UInt8} (h : key.length = 16) : rkey key 0 = key := by
  have e : ∀ m, (expand key m).take 16 = key := by
    intro m
    induction m with
    | zero => exact List.take_of_length_le (by rw [expand, h]; exact Nat.le_refl _)
    | succ m ih => rw [expand, List.take_append_of_le_length (by rw [expand_length h]; omega), ih]
  unfold rkey
  exact e 40
/-- What stands among the bytes stays there. -/
theorem expand_at {key : List UInt8} (h : key.length = 16) (m k : Nat) (j : Nat) (hj : j < 16 + 4 * m) : (expand key (m + k)).getD j 0 = (expand key m).getD j 0 := by
  induction k with
  | zero => rfl
  | succ k ih =>
    rw [← Nat.add_assoc, expand, List.getD_eq_getElem?_getD, List.getElem?_append_left (by rw [expand_length h]; omega), ← List.getD_eq_getElem?_getD, ih]
theorem boxT_length : boxT.length = 256 := by decide +kernel
theorem boxT_at (j : Nat) (h : j < 256) : boxT[j]? = some (boxB (UInt8.ofNat j)) := by
  have hj : j < boxT.length := by rw [boxT_length]; exact h
  have e : (UInt8.ofNat j).toNat = j := by rw [UInt8.toNat_ofNat']; omega
  unfold boxB
  rw [e, List.getD_eq_getElem?_getD, List.getElem?_eq_getElem hj]; rfl
theorem boxT_take (j : Nat) (h : j < 256) : boxT.take (j + 1) = boxT.take j ++ [boxB (UInt8.ofNat j)] := by
  have hj : j < boxT.length := by rw [boxT_length]; exact h
  rw [List.take_succ_eq_append_getElem hj]
  have := boxT_at j h
  rw [List.getElem?_eq_getElem hj] at this
  rw [Option.some.inj this]
attribute [irreducible] boxT unboxT
end Go.Proofs.YtcjdnifckngcfaaGreatDoor
end

section
namespace Go.Proofs.YtcjdnifckngcfaaGreatDoor
open Go.RowKit

theorem dbl_int : ∀ a : Nat, a < 256 → bits BinOp.xor IntKind.u8 ((a : Int) * 2 % 256) ((a : Int) / 128 * 27) = ((xt a : Nat) : Int) := by decide +kernel
theorem double_any (a : Nat) (ha : a < 256) (w : World) :
    Calls Tryz.prog 211 #[.int .u8 (a : Int)] w fun e w' => e = .returned (.int .u8 (xt a : Nat)) ∧ w = w' := by
  have he := dbl_int a ha
  go_enter Tryz.func211, Tryz.ntmps211
  go_wp2
  go_ret
  exact ⟨rfl, rfl⟩
/-- A byte's bits turned by r places to the left. -/
def rlB (b r : Nat) : Nat := b * 2 ^ r % 256 ||| b / 2 ^ (8 - r)
theorem rlB_lt {b r : Nat} (hb : b < 256) : rlB b r < 256 := Nat.or_lt_two_pow (n := 8) (Nat.mod_lt _ (by decide)) (Nat.lt_of_le_of_lt (Nat.div_le_self _ _) hb)
theorem turned_any (b r : Nat) (hb : b < 256) (hr : r ≤ 8) (w : World) :
    Calls Tryz.prog 187 #[.int .u8 (b : Int), .int .i64 (r : Int)] w fun e w' => e = .returned (.int .u8 (rlB b r : Nat)) ∧ Ext w w' := by
  have he : bits BinOp.or IntKind.u8 ((b : Int) * 2 ^ r % 256) ((b : Int) / 2 ^ (8 - r)) = ((rlB b r : Nat) : Int) := by
    have e1 : (b : Int) * 2 ^ r % 256 = ((b * 2 ^ r % 256 : Nat) : Int) := by simp
    have e2 : (b : Int) / 2 ^ (8 - r) = ((b / 2 ^ (8 - r) : Nat) : Int) := by simp
    rw [e1, e2, u8_or_nat _ _ (Nat.mod_lt _ (by decide)) (Nat.lt_of_le_of_lt (Nat.div_le_self _ _) hb)]
    rfl
  have HE := Lib.hid he
  clear he
  go_enter Tryz.func187, Tryz.ntmps187
  go_wp2
  go_quiet (fail)
  go_wp2
  go_ret
  exact ⟨by rw [← HE.out]; rfl, (Ext.refl w).drewN _⟩
end Go.Proofs.YtcjdnifckngcfaaGreatDoor
end
