/- Plain words: boxes, round keys, and what a block becomes, over rows of bytes. No function of the program is named here. Contracts: a byte doubled, products, and bits of a byte turned, by the program. Contracts: inverses, boxes, their table, and what they are boxes of, by the document's answer. Plain: new blocks of zeros, of any size. Plain: new blocks of zeros. Contracts: the inverses of all bytes, by the program. -/
import Derived.Test.YtobhbppogeghnaaGreatDoorM17
import Derived.Deep.QuietTactic
import Derived.BigQuiet
import Derived.Test.YtobhbppogeghnaaGreatDoorM02
import Derived.Test.YtobhbppogeghnaaGreatDoorProg
import Derived.Test.YtobhbppogeghnaaGreatDoorM01
import Derived.Laws.Tables
import Derived.Outline
section
namespace Go.Proofs.YtobhbppogeghnaaGreatDoor

/-! ### Boxes -/
def boxT : List UInt8 := [99, 124, 119, 123, 242, 107, 111, 197, 48, 1, 103, 43, 254, 215, 171, 118, 202, 130, 201, 125, 250, 89, 71, 240, 173, 212, 162, 175, 156, 164, 114, 192, 183, 253, 147, 38, 54, 63, 247, 204, 52, 165, 229, 241, 113, 216, 49, 21, 4, 199, 35, 195, 24, 150, 5, 154, 7, 18, 128, 226, 235, 39, 178, 117, 9, 131, 44, 26, 27, 110, 90, 160, 82, 59, 214, 179, 41, 227, 47, 132, 83, 209, 0, 237, 32, 252, 177, 91, 106, 203, 190, 57, 74, 76, 88, 207, 208, 239, 170, 251, 67, 77, 51, 133, 69, 249, 2, 127, 80, 60, 159, 168, 81, 163, 64, 143, 146, 157, 56, 245, 188, 182, 218, 33, 16, 255, 243, 210, 205, 12, 19, 236, 95, 151, 68, 23, 196, 167, 126, 61, 100, 93, 25, 115, 96, 129, 79, 220, 34, 42, 144, 136, 70, 238, 184, 20, 222, 94, 11, 219, 224, 50, 58, 10, 73, 6, 36, 92, 194, 211, 172, 98, 145, 149, 228, 121, 231, 200, 55, 109, 141, 213, 78, 169, 108, 86, 244, 234, 101, 122, 174, 8, 186, 120, 37, 46, 28, 166, 180, 198, 232, 221, 116, 31, 75, 189, 139, 138, 112, 62, 181, 102, 72, 3, 246, 14, 97, 53, 87, 185, 134, 193, 29, 158, 225, 248, 152, 17, 105, 217, 142, 148, 155, 30, 135, 233, 206, 85, 40, 223, 140, 161, 137, 13, 191, 230, 66, 104, 65, 153, 45, 15, 176, 84, 187, 22]
def unboxT : List UInt8 := [82, 9, 106, 213, 48, 54, 165, 56, 191, 64, 163, 158, 129, 243, 215, 251, 124, 227, 57, 130, 155, 47, 255, 135, 52, 142, 67, 68, 196, 222, 233, 203, 84, 123, 148, 50, 166, 194, 35, 61, 238, 76, 149, 11, 66, 250, 195, 78, 8, 46, 161, 102, 40, 217, 36, 178, 118, 91, 162, 73, 109, 139, 209, 37, 114, 248, 246, 100, 134, 104, 152, 22, 212, 164, 92, 204, 93, 101, 182, 146, 108, 112, 72, 80, 253, 237, 185, 218, 94, 21, 70, 87, 167, 141, 157, 132, 144, 216, 171, 0, 140, 188, 211, 10, 247, 228, 88, 5, 184, 179, 69, 6, 208, 44, 30, 143, 202, 63, 15, 2, 193, 175, 189, 3, 1, 19, 138, 107, 58, 145, 17, 65, 79, 103, 220, 234, 151, 242, 207, 206, 240, 180, 230, 115, 150, 172, 116, 34, 231, 173, 53, 133, 226, 249, 55, 232, 28, 117, 223, 110, 71, 241, 26, 113, 29, 41, 197, 137, 111, 183, 98, 14, 170, 24, 190, 27, 252, 86, 62, 75, 198, 210, 121, 32, 154, 219, 192, 254, 120, 205, 90, 244, 31, 221, 168, 51, 136, 7, 199, 49, 177, 18, 16, 89, 39, 128, 236, 95, 96, 81, 127, 169, 25, 181, 74, 13, 45, 229, 122, 159, 147, 201, 156, 239, 160, 224, 59, 77, 174, 42, 245, 176, 200, 235, 187, 60, 131, 83, 153, 97, 23, 43, 4, 126, 186, 119, 214, 38, 225, 105, 20, 99, 85, 33, 12, 125]
def boxB (b : UInt8) : UInt8 := boxT.getD b.toNat 0
def unboxB (b : UInt8) : UInt8 := unboxT.getD b.toNat 0
/-! ### A block of 16 bytes -/
/-- Boxed, and the rows turned. -/
def subShift (l : List UInt8) : List UInt8 := (List.range 16).map fun i => boxB (l.getD (4 * ((i / 4 + i % 4) % 4) + i % 4) 0)
def unSubShift (l : List UInt8) : List UInt8 := (List.range 16).map fun i => unboxB (l.getD (4 * ((i / 4 + 4 - i % 4) % 4) + i % 4) 0)
def fac (p : UInt8 × UInt8 × UInt8 × UInt8) (k : Nat) : UInt8 := match k with | 0 => p.1 | 1 => p.2.1 | 2 => p.2.2.1 | _ => p.2.2.2
def mixBy (p : UInt8 × UInt8 × UInt8 × UInt8) (l : List UInt8) : List UInt8 := (List.range 16).map fun i =>
  dot (fac p ((4 - i % 4) % 4)) (fac p ((5 - i % 4) % 4)) (fac p ((6 - i % 4) % 4)) (fac p ((7 - i % 4) % 4)) (l.getD (4 * (i / 4)) 0) (l.getD (4 * (i / 4) + 1) 0) (l.getD (4 * (i / 4) + 2) 0) (l.getD (4 * (i / 4) + 3) 0)
/-- The columns mixed. -/
def mixC (l : List UInt8) : List UInt8 := mixBy (2, 3, 1, 1) l
def unmixC (l : List UInt8) : List UInt8 := mixBy (14, 11, 13, 9) l
theorem sixteen {l : List UInt8} (h : l.length = 16) : ∃ a0 a1 a2 a3 a4 a5 a6 a7 a8 a9 a10 a11 a12 a13 a14 a15, l = [a0, a1, a2, a3, a4, a5, a6, a7, a8, a9, a10, a11, a12, a13, a14, a15] := by
  match l, h with
  | [a0, a1, a2, a3, a4, a5, a6, a7, a8, a9, a10, a11, a12, a13, a14, a15], _ => exact ⟨a0, a1, a2, a3, a4, a5, a6, a7, a8, a9, a10, a11, a12, a13, a14, a15, rfl⟩
theorem subShift_length (l : List UInt8) : (subShift l).length = 16 := by simp [subShift]
theorem mixC_length (l : List UInt8) : (mixC l).length = 16 := by simp [mixC, mixBy]
section
variable (a0 a1 a2 a3 a4 a5 a6 a7 a8 a9 a10 a11 a12 a13 a14 a15 : UInt8)
theorem mixC_eq : mixC [a0, a1, a2, a3, a4, a5, a6, a7, a8, a9, a10, a11, a12, a13, a14, a15] = [dot 2 3 1 1 a0 a1 a2 a3, dot 1 2 3 1 a0 a1 a2 a3, dot 1 1 2 3 a0 a1 a2 a3, dot 3 1 1 2 a0 a1 a2 a3, dot 2 3 1 1 a4 a5 a6 a7, dot 1 2 3 1 a4 a5 a6 a7, dot 1 1 2 3 a4 a5 a6 a7, dot 3 1 1 2 a4 a5 a6 a7, dot 2 3 1 1 a8 a9 a10 a11, dot 1 2 3 1 a8 a9 a10 a11, dot 1 1 2 3 a8 a9 a10 a11, dot 3 1 1 2 a8 a9 a10 a11, dot 2 3 1 1 a12 a13 a14 a15, dot 1 2 3 1 a12 a13 a14 a15, dot 1 1 2 3 a12 a13 a14 a15, dot 3 1 1 2 a12 a13 a14 a15] := rfl
end
/-- Either or of a round key. -/
def addK (k l : List UInt8) : List UInt8 := List.zipWith (· ^^^ ·) l k
theorem addK_length {k l : List UInt8} (hk : k.length = 16) (hl : l.length = 16) : (addK k l).length = 16 := by unfold addK; rw [List.length_zipWith, hk, hl]; rfl
/-! ### The rounds -/
section
variable (K : Nat → List UInt8)
/-- A block behind n rounds. -/
def encN (l : List UInt8) : Nat → List UInt8
  | 0 => addK (K 0) l
  | n + 1 => addK (K (n + 1)) (mixC (subShift (encN l n)))
/-- A block ciphered. -/
def enc (l : List UInt8) : List UInt8 := addK (K 10) (subShift (encN K l 9))
/-- Back from behind round n, n rounds. -/
def decN (x : List UInt8) : Nat → List UInt8
  | 0 => addK (K 0) x
  | n + 1 => decN (unSubShift (unmixC (addK (K (n + 1)) x))) n
/-- The block that ciphered is x. -/
def dec (x : List UInt8) : List UInt8 := decN K (unSubShift (addK (K 10) x)) 9
variable {K} (hK : ∀ n, n ≤ 10 → (K n).length = 16)
include hK
theorem enc_length (l : List UInt8) : (enc K l).length = 16 := addK_length (hK 10 (by omega)) (subShift_length _)
end

/-! ### The round keys -/
def rcon : Nat → UInt8
  | 0 => 1
  | n + 1 => mulB (rcon n) 2
/-- The next word, out of all bytes of the i words ahead of it. -/
def nextW (w : List UInt8) (i : Nat) : List UInt8 :=
  let b := fun k => w.getD (4 * i - 4 + k) 0
  let g := if i % 4 = 0 then [boxB (b 1) ^^^ rcon (i / 4 - 1), boxB (b 2), boxB (b 3), boxB (b 0)] else [b 0, b 1, b 2, b 3]
  (List.range 4).map fun k => w.getD (4 * i - 16 + k) 0 ^^^ g.getD k 0
/-- All bytes of the first m + 4 words. -/
def expand (key : List UInt8) : Nat → List UInt8
  | 0 => key
  | m + 1 => expand key m ++ nextW (expand key m) (m + 4)
theorem nextW_length (w : List UInt8) (i : Nat) : (nextW w i).length = 4 := by simp [nextW]
theorem expand_length {key : List UInt8} (h : key.length = 16) : ∀ m, (expand key m).length = 16 + 4 * m
  | 0 => h
  | m + 1 => by rw [expand, List.length_append, expand_length h m, nextW_length]; omega
/-- Round key n. -/
def rkey (key : List UInt8) (n : Nat) : List UInt8 := ((expand key 40).drop (16 * n)).take 16
theorem rkey_length {key : List UInt8} (h : key.length = 16) (n : Nat) (hn : n ≤ 10) : (rkey key n).length = 16 := by
  unfold rkey
  rw [List.length_take, List.length_drop, expand_length h]; omega
/-- What stands among the bytes stays there. -/
theorem expand_at {key : List UInt8} (h : key.length = 16) (m k : Nat) (j : Nat) (hj : j < 16 + 4 * m) : (expand key (m + k)).getD j 0 = (expand key m).getD j 0 := by
  induction k with
  | zero => rfl
  | succ k ih =>
    rw [← Nat.add_assoc, expand, List.getD_eq_getElem?_getD, List.getElem?_append_left (by rw [expand_length h]; omega), ← List.getD_eq_getElem?_getD, ih]
theorem boxT_length : boxT.length = 256 := by decide +kernel
theorem boxT_at (j : Nat) (h : j < 256) : boxT[j]? = some (boxB (UInt8.ofNat j)) := by
  have hj : j < boxT.length := by rw [boxT_length]; exact h
  have e : (UInt8.ofNat j).toNat = j := by rw [UInt8.toNat_ofNat']; omega
  unfold boxB
  rw [e, List.getD_eq_getElem?_getD, List.getElem?_eq_getElem hj]; rfl
theorem boxT_take (j : Nat) (h : j < 256) : boxT.take (j + 1) = boxT.take j ++ [boxB (UInt8.ofNat j)] := by
  have hj : j < boxT.length := by rw [boxT_length]; exact h
  rw [List.take_succ_eq_append_getElem hj]
  have := boxT_at j h
  rw [List.getElem?_eq_getElem hj] at this
  rw [Option.some.inj this]
attribute [irreducible] boxT unboxT
end Go.Proofs.YtobhbppogeghnaaGreatDoor
end

section
namespace Go.Proofs.YtobhbppogeghnaaGreatDoor
open Go.RowKit

theorem dbl_int : ∀ a : Nat, a < 256 → bits BinOp.xor IntKind.u8 ((a : Int) * 2 % 256) ((a : Int) / 128 * 27) = ((xt a : Nat) : Int) := by decide +kernel
theorem double_any (a : Nat) (ha : a < 256) (w : World) :
    Calls Tryz.prog 211 #[.int .u8 (a : Int)] w fun e w' => e = .returned (.int .u8 (xt a : Nat)) ∧ w = w' := by
  have he := dbl_int a ha
  go_enter Tryz.func211, Tryz.ntmps211
  go_wp2
  go_ret
  exact ⟨rfl, rfl⟩
/-- A byte's bits turned by r places to the left. -/
def rlB (b r : Nat) : Nat := b * 2 ^ r % 256 ||| b / 2 ^ (8 - r)
theorem rlB_lt {b r : Nat} (hb : b < 256) : rlB b r < 256 := Nat.or_lt_two_pow (n := 8) (Nat.mod_lt _ (by decide)) (Nat.lt_of_le_of_lt (Nat.div_le_self _ _) hb)
theorem turned_any (b r : Nat) (hb : b < 256) (hr : r ≤ 8) (w : World) :
    Calls Tryz.prog 187 #[.int .u8 (b : Int), .int .i64 (r : Int)] w fun e w' => e = .returned (.int .u8 (rlB b r : Nat)) ∧ Ext w w' := by
  have he : bits BinOp.or IntKind.u8 ((b : Int) * 2 ^ r % 256) ((b : Int) / 2 ^ (8 - r)) = ((rlB b r : Nat) : Int) := by
    have e1 : (b : Int) * 2 ^ r % 256 = ((b * 2 ^ r % 256 : Nat) : Int) := by simp
    have e2 : (b : Int) / 2 ^ (8 - r) = ((b / 2 ^ (8 - r) : Nat) : Int) := by simp
    rw [e1, e2, u8_or_nat _ _ (Nat.mod_lt _ (by decide)) (Nat.lt_of_le_of_lt (Nat.div_le_self _ _) hb)]
    rfl
  have HE := Lib.hid he
  clear he
  go_enter Tryz.func187, Tryz.ntmps187
  go_wp2
  go_quiet (fail)
  go_wp2
  go_ret
  exact ⟨by rw [← HE.out]; rfl, (Ext.refl w).drewN _⟩
end Go.Proofs.YtobhbppogeghnaaGreatDoor
end

section
namespace Go.Proofs.YtobhbppogeghnaaGreatDoor
open Go.RowKit

/-- The inverses; of 0 it is 0. -/
def invT : List Nat := [0, 1, 141, 246, 203, 82, 123, 209, 232, 79, 41, 192, 176, 225, 229, 199, 116, 180, 170, 75, 153, 43, 96, 95, 88, 63, 253, 204, 255, 64, 238, 178, 58, 110, 90, 241, 85, 77, 168, 201, 193, 10, 152, 21, 48, 68, 162, 194, 44, 69, 146, 108, 243, 57, 102, 66, 242, 53, 32, 111, 119, 187, 89, 25, 29, 254, 55, 103, 45, 49, 245, 105, 167, 100, 171, 19, 84, 37, 233, 9, 237, 92, 5, 202, 76, 36, 135, 191, 24, 62, 34, 240, 81, 236, 97, 23, 22, 94, 175, 211, 73, 166, 54, 67, 244, 71, 145, 223, 51, 147, 33, 59, 121, 183, 151, 133, 16, 181, 186, 60, 182, 112, 208, 6, 161, 250, 129, 130, 131, 126, 127, 128, 150, 115, 190, 86, 155, 158, 149, 217, 247, 2, 185, 164, 222, 106, 50, 109, 216, 138, 132, 114, 42, 20, 159, 136, 249, 220, 137, 154, 251, 124, 46, 195, 143, 184, 101, 72, 38, 200, 18, 74, 206, 231, 210, 98, 12, 224, 31, 239, 17, 117, 120, 113, 165, 142, 118, 61, 189, 188, 134, 87, 11, 40, 47, 163, 218, 212, 228, 15, 169, 39, 83, 4, 27, 252, 172, 230, 122, 7, 174, 99, 197, 219, 226, 234, 148, 139, 196, 213, 157, 248, 144, 107, 177, 13, 214, 235, 198, 14, 207, 173, 8, 78, 215, 227, 93, 80, 30, 179, 91, 35, 56, 52, 104, 70, 3, 140, 221, 156, 125, 160, 205, 26, 65, 28]
def invN (b : Nat) : Nat := invT.getD b 0
theorem invN_spec : ∀ b, b < 256 → invN b < 256 ∧ (b = 0 ∨ 1 ≤ invN b ∧ tm b (invN b) = 1) := by decide +kernel
theorem invN_zero : invN 0 = 0 := rfl
/-- No other byte than the inverse has the product 1. -/
theorem inv_only {b j : Nat} (hb : b < 256) (hj : j < 256) (h : tm b j = 1) : j = invN b := by
  obtain ⟨hi, h0 | ⟨_, h2⟩⟩ := invN_spec b hb
  · subst h0
    rw [tm_comm (by decide) hj, tm_zero] at h
    cases h
  · have e : j = tm j (tm b (invN b)) := by rw [h2, tm_one j hj]
    rw [e, tm_assoc hj hb hi, tm_comm hj hb, h, tm_comm (by decide) hi, tm_one _ hi]
/-- A box, bit by bit. -/
def nb (c i : Nat) : Nat := c / 2 ^ i ^^^ c / 2 ^ ((i + 4) % 8) ^^^ c / 2 ^ ((i + 5) % 8) ^^^ c / 2 ^ ((i + 6) % 8) ^^^ c / 2 ^ ((i + 7) % 8) ^^^ 99 / 2 ^ i
def rb (c : Nat) : Nat → Nat
  | 0 => 0
  | i + 1 => rb c i ||| (nb c i &&& 1) * 2 ^ i
theorem rb_box0 : ∀ b, b < 256 → rb (invN b) 8 = (boxB (UInt8.ofNat b)).toNat := by decide +kernel
attribute [irreducible] invN
set_option maxRecDepth 100000 in
set_option maxHeartbeats 1000000 in
theorem rinv_any (b : Nat) (hb : b < 256) (w : World) :
    Calls Tryz.prog 209 #[.int .u8 (b : Int)] w fun e w' => e = .returned (.int .u8 (invN b : Nat)) ∧ w = w' := by
  have HI := Lib.hid (invN_spec b hb)
  have HO := Lib.hid (fun j (hj : j < 256) (h : tm b j = 1) => inv_only hb hj h)
  have HT := Lib.hid (fun j (hj : j < 256) u => rTimes_any b j hb hj u)
  go_enter Tryz.func209, Tryz.ntmps209
  go_wp2
  go_loop [3] (fun i => ∃ j : Nat, 1 ≤ j ∧ j ≤ 256 ∧ i = .int .i64 j ∧ (b ≠ 0 → j ≤ invN b)) (fun i => 256 - (intOf i).toNat)
  case atStart => exact ⟨1, by omega, by omega, rfl, fun h => by have := HI.out.2; omega⟩
  case round =>
    obtain ⟨j, h1, hj, rfl, hb2⟩ := hrel
    have HB2 := Lib.hid hb2
    clear hb2
    by_cases hlt : j < 256
    · have HTj := Lib.hid (HT.out j hlt)
      have htl := tm_lt hb j
      have hji : (j : Int) < 256 := by omega
      have hwj : IntKind.u8.wrap (j : Int) = (j : Int) := IntWalk.u8_in _ ⟨by omega, by omega⟩
      by_cases he : tm b j = 1
      · have HJ2 := Lib.hid (HO.out j hlt he)
        have HT1 : Hid (∀ u, Calls Tryz.prog 210 #[.int .u8 (b : Int), .int .u8 (j : Int)] u fun e w' => e = .returned (.int .u8 1) ∧ u = w') := Lib.hid (fun u => by have h := HTj.out u; rw [he] at h; exact h)
        clear he
        go_wp2_with (go_at_call 210; (with_reducible refine (HT1.out _).mono ?_); rintro e w1 ⟨rfl, rfl⟩)
        go_ret
        exact ⟨by rw [← HJ2.out]; rfl, rfl⟩
      · have hne : ¬ ((tm b j : Nat) : Int) = 1 := by omega
        have HN := Lib.hid he
        clear he
        go_wp2_with (go_at_call 210; (with_reducible refine (HTj.out _).mono ?_); rintro e w1 ⟨rfl, rfl⟩)
        go_round
        case rel => exact ⟨j + 1, by omega, by omega, by go_num, fun hb0 => by
          have h3 := HB2.out hb0
          rcases Nat.lt_or_eq_of_le h3 with h4 | h4
          · exact h4
          · exfalso
            rcases HI.out.2 with h5 | ⟨_, h5⟩
            · exact hb0 h5
            · rw [← h4] at h5; exact HN.out h5⟩
        case measure => simp [intOf]; omega
    · obtain rfl : j = 256 := by omega
      have h0 : b = 0 := by
        have := HI.out.1
        rcases Nat.eq_zero_or_pos b with h | h
        · exact h
        · have := HB2.out (by omega); omega
      have e256 : ((256 : Nat) : Int) = 256 := rfl
      rw [e256]
      clear e256
      go_wp2
      go_ret
      exact ⟨by first | (rw [invN_zero]; rfl) | (rw [h0, invN_zero]; rfl), rfl⟩
theorem div_lt256 {c : Nat} (h : c < 256) (i : Nat) : c / 2 ^ i < 256 := Nat.lt_of_le_of_lt (Nat.div_le_self _ _) h
theorem nb_lt {c : Nat} (h : c < 256) (i : Nat) : nb c i < 256 := by
  unfold nb
  exact xor_lt256 (xor_lt256 (xor_lt256 (xor_lt256 (xor_lt256 (div_lt256 h _) (div_lt256 h _)) (div_lt256 h _)) (div_lt256 h _)) (div_lt256 h _)) (div_lt256 (by decide) _)
theorem bit_lt (n : Nat) {i : Nat} (hi : i < 8) : (n &&& 1) * 2 ^ i < 256 := by
  have h1 : n &&& 1 ≤ 1 := Nat.and_le_right
  have h2 : 2 ^ i ≤ 2 ^ 7 := Nat.pow_le_pow_right (by decide) (by omega)
  have h3 : (n &&& 1) * 2 ^ i ≤ 1 * 2 ^ i := Nat.mul_le_mul_right _ h1
  omega
theorem rb_lt (c : Nat) : ∀ i, i ≤ 8 → rb c i < 256
  | 0, _ => by simp [rb]
  | i + 1, h => Nat.or_lt_two_pow (n := 8) (rb_lt c i (by omega)) (bit_lt _ (by omega))
theorem nb_int (c i a b d e : Nat) (hc : c < 256) (ha : a = (i + 4) % 8) (hb : b = (i + 5) % 8) (hd : d = (i + 6) % 8) (he : e = (i + 7) % 8) :
    bits BinOp.xor IntKind.u8 (bits BinOp.xor IntKind.u8 (bits BinOp.xor IntKind.u8 (bits BinOp.xor IntKind.u8 (bits BinOp.xor IntKind.u8 ((c : Int) / 2 ^ i) ((c : Int) / 2 ^ a)) ((c : Int) / 2 ^ b)) ((c : Int) / 2 ^ d)) ((c : Int) / 2 ^ e)) ((99 : Int) / 2 ^ i) = ((nb c i : Nat) : Int) := by
  subst ha hb hd he
  have h99 : ((99 : Int) / 2 ^ i) = ((99 / 2 ^ i : Nat) : Int) := div_cast 99 i
  have l := div_lt256 hc
  rw [h99, div_cast, div_cast, div_cast, div_cast, div_cast, u8_xor_nat _ _ (l _) (l _), u8_xor_nat _ _ (xor_lt256 (l _) (l _)) (l _), u8_xor_nat _ _ (xor_lt256 (xor_lt256 (l _) (l _)) (l _)) (l _),
    u8_xor_nat _ _ (xor_lt256 (xor_lt256 (xor_lt256 (l _) (l _)) (l _)) (l _)) (l _), u8_xor_nat _ _ (xor_lt256 (xor_lt256 (xor_lt256 (xor_lt256 (l _) (l _)) (l _)) (l _)) (l _)) (div_lt256 (by decide) _)]
  rfl
set_option maxRecDepth 100000 in
set_option maxHeartbeats 2000000 in
theorem rbox_any (b : Nat) (hb : b < 256) (w : World) :
    Calls Tryz.prog 182 #[.int .u8 (b : Int)] w fun e w' => e = .returned (.int .u8 ((boxB (UInt8.ofNat b)).toNat : Int)) ∧ w = w' := by
  have HI := Lib.hid (rinv_any b hb)
  have HE := Lib.hid (rb_box0 b hb)
  have hc := (invN_spec b hb).1
  generalize invN b = c at *
  generalize (boxB (UInt8.ofNat b)).toNat = X at *
  go_enter Tryz.func182, Tryz.ntmps182
  go_wp2_with (go_at_call 209; refine (HI.out _).mono ?_; rintro e w1 ⟨rfl, rfl⟩)
  go_loop [4, 5] (fun o i => ∃ j : Nat, j ≤ 8 ∧ i = .int .i64 j ∧ o = .int .u8 (rb c j : Nat)) (fun _ i => 8 - (intOf i).toNat)
  case atStart => exact ⟨0, by omega, rfl, rfl⟩
  case round =>
    obtain ⟨j, hj, rfl, rfl⟩ := hrel
    by_cases hlt : j < 8
    · have hj0 : (0 : Int) ≤ (j : Int) := by omega
      obtain ⟨k4, q4⟩ : ∃ k : Nat, ((j : Int) + 4) % 8 = (k : Int) := ⟨(j + 4) % 8, by omega⟩
      obtain ⟨k5, q5⟩ : ∃ k : Nat, ((j : Int) + 5) % 8 = (k : Int) := ⟨(j + 5) % 8, by omega⟩
      obtain ⟨k6, q6⟩ : ∃ k : Nat, ((j : Int) + 6) % 8 = (k : Int) := ⟨(j + 6) % 8, by omega⟩
      obtain ⟨k7, q7⟩ : ∃ k : Nat, ((j : Int) + 7) % 8 = (k : Int) := ⟨(j + 7) % 8, by omega⟩
      have hx := nb_int c j k4 k5 k6 k7 hc (by omega) (by omega) (by omega) (by omega)
      have hnl := nb_lt hc j
      have hrl := rb_lt c j hj
      have hbl := bit_lt (nb c j) hlt
      have hn : rb c (j + 1) = rb c j ||| (nb c j &&& 1) * 2 ^ j := rfl
      have ha := u8_and_nat (nb c j) 1 hnl (by decide)
      have HN := Lib.hid hn
      clear hn
      generalize nb c j = N at *
      obtain ⟨t, ht⟩ : ∃ t, N &&& 1 = t := ⟨_, rfl⟩
      rw [ht] at ha hbl HN
      have ho := u8_or_nat (rb c j) (t * 2 ^ j) hrl hbl
      rw [mul_cast] at ho
      have hw : IntKind.u8.wrap ((t : Int) * 2 ^ j) = (t : Int) * 2 ^ j := by rw [← mul_cast]; exact IntWalk.u8_in _ ⟨by omega, by omega⟩
      have ha2 : bits BinOp.and IntKind.u8 (N : Int) 1 = (t : Int) := ha
      clear ha
      go_wp2
      go_round
      case rel => exact ⟨j + 1, hlt, by go_num, by rw [HN.out]⟩
      case measure => simp [intOf]; omega
    · obtain rfl : j = 8 := by omega
      rw [HE.out]
      go_wp2
      go_ret
      exact ⟨rfl, rfl⟩
end Go.Proofs.YtobhbppogeghnaaGreatDoor
end

section
namespace Go.Proofs.YtobhbppogeghnaaGreatDoor
open Go.RowKit

/-- n bytes 0. -/
def zc (n : Nat) : Array Value := ((List.replicate n (0 : UInt8)).map cellOf).toArray
theorem zero_run {P : Program} {t : TypeId} {z : Value} (h : (P.info? t).bind (·.zero) = some z) (w : World) : (zeroValue t).run P w = .ok z w := by
  cases hq : P.info? t with
  | none => simp [hq] at h
  | some i =>
    have hz : i.zero = some z := by simpa [hq] using h
    simp [zeroValue, typeInfo, hq, hz]
theorem Row.zero (w : World) (t : TypeId) (n : Nat) : Row (w.alloc (.cells (zc n) t)) w.heap.size t (List.replicate n 0) := heap_alloc_new w _
theorem sized {t n : Nat} {l : List UInt8} (h : (Tryz.prog.info? t).map (·.size) = some n) (hl : l.length = n) : (Tryz.prog.info? t).map (·.size) = some ((l.map cellOf).toArray).size := by simp [h, hl]
end Go.Proofs.YtobhbppogeghnaaGreatDoor
end

section
namespace Go.Proofs.YtobhbppogeghnaaGreatDoor
open Go.RowKit

theorem zero255 : (Tryz.prog.info? 259).bind (·.zero) = some (.agg (zc 255)) := by kernel_rfl
theorem zero256 : (Tryz.prog.info? 204).bind (·.zero) = some (.agg (zc 256)) := by kernel_rfl
theorem zero512 : (Tryz.prog.info? 206).bind (·.zero) = some (.agg (zc 512)) := by kernel_rfl
theorem zero176 : (Tryz.prog.info? 210).bind (·.zero) = some (.agg (zc 176)) := by kernel_rfl
theorem zero16 : (Tryz.prog.info? 209).bind (·.zero) = some (.agg (zc 16)) := by kernel_rfl
theorem size255 : (Tryz.prog.info? 259).map (·.size) = some 255 := by kernel_rfl
theorem size256 : (Tryz.prog.info? 204).map (·.size) = some 256 := by kernel_rfl
theorem size512 : (Tryz.prog.info? 206).map (·.size) = some 512 := by kernel_rfl
theorem size176 : (Tryz.prog.info? 210).map (·.size) = some 176 := by kernel_rfl
theorem size16 : (Tryz.prog.info? 209).map (·.size) = some 16 := by kernel_rfl
end Go.Proofs.YtobhbppogeghnaaGreatDoor
end

section
namespace Go.Proofs.YtobhbppogeghnaaGreatDoor
open Go.RowKit

theorem info5s : (Tryz.prog.info? 5).map (·.size) = some 1 := by kernel_rfl
/-- An array of bytes, read by value. -/
theorem index_bytes (t n : Nat) (ht : Tryz.prog.underlying t = some (.array n 5)) (L : List UInt8) (hL : L.length = n) (i : Nat) (b : UInt8) (hb : L[i]? = some b) (w : World) :
    (Instr.index t (.agg (L.map cellOf).toArray) (.int .i64 (i : Int))).run Tryz.prog w = .ok (.int .u8 (b.toNat : Int)) w := by
  have hi : i < L.length := (List.getElem?_eq_some_iff.1 hb).1
  have hu2 := Tryz.underlying5
  have hg : L[i] = b := by rw [List.getElem?_eq_getElem hi] at hb; simpa using hb
  cases hq : Tryz.prog.info? 5 with
  | none => have := info5s; simp [hq] at this
  | some d =>
    have hs : d.size = 1 := by have := info5s; simpa [hq] using this
    simp [Instr.index, part, isAgg, run_underlying ht, run_underlying hu2, sizeOf, typeInfo, hq, hs, hL, asIntOf, go_sem, show i < n by omega, hg, cellOf]
/-- The powers of x + 1. -/
def pw : Nat → Nat
  | 0 => 1
  | n + 1 => pw n ^^^ xt (pw n)
theorem pw_lt : ∀ n, pw n < 256
  | 0 => by decide
  | n + 1 => xor_lt256 (pw_lt n) (xt_lt _)
def pwB : List UInt8 := (List.range 255).map fun i => UInt8.ofNat (pw i)
theorem pwB_length : pwB.length = 255 := by simp [pwB]
theorem pwB_at (i : Nat) (h : i < 255) : pwB[i]? = some (UInt8.ofNat (pw i)) := by simp [pwB, h]
theorem pw_nat (i : Nat) : (UInt8.ofNat (pw i)).toNat = pw i := by rw [UInt8.toNat_ofNat']; exact Nat.mod_eq_of_lt (pw_lt i)
/-- The inverses, as they are laid. -/
def invS : Nat → List UInt8
  | 0 => List.replicate 256 0
  | i + 1 => (invS i).set (pw i) (UInt8.ofNat (pw ((255 - i) % 255)))
theorem invS_length : ∀ i, (invS i).length = 256
  | 0 => List.length_replicate
  | i + 1 => by rw [invS, List.length_set, invS_length i]
def invB : List UInt8 := invT.map UInt8.ofNat
theorem invS_all : invS 255 = invB := by decide +kernel
theorem invB_length : invB.length = 256 := by decide +kernel
theorem pw_zero : pw 0 = 1 := rfl
theorem pw_succ (n : Nat) : pw (n + 1) = pw n ^^^ xt (pw n) := rfl
attribute [irreducible] pwB invB pw
set_option maxRecDepth 100000 in
set_option maxHeartbeats 1000000 in
theorem inverses_any (w : World) : Calls Tryz.prog 186 #[] w fun e w' => e = .returned (.agg (invB.map cellOf).toArray) ∧ Ext w w' := by
  have HP := Lib.hid pw_lt
  have HA := Lib.hid pwB_at
  have HN := Lib.hid pw_nat
  have hz1 := zero_run zero255
  have hz2 := zero_run zero256
  go_enter Tryz.func186, Tryz.ntmps186
  go_wp2
  go_loopw [7, 2] (fun i p wr => ∃ j : Nat, j ≤ 255 ∧ i = .int .i64 j ∧ p = .int .u8 (pw j : Nat) ∧ Row wr (w.heap.size + 1) 259 (pwB.take j ++ List.replicate (255 - j) 0) ∧ Row wr w.heap.size 204 (List.replicate 256 0) ∧ Ext w wr) (fun i _ _ => 255 - (intOf i).toNat)
  case atStart => exact ⟨0, Nat.zero_le _, rfl, by rw [pw_zero]; rfl, by simpa using Row.zero (w.alloc _) 259 255, (Row.zero w _ _).alloc _, ((Ext.refl w).alloc _).alloc _⟩
  case round =>
    obtain ⟨j, hj, rfl, rfl, hrow, hres, hext⟩ := hrel
    by_cases hlt : j < 255
    · have hc := fill_cell hrow pwB_length hlt
      have hf := hrow.frozen j
      have HS := Lib.hid (fun x hx => fill_step hrow pwB_length hlt x _ (HA.out j hlt) hx)
      have hpl := HP.out j
      have hxl := xt_lt (pw j)
      have HPS := Lib.hid (pw_succ j)
      have HNj := Lib.hid (HN.out j)
      generalize UInt8.ofNat (pw j) = B at *
      generalize pw j = p at *
      have hxor := u8_xor_nat p (xt p) hpl hxl
      have HR := Lib.hid hres; have HE := Lib.hid hext
      clear hrow hres hext
      go_wp2_with (go_at_call 211; refine (double_any p hpl _).mono ?_; rintro e w1 ⟨rfl, rfl⟩)
      go_roundw
      case rel => exact ⟨j + 1, by omega, by go_num, by rw [HPS.out], HS.out _ (by rw [HNj.out]), HR.out.other (by omega) _ _, HE.out.setCell (by simp) _⟩
      case measure => simp [intOf]; omega
    · obtain rfl : j = 255 := by omega
      rw [Nat.sub_self, List.replicate_zero, List.append_nil, List.take_of_length_le (by rw [pwB_length]; exact Nat.le_refl _)] at hrow
      have hw1 : w.heap.size + 1 < wr.heap.size := hrow.lt
      have HRow := Lib.hid hrow; have HR := Lib.hid hres; have HE := Lib.hid hext
      clear hrow hres hext
      go_wp2_with (refine wpList_load_row rfl 259 (.tmp 1) rfl (w.heap.size + 1) rfl 259 _ (0, 0) _ (HRow.out.alloc _) Tryz.underlying259 rfl (sized size255 pwB_length) ?_)
      go_loopw [19] (fun i wr2 => ∃ j : Nat, j ≤ 255 ∧ i = .int .i64 j ∧ Row wr2 wr.heap.size 204 (invS j) ∧ Row wr2 (w.heap.size + 1) 259 pwB ∧ Row wr2 w.heap.size 204 (List.replicate 256 0) ∧ Ext w wr2) (fun i _ => 255 - (intOf i).toNat)
      case atStart => exact ⟨0, Nat.zero_le _, rfl, Row.zero wr _ 256, HRow.out.alloc _, HR.out.alloc _, HE.out.alloc _⟩
      case round =>
        obtain ⟨i, hi, rfl, hrow, hpw, hres, hext⟩ := hrel
        by_cases hlt : i < 255
        · have hix : ∀ u, (Instr.index 259 (.agg (pwB.map cellOf).toArray) (.int .i64 (i : Int))).run Tryz.prog u = .ok (.int .u8 (pw i : Nat)) u := fun u => by
            rw [index_bytes 259 255 Tryz.underlying259 pwB pwB_length i _ (HA.out i hlt) u, HN.out]
          obtain ⟨q, hq⟩ : ∃ q : Nat, ((255 : Int) - (i : Int)) % 255 = (q : Int) := ⟨(255 - i) % 255, by omega⟩
          have hq2 : q < 255 := by omega
          have hq3 : (255 - i) % 255 = q := by omega
          have hcq := hpw.cell q _ (HA.out q hq2)
          rw [HN.out] at hcq
          have hpl := HP.out i
          have hcp := hrow.cell (pw i) _ (List.getElem?_eq_getElem (by rw [invS_length]; exact hpl))
          have hfp := hrow.frozen (pw i)
          have HS := Lib.hid (hrow.set_ (pw i) (pw q : Nat) (by omega) (by have := HP.out q; omega))
          have HSt : Hid (invS (i + 1) = (invS i).set (pw i) (UInt8.ofNat (pw q))) := Lib.hid (by rw [invS, hq3])
          have HPW := Lib.hid hpw; have HR2 := Lib.hid hres; have HE2 := Lib.hid hext
          clear hrow hpw hres hext hq3
          generalize pw i = p at *
          generalize pw q = y at *
          have HW := Lib.hid hw1
          go_wp2
          go_roundw
          case rel => exact ⟨i + 1, by omega, by go_num, by rw [HSt.out]; simpa using HS.out, HPW.out.other (by omega) _ _, HR2.out.other (by omega) _ _, HE2.out.setCell (by have := HE.out.size; omega) _⟩
          case measure => simp [intOf]; omega
        · obtain rfl : i = 255 := by omega
          rw [invS_all] at hrow
          have e255 : ((255 : Nat) : Int) = 255 := rfl
          rw [e255]
          clear e255
          go_wp2_with (first
            | (refine wpList_load_row rfl 204 (.tmp 4) rfl _ rfl 204 _ (0, 0) _ hrow Tryz.underlying204 rfl (sized size256 invB_length) ?_)
            | (refine wpList_store_row rfl 204 (.tmp 0) (.tmp 31) rfl w.heap.size _ rfl rfl 204 _ hres (sized size256 invB_length) (by simp [invB_length]) (cells8_one _) ?_))
          exact bodyPost_ret (results_cell_row rfl _ _ w.heap.size 204 _ (0, 0) _ rfl (setRow_heap _ _ _ _ _ _ hres) Tryz.underlying204 rfl (sized size256 invB_length)) rfl ⟨rfl, hext.setRow (Nat.le_refl _) _⟩
end Go.Proofs.YtobhbppogeghnaaGreatDoor
end
