/- Contracts: the product of two bytes, by the document's answer. Contracts: a byte doubled, products, and bits of a byte turned, by the program. Contracts: inverses, boxes, their table, and what they are boxes of, by the document's answer. Plain: new blocks of zeros. Contracts: the inverses of all bytes, by the program. -/
import Derived.Test.YtdnpgmoiapkhnaaDoorProg
import Derived.Test.YtdnpgmoiapkhnaaDoorM00
import Derived.Test.YtdnpgmoiapkhnaaDoorM06
import Derived.WalkSpells
import Derived.Laws.BitsAllLaws
import Derived.Test.YtdnpgmoiapkhnaaDoorAesL
import Derived.Deep.QuietTactic
import Derived.BigQuiet
import Derived.Test.YtdnpgmoiapkhnaaDoorM05
import Derived.Test.YtdnpgmoiapkhnaaDoorM16
import Derived.Laws.Tables
import Derived.Outline
section
namespace Go.Proofs.YtdnpgmoiapkhnaaDoor
open Go.RowKit

theorem i64_xor_nat (a b : Nat) (ha : a < 4294967296) (hb : b < 4294967296) : bits .xor .i64 (a : Int) (b : Int) = ((a ^^^ b : Nat) : Int) := by
  have hx : a ^^^ b < 2 ^ 32 := Nat.xor_lt_two_pow (by omega) (by omega)
  show IntKind.i64.wrap ((BitVec.ofInt 64 (a : Int) ^^^ BitVec.ofInt 64 (b : Int)).toNat : Int) = _
  rw [BitVec.toNat_xor, ofInt_u64 a (by omega), ofInt_u64 b (by omega), IntKind.wrap_i64]
  omega
theorem i64_and_nat (a b : Nat) (ha : a < 4294967296) (hb : b < 4294967296) : bits .and .i64 (a : Int) (b : Int) = ((a &&& b : Nat) : Int) := by
  have hx : a &&& b ≤ a := Nat.and_le_left
  show IntKind.i64.wrap ((BitVec.ofInt 64 (a : Int) &&& BitVec.ofInt 64 (b : Int)).toNat : Int) = _
  rw [BitVec.toNat_and, ofInt_u64 a (by omega), ofInt_u64 b (by omega), IntKind.wrap_i64]
  omega
theorem div_cast (b j : Nat) : (b : Int) / 2 ^ j = ((b / 2 ^ j : Nat) : Int) := by simp
theorem bit_is (b j : Nat) : (((b / 2 ^ j &&& 1 : Nat) : Int) == 1) = b.testBit j := by
  rw [Nat.and_one_is_mod, Nat.testBit_eq_decide_div_mod_eq]
  by_cases h : b / 2 ^ j % 2 = 1
  · simp [h]
  · have : b / 2 ^ j % 2 = 0 := by omega
    simp [this]
theorem bit_test8 (b j : Nat) (hb : b < 256) : (bits BinOp.and IntKind.u8 ((b : Int) / 2 ^ j) 1 == 1) = b.testBit j := by
  have h1 : b / 2 ^ j < 256 := Nat.lt_of_le_of_lt (Nat.div_le_self _ _) hb
  have e : (1 : Int) = ((1 : Nat) : Int) := rfl
  rw [div_cast]
  conv => lhs; lhs; rw [e]
  rw [u8_and_nat _ _ h1 (by decide)]
  exact bit_is b j
theorem bit_test64 (b j : Nat) (hb : b < 4294967296) : (bits BinOp.and IntKind.i64 ((b : Int) / 2 ^ j) 1 == 1) = b.testBit j := by
  have h1 : b / 2 ^ j < 4294967296 := Nat.lt_of_le_of_lt (Nat.div_le_self _ _) hb
  have e : (1 : Int) = ((1 : Nat) : Int) := rfl
  rw [div_cast]
  conv => lhs; lhs; rw [e]
  rw [i64_and_nat _ _ h1 (by decide)]
  exact bit_is b j
/-- The sum of the powers, not yet reduced. -/
def rt1 (a b : Nat) : Nat → Nat
  | 0 => 0
  | i + 1 => rt1 a b i ^^^ pickb (b.testBit i) (a * 2 ^ i)
/-- Reduced from the bit 14 down, i steps. -/
def rt2 (n : Nat) : Nat → Nat
  | 0 => n
  | i + 1 => rt2 n i ^^^ pickb ((rt2 n i).testBit (14 - i)) (283 * 2 ^ (6 - i))
theorem shl_lt {a i : Nat} (ha : a < 512) (hi : i < 8) : a * 2 ^ i < 65536 := by
  have : 2 ^ i ≤ 2 ^ 7 := Nat.pow_le_pow_right (by decide) (by omega)
  have h2 : a * 2 ^ i ≤ a * 2 ^ 7 := Nat.mul_le_mul_left _ this
  omega
theorem xor_lt16 {a b : Nat} (ha : a < 65536) (hb : b < 65536) : a ^^^ b < 65536 := Nat.xor_lt_two_pow (n := 16) ha hb
theorem rt1_lt {a : Nat} (ha : a < 256) (b : Nat) : ∀ i, i ≤ 8 → rt1 a b i < 65536
  | 0, _ => by simp [rt1]
  | i + 1, h => xor_lt16 (rt1_lt ha b i (by omega)) (pickb_lt _ _ (by decide) (shl_lt (by omega) (by omega)))
theorem rt2_lt {n : Nat} (hn : n < 65536) : ∀ i, i ≤ 7 → rt2 n i < 65536
  | 0, _ => hn
  | i + 1, h => xor_lt16 (rt2_lt hn i (by omega)) (pickb_lt _ _ (by decide) (shl_lt (by decide) (by omega)))
theorem rt1_right (a b d : Nat) : ∀ n, rt1 a (b ^^^ d) n = rt1 a b n ^^^ rt1 a d n
  | 0 => by simp [rt1]
  | n + 1 => by rw [rt1, rt1, rt1, rt1_right a b d n, Nat.testBit_xor, pickb_xor, xor4]
theorem mul_pow_xor (a c i : Nat) : (a ^^^ c) * 2 ^ i = a * 2 ^ i ^^^ c * 2 ^ i := by
  have h := Nat.shiftLeft_xor_distrib (a := a) (b := c) (i := i)
  simpa [Nat.shiftLeft_eq] using h
theorem rt1_left (a c b : Nat) : ∀ n, rt1 (a ^^^ c) b n = rt1 a b n ^^^ rt1 c b n
  | 0 => by simp [rt1]
  | n + 1 => by rw [rt1, rt1, rt1, rt1_left a c b n, mul_pow_xor, pickb_sum, xor4]
theorem rt2_xor (x y : Nat) : ∀ n, rt2 (x ^^^ y) n = rt2 x n ^^^ rt2 y n
  | 0 => rfl
  | n + 1 => by rw [rt2, rt2, rt2, rt2_xor x y n, Nat.testBit_xor, pickb_xor, xor4]
theorem rtm_bits : ∀ i, i < 8 → ∀ j, j < 8 → rt2 (rt1 (2 ^ i) (2 ^ j) 8) 7 = tm (2 ^ i) (2 ^ j) := by decide +kernel
/-- The document's product is the product. -/
theorem rtm_eq {a b : Nat} (ha : a < 256) (hb : b < 256) : rt2 (rt1 a b 8) 7 = tm a b := by
  refine linear_eq (f := fun b => rt2 (rt1 a b 8) 7) (g := fun b => tm a b) (fun x y _ _ => by simp only [rt1_right, rt2_xor]) (fun x y _ _ => tm_right _ _ _) (fun j hj => ?_) b hb
  exact linear_eq (f := fun a => rt2 (rt1 a (2 ^ j) 8) 7) (g := fun a => tm a (2 ^ j)) (fun x y _ _ => by simp only [rt1_left, rt2_xor]) (fun x y _ _ => tm_left _ _ _) (fun i hi => rtm_bits i hi j hj) a ha
theorem mul_cast (a j : Nat) : ((a * 2 ^ j : Nat) : Int) = (a : Int) * 2 ^ j := by simp
theorem shl_cast (a j : Nat) (h : a * 2 ^ j < 65536) : wrap64 ((a : Int) * 2 ^ j) = ((a * 2 ^ j : Nat) : Int) := by
  have e : (a : Int) * 2 ^ j = ((a * 2 ^ j : Nat) : Int) := by simp
  rw [e]
  unfold wrap64
  omega
end Go.Proofs.YtdnpgmoiapkhnaaDoor
end

section
namespace Go.Proofs.YtdnpgmoiapkhnaaDoor
open Go.RowKit

theorem dbl_int : ∀ a : Nat, a < 256 → bits BinOp.xor IntKind.u8 ((a : Int) * 2 % 256) ((a : Int) / 128 * 27) = ((xt a : Nat) : Int) := by decide +kernel
theorem double_any (a : Nat) (ha : a < 256) (w : World) :
    Calls Tryd.prog 134 #[.int .u8 (a : Int)] w fun e w' => e = .returned (.int .u8 (xt a : Nat)) ∧ w = w' := by
  have he := dbl_int a ha
  go_enter Tryd.func134, Tryd.ntmps134
  go_wp2
  go_ret
  exact ⟨rfl, rfl⟩
/-- A byte's bits turned by r places to the left. -/
def rlB (b r : Nat) : Nat := b * 2 ^ r % 256 ||| b / 2 ^ (8 - r)
theorem rlB_lt {b r : Nat} (hb : b < 256) : rlB b r < 256 := Nat.or_lt_two_pow (n := 8) (Nat.mod_lt _ (by decide)) (Nat.lt_of_le_of_lt (Nat.div_le_self _ _) hb)
theorem turned_any (b r : Nat) (hb : b < 256) (hr : r ≤ 8) (w : World) :
    Calls Tryd.prog 115 #[.int .u8 (b : Int), .int .i64 (r : Int)] w fun e w' => e = .returned (.int .u8 (rlB b r : Nat)) ∧ Ext w w' := by
  have he : bits BinOp.or IntKind.u8 ((b : Int) * 2 ^ r % 256) ((b : Int) / 2 ^ (8 - r)) = ((rlB b r : Nat) : Int) := by
    have e1 : (b : Int) * 2 ^ r % 256 = ((b * 2 ^ r % 256 : Nat) : Int) := by simp
    have e2 : (b : Int) / 2 ^ (8 - r) = ((b / 2 ^ (8 - r) : Nat) : Int) := by simp
    rw [e1, e2, u8_or_nat _ _ (Nat.mod_lt _ (by decide)) (Nat.lt_of_le_of_lt (Nat.div_le_self _ _) hb)]
    rfl
  have HE := Lib.hid he
  clear he
  go_enter Tryd.func115, Tryd.ntmps115
  go_wp2
  go_quiet (fail)
  go_wp2
  go_ret
  exact ⟨by rw [← HE.out]; rfl, (Ext.refl w).drewN _⟩
end Go.Proofs.YtdnpgmoiapkhnaaDoor
end

section
namespace Go.Proofs.YtdnpgmoiapkhnaaDoor
open Go.RowKit

/-- The inverses; of 0 it is 0. -/
def invT : List Nat := [0, 1, 141, 246, 203, 82, 123, 209, 232, 79, 41, 192, 176, 225, 229, 199, 116, 180, 170, 75, 153, 43, 96, 95, 88, 63, 253, 204, 255, 64, 238, 178, 58, 110, 90, 241, 85, 77, 168, 201, 193, 10, 152, 21, 48, 68, 162, 194, 44, 69, 146, 108, 243, 57, 102, 66, 242, 53, 32, 111, 119, 187, 89, 25, 29, 254, 55, 103, 45, 49, 245, 105, 167, 100, 171, 19, 84, 37, 233, 9, 237, 92, 5, 202, 76, 36, 135, 191, 24, 62, 34, 240, 81, 236, 97, 23, 22, 94, 175, 211, 73, 166, 54, 67, 244, 71, 145, 223, 51, 147, 33, 59, 121, 183, 151, 133, 16, 181, 186, 60, 182, 112, 208, 6, 161, 250, 129, 130, 131, 126, 127, 128, 150, 115, 190, 86, 155, 158, 149, 217, 247, 2, 185, 164, 222, 106, 50, 109, 216, 138, 132, 114, 42, 20, 159, 136, 249, 220, 137, 154, 251, 124, 46, 195, 143, 184, 101, 72, 38, 200, 18, 74, 206, 231, 210, 98, 12, 224, 31, 239, 17, 117, 120, 113, 165, 142, 118, 61, 189, 188, 134, 87, 11, 40, 47, 163, 218, 212, 228, 15, 169, 39, 83, 4, 27, 252, 172, 230, 122, 7, 174, 99, 197, 219, 226, 234, 148, 139, 196, 213, 157, 248, 144, 107, 177, 13, 214, 235, 198, 14, 207, 173, 8, 78, 215, 227, 93, 80, 30, 179, 91, 35, 56, 52, 104, 70, 3, 140, 221, 156, 125, 160, 205, 26, 65, 28]
def invN (b : Nat) : Nat := invT.getD b 0
theorem invN_spec : ∀ b, b < 256 → invN b < 256 ∧ (b = 0 ∨ 1 ≤ invN b ∧ tm b (invN b) = 1) := by decide +kernel
theorem invN_zero : invN 0 = 0 := rfl
/-- No other byte than the inverse has the product 1. -/
theorem inv_only {b j : Nat} (hb : b < 256) (hj : j < 256) (h : tm b j = 1) : j = invN b := by
  obtain ⟨hi, h0 | ⟨_, h2⟩⟩ := invN_spec b hb
  · subst h0
    rw [tm_comm (by decide) hj, tm_zero] at h
    cases h
  · have e : j = tm j (tm b (invN b)) := by rw [h2, tm_one j hj]
    rw [e, tm_assoc hj hb hi, tm_comm hj hb, h, tm_comm (by decide) hi, tm_one _ hi]
/-- A box, bit by bit. -/
def nb (c i : Nat) : Nat := c / 2 ^ i ^^^ c / 2 ^ ((i + 4) % 8) ^^^ c / 2 ^ ((i + 5) % 8) ^^^ c / 2 ^ ((i + 6) % 8) ^^^ c / 2 ^ ((i + 7) % 8) ^^^ 99 / 2 ^ i
def rb (c : Nat) : Nat → Nat
  | 0 => 0
  | i + 1 => rb c i ||| (nb c i &&& 1) * 2 ^ i
theorem rb_box0 : ∀ b, b < 256 → rb (invN b) 8 = (boxB (UInt8.ofNat b)).toNat := by decide +kernel
attribute [irreducible] invN
theorem div_lt256 {c : Nat} (h : c < 256) (i : Nat) : c / 2 ^ i < 256 := Nat.lt_of_le_of_lt (Nat.div_le_self _ _) h
theorem nb_lt {c : Nat} (h : c < 256) (i : Nat) : nb c i < 256 := by
  unfold nb
  exact xor_lt256 (xor_lt256 (xor_lt256 (xor_lt256 (xor_lt256 (div_lt256 h _) (div_lt256 h _)) (div_lt256 h _)) (div_lt256 h _)) (div_lt256 h _)) (div_lt256 (by decide) _)
theorem bit_lt (n : Nat) {i : Nat} (hi : i < 8) : (n &&& 1) * 2 ^ i < 256 := by
  have h1 : n &&& 1 ≤ 1 := Nat.and_le_right
  have h2 : 2 ^ i ≤ 2 ^ 7 := Nat.pow_le_pow_right (by decide) (by omega)
  have h3 : (n &&& 1) * 2 ^ i ≤ 1 * 2 ^ i := Nat.mul_le_mul_right _ h1
  omega
theorem rb_lt (c : Nat) : ∀ i, i ≤ 8 → rb c i < 256
  | 0, _ => by simp [rb]
  | i + 1, h => Nat.or_lt_two_pow (n := 8) (rb_lt c i (by omega)) (bit_lt _ (by omega))
theorem nb_int (c i a b d e : Nat) (hc : c < 256) (ha : a = (i + 4) % 8) (hb : b = (i + 5) % 8) (hd : d = (i + 6) % 8) (he : e = (i + 7) % 8) :
    bits BinOp.xor IntKind.u8 (bits BinOp.xor IntKind.u8 (bits BinOp.xor IntKind.u8 (bits BinOp.xor IntKind.u8 (bits BinOp.xor IntKind.u8 ((c : Int) / 2 ^ i) ((c : Int) / 2 ^ a)) ((c : Int) / 2 ^ b)) ((c : Int) / 2 ^ d)) ((c : Int) / 2 ^ e)) ((99 : Int) / 2 ^ i) = ((nb c i : Nat) : Int) := by
  subst ha hb hd he
  have h99 : ((99 : Int) / 2 ^ i) = ((99 / 2 ^ i : Nat) : Int) := div_cast 99 i
  have l := div_lt256 hc
  rw [h99, div_cast, div_cast, div_cast, div_cast, div_cast, u8_xor_nat _ _ (l _) (l _), u8_xor_nat _ _ (xor_lt256 (l _) (l _)) (l _), u8_xor_nat _ _ (xor_lt256 (xor_lt256 (l _) (l _)) (l _)) (l _),
    u8_xor_nat _ _ (xor_lt256 (xor_lt256 (xor_lt256 (l _) (l _)) (l _)) (l _)) (l _), u8_xor_nat _ _ (xor_lt256 (xor_lt256 (xor_lt256 (xor_lt256 (l _) (l _)) (l _)) (l _)) (l _)) (div_lt256 (by decide) _)]
  rfl
end Go.Proofs.YtdnpgmoiapkhnaaDoor
end

section
namespace Go.Proofs.YtdnpgmoiapkhnaaDoor
open Go.RowKit

theorem zero255 : (Tryd.prog.info? 190).bind (·.zero) = some (.agg (zc 255)) := by kernel_rfl
theorem zero256 : (Tryd.prog.info? 140).bind (·.zero) = some (.agg (zc 256)) := by kernel_rfl
theorem zero512 : (Tryd.prog.info? 142).bind (·.zero) = some (.agg (zc 512)) := by kernel_rfl
theorem zero176 : (Tryd.prog.info? 146).bind (·.zero) = some (.agg (zc 176)) := by kernel_rfl
theorem zero16 : (Tryd.prog.info? 145).bind (·.zero) = some (.agg (zc 16)) := by kernel_rfl
theorem size255 : (Tryd.prog.info? 190).map (·.size) = some 255 := by kernel_rfl
theorem size256 : (Tryd.prog.info? 140).map (·.size) = some 256 := by kernel_rfl
theorem size512 : (Tryd.prog.info? 142).map (·.size) = some 512 := by kernel_rfl
theorem size176 : (Tryd.prog.info? 146).map (·.size) = some 176 := by kernel_rfl
theorem size16 : (Tryd.prog.info? 145).map (·.size) = some 16 := by kernel_rfl
end Go.Proofs.YtdnpgmoiapkhnaaDoor
end

section
namespace Go.Proofs.YtdnpgmoiapkhnaaDoor
open Go.RowKit

theorem info5s : (Tryd.prog.info? 5).map (·.size) = some 1 := by kernel_rfl
/-- An array of bytes, read by value. -/
theorem index_bytes (t n : Nat) (ht : Tryd.prog.underlying t = some (.array n 5)) (L : List UInt8) (hL : L.length = n) (i : Nat) (b : UInt8) (hb : L[i]? = some b) (w : World) :
    (Instr.index t (.agg (L.map cellOf).toArray) (.int .i64 (i : Int))).run Tryd.prog w = .ok (.int .u8 (b.toNat : Int)) w := by
  have hi : i < L.length := (List.getElem?_eq_some_iff.1 hb).1
  have hu2 := Tryd.underlying5
  have hg : L[i] = b := by rw [List.getElem?_eq_getElem hi] at hb; simpa using hb
  cases hq : Tryd.prog.info? 5 with
  | none => have := info5s; simp [hq] at this
  | some d =>
    have hs : d.size = 1 := by have := info5s; simpa [hq] using this
    simp [Instr.index, part, isAgg, run_underlying ht, run_underlying hu2, sizeOf, typeInfo, hq, hs, hL, asIntOf, go_sem, show i < n by omega, hg, cellOf]
/-- The powers of x + 1. -/
def pw : Nat → Nat
  | 0 => 1
  | n + 1 => pw n ^^^ xt (pw n)
theorem pw_lt : ∀ n, pw n < 256
  | 0 => by decide
  | n + 1 => xor_lt256 (pw_lt n) (xt_lt _)
def pwB : List UInt8 := (List.range 255).map fun i => UInt8.ofNat (pw i)
theorem pwB_length : pwB.length = 255 := by simp [pwB]
theorem pwB_at (i : Nat) (h : i < 255) : pwB[i]? = some (UInt8.ofNat (pw i)) := by simp [pwB, h]
theorem pw_nat (i : Nat) : (UInt8.ofNat (pw i)).toNat = pw i := by rw [UInt8.toNat_ofNat']; exact Nat.mod_eq_of_lt (pw_lt i)
/-- The inverses, as they are laid. -/
def invS : Nat → List UInt8
  | 0 => List.replicate 256 0
  | i + 1 => (invS i).set (pw i) (UInt8.ofNat (pw ((255 - i) % 255)))
theorem invS_length : ∀ i, (invS i).length = 256
  | 0 => List.length_replicate
  | i + 1 => by rw [invS, List.length_set, invS_length i]
def invB : List UInt8 := invT.map UInt8.ofNat
theorem invS_all : invS 255 = invB := by decide +kernel
theorem invB_length : invB.length = 256 := by decide +kernel
theorem pw_zero : pw 0 = 1 := rfl
theorem pw_succ (n : Nat) : pw (n + 1) = pw n ^^^ xt (pw n) := rfl
attribute [irreducible] pwB invB pw
set_option maxRecDepth 100000 in
set_option maxHeartbeats 1000000 in
theorem inverses_any (w : World) : Calls Tryd.prog 114 #[] w fun e w' => e = .returned (.agg (invB.map cellOf).toArray) ∧ Ext w w' := by
  have HP := Lib.hid pw_lt
  have HA := Lib.hid pwB_at
  have HN := Lib.hid pw_nat
  have hz1 := zero_run zero255
  have hz2 := zero_run zero256
  go_enter Tryd.func114, Tryd.ntmps114
  go_wp2
  go_loopw [7, 2] (fun i p wr => ∃ j : Nat, j ≤ 255 ∧ i = .int .i64 j ∧ p = .int .u8 (pw j : Nat) ∧ Row wr (w.heap.size + 1) 190 (pwB.take j ++ List.replicate (255 - j) 0) ∧ Row wr w.heap.size 140 (List.replicate 256 0) ∧ Ext w wr) (fun i _ _ => 255 - (intOf i).toNat)
  case atStart => exact ⟨0, Nat.zero_le _, rfl, by rw [pw_zero]; rfl, by simpa using Row.zero (w.alloc _) 190 255, (Row.zero w _ _).alloc _, ((Ext.refl w).alloc _).alloc _⟩
  case round =>
    obtain ⟨j, hj, rfl, rfl, hrow, hres, hext⟩ := hrel
    by_cases hlt : j < 255
    · have hc := fill_cell hrow pwB_length hlt
      have hf := hrow.frozen j
      have HS := Lib.hid (fun x hx => fill_step hrow pwB_length hlt x _ (HA.out j hlt) hx)
      have hpl := HP.out j
      have hxl := xt_lt (pw j)
      have HPS := Lib.hid (pw_succ j)
      have HNj := Lib.hid (HN.out j)
      generalize UInt8.ofNat (pw j) = B at *
      generalize pw j = p at *
      have hxor := u8_xor_nat p (xt p) hpl hxl
      have HR := Lib.hid hres; have HE := Lib.hid hext
      clear hrow hres hext
      go_wp2_with (go_at_call 134; refine (double_any p hpl _).mono ?_; rintro e w1 ⟨rfl, rfl⟩)
      go_roundw
      case rel => exact ⟨j + 1, by omega, by go_num, by rw [HPS.out], HS.out _ (by rw [HNj.out]), HR.out.other (by omega) _ _, HE.out.setCell (by simp) _⟩
      case measure => simp [intOf]; omega
    · obtain rfl : j = 255 := by omega
      rw [Nat.sub_self, List.replicate_zero, List.append_nil, List.take_of_length_le (by rw [pwB_length]; exact Nat.le_refl _)] at hrow
      have hw1 : w.heap.size + 1 < wr.heap.size := hrow.lt
      have HRow := Lib.hid hrow; have HR := Lib.hid hres; have HE := Lib.hid hext
      clear hrow hres hext
      go_wp2_with (refine wpList_load_row rfl 190 (.tmp 1) rfl (w.heap.size + 1) rfl 190 _ (0, 0) _ (HRow.out.alloc _) Tryd.underlying190 rfl (sized size255 pwB_length) ?_)
      go_loopw [19] (fun i wr2 => ∃ j : Nat, j ≤ 255 ∧ i = .int .i64 j ∧ Row wr2 wr.heap.size 140 (invS j) ∧ Row wr2 (w.heap.size + 1) 190 pwB ∧ Row wr2 w.heap.size 140 (List.replicate 256 0) ∧ Ext w wr2) (fun i _ => 255 - (intOf i).toNat)
      case atStart => exact ⟨0, Nat.zero_le _, rfl, Row.zero wr _ 256, HRow.out.alloc _, HR.out.alloc _, HE.out.alloc _⟩
      case round =>
        obtain ⟨i, hi, rfl, hrow, hpw, hres, hext⟩ := hrel
        by_cases hlt : i < 255
        · have hix : ∀ u, (Instr.index 190 (.agg (pwB.map cellOf).toArray) (.int .i64 (i : Int))).run Tryd.prog u = .ok (.int .u8 (pw i : Nat)) u := fun u => by
            rw [index_bytes 190 255 Tryd.underlying190 pwB pwB_length i _ (HA.out i hlt) u, HN.out]
          obtain ⟨q, hq⟩ : ∃ q : Nat, ((255 : Int) - (i : Int)) % 255 = (q : Int) := ⟨(255 - i) % 255, by omega⟩
          have hq2 : q < 255 := by omega
          have hq3 : (255 - i) % 255 = q := by omega
          have hcq := hpw.cell q _ (HA.out q hq2)
          rw [HN.out] at hcq
          have hpl := HP.out i
          have hcp := hrow.cell (pw i) _ (List.getElem?_eq_getElem (by rw [invS_length]; exact hpl))
          have hfp := hrow.frozen (pw i)
          have HS := Lib.hid (hrow.set_ (pw i) (pw q : Nat) (by omega) (by have := HP.out q; omega))
          have HSt : Hid (invS (i + 1) = (invS i).set (pw i) (UInt8.ofNat (pw q))) := Lib.hid (by rw [invS, hq3])
          have HPW := Lib.hid hpw; have HR2 := Lib.hid hres; have HE2 := Lib.hid hext
          clear hrow hpw hres hext hq3
          generalize pw i = p at *
          generalize pw q = y at *
          have HW := Lib.hid hw1
          go_wp2
          go_roundw
          case rel => exact ⟨i + 1, by omega, by go_num, by rw [HSt.out]; simpa using HS.out, HPW.out.other (by omega) _ _, HR2.out.other (by omega) _ _, HE2.out.setCell (by have := HE.out.size; omega) _⟩
          case measure => simp [intOf]; omega
        · obtain rfl : i = 255 := by omega
          rw [invS_all] at hrow
          have e255 : ((255 : Nat) : Int) = 255 := rfl
          rw [e255]
          clear e255
          go_wp2_with (first
            | (refine wpList_load_row rfl 140 (.tmp 4) rfl _ rfl 140 _ (0, 0) _ hrow Tryd.underlying140 rfl (sized size256 invB_length) ?_)
            | (refine wpList_store_row rfl 140 (.tmp 0) (.tmp 31) rfl w.heap.size _ rfl rfl 140 _ hres (sized size256 invB_length) (by simp [invB_length]) (cells8_one _) ?_))
          exact bodyPost_ret (results_cell_row rfl _ _ w.heap.size 140 _ (0, 0) _ rfl (setRow_heap _ _ _ _ _ _ hres) Tryd.underlying140 rfl (sized size256 invB_length)) rfl ⟨rfl, hext.setRow (Nat.le_refl _) _⟩
end Go.Proofs.YtdnpgmoiapkhnaaDoor
end
