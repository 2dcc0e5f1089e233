/- Plain words: the words of the round keys. Contracts: a word, each byte of it boxed, by the program. -/
import Derived.Test.YtdnpgmoiapkhnaaDoorAesL
import Derived.Test.YtdnpgmoiapkhnaaDoorM02
import Derived.Test.YtdnpgmoiapkhnaaDoorM00
import Derived.Test.YtdnpgmoiapkhnaaDoorM39
import Derived.Outline
section
namespace Go.Proofs.YtdnpgmoiapkhnaaDoor

/-- Four bytes as a number. -/
def w4 (a b c d : UInt8) : Nat := ((a.toNat * 256 + b.toNat) * 256 + c.toNat) * 256 + d.toNat
theorem w4_lt (a b c d : UInt8) : w4 a b c d < 4294967296 := by
  have := a.toNat_lt; have := b.toNat_lt; have := c.toNat_lt; have := d.toNat_lt
  unfold w4; omega
theorem xor_cat (A B a b : Nat) (ha : a < 256) (hb : b < 256) : (A * 256 + a) ^^^ (B * 256 + b) = (A ^^^ B) * 256 + (a ^^^ b) := by
  have e1 : (A * 256 + a) % 256 = a := by rw [Nat.add_comm, Nat.add_mul_mod_self_right, Nat.mod_eq_of_lt ha]
  have e2 : (B * 256 + b) % 256 = b := by rw [Nat.add_comm, Nat.add_mul_mod_self_right, Nat.mod_eq_of_lt hb]
  have e3 : (A * 256 + a) / 256 = A := by rw [Nat.add_comm, Nat.add_mul_div_right _ _ (by decide), Nat.div_eq_of_lt ha, Nat.zero_add]
  have e4 : (B * 256 + b) / 256 = B := by rw [Nat.add_comm, Nat.add_mul_div_right _ _ (by decide), Nat.div_eq_of_lt hb, Nat.zero_add]
  have h1 : ((A * 256 + a) ^^^ (B * 256 + b)) % 256 = (A * 256 + a) % 256 ^^^ (B * 256 + b) % 256 := Nat.xor_mod_two_pow (n := 8)
  have h2 : ((A * 256 + a) ^^^ (B * 256 + b)) / 256 = (A * 256 + a) / 256 ^^^ (B * 256 + b) / 256 := Nat.xor_div_two_pow (n := 8)
  rw [e1, e2] at h1; rw [e3, e4] at h2
  rw [← h1, ← h2]
  omega
theorem w4_xor (a b c d e f g h : UInt8) : w4 a b c d ^^^ w4 e f g h = w4 (a ^^^ e) (b ^^^ f) (c ^^^ g) (d ^^^ h) := by
  unfold w4
  rw [xor_cat _ _ _ _ d.toNat_lt h.toNat_lt, xor_cat _ _ _ _ c.toNat_lt g.toNat_lt, xor_cat _ _ _ _ b.toNat_lt f.toNat_lt]
  simp only [UInt8.toNat_xor]
theorem w4_rot (a b c d : UInt8) : rot (w4 a b c d) 24 = w4 b c d a := by
  have := a.toNat_lt; have := b.toNat_lt; have := c.toNat_lt; have := d.toNat_lt
  unfold rot
  have e1 : w4 a b c d / 2 ^ 24 = a.toNat := by unfold w4; omega
  have e2 : w4 a b c d * 2 ^ (32 - 24) % 4294967296 = w4 b c d 0 := by unfold w4; simp; omega
  rw [e1, e2]
  have h := or_add ((b.toNat * 256 + c.toNat) * 256 + d.toNat) a.toNat a.toNat_lt
  have e3 : w4 b c d 0 = ((b.toNat * 256 + c.toNat) * 256 + d.toNat) * 256 := by unfold w4; simp
  rw [e3, Nat.or_comm, h]
  rfl
theorem w4_high (a : UInt8) : w4 a 0 0 0 = a.toNat * 16777216 := by unfold w4; simp; omega
theorem w4_num (a b c d : UInt8) : num [a, b, c, d] = w4 a b c d := by simp [num, w4]
theorem be_w4 (a b c d : UInt8) : be 4 (w4 a b c d) = [a, b, c, d] := by
  have := a.toNat_lt; have := b.toNat_lt; have := c.toNat_lt; have := d.toNat_lt
  have key : ∀ (n : Nat) (x : UInt8), n % 256 = x.toNat → UInt8.ofNat n = x := fun n x h => UInt8.toNat_inj.1 (by rw [UInt8.toNat_ofNat']; exact h)
  simp only [be]
  rw [key _ a (by unfold w4; omega), key _ b (by unfold w4; omega), key _ c (by unfold w4; omega), key _ d (by unfold w4; omega)]
/-- Each byte of a word boxed, j of them, the lowest first. -/
def bw (n : Nat) : Nat → Nat
  | 0 => 0
  | j + 1 => bw n j ||| (boxB (UInt8.ofNat (n / 2 ^ (8 * j)))).toNat * 2 ^ (8 * j)
theorem bw_lt (n : Nat) : ∀ j, bw n j < 2 ^ (8 * j)
  | 0 => by simp [bw]
  | j + 1 => by
    have ih := bw_lt n j
    have hb := (boxB (UInt8.ofNat (n / 2 ^ (8 * j)))).toNat_lt
    have e : 2 ^ (8 * (j + 1)) = 256 * 2 ^ (8 * j) := by rw [show 8 * (j + 1) = 8 * j + 8 by omega, Nat.pow_add]; omega
    rw [bw, Nat.or_comm, Nat.mul_comm, ← Nat.two_pow_add_eq_or_of_lt ih, e]
    have : 2 ^ (8 * j) * (boxB (UInt8.ofNat (n / 2 ^ (8 * j)))).toNat ≤ 2 ^ (8 * j) * 255 := Nat.mul_le_mul_left _ (by omega)
    omega
theorem bw_add (n j : Nat) : bw n (j + 1) = (boxB (UInt8.ofNat (n / 2 ^ (8 * j)))).toNat * 2 ^ (8 * j) + bw n j := by
  rw [bw, Nat.or_comm, Nat.mul_comm, ← Nat.two_pow_add_eq_or_of_lt (bw_lt n j)]
theorem bw_w4 (a b c d : UInt8) : bw (w4 a b c d) 4 = w4 (boxB a) (boxB b) (boxB c) (boxB d) := by
  have := a.toNat_lt; have := b.toNat_lt; have := c.toNat_lt; have := d.toNat_lt
  have key : ∀ (n : Nat) (x : UInt8), n % 256 = x.toNat → UInt8.ofNat n = x := fun n x h => UInt8.toNat_inj.1 (by rw [UInt8.toNat_ofNat']; exact h)
  rw [bw_add, bw_add, bw_add, bw_add, key _ a (by unfold w4; omega), key _ b (by unfold w4; omega), key _ c (by unfold w4; omega), key _ d (by unfold w4; omega)]
  simp only [bw]
  unfold w4
  omega
/-- All bytes of the words of a key. -/
def eB (key : List UInt8) (i : Nat) : UInt8 := (expand key 40).getD i 0
def gB (key : List UInt8) (i k : Nat) : UInt8 := (if i % 4 = 0 then [boxB (eB key (4 * i - 3)) ^^^ rcon (i / 4 - 1), boxB (eB key (4 * i - 2)), boxB (eB key (4 * i - 1)), boxB (eB key (4 * i - 4))] else [eB key (4 * i - 4), eB key (4 * i - 3), eB key (4 * i - 2), eB key (4 * i - 1)]).getD k 0
theorem eB_step {key : List UInt8} (h : key.length = 16) (i : Nat) (h4 : 4 ≤ i) (hi : i < 44) (k : Nat) (hk : k < 4) : eB key (4 * i + k) = eB key (4 * i - 16 + k) ^^^ gB key i k := by
  obtain ⟨m, rfl⟩ : ∃ m, i = m + 4 := ⟨i - 4, by omega⟩
  have hat : ∀ j, j < 16 + 4 * m → (expand key m).getD j 0 = eB key j := fun j hj => by
    have := expand_at h m (40 - m) j hj
    rw [show m + (40 - m) = 40 by omega] at this
    exact this.symm
  have h1 : eB key (4 * (m + 4) + k) = (expand key (m + 1)).getD (4 * (m + 4) + k) 0 := by
    have := expand_at h (m + 1) (40 - (m + 1)) (4 * (m + 4) + k) (by omega)
    rw [show m + 1 + (40 - (m + 1)) = 40 by omega] at this
    exact this
  have hl := expand_length h m
  rw [h1, expand, List.getD_eq_getElem?_getD, List.getElem?_append_right (by omega), hl, show 4 * (m + 4) + k - (16 + 4 * m) = k by omega]
  unfold nextW gB
  simp only [List.getElem?_map, List.getElem?_range hk, Option.map_some, Option.getD_some]
  rw [hat _ (by omega), hat _ (by omega), hat _ (by omega), hat _ (by omega), hat _ (by omega)]
  rw [show 4 * (m + 4) - 4 + 1 = 4 * (m + 4) - 3 by omega, show 4 * (m + 4) - 4 + 2 = 4 * (m + 4) - 2 by omega, show 4 * (m + 4) - 4 + 3 = 4 * (m + 4) - 1 by omega]
  simp only [Nat.add_zero]
/-- Word i of the round keys. -/
def kw (key : List UInt8) (i : Nat) : Nat := w4 (eB key (4 * i)) (eB key (4 * i + 1)) (eB key (4 * i + 2)) (eB key (4 * i + 3))
theorem kw_lt (key : List UInt8) (i : Nat) : kw key i < 4294967296 := w4_lt _ _ _ _
section
variable {key : List UInt8} (h : key.length = 16) (i : Nat) (h4 : 4 ≤ i) (hi : i < 44)
include h h4 hi
theorem kw_plain (hm : ¬ i % 4 = 0) : kw key i = kw key (i - 4) ^^^ kw key (i - 1) := by
  have e := fun k hk => eB_step h i h4 hi k hk
  unfold kw
  rw [w4_xor, e 1 (by omega), e 2 (by omega), e 3 (by omega)]
  have e0 := e 0 (by omega)
  rw [Nat.add_zero, Nat.add_zero] at e0
  rw [e0]
  unfold gB
  simp only [if_neg hm, List.getD_cons_zero, List.getD_cons_succ]
  rw [show 4 * (i - 4) = 4 * i - 16 by omega, show 4 * (i - 1) = 4 * i - 4 by omega, show 4 * i - 4 + 1 = 4 * i - 3 by omega, show 4 * i - 4 + 2 = 4 * i - 2 by omega, show 4 * i - 4 + 3 = 4 * i - 1 by omega]
theorem kw_four (hm : i % 4 = 0) : kw key i = (kw key (i - 4) ^^^ bw (rot (kw key (i - 1)) 24) 4) ^^^ (rcon ((i - 1) / 4)).toNat * 16777216 := by
  have e := fun k hk => eB_step h i h4 hi k hk
  unfold kw
  rw [w4_rot, bw_w4, ← w4_high, w4_xor, w4_xor, e 1 (by omega), e 2 (by omega), e 3 (by omega)]
  have e0 := e 0 (by omega)
  rw [Nat.add_zero, Nat.add_zero] at e0
  rw [e0]
  unfold gB
  simp only [if_pos hm, List.getD_cons_zero, List.getD_cons_succ]
  rw [show 4 * (i - 4) = 4 * i - 16 by omega, show 4 * (i - 1) = 4 * i - 4 by omega, show 4 * i - 4 + 1 = 4 * i - 3 by omega, show 4 * i - 4 + 2 = 4 * i - 2 by omega, show 4 * i - 4 + 3 = 4 * i - 1 by omega, show i / 4 - 1 = (i - 1) / 4 by omega]
  simp only [UInt8.xor_zero, UInt8.xor_assoc]
end
theorem kw_key {key : List UInt8} (h : key.length = 16) (i : Nat) (hi : i < 4) : num ((key.drop (4 * i)).take 4) = kw key i := by
  have e : ∀ j, j < 16 → eB key j = key.getD j 0 := fun j hj => by
    have := expand_at h 0 40 j (by omega)
    rw [Nat.zero_add] at this
    exact this
  unfold kw
  rw [e _ (by omega), e _ (by omega), e _ (by omega), e _ (by omega), ← w4_num]
  obtain ⟨a0, a1, a2, a3, a4, a5, a6, a7, a8, a9, a10, a11, a12, a13, a14, a15, rfl⟩ := sixteen h
  rcases (show i = 0 ∨ i = 1 ∨ i = 2 ∨ i = 3 by omega) with rfl | rfl | rfl | rfl
  all_goals rfl
theorem rcon_double (n : Nat) : (rcon (n + 1)).toNat = tm (rcon n).toNat 2 := by rw [rcon, mulB_nat]; rfl
end Go.Proofs.YtdnpgmoiapkhnaaDoor
end

section
namespace Go.Proofs.YtdnpgmoiapkhnaaDoor
open Go.RowKit
theorem pow8_le {j : Nat} (h : j < 4) : 2 ^ (8 * j) ≤ 16777216 := by
  have : 2 ^ (8 * j) ≤ 2 ^ 24 := Nat.pow_le_pow_right (by decide) (by omega)
  simpa using this
set_option maxRecDepth 100000 in
set_option maxHeartbeats 1000000 in
theorem boxedWord_any (w : World) (k o n : Nat) (_hn : n < 4294967296) (hb : Bytes w k o boxT) :
    Calls Tryd.prog 135 #[.pointer (some ⟨k, o, none⟩), .int .u32 (n : Int)] w fun e w' => e = .returned (.int .u32 (bw n 4 : Nat)) ∧ ∃ q, w' = w.drewN q := by
  have HB := Lib.hid hb
  clear hb
  go_enter Tryd.func135, Tryd.ntmps135
  go_wp2
  go_loopw [7, 5] (fun i r wr => ∃ j : Nat, j ≤ 4 ∧ i = .int .i64 j ∧ r = .int .u32 (bw n j : Nat) ∧ (∃ q, wr = w.drewN q)) (fun i _ _ => 4 - (intOf i).toNat)
  case atStart => exact ⟨0, Nat.zero_le _, rfl, rfl, 0, rfl⟩
  case round =>
    obtain ⟨j, hj, rfl, rfl, q, rfl⟩ := hrel
    by_cases hlt : j < 4
    · obtain ⟨m, hm⟩ : ∃ m : Nat, 8 * (j : Int) = (m : Int) := ⟨8 * j, by omega⟩
      have hm2 : 8 * j = m := by omega
      have hm3 : m ≤ 24 := by omega
      have hmi : (m : Int) < 32 := by omega
      have hp := pow8_le hlt
      have hbl := bw_lt n j
      have hsucc : bw n (j + 1) = bw n j ||| (boxB (UInt8.ofNat (n / 2 ^ (8 * j)))).toNat * 2 ^ (8 * j) := rfl
      rw [hm2] at hp hbl hsucc
      have hwm : IntKind.i64.wrap (m : Int) = (m : Int) := IntWalk.i64_in _ ⟨by omega, by omega⟩
      obtain ⟨t, ht⟩ : ∃ t : Nat, t = n / 2 ^ m % 256 := ⟨_, rfl⟩
      have htl : t < 256 := by omega
      have hti : (t : Int) < 256 := by omega
      have hcell : w.cell? ⟨k, o + t, none⟩ = some (.int .u8 ((boxB (UInt8.ofNat (n / 2 ^ m))).toNat : Int)) := by
        have h1 := HB.out t _ (boxT_at _ htl)
        have e : UInt8.ofNat t = UInt8.ofNat (n / 2 ^ m) := UInt8.toNat_inj.1 (by rw [UInt8.toNat_ofNat', UInt8.toNat_ofNat']; omega)
        rw [e] at h1
        exact h1
      have hx := (boxB (UInt8.ofNat (n / 2 ^ m))).toNat_lt
      generalize (boxB (UInt8.ofNat (n / 2 ^ m))).toNat = x at *
      have hd : (n : Int) / 2 ^ m = ((n / 2 ^ m : Nat) : Int) := by simp
      have hw8 : IntKind.u8.wrap ((n : Int) / 2 ^ m) = (t : Int) := by rw [hd, IntKind.wrap_u8]; omega
      have hm8 : ((n : Int) / 2 ^ m) % 256 = (t : Int) := by rw [hd]; omega
      clear hd
      have hxw : IntKind.u32.wrap (x : Int) = (x : Int) := IntWalk.u32_in _ ⟨by omega, by omega⟩
      have hxm : x * 2 ^ m < 4294967296 := by
        have : x * 2 ^ m ≤ 255 * 16777216 := Nat.mul_le_mul (by omega) hp
        omega
      have hxs : ((x : Int) * 2 ^ m) % 4294967296 = ((x * 2 ^ m : Nat) : Int) := by
        have e : (x : Int) * 2 ^ m = ((x * 2 ^ m : Nat) : Int) := by simp
        rw [e]; omega
      have hor := u32_or_nat (bw n j) (x * 2 ^ m) (by omega) hxm
      have HS := Lib.hid hsucc; have HM := Lib.hid hm2; have HT := Lib.hid ht
      clear hsucc hm2 ht hp
      go_wp2
      go_quiet (fail)
      go_wp2
      go_roundw
      case rel => exact ⟨j + 1, by omega, by go_num, by rw [HS.out]; first | rfl | exact int_eq hor, _, rfl⟩
      case measure => simp [intOf]; omega
    · obtain rfl : j = 4 := by omega
      go_wp2
      go_ret
      exact ⟨rfl, q, rfl⟩
end Go.Proofs.YtdnpgmoiapkhnaaDoor
end
