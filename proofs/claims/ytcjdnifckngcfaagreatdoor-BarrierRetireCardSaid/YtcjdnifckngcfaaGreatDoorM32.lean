/- Plain words: the words of the round keys. Contracts: a word, each byte of it boxed, by the program. Contracts: the words of all round keys, by the program. -/
import Derived.Test.YtcjdnifckngcfaaGreatDoorM26
import Derived.Test.YtcjdnifckngcfaaGreatDoorM04
import Derived.Test.YtcjdnifckngcfaaGreatDoorM07
import Derived.Test.YtcjdnifckngcfaaGreatDoorM28
import Derived.Outline
import Derived.Test.YtcjdnifckngcfaaGreatDoorM29
import Derived.Test.YtcjdnifckngcfaaGreatDoorM08
import Derived.Deep.RegionWith
section
namespace Go.Proofs.YtcjdnifckngcfaaGreatDoor

/-- Four bytes as a number. -/
def w4 (a b c d : UInt8) : Nat := ((a.toNat * 256 + b.toNat) * 256 + c.toNat) * 256 + d.toNat
theorem w4_lt (a b c d : UInt8) : w4 a b c d < 4294967296 := by
  have := a.toNat_lt; have := b.toNat_lt; have := c.toNat_lt; have := d.toNat_lt
  unfold w4; omega
theorem xor_cat (A B a b : Nat) (ha : a < 256) (hb : b < 256) : (A * 256 + a) ^^^ (B * 256 + b) = (A ^^^ B) * 256 + (a ^^^ b) := by
  have e1 : (A * 256 + a) % 256 = a := by rw [Nat.add_comm, Nat.add_mul_mod_self_right, Nat.mod_eq_of_lt ha]
  have e2 : (B * 256 + b) % 256 = b := by rw [Nat.add_comm, Nat.add_mul_mod_self_right, Nat.mod_eq_of_lt hb]
  have e3 : (A * 256 + a) / 256 = A := by rw [Nat.add_comm, Nat.add_mul_div_right _ _ (by decide), Nat.div_eq_of_lt ha, Nat.zero_add]
  have e4 : (B * 256 + b) / 256 = B := by rw [Nat.add_comm, Nat.add_mul_div_right _ _ (by decide), Nat.div_eq_of_lt hb, Nat.zero_add]
  have h1 : ((A * 256 + a) ^^^ (B * 256 + b)) % 256 = (A * 256 + a) % 256 ^^^ (B * 256 + b) % 256 := Nat.xor_mod_two_pow (n := 8)
  have h2 : ((A * 256 + a) ^^^ (B * 256 + b)) / 256 = (A * 256 + a) / 256 ^^^ (B * 256 + b) / 256 := Nat.xor_div_two_pow (n := 8)
  rw [e1, e2] at h1; rw [e3, e4] at h2
  rw [← h1, ← h2]
  omega
theorem w4_xor (a b c d e f g h : UInt8) : w4 a b c d ^^^ w4 e f g h = w4 (a ^^^ e) (b ^^^ f) (c ^^^ g) (d ^^^ h) := by
  unfold w4
  rw [xor_cat _ _ _ _ d.toNat_lt h.toNat_lt, xor_cat _ _ _ _ c.toNat_lt g.toNat_lt, xor_cat _ _ _ _ b.toNat_lt f.toNat_lt]
  simp only [UInt8.toNat_xor]
theorem w4_rot (a b c d : UInt8) : rot (w4 a b c d) 24 = w4 b c d a := by
  have := a.toNat_lt; have := b.toNat_lt; have := c.toNat_lt; have := d.toNat_lt
  unfold rot
  have e1 : w4 a b c d / 2 ^ 24 = a.toNat := by unfold w4; omega
  have e2 : w4 a b c d * 2 ^ (32 - 24) % 4294967296 = w4 b c d 0 := by unfold w4; simp; omega
  rw [e1, e2]
  have h := or_add ((b.toNat * 256 + c.toNat) * 256 + d.toNat) a.toNat a.toNat_lt
  have e3 : w4 b c d 0 = ((b.toNat * 256 + c.toNat) * 256 + d.toNat) * 256 := by unfold w4; simp
  rw [e3, Nat.or_comm, h]
  rfl
theorem w4_high (a : UInt8) : w4 a 0 0 0 = a.toNat * 16777216 := by unfold w4; simp; omega
theorem w4_num (a b c d : UInt8) : num [a, b, c, d] = w4 a b c d := by simp [num, w4]
theorem be_w4 (a b c d : UInt8) : be 4 (w4 a b c d) = [a, b, c, d] := by
  have := a.toNat_lt; have := b.toNat_lt; have := c.toNat_lt; have := d.toNat_lt
  have key : ∀ (n : Nat) (x : UInt8), n % 256 = x.toNat → UInt8.ofNat n = x := fun n x h => UInt8.toNat_inj.1 (by rw [UInt8.toNat_ofNat']; exact h)
  simp only [be]
  rw [key _ a (by unfold w4; omega), key _ b (by unfold w4; omega), key _ c (by unfold w4; omega), key _ d (by unfold w4; omega)]
/-- Each byte of a word boxed, j of them, the lowest first. -/
def bw (n : Nat) : Nat → Nat
  | 0 => 0
  | j + 1 => bw n j ||| (boxB (UInt8.ofNat (n / 2 ^ (8 * j)))).toNat * 2 ^ (8 * j)
theorem bw_lt (n : Nat) : ∀ j, bw n j < 2 ^ (8 * j)
  | 0 => by simp [bw]
  | j + 1 => by
    have ih := bw_lt n j
    have hb := (boxB (UInt8.ofNat (n / 2 ^ (8 * j)))).toNat_lt
    have e : 2 ^ (8 * (j + 1)) = 256 * 2 ^ (8 * j) := by rw [show 8 * (j + 1) = 8 * j + 8 by omega, Nat.pow_add]; omega
    rw [bw, Nat.or_comm, Nat.mul_comm, ← Nat.two_pow_add_eq_or_of_lt ih, e]
    have : 2 ^ (8 * j) * (boxB (UInt8.ofNat (n / 2 ^ (8 * j)))).toNat ≤ 2 ^ (8 * j) * 255 := Nat.mul_le_mul_left _ (by omega)
    omega
theorem bw_add (n j : Nat) : bw n (j + 1) = (boxB (UInt8.ofNat (n / 2 ^ (8 * j)))).toNat * 2 ^ (8 * j) + bw n j := by
  rw [bw, Nat.or_comm, Nat.mul_comm, ← Nat.two_pow_add_eq_or_of_lt (bw_lt n j)]
theorem bw_w4 (a b c d : UInt8) : bw (w4 a b c d) 4 = w4 (boxB a) (boxB b) (boxB c) (boxB d) := by
  have := a.toNat_lt; have := b.toNat_lt; have := c.toNat_lt; have := d.toNat_lt
  have key : ∀ (n : Nat) (x : UInt8), n % 256 = x.toNat → UInt8.ofNat n = x := fun n x h => UInt8.toNat_inj.1 (by rw [UInt8.toNat_ofNat']; exact h)
  rw [bw_add, bw_add, bw_add, bw_add, key _ a (by unfold w4; omega), key _ b (by unfold w4; omega), key _ c (by unfold w4; omega), key _ d (by unfold w4; omega)]
  simp only [bw]
  unfold w4
  omega
/-- All bytes of the words of a key. -/
def eB (key : List UInt8) (i : Nat) : UInt8 := (expand key 40).getD i 0
def gB (key : List UInt8) (i k : Nat) : UInt8 := (if i % 4 = 0 then [boxB (eB key (4 * i - 3)) ^^^ rcon (i / 4 - 1), boxB (eB key (4 * i - 2)), boxB (eB key (4 * i - 1)), boxB (eB key (4 * i - 4))] else [eB key (4 * i - 4), eB key (4 * i - 3), eB key (4 * i - 2), eB key (4 * i - 1)]).getD k 0
theorem eB_step {key : List UInt8} (h : key.length = 16) (i : Nat) (h4 : 4 ≤ i) (hi : i < 44) (k : Nat) (hk : k < 4) : eB key (4 * i + k) = eB key (4 * i - 16 + k) ^^^ gB key i k := by
  obtain ⟨m, rfl⟩ : ∃ m, i = m + 4 := ⟨i - 4, by omega⟩
  have hat : ∀ j, j < 16 + 4 * m → (expand key m).getD j 0 = eB key j := fun j hj => by
    have := expand_at h m (40 - m) j hj
    rw [show m + (40 - m) = 40 by omega] at this
    exact this.symm
  have h1 : eB key (4 * (m + 4) + k) = (expand key (m + 1)).getD (4 * (m + 4) + k) 0 := by
    have := expand_at h (m + 1) (40 - (m + 1)) (4 * (m + 4) + k) (by omega)
    rw [show m + 1 + (40 - (m + 1)) = 40 by omega] at this
    exact this
  have hl := expand_length h m
  rw [h1, expand, List.getD_eq_getElem?_getD, List.getElem?_append_right (by omega), hl, show 4 * (m + 4) + k - (16 + 4 * m) = k by omega]
  unfold nextW gB
  simp only [List.getElem?_map, List.getElem?_range hk, Option.map_some, Option.getD_some]
  rw [hat _ (by omega), hat _ (by omega), hat _ (by omega), hat _ (by omega), hat _ (by omega)]
  rw [show 4 * (m + 4) - 4 + 1 = 4 * (m + 4) - 3 by omega, show 4 * (m + 4) - 4 + 2 = 4 * (m + 4) - 2 by omega, show 4 * (m + 4) - 4 + 3 = 4 * (m + 4) - 1 by omega]
  simp only [Nat.add_zero]
/-- Word i of the round keys. -/
def kw (key : List UInt8) (i : Nat) : Nat := w4 (eB key (4 * i)) (eB key (4 * i + 1)) (eB key (4 * i + 2)) (eB key (4 * i + 3))
theorem kw_lt (key : List UInt8) (i : Nat) : kw key i < 4294967296 := w4_lt _ _ _ _
section
variable {key : List UInt8} (h : key.length = 16) (i : Nat) (h4 : 4 ≤ i) (hi : i < 44)
include h h4 hi
theorem kw_plain (hm : ¬ i % 4 = 0) : kw key i = kw key (i - 4) ^^^ kw key (i - 1) := by
  have e := fun k hk => eB_step h i h4 hi k hk
  unfold kw
  rw [w4_xor, e 1 (by omega), e 2 (by omega), e 3 (by omega)]
  have e0 := e 0 (by omega)
  rw [Nat.add_zero, Nat.add_zero] at e0
  rw [e0]
  unfold gB
  simp only [if_neg hm, List.getD_cons_zero, List.getD_cons_succ]
  rw [show 4 * (i - 4) = 4 * i - 16 by omega, show 4 * (i - 1) = 4 * i - 4 by omega, show 4 * i - 4 + 1 = 4 * i - 3 by omega, show 4 * i - 4 + 2 = 4 * i - 2 by omega, show 4 * i - 4 + 3 = 4 * i - 1 by omega]
theorem kw_four (hm : i % 4 = 0) : kw key i = (kw key (i - 4) ^^^ bw (rot (kw key (i - 1)) 24) 4) ^^^ (rcon ((i - 1) / 4)).toNat * 16777216 := by
  have e := fun k hk => eB_step h i h4 hi k hk
  unfold kw
  rw [w4_rot, bw_w4, ← w4_high, w4_xor, w4_xor, e 1 (by omega), e 2 (by omega), e 3 (by omega)]
  have e0 := e 0 (by omega)
  rw [Nat.add_zero, Nat.add_zero] at e0
  rw [e0]
  unfold gB
  simp only [if_pos hm, List.getD_cons_zero, List.getD_cons_succ]
  rw [show 4 * (i - 4) = 4 * i - 16 by omega, show 4 * (i - 1) = 4 * i - 4 by omega, show 4 * i - 4 + 1 = 4 * i - 3 by omega, show 4 * i - 4 + 2 = 4 * i - 2 by omega, show 4 * i - 4 + 3 = 4 * i - 1 by omega, show i / 4 - 1 = (i - 1) / 4 by omega]
  simp only [UInt8.xor_zero, UInt8.xor_assoc]
end
theorem kw_key {key : List UInt8} (h : key.length = 16) (i : Nat) (hi : i < 4) : num ((key.drop (4 * i)).take 4) = kw key i := by
  have e : ∀ j, j < 16 → eB key j = key.getD j 0 := fun j hj => by
    have := expand_at h 0 40 j (by omega)
    rw [Nat.zero_add] at this
    exact this
  unfold kw
  rw [e _ (by omega), e _ (by omega), e _ (by omega), e _ (by omega), ← w4_num]
  obtain ⟨a0, a1, a2, a3, a4, a5, a6, a7, a8, a9, a10, a11, a12, a13, a14, a15, rfl⟩ := sixteen h
  rcases (show i = 0 ∨ i = 1 ∨ i = 2 ∨ i = 3 by omega) with rfl | rfl | rfl | rfl
  all_goals rfl
theorem rcon_double (n : Nat) : (rcon (n + 1)).toNat = tm (rcon n).toNat 2 := by rw [rcon, mulB_nat]; rfl
end Go.Proofs.YtcjdnifckngcfaaGreatDoor
end

section
namespace Go.Proofs.YtcjdnifckngcfaaGreatDoor
open Go.RowKit
theorem pow8_le {j : Nat} (h : j < 4) : 2 ^ (8 * j) ≤ 16777216 := by
  have : 2 ^ (8 * j) ≤ 2 ^ 24 := Nat.pow_le_pow_right (by decide) (by omega)
  simpa using this
set_option maxRecDepth 100000 in
set_option maxHeartbeats 1000000 in
theorem boxedWord_any (w : World) (k o n : Nat) (_hn : n < 4294967296) (hb : Bytes w k o boxT) :
    Calls Tryz.prog 212 #[.pointer (some ⟨k, o, none⟩), .int .u32 (n : Int)] w fun e w' => e = .returned (.int .u32 (bw n 4 : Nat)) ∧ ∃ q, w' = w.drewN q := by
  have HB := Lib.hid hb
  clear hb
  go_enter Tryz.func212, Tryz.ntmps212
  go_wp2
  go_loopw [7, 5] (fun i r wr => ∃ j : Nat, j ≤ 4 ∧ i = .int .i64 j ∧ r = .int .u32 (bw n j : Nat) ∧ (∃ q, wr = w.drewN q)) (fun i _ _ => 4 - (intOf i).toNat)
  case atStart => exact ⟨0, Nat.zero_le _, rfl, rfl, 0, rfl⟩
  case round =>
    obtain ⟨j, hj, rfl, rfl, q, rfl⟩ := hrel
    by_cases hlt : j < 4
    · obtain ⟨m, hm⟩ : ∃ m : Nat, 8 * (j : Int) = (m : Int) := ⟨8 * j, by omega⟩
      have hm2 : 8 * j = m := by omega
      have hm3 : m ≤ 24 := by omega
      have hmi : (m : Int) < 32 := by omega
      have hp := pow8_le hlt
      have hbl := bw_lt n j
      have hsucc : bw n (j + 1) = bw n j ||| (boxB (UInt8.ofNat (n / 2 ^ (8 * j)))).toNat * 2 ^ (8 * j) := rfl
      rw [hm2] at hp hbl hsucc
      have hwm : IntKind.i64.wrap (m : Int) = (m : Int) := IntWalk.i64_in _ ⟨by omega, by omega⟩
      obtain ⟨t, ht⟩ : ∃ t : Nat, t = n / 2 ^ m % 256 := ⟨_, rfl⟩
      have htl : t < 256 := by omega
      have hti : (t : Int) < 256 := by omega
      have hcell : w.cell? ⟨k, o + t, none⟩ = some (.int .u8 ((boxB (UInt8.ofNat (n / 2 ^ m))).toNat : Int)) := by
        have h1 := HB.out t _ (boxT_at _ htl)
        have e : UInt8.ofNat t = UInt8.ofNat (n / 2 ^ m) := UInt8.toNat_inj.1 (by rw [UInt8.toNat_ofNat', UInt8.toNat_ofNat']; omega)
        rw [e] at h1
        exact h1
      have hx := (boxB (UInt8.ofNat (n / 2 ^ m))).toNat_lt
      generalize (boxB (UInt8.ofNat (n / 2 ^ m))).toNat = x at *
      have hd : (n : Int) / 2 ^ m = ((n / 2 ^ m : Nat) : Int) := by simp
      have hw8 : IntKind.u8.wrap ((n : Int) / 2 ^ m) = (t : Int) := by rw [hd, IntKind.wrap_u8]; omega
      have hm8 : ((n : Int) / 2 ^ m) % 256 = (t : Int) := by rw [hd]; omega
      clear hd
      have hxw : IntKind.u32.wrap (x : Int) = (x : Int) := IntWalk.u32_in _ ⟨by omega, by omega⟩
      have hxm : x * 2 ^ m < 4294967296 := by
        have : x * 2 ^ m ≤ 255 * 16777216 := Nat.mul_le_mul (by omega) hp
        omega
      have hxs : ((x : Int) * 2 ^ m) % 4294967296 = ((x * 2 ^ m : Nat) : Int) := by
        have e : (x : Int) * 2 ^ m = ((x * 2 ^ m : Nat) : Int) := by simp
        rw [e]; omega
      have hor := u32_or_nat (bw n j) (x * 2 ^ m) (by omega) hxm
      have HS := Lib.hid hsucc; have HM := Lib.hid hm2; have HT := Lib.hid ht
      clear hsucc hm2 ht hp
      go_wp2
      go_quiet (fail)
      go_wp2
      go_roundw
      case rel => exact ⟨j + 1, by omega, by go_num, by rw [HS.out]; first | rfl | exact int_eq hor, _, rfl⟩
      case measure => simp [intOf]; omega
    · obtain rfl : j = 4 := by omega
      go_wp2
      go_ret
      exact ⟨rfl, q, rfl⟩
end Go.Proofs.YtcjdnifckngcfaaGreatDoor
end

section
namespace Go.Proofs.YtcjdnifckngcfaaGreatDoor
open Go.RowKit
attribute [local irreducible] rkey expand enc dec
def zc44 : Array Value := ((List.replicate 44 0).map cell32).toArray
theorem zero44 : (Tryz.prog.info? 237).bind (·.zero) = some (.agg zc44) := by kernel_rfl
theorem Row32.zero (w : World) (t : TypeId) : Row32 (w.alloc (.cells zc44 t)) w.heap.size t (List.replicate 44 0) := heap_alloc_new w _
theorem size44 : (Tryz.prog.info? 237).map (·.size) = some 44 := by kernel_rfl
theorem sized32 {t n : Nat} {l : List Nat} (h : (Tryz.prog.info? t).map (·.size) = some n) (hl : l.length = n) : (Tryz.prog.info? t).map (·.size) = some ((l.map cell32).toArray).size := by simp [h, hl]
def kws (key : List UInt8) (j : Nat) : List Nat := (List.range j).map (kw key)
theorem kws_length (key : List UInt8) (j : Nat) : (kws key j).length = j := by simp [kws]
theorem kws_succ (key : List UInt8) (j : Nat) : kws key (j + 1) = kws key j ++ [kw key j] := by simp [kws, List.range_succ]
theorem kws_at (key : List UInt8) (j i : Nat) (h : i < j) : (kws key j).getD i 0 = kw key i := by simp [kws, h]
def kwsZ (key : List UInt8) (j : Nat) : List Nat := kws key j ++ List.replicate (44 - j) 0
theorem kwsZ_length (key : List UInt8) (j : Nat) (h : j ≤ 44) : (kwsZ key j).length = 44 := by unfold kwsZ; rw [List.length_append, kws_length, List.length_replicate]; omega
theorem kwsZ_at (key : List UInt8) (j i : Nat) (h : i < j) : (kwsZ key j).getD i 0 = kw key i := by
  unfold kwsZ
  rw [List.getD_eq_getElem?_getD, List.getElem?_append_left (by rw [kws_length]; exact h), ← List.getD_eq_getElem?_getD, kws_at key j i h]
theorem kwsZ_set (key : List UInt8) (j : Nat) (h : j < 44) : (kwsZ key j).set j (kw key j) = kwsZ key (j + 1) := by
  unfold kwsZ
  have := set_zero32 (kws key j) 44 (kw key j) (by rw [kws_length]; exact h)
  rw [kws_length] at this
  rw [this, kws_succ]
theorem kwsZ_all (key : List UInt8) : kwsZ key 44 = kws key 44 := by simp [kwsZ]
theorem kwsZ_zero (key : List UInt8) : kwsZ key 0 = List.replicate 44 0 := by simp [kwsZ, kws]
attribute [irreducible] kws kwsZ
attribute [local irreducible] kw
theorem kwsZ_step {w : World} {g : Nat} {t : TypeId} {key : List UInt8} {j : Nat} (hj : j < 44) (h : Row32 w g t (kwsZ key j)) (x : Int) (hx : x = (kw key j : Nat)) : Row32 (w.setCell ⟨g, j, none⟩ (.int .u32 x)) g t (kwsZ key (j + 1)) := by
  have := h.set_ j x _ hx
  rw [kwsZ_set key j hj] at this
  exact this
theorem tm_two_right : ∀ x, x < 256 → tm x 2 = xt x := by decide +kernel
set_option maxRecDepth 100000 in
set_option maxHeartbeats 2000000 in
theorem keyWords_any (w : World) (k o : Nat) (s : ByteArray) (hs : s.size = 16) (hb : Bytes w k o boxT) (hk : k < w.heap.size) :
    Calls Tryz.prog 189 #[.pointer (some ⟨k, o, none⟩), .string s] w fun e w' => e = .returned (.agg ((kws s.data.toList 44).map cell32).toArray) ∧ Ext w w' := by
  have hz := zero_run zero44
  have hsl : s.data.toList.length = 16 := by rw [size_list]; exact hs
  have HG : Hid (∀ (i m : Nat), i < 4 → m = 4 * i → ∀ u, Calls Tryz.prog 120 #[.string s, .int .i64 (m : Int)] u fun e w' => e = .returned (.tuple #[.int .u32 (kw s.data.toList i : Nat), .bool true]) ∧ u = w') := Lib.hid (fun i m hi hm u => by
    have h := Get32_any s (m : Int) (by omega) u
    rw [getv_yes (by omega), gets_yes (by omega)] at h
    have e : num (Go.Proofs.YtcjdnifckngcfaaGreatDoor.sub s m 4) = kw s.data.toList i := by unfold Go.Proofs.YtcjdnifckngcfaaGreatDoor.sub; rw [hm]; exact kw_key hsl i hi
    rw [e] at h
    exact h)
  have HB := Lib.hid (fun u (hu : Ext w u) => hb.below hu hk)
  have HP := Lib.hid (fun i (h4 : 4 ≤ i) (hi : i < 44) => kw_plain hsl i h4 hi)
  have HF := Lib.hid (fun i (h4 : 4 ≤ i) (hi : i < 44) => kw_four hsl i h4 hi)
  have HL := Lib.hid (kw_lt s.data.toList)
  clear hs hb hk hsl
  generalize s.data.toList = key at *
  go_enter Tryz.func189, Tryz.ntmps189
  go_wp2
  go_loopw [8, 6] (fun i r wr => ∃ j : Nat, j ≤ 44 ∧ i = .int .i64 j ∧ r = .int .u8 ((rcon ((j - 1) / 4)).toNat : Int) ∧ Row32 wr (w.heap.size + 1) 237 (kwsZ key j) ∧ Row32 wr w.heap.size 237 (List.replicate 44 0) ∧ Ext w wr) (fun i _ _ => 44 - (intOf i).toNat)
  case atStart => exact ⟨0, Nat.zero_le _, rfl, rfl, by rw [kwsZ_zero]; simpa using Row32.zero (w.alloc _) 237, (Row32.zero w _).alloc _, ((Ext.refl w).alloc _).alloc _⟩
  case round =>
    obtain ⟨j, hj, rfl, rfl, hrow, hres, hext⟩ := hrel
    by_cases hlt : j < 44
    · have hc := hrow.cell j (by rw [kwsZ_length key j hj]; exact hlt)
      have hf := hrow.frozen j
      generalize (kwsZ key j).getD j 0 = old at *
      have HS := Lib.hid (fun q x hx => kwsZ_step hlt (hrow.drewN q) x hx)
      have HRes := Lib.hid hres; have HE := Lib.hid hext
      clear hres hext
      by_cases h4 : j < 4
      · obtain ⟨m, hm⟩ : ∃ m : Nat, 4 * (j : Int) = (m : Int) := ⟨4 * j, by omega⟩
        have HT := Lib.hid (HG.out j m h4 (by omega))
        have hrc : (j + 1 - 1) / 4 = (j - 1) / 4 := by omega
        have HR := Lib.hid hrc
        clear hrow hrc
        go_wp2_with (go_at_call 120; refine (HT.out _).mono ?_; rintro e w1 ⟨rfl, rfl⟩)
        go_roundw
        case rel => exact ⟨j + 1, by omega, by go_num, by rw [HR.out], HS.out 0 _ rfl, HRes.out.other (by omega) _ _, HE.out.setCell (by simp) _⟩
        case measure => simp [intOf]; omega
      · have h4i : ¬ (j : Int) < 4 := by omega
        obtain ⟨p, hp⟩ : ∃ p : Nat, (j : Int) - 4 = (p : Int) := ⟨j - 4, by omega⟩
        obtain ⟨s1, hs1⟩ : ∃ p : Nat, (j : Int) - 1 = (p : Int) := ⟨j - 1, by omega⟩
        have cp := hrow.cell p (by rw [kwsZ_length key j hj]; omega)
        have cs := hrow.cell s1 (by rw [kwsZ_length key j hj]; omega)
        rw [kwsZ_at key j p (by omega)] at cp
        rw [kwsZ_at key j s1 (by omega)] at cs
        have lp := HL.out p; have ls := HL.out s1
        have HPj := HP.out j (by omega) hlt
        have HFj := HF.out j (by omega) hlt
        rw [show j - 4 = p by omega, show j - 1 = s1 by omega] at HPj HFj
        have HPj := Lib.hid HPj; have HFj := Lib.hid HFj
        generalize kw key p = a at *
        generalize kw key s1 = b at *
        have hpl : (p : Int) < 44 := by omega
        have hsl : (s1 : Int) < 44 := by omega
        have hjl : (j : Int) < 44 := by omega
        have wp : IntKind.i64.wrap (p : Int) = (p : Int) := IntWalk.i64_in _ ⟨by omega, by omega⟩
        have ws : IntKind.i64.wrap (s1 : Int) = (s1 : Int) := IntWalk.i64_in _ ⟨by omega, by omega⟩
        clear hrow
        by_cases hm : j % 4 = 0
        · have hmi : (j : Int) % 4 = 0 := by omega
          have hrc : (j + 1 - 1) / 4 = s1 / 4 + 1 := by omega
          rw [show j - 1 = s1 by omega]
          have HR := Lib.hid hrc
          have e := HFj.out hm
          have hrl := (rcon (s1 / 4)).toNat_lt
          have hd : (rcon (s1 / 4 + 1)).toNat = xt (rcon (s1 / 4)).toNat := by rw [rcon_double, tm_two_right _ hrl]
          have HD := Lib.hid hd
          clear hrc hd
          generalize (rcon (s1 / 4)).toNat = r at *
          have hrot := rot_lt b 24 ls
          have hbw := bw_lt (rot b 24) 4
          have T1 : Hid (∀ u, Calls Tryz.prog 198 #[.int .u32 (b : Int), .int .i64 (-8)] u fun e w' => e = .returned (.int .u32 (rot b 24 : Nat)) ∧ u = w') := Lib.hid (fun u => turn_any b ls (-8) u)
          have T2 := Lib.hid (fun u (hu : Ext w u) => boxedWord_any u k o (rot b 24) hrot (HB.out u hu))
          generalize bw (rot b 24) 4 = d at *
          have hbw : d < 4294967296 := hbw
          have x1 := u32_xor_nat a d lp hbw
          have hx1 : a ^^^ d < 4294967296 := Nat.xor_lt_two_pow (n := 32) lp hbw
          have x2 := u32_xor_nat (a ^^^ d) (r * 16777216) hx1 (by omega)
          rw [← e] at x2
          have hrw : IntKind.u32.wrap (r : Int) = (r : Int) := IntWalk.u32_in _ ⟨by omega, by omega⟩
          have hrs : IntKind.u32.wrap ((r : Int) * 16777216) = ((r * 16777216 : Nat) : Int) := by rw [IntWalk.u32_in _ ⟨by omega, by omega⟩]; omega
          go_wp2
          go_region_with (first
            | (go_at_call 198; refine (T1.out _).mono ?_; rintro e w1 ⟨rfl, rfl⟩)
            | (go_at_call 212; refine (T2.out _ (HE.out.drewN 1)).mono ?_; rintro e w1 ⟨rfl, q, rfl⟩))
          all_goals
            clear x1 cp cs hc
            go_wp2_with (go_at_call 211; refine (double_any r hrl _).mono ?_; rintro e w1 ⟨rfl, rfl⟩)
            go_roundw
            case rel => exact ⟨j + 1, by omega, by go_num, by rw [HR.out, HD.out], HS.out _ _ (by first | rfl | exact x2), HRes.out.other (by omega) _ _, (HE.out.drewN _).setCell (by simp) _⟩
            case measure => simp [intOf]; omega
        · have hmi : ((j : Int) % 4 == 0) = false := by simp; omega
          have hrc : (j + 1 - 1) / 4 = s1 / 4 := by omega
          rw [show j - 1 = s1 by omega]
          have HR := Lib.hid hrc
          have e := HPj.out hm
          have x1 := u32_xor_nat a b lp ls
          rw [← e] at x1
          clear hrc
          go_wp2
          go_region
          go_wp2
          go_roundw
          case rel => exact ⟨j + 1, by omega, by go_num, by rw [HR.out], HS.out 0 _ (by first | exact x1 | rw [e]), (HRes.out.other (by omega) _ _).drew, (HE.out.setCell (by simp) _).drew⟩
          case measure => simp [intOf]; omega
    · obtain rfl : j = 44 := by omega
      rw [kwsZ_all] at hrow
      have e44 : ((44 : Nat) : Int) = 44 := rfl
      rw [e44]
      clear e44
      go_wp2_with (first
        | (refine wpList_load_row rfl 237 (.tmp 5) rfl _ rfl 237 _ (0, 0) _ hrow Tryz.underlying237 rfl (sized32 size44 (kws_length key 44)) ?_)
        | (refine wpList_store_row rfl 237 (.tmp 4) (.tmp 59) rfl w.heap.size _ rfl rfl 237 _ hres (sized32 size44 (kws_length key 44)) (by simp [kws_length]) (cells32_one _) ?_))
      exact bodyPost_ret (results_cell_row rfl _ _ w.heap.size 237 _ (0, 0) _ rfl (setRow_heap _ _ _ _ _ _ hres) Tryz.underlying237 rfl (sized32 size44 (kws_length key 44))) rfl ⟨rfl, hext.setRow (Nat.le_refl _) _⟩
end Go.Proofs.YtcjdnifckngcfaaGreatDoor
end
