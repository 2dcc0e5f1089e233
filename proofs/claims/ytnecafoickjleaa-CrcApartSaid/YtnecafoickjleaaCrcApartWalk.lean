/- The walk of layer 7's statement CrcApart. -/
import Derived.Test.YtnecafoickjleaaCrcPartsWalk
import Derived.Test.YtnecafoickjleaaBRow
import Derived.Outline
namespace Go.Proofs.Ytnecafoickjleaa
open Go.RowKit

/-- The first i of the bits from k on. -/
def winN (T : BitVec 32) (k i j : Nat) : Bool := decide (k ≤ j ∧ j < k + i) && T.getLsbD (j - k)
theorem winN_no (T : BitVec 32) (k i j : Nat) (h : T.getLsbD i = false) : winN T k (i + 1) j = winN T k i j := by
  unfold winN
  by_cases e : j = k + i
  · subst e
    have h1 : (k ≤ k + i ∧ k + i < k + (i + 1)) := by omega
    have h2 : ¬ (k ≤ k + i ∧ k + i < k + i) := by omega
    simp [h]
  · have : (k ≤ j ∧ j < k + (i + 1)) ↔ (k ≤ j ∧ j < k + i) := by omega
    simp only [this]
theorem winN_yes (T : BitVec 32) (k i j : Nat) (h : T.getLsbD i = true) : winN T k (i + 1) j = (winN T k i j ^^ decide (j = k + i)) := by
  unfold winN
  by_cases e : j = k + i
  · subst e
    have h3 : k + i - k = i := by omega
    rw [h3, h]
    simp
  · have : (k ≤ j ∧ j < k + (i + 1)) ↔ (k ≤ j ∧ j < k + i) := by omega
    simp only [this]
    simp [e]
/-- Bytes in which the first i of the bits from k on are turned about. -/
def Turned (l : List UInt8) (T : BitVec 32) (k i : Nat) (r : List UInt8) : Prop := r.length = l.length ∧ ∀ j, j < 8 * l.length → bitL r j = (bitL l j ^^ winN T k i j)
theorem Turned.zero (l : List UInt8) (T : BitVec 32) (k : Nat) : Turned l T k 0 l := ⟨rfl, fun j _ => by
  unfold winN
  have h : decide (k ≤ j ∧ j < k + 0) = false := by simp
  rw [h, Bool.false_and, Bool.xor_false]⟩
theorem Turned.no {l : List UInt8} {T : BitVec 32} {k i : Nat} {r : List UInt8} (h : Turned l T k i r) (hb : T.getLsbD i = false) : Turned l T k (i + 1) r := ⟨h.1, fun j hj => by rw [winN_no T k i j hb]; exact h.2 j hj⟩
theorem Turned.yes {l : List UInt8} {T : BitVec 32} {k i : Nat} {r : List UInt8} (h : Turned l T k i r) (hb : T.getLsbD i = true) (p q : Nat) (hq : q < 8) (hpq : 8 * p + q = k + i) (x y : UInt8) (hx : r[p]? = some x) (hy : y.toNat = x.toNat ^^^ 2 ^ q) : Turned l T k (i + 1) (r.set p y) := by
  refine ⟨by rw [List.length_set]; exact h.1, fun j hj => ?_⟩
  rw [bitL_set r p q x hx hq y hy j, h.2 j hj, winN_yes T k i j hb, hpq, Bool.xor_assoc]
theorem pow8 (q : Nat) (h : q < 8) : 2 ^ q < 256 := Nat.lt_of_lt_of_le (Nat.pow_lt_pow_right (by decide) h) (by decide)
theorem turned_byte (x : UInt8) (q : Nat) (h : q < 8) : ∃ y : UInt8, y.toNat = x.toNat ^^^ 2 ^ q ∧ bits BinOp.xor IntKind.u8 (x.toNat : Int) ((2 : Int) ^ q % 256) = (y.toNat : Int) := by
  have h1 := pow8 q h
  have h2 : x.toNat ^^^ 2 ^ q < 256 := Nat.xor_lt_two_pow (n := 8) x.toNat_lt h1
  refine ⟨UInt8.ofNat (x.toNat ^^^ 2 ^ q), by rw [UInt8.toNat_ofNat']; omega, ?_⟩
  have e : (2 : Int) ^ q % 256 = ((2 ^ q : Nat) : Int) := by
    have e2 : (2 : Int) ^ q = ((2 ^ q : Nat) : Int) := by simp
    rw [e2]
    exact Int.emod_eq_of_lt (Int.natCast_nonneg _) (Int.ofNat_lt.2 h1)
  rw [e, u8_xor_nat _ _ x.toNat_lt h1, UInt8.toNat_ofNat']
  omega
set_option maxRecDepth 100000 in
set_option maxHeartbeats 4000000 in
theorem CrcApart_walk (s : ByteArray) (turns at_ : Int) (W : World) (z0 : s.size ≤ 140737488351232) (z1 : 0 ≤ turns ∧ turns ≤ 4294967295) (z2 : 0 ≤ at_ ∧ at_ ≤ 65535) :
    Calls Try.prog 5 #[.string s, .int .u32 turns, .int .u16 at_] W fun e W' => e = .returned (.bool true) ∧ Ext W W' := by
  by_cases hh : 4096 < s.size ∨ s.size < 5
  · have hcase : (4096 : Int) < (s.size : Int) ∨ (¬ (4096 : Int) < (s.size : Int) ∧ (s.size : Int) < 5) := by omega
    clear hh
    go_enter Try.func5, Try.ntmps5
    rcases hcase with q | ⟨q1, q2⟩
    all_goals
      go_wp2_with (go_at_call 7; refine (alive_any _).mono ?_; rintro e w1 ⟨rfl, h1⟩)
      go_ret
      exact ⟨rfl, h1⟩
  · have n1 : s.size ≤ 4096 := by omega
    have n2 : 5 ≤ s.size := by omega
    obtain ⟨T, rfl⟩ := bv_of turns z1
    obtain ⟨k, hk, hkn⟩ : ∃ k : Nat, at_ % (8 * (s.size : Int) - 31) = (k : Int) ∧ k + 32 ≤ 8 * s.size := by
      have q1 := Int.emod_nonneg at_ (show (8 * (s.size : Int) - 31) ≠ 0 by omega)
      have q2 := Int.emod_lt_of_pos at_ (show (0 : Int) < 8 * (s.size : Int) - 31 by omega)
      exact ⟨(at_ % (8 * (s.size : Int) - 31)).toNat, by omega, by omega⟩
    obtain ⟨c, W1, hcv, hcc, hx1, hb0⟩ := bytes_of_text W s
    have HB0 := Lib.hid hb0; have HX1 := Lib.hid hx1
    have HBit := Lib.hid (bit_tmod T)
    have HL := Lib.hid (size_list s)
    have HAp := Lib.hid (fun (r : List UInt8) (hr : Turned s.data.toList T k 32 r) => apart 0#32 T k s.data.toList r hr.1.symm (by rw [size_list]; exact hkn) (fun j hj => hr.2 j hj))
    have HS := Lib.hid (sum_any s z0)
    have hT := T.isLt
    have HT0 := Lib.hid (show T = 0#32 ↔ T.toNat = 0 from ⟨fun h => by rw [h]; rfl, fun h => BitVec.eq_of_toNat_eq h⟩)
    clear hh hb0 hx1
    go_enter Try.func5, Try.ntmps5
    go_wp2
    go_loopw [9] (fun i wr => ∃ (j : Nat) (r : List UInt8), j ≤ 32 ∧ i = .int .i64 (j : Int) ∧ Turned s.data.toList T k j r ∧ BRow wr W.heap.size 5 r ∧ Ext W wr) (fun i _ => 32 - (intOf i).toNat)
    case atStart => exact ⟨0, s.data.toList, Nat.zero_le _, rfl, Turned.zero _ _ _, HB0.out, HX1.out⟩
    case round =>
      obtain ⟨j, r, hj, rfl, htu, hrow, hext⟩ := hrel
      have HTu := Lib.hid htu; have HRw := Lib.hid hrow; have HE := Lib.hid hext
      have hrl : Hid (r.length = s.size) := Lib.hid (by rw [htu.1, HL.out])
      clear htu hrow hext
      by_cases hlt : j < 32
      · have hb := HBit.out j
        cases hbit : T.getLsbD j
        · rw [hbit] at hb
          have HTn := Lib.hid (HTu.out.no hbit)
          clear hbit
          generalize T.toNat = q at *
          go_wp2
          go_roundw
          case rel => exact ⟨j + 1, r, by omega, by go_num, HTn.out, HRw.out, HE.out⟩
          case measure => simp [intOf]; omega
        · rw [hbit] at hb
          obtain ⟨p, q, hpq, hq8, hpd, hqd⟩ : ∃ p q : Nat, 8 * p + q = k + j ∧ q < 8 ∧ ((k : Int) + (j : Int)) / 8 = (p : Int) ∧ ((k : Int) + (j : Int)) % 8 = (q : Int) := ⟨(k + j) / 8, (k + j) % 8, by omega, by omega, by omega, by omega⟩
          have hps : p < s.size := by omega
          obtain ⟨x, hx⟩ : ∃ x, r[p]? = some x := ⟨_, List.getElem?_eq_getElem (by rw [hrl.out]; exact hps)⟩
          obtain ⟨y, hy, hby⟩ := turned_byte x q hq8
          have HTn := Lib.hid (HTu.out.yes hbit p q hq8 hpq x y hx hy)
          have c0 := HRw.out.cell p x hx
          have f0 := HRw.out.frozen p (by rw [hrl.out]; exact hps)
          have HSet := Lib.hid (HRw.out.set_ p (by rw [hrl.out]; exact hps) (y.toNat : Int) y rfl)
          clear hbit hx hy
          generalize T.toNat = t at *
          go_wp2
          go_roundw
          case rel => exact ⟨j + 1, _, by omega, by go_num, HTn.out, HSet.out, HE.out.setCell (Nat.le_refl _) _⟩
          case measure => simp [intOf]; omega
      · obtain rfl : j = 32 := by omega
        have htx := HRw.out.text s.size c (by rw [hrl.out]; exact Nat.le_refl _)
        rw [List.take_of_length_le (by rw [hrl.out]; exact Nat.le_refl _)] at htx
        have hq := sum_any ⟨r.toArray⟩ (by rw [txt_size, hrl.out]; exact z0)
        rw [show (⟨r.toArray⟩ : ByteArray).data.toList = r by simp] at hq
        have HR := Lib.hid hq
        have HApr := Lib.hid (HAp.out r HTu.out)
        clear hq
        generalize (⟨r.toArray⟩ : ByteArray) = R' at *
        by_cases hT0 : T = 0#32
        · have e1 := HApr.out.2 hT0
          have e2 := HT0.out.1 hT0
          have hz : ((T.toNat : Int) == 0) = true := by rw [e2]; rfl
          rw [e1] at HR
          clear e1 e2 hT0
          generalize (moreC 0#32 s.data.toList).toNat = m1 at *
          generalize T.toNat = q at *
          go_wp2_with (first
            | (go_at_call 8; (with_reducible refine (HR.out _).mono ?_); rintro e w1 ⟨rfl, x1⟩)
            | (go_at_call 8; (with_reducible refine (HS.out _).mono ?_); rintro e w2 ⟨rfl, x2⟩)
            | (go_at_call 7; refine (alive_any _).mono ?_; rintro e w3 ⟨rfl, x3⟩))
          go_ret
          exact ⟨rfl, ((HE.out.trans x1).trans x2).trans x3⟩
        · have hz : ((T.toNat : Int) == 0) = false := by
            rw [beq_eq_false_iff_ne]
            intro q
            exact hT0 (HT0.out.2 (by omega))
          have hne : (((moreC 0#32 r).toNat : Int) == ((moreC 0#32 s.data.toList).toNat : Int)) = false := by
            rw [beq_eq_false_iff_ne]
            intro q
            exact hT0 (HApr.out.1 (BitVec.eq_of_toNat_eq (by omega)))
          clear hT0
          generalize (moreC 0#32 s.data.toList).toNat = m1 at *
          generalize (moreC 0#32 r).toNat = m2 at *
          generalize T.toNat = q at *
          go_wp2_with (first
            | (go_at_call 8; (with_reducible refine (HR.out _).mono ?_); rintro e w1 ⟨rfl, x1⟩)
            | (go_at_call 8; (with_reducible refine (HS.out _).mono ?_); rintro e w2 ⟨rfl, x2⟩)
            | (go_at_call 7; refine (alive_any _).mono ?_; rintro e w3 ⟨rfl, x3⟩))
          go_ret
          exact ⟨rfl, ((HE.out.trans x1).trans x2).trans x3⟩
end Go.Proofs.Ytnecafoickjleaa
