/- Contracts: hex digits read, by the document's answer; plain words of hex texts. -/
import Derived.Test.YtlphbnbipbfclaaBuf
namespace Go.Proofs.Ytlphbnbipbfclaa
open Go.RowKit

/-- The four bits of a hex digit; 16: none. -/
def dig (c : Nat) : Nat := if 48 ≤ c ∧ c ≤ 57 then c - 48 else if 97 ≤ c ∧ c ≤ 102 then c - 87 else 16
theorem dig_num {c : Nat} (h1 : 48 ≤ c) (h2 : c ≤ 57) : dig c = c - 48 := by unfold dig; rw [if_pos ⟨h1, h2⟩]
theorem dig_let {c : Nat} (h1 : 97 ≤ c) (h2 : c ≤ 102) : dig c = c - 87 := by unfold dig; rw [if_neg (by omega), if_pos ⟨h1, h2⟩]
theorem dig_none {c : Nat} (h1 : ¬ (48 ≤ c ∧ c ≤ 57)) (h2 : ¬ (97 ≤ c ∧ c ≤ 102)) : dig c = 16 := by unfold dig; rw [if_neg h1, if_neg h2]
theorem dig_le (c : Nat) : dig c ≤ 16 := by unfold dig; split <;> (try split) <;> omega

theorem v_num {c : Nat} (h1 : 48 ≤ (c : Int)) (h2 : (c : Int) ≤ 57) : (c : Int) - 48 = (dig c : Int) := by rw [dig_num (by omega) (by omega)]; omega
theorem v_let {c : Nat} (h1 : 97 ≤ (c : Int)) (h2 : (c : Int) ≤ 102) : (c : Int) - 97 + 10 = (dig c : Int) := by rw [dig_let (by omega) (by omega)]; omega
theorem v_none {c : Nat} (h1 : ¬ (48 ≤ (c : Int) ∧ (c : Int) ≤ 57)) (h2 : ¬ (97 ≤ (c : Int) ∧ (c : Int) ≤ 102)) : (16 : Int) = (dig c : Int) := by rw [dig_none (by omega) (by omega)]; rfl
theorem rdigit_any (c : Nat) (hc : c < 256) (w : World) :
    Calls Try.prog 38 #[.int .u8 (c : Int)] w fun e w' => e = .returned (.int .u8 (dig c : Int)) ∧ w' = w := by
  have key : ∀ x : Int, x = (dig c : Int) → Ending.returned (.int .u8 x) = .returned (.int .u8 (dig c : Int)) := fun x h => by rw [h]
  have Key := Lib.hid key; clear key
  go_enter Try.func38, Try.ntmps38
  go_wp2
  all_goals
    go_ret
    refine ⟨Key.out _ ?_, rfl⟩
    first
    | exact v_num (by omega) (by omega)
    | exact v_let (by omega) (by omega)
    | exact v_none (by omega) (by omega)

/-- Byte k of a text; 0 behind its end. -/
def byt (s : ByteArray) (k : Nat) : Nat := (s.data.toList.getD k 0).toNat
theorem byt_at {s : ByteArray} {k : Nat} (h : k < s.size) : byt s k = s[k].toNat := by
  unfold byt; rw [List.getD_eq_getElem?_getD, byte_at s k h]; rfl
/-- Are digits 2i and 2i + 1 ones? -/
def good (s : ByteArray) (i : Nat) : Prop := dig (byt s (2 * i)) < 16 ∧ dig (byt s (2 * i + 1)) < 16
instance (s : ByteArray) (i : Nat) : Decidable (good s i) := by unfold good; infer_instance
def two (s : ByteArray) (i : Nat) : UInt8 := UInt8.ofNat (16 * dig (byt s (2 * i)) + dig (byt s (2 * i + 1)))
def outs (s : ByteArray) (n : Nat) : List UInt8 := (List.range n).map (two s)
/-- Is s a hex text; of which bytes (none, if it is not one)? -/
def unhexB (s : ByteArray) : Bool := decide (s.size % 2 = 0 ∧ ∀ i, i < s.size / 2 → good s i)
def unhexV (s : ByteArray) : List UInt8 := if unhexB s = true then outs s (s.size / 2) else []
theorem outs_length (s : ByteArray) (n : Nat) : (outs s n).length = n := by simp [outs]
theorem outs_at (s : ByteArray) {n j : Nat} (h : j < n) : (outs s n)[j]? = some (two s j) := by simp [outs, h]
theorem unhex_yes {s : ByteArray} {n : Nat} (hn : s.size = 2 * n) (h : ∀ i, i < n → good s i) : unhexB s = true ∧ unhexV s = outs s n := by
  have e : s.size / 2 = n := by omega
  have hb : unhexB s = true := by unfold unhexB; exact decide_eq_true ⟨by omega, by rw [e]; exact h⟩
  exact ⟨hb, by unfold unhexV; rw [if_pos hb, e]⟩
theorem unhex_no {s : ByteArray} (h : ¬ (s.size % 2 = 0 ∧ ∀ i, i < s.size / 2 → good s i)) : unhexB s = false ∧ unhexV s = [] := by
  have hb : unhexB s = false := by unfold unhexB; exact decide_eq_false h
  exact ⟨hb, by unfold unhexV; rw [hb]; rfl⟩
theorem two_val {s : ByteArray} {j : Nat} (h : good s j) : bits BinOp.or IntKind.u8 ((dig (byt s (2 * j)) : Int) * 16 % 256) (dig (byt s (2 * j + 1)) : Int) = ((two s j).toNat : Int) := by
  obtain ⟨h1, h2⟩ := h
  unfold two
  generalize dig (byt s (2 * j)) = x at *
  generalize dig (byt s (2 * j + 1)) = y at *
  have e1 : (x : Int) * 16 % 256 = ((x * 16 : Nat) : Int) := by omega
  have e2 : x * 16 ||| y = x * 16 + y := by
    have := Nat.two_pow_add_eq_or_of_lt (i := 4) (b := y) h2 x
    rw [Nat.mul_comm] at this
    exact this.symm
  rw [e1, u8_or_nat _ _ (by omega) (by omega), e2]
  have : 16 * x + y < 256 := by omega
  simp; omega

theorem good_at {s : ByteArray} {j : Nat} (h1 : 2 * j < s.size) (h2 : 2 * j + 1 < s.size) (d1 : dig s[2 * j].toNat < 16) (d2 : dig s[2 * j + 1].toNat < 16) : good s j := by
  unfold good; rw [byt_at h1, byt_at h2]; exact ⟨d1, d2⟩
theorem good_more {s : ByteArray} {j : Nat} (h : ∀ i, i < j → good s i) (g : good s j) : ∀ i, i < j + 1 → good s i := by
  intro i hi
  rcases Nat.lt_or_eq_of_le (Nat.le_of_lt_succ hi) with h' | rfl
  · exact h i h'
  · exact g
theorem bad_at {s : ByteArray} {n j : Nat} (hn : s.size = 2 * n) (hlt : j < n) (h1 : 2 * j < s.size) (h2 : 2 * j + 1 < s.size) (h : ¬ (dig s[2 * j].toNat < 16 ∧ dig s[2 * j + 1].toNat < 16)) :
    ¬ (s.size % 2 = 0 ∧ ∀ i, i < s.size / 2 → good s i) := by
  rintro ⟨_, hg⟩
  have := hg j (by omega)
  unfold good at this
  rw [byt_at h1, byt_at h2] at this
  exact h this
theorem two_at {s : ByteArray} {j : Nat} (h1 : 2 * j < s.size) (h2 : 2 * j + 1 < s.size) (d1 : dig s[2 * j].toNat < 16) (d2 : dig s[2 * j + 1].toNat < 16) :
    bits BinOp.or IntKind.u8 ((dig s[2 * j].toNat : Int) * 16) (dig s[2 * j + 1].toNat : Int) = ((two s j).toNat : Int) := by
  have := two_val (good_at h1 h2 d1 d2)
  rw [byt_at h1, byt_at h2] at this
  rw [← this]
  congr 1
  omega
end Go.Proofs.Ytlphbnbipbfclaa
