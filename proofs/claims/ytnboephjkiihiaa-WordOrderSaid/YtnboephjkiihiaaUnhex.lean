/- Contracts: hex texts read, by the program and by the document's answer. -/
import Derived.Test.YtnboephjkiihiaaHex
namespace Go.Proofs.Ytnboephjkiihiaa
open Go.RowKit

/-- The four bits of a hex digit; 16: none. -/
def dig (c : Nat) : Nat := if 48 ≤ c ∧ c ≤ 57 then c - 48 else if 97 ≤ c ∧ c ≤ 102 then c - 87 else 16
theorem dig_num {c : Nat} (h1 : 48 ≤ c) (h2 : c ≤ 57) : dig c = c - 48 := by unfold dig; rw [if_pos ⟨h1, h2⟩]
theorem dig_let {c : Nat} (h1 : 97 ≤ c) (h2 : c ≤ 102) : dig c = c - 87 := by unfold dig; rw [if_neg (by omega), if_pos ⟨h1, h2⟩]
theorem dig_none {c : Nat} (h1 : ¬ (48 ≤ c ∧ c ≤ 57)) (h2 : ¬ (97 ≤ c ∧ c ≤ 102)) : dig c = 16 := by unfold dig; rw [if_neg h1, if_neg h2]
theorem dig_le (c : Nat) : dig c ≤ 16 := by unfold dig; split <;> (try split) <;> omega

theorem v_num {c : Nat} (h1 : 48 ≤ (c : Int)) (h2 : (c : Int) ≤ 57) : (c : Int) - 48 = (dig c : Int) := by rw [dig_num (by omega) (by omega)]; omega
theorem v_let {c : Nat} (h1 : 97 ≤ (c : Int)) (h2 : (c : Int) ≤ 102) : (c : Int) - 97 + 10 = (dig c : Int) := by rw [dig_let (by omega) (by omega)]; omega
theorem v_none {c : Nat} (h1 : ¬ (48 ≤ (c : Int) ∧ (c : Int) ≤ 57)) (h2 : ¬ (97 ≤ (c : Int) ∧ (c : Int) ≤ 102)) : (16 : Int) = (dig c : Int) := by rw [dig_none (by omega) (by omega)]; rfl
theorem rdigit_any (c : Nat) (hc : c < 256) (w : World) :
    Calls Try.prog 29 #[.int .u8 (c : Int)] w fun e w' => e = .returned (.int .u8 (dig c : Int)) ∧ w' = w := by
  have key : ∀ x : Int, x = (dig c : Int) → Ending.returned (.int .u8 x) = .returned (.int .u8 (dig c : Int)) := fun x h => by rw [h]
  have Key := Lib.hid key; clear key
  go_enter Try.func29, Try.ntmps29
  go_wp2
  all_goals
    go_ret
    refine ⟨Key.out _ ?_, rfl⟩
    first
    | exact v_num (by omega) (by omega)
    | exact v_let (by omega) (by omega)
    | exact v_none (by omega) (by omega)

theorem wdigit_yes (c : Nat) (hc : c < 256) (hd : dig c < 16) (w : World) :
    Calls Try.prog 28 #[.int .u8 (c : Int)] w fun e w' => e = .returned (.tuple #[.int .u8 (dig c : Int), .bool true]) ∧ w = w' := by
  have key : ∀ x : Int, x = (dig c : Int) → Ending.returned (.tuple #[.int .u8 x, .bool true]) = .returned (.tuple #[.int .u8 (dig c : Int), .bool true]) := fun x h => by rw [h]
  have Key := Lib.hid key; clear key
  have Hd := Lib.hid hd; clear hd
  go_enter Try.func28, Try.ntmps28
  go_wp2
  all_goals first
    | (go_ret2
       refine ⟨Key.out _ ?_, rfl⟩
       first
       | exact v_num (by omega) (by omega)
       | exact v_let (by omega) (by omega))
    | (exfalso
       have := dig_none (c := c) (by omega) (by omega)
       have := Hd.out
       omega)
theorem wdigit_no (c : Nat) (hc : c < 256) (hd : ¬ dig c < 16) (w : World) :
    Calls Try.prog 28 #[.int .u8 (c : Int)] w fun e w' => e = .returned (.tuple #[.int .u8 0, .bool false]) ∧ w = w' := by
  have Hd := Lib.hid hd; clear hd
  go_enter Try.func28, Try.ntmps28
  go_wp2
  all_goals first
    | (go_ret2
       exact ⟨rfl, rfl⟩)
    | (exfalso
       have := Hd.out
       first
       | (have := dig_num (c := c) (by omega) (by omega); omega)
       | (have := dig_let (c := c) (by omega) (by omega); omega))

/-- Byte k of a text; 0 behind its end. -/
def byt (s : ByteArray) (k : Nat) : Nat := (s.data.toList.getD k 0).toNat
theorem byt_at {s : ByteArray} {k : Nat} (h : k < s.size) : byt s k = s[k].toNat := by
  unfold byt; rw [List.getD_eq_getElem?_getD, byte_at s k h]; rfl
/-- Are digits 2i and 2i + 1 ones? -/
def good (s : ByteArray) (i : Nat) : Prop := dig (byt s (2 * i)) < 16 ∧ dig (byt s (2 * i + 1)) < 16
instance (s : ByteArray) (i : Nat) : Decidable (good s i) := by unfold good; infer_instance
def two (s : ByteArray) (i : Nat) : UInt8 := UInt8.ofNat (16 * dig (byt s (2 * i)) + dig (byt s (2 * i + 1)))
def outs (s : ByteArray) (n : Nat) : List UInt8 := (List.range n).map (two s)
/-- Is s a hex text; of which bytes (none, if it is not one)? -/
def unhexB (s : ByteArray) : Bool := decide (s.size % 2 = 0 ∧ ∀ i, i < s.size / 2 → good s i)
def unhexV (s : ByteArray) : List UInt8 := if unhexB s = true then outs s (s.size / 2) else []
theorem outs_length (s : ByteArray) (n : Nat) : (outs s n).length = n := by simp [outs]
theorem outs_at (s : ByteArray) {n j : Nat} (h : j < n) : (outs s n)[j]? = some (two s j) := by simp [outs, h]
theorem unhex_yes {s : ByteArray} {n : Nat} (hn : s.size = 2 * n) (h : ∀ i, i < n → good s i) : unhexB s = true ∧ unhexV s = outs s n := by
  have e : s.size / 2 = n := by omega
  have hb : unhexB s = true := by unfold unhexB; exact decide_eq_true ⟨by omega, by rw [e]; exact h⟩
  exact ⟨hb, by unfold unhexV; rw [if_pos hb, e]⟩
theorem unhex_no {s : ByteArray} (h : ¬ (s.size % 2 = 0 ∧ ∀ i, i < s.size / 2 → good s i)) : unhexB s = false ∧ unhexV s = [] := by
  have hb : unhexB s = false := by unfold unhexB; exact decide_eq_false h
  exact ⟨hb, by unfold unhexV; rw [hb]; rfl⟩
theorem two_val {s : ByteArray} {j : Nat} (h : good s j) : bits BinOp.or IntKind.u8 ((dig (byt s (2 * j)) : Int) * 16 % 256) (dig (byt s (2 * j + 1)) : Int) = ((two s j).toNat : Int) := by
  obtain ⟨h1, h2⟩ := h
  unfold two
  generalize dig (byt s (2 * j)) = x at *
  generalize dig (byt s (2 * j + 1)) = y at *
  have e1 : (x : Int) * 16 % 256 = ((x * 16 : Nat) : Int) := by omega
  have e2 : x * 16 ||| y = x * 16 + y := by
    have := Nat.two_pow_add_eq_or_of_lt (i := 4) (b := y) h2 x
    rw [Nat.mul_comm] at this
    exact this.symm
  rw [e1, u8_or_nat _ _ (by omega) (by omega), e2]
  have : 16 * x + y < 256 := by omega
  simp; omega

theorem good_at {s : ByteArray} {j : Nat} (h1 : 2 * j < s.size) (h2 : 2 * j + 1 < s.size) (d1 : dig s[2 * j].toNat < 16) (d2 : dig s[2 * j + 1].toNat < 16) : good s j := by
  unfold good; rw [byt_at h1, byt_at h2]; exact ⟨d1, d2⟩
theorem good_more {s : ByteArray} {j : Nat} (h : ∀ i, i < j → good s i) (g : good s j) : ∀ i, i < j + 1 → good s i := by
  intro i hi
  rcases Nat.lt_or_eq_of_le (Nat.le_of_lt_succ hi) with h' | rfl
  · exact h i h'
  · exact g
theorem bad_at {s : ByteArray} {n j : Nat} (hn : s.size = 2 * n) (hlt : j < n) (h1 : 2 * j < s.size) (h2 : 2 * j + 1 < s.size) (h : ¬ (dig s[2 * j].toNat < 16 ∧ dig s[2 * j + 1].toNat < 16)) :
    ¬ (s.size % 2 = 0 ∧ ∀ i, i < s.size / 2 → good s i) := by
  rintro ⟨_, hg⟩
  have := hg j (by omega)
  unfold good at this
  rw [byt_at h1, byt_at h2] at this
  exact h this
theorem two_at {s : ByteArray} {j : Nat} (h1 : 2 * j < s.size) (h2 : 2 * j + 1 < s.size) (d1 : dig s[2 * j].toNat < 16) (d2 : dig s[2 * j + 1].toNat < 16) :
    bits BinOp.or IntKind.u8 ((dig s[2 * j].toNat : Int) * 16) (dig s[2 * j + 1].toNat : Int) = ((two s j).toNat : Int) := by
  have := two_val (good_at h1 h2 d1 d2)
  rw [byt_at h1, byt_at h2] at this
  rw [← this]
  congr 1
  omega
theorem unhex_any (s : ByteArray) (hs : s.size ≤ 1099511627776) (w : World) :
    Calls Try.prog 17 #[.string s] w fun e w' => e = .returned (.tuple #[.string ⟨(unhexV s).toArray⟩, .bool (unhexB s)]) ∧ Ext w w' := by
  by_cases hp : s.size % 2 = 0
  · obtain ⟨n, hn⟩ : ∃ n, s.size = 2 * n := ⟨s.size / 2, by omega⟩
    have ht : ((s.size : Int) % 2 != 0) = false := by simp; omega
    have hq : (s.size : Int) / 2 = (n : Int) := by omega
    have hmk := make_bytes n (by omega)
    have Hn := Lib.hid hn; clear hn hp
    go_enter Try.func17, Try.ntmps17
    go_wp2
    go_loopw [20] (fun i wr => ∃ j : Nat, j ≤ n ∧ i = .int .i64 j ∧ (∀ i, i < j → good s i) ∧ Row wr w.heap.size 5 ((outs s n).take j ++ List.replicate (n - j) 0) ∧ Ext w wr) (fun i _ => n - (intOf i).toNat)
    case atStart => exact ⟨0, Nat.zero_le _, rfl, fun i hi => absurd hi (by omega), by simpa using Row.made w 5 n, (Ext.refl w).alloc _⟩
    case round =>
      obtain ⟨j, hj, rfl, hgood, hrow, hext⟩ := hrel
      have Hg := Lib.hid hgood; clear hgood
      clear ht hq hmk
      by_cases hlt : j < n
      · have hl1 : 2 * j < s.size := by have := Hn.out; omega
        have hl2 : 2 * j + 1 < s.size := by have := Hn.out; omega
        have hc := fill_cell hrow (outs_length s n) hlt
        have hf := hrow.frozen j
        have hb1 : s[2 * j].toNat < 256 := s[2 * j].toNat_lt
        have hb2 : s[2 * j + 1].toNat < 256 := s[2 * j + 1].toNat_lt
        have E1 := Lib.hid (byt_at hl1)
        have E2 := Lib.hid (byt_at hl2)
        by_cases h1 : dig s[2 * j].toNat < 16
        · by_cases h2 : dig s[2 * j + 1].toNat < 16
          · have G := Lib.hid (good_at hl1 hl2 h1 h2)
            go_wp2_with (first | (go_at_call 28; (with_reducible refine (wdigit_yes _ hb1 h1 _).mono ?_); rintro e w1 ⟨rfl, rfl⟩) | (go_at_call 28; (with_reducible refine (wdigit_yes _ hb2 h2 _).mono ?_); rintro e w1 ⟨rfl, rfl⟩))
            go_roundw
            case rel => exact ⟨j + 1, by omega, by go_num, good_more Hg.out G.out, fill_step hrow (outs_length s n) hlt _ _ (outs_at s hlt) (two_at hl1 hl2 h1 h2), hext.setCell (Nat.le_refl _) _⟩
            case measure => simp [intOf]; omega
          · have E := Lib.hid (unhex_no (s := s) (bad_at Hn.out hlt hl1 hl2 (fun h => h2 h.2)))
            go_wp2_with (first | (go_at_call 28; (with_reducible refine (wdigit_yes _ hb1 h1 _).mono ?_); rintro e w1 ⟨rfl, rfl⟩) | (go_at_call 28; (with_reducible refine (wdigit_no _ hb2 h2 _).mono ?_); rintro e w1 ⟨rfl, rfl⟩))
            go_ret2
            exact ⟨by rw [E.out.1, E.out.2]; rfl, hext⟩
        · have E := Lib.hid (unhex_no (s := s) (bad_at Hn.out hlt hl1 hl2 (fun h => h1 h.1)))
          by_cases h2 : dig s[2 * j + 1].toNat < 16
          · go_wp2_with (first | (go_at_call 28; (with_reducible refine (wdigit_no _ hb1 h1 _).mono ?_); rintro e w1 ⟨rfl, rfl⟩) | (go_at_call 28; (with_reducible refine (wdigit_yes _ hb2 h2 _).mono ?_); rintro e w1 ⟨rfl, rfl⟩))
            go_ret2
            exact ⟨by rw [E.out.1, E.out.2]; rfl, hext⟩
          · go_wp2_with (first | (go_at_call 28; (with_reducible refine (wdigit_no _ hb1 h1 _).mono ?_); rintro e w1 ⟨rfl, rfl⟩) | (go_at_call 28; (with_reducible refine (wdigit_no _ hb2 h2 _).mono ?_); rintro e w1 ⟨rfl, rfl⟩))
            go_ret2
            exact ⟨by rw [E.out.1, E.out.2]; rfl, hext⟩
      · obtain rfl : j = n := by omega
        have ht := (fill_done hrow (outs_length s j)).text (P := Try.prog) 43 5 9 Try.underlying43 Try.underlying5 Try.underlying9 j j (outs_length s j)
        clear hrow
        have E := Lib.hid (unhex_yes Hn.out Hg.out)
        go_wp2
        go_ret2
        exact ⟨by rw [E.out.1, E.out.2]; rfl, hext⟩
  · have ht : ((s.size : Int) % 2 != 0) = true := by simp; omega
    obtain ⟨e1, e2⟩ := unhex_no (s := s) (fun h => hp h.1)
    rw [e1, e2]
    clear hp e1 e2
    go_enter Try.func17, Try.ntmps17
    go_wp2
    go_ret2
    exact ⟨rfl, Ext.refl _⟩
end Go.Proofs.Ytnboephjkiihiaa
