/- Contracts: either or of two texts, by the program and by the document's answer; whether texts are the same. Plain words of HMAC, and of keys out of a key, over rows of bytes: no function of the program is named here. Plain words of a block of numbers of 32 bits in memory. Contracts: the words of a block, by the program. Contracts: an array of eight numbers, read by value. -/
import Derived.Test.YtcjdnifckngcfaaGreatDoorProg
import Derived.Test.YtcjdnifckngcfaaGreatDoorM00
import Derived.Test.YtcjdnifckngcfaaGreatDoorM06
import Derived.WalkSpells
import Derived.Laws.BitsAllLaws
import Derived.RegionTactic
import Derived.ChangeAlike
import Derived.BigRegion
import Derived.Deep.QuietTactic
import Derived.BigQuiet
import Derived.Test.YtcjdnifckngcfaaGreatDoorM07
import Derived.Test.YtcjdnifckngcfaaGreatDoorM02
import Derived.Laws.Rows
import Derived.Laws.Tables
import Derived.Laws.World
import Derived.Deep.MidRow
import Derived.Test.YtcjdnifckngcfaaGreatDoorM04
section
namespace Go.Proofs.YtcjdnifckngcfaaGreatDoor
open Go.RowKit

/-- Either or of two texts, byte by byte, as far as the first goes. -/
def xorL (a b : List UInt8) : List UInt8 := List.zipWith (· ^^^ ·) a b

theorem xorL_length {a b : ByteArray} (h : a.size = b.size) : (xorL a.data.toList b.data.toList).length = a.size := by
  unfold xorL; rw [List.length_zipWith, size_list, size_list]; omega
theorem xorL_at {a b : ByteArray} {j : Nat} (h1 : j < a.size) (h2 : j < b.size) : (xorL a.data.toList b.data.toList)[j]? = some (a[j] ^^^ b[j]) := by
  unfold xorL; rw [List.getElem?_zipWith, byte_at a j h1, byte_at b j h2]
theorem xor_byte (x y : UInt8) : bits BinOp.xor IntKind.u8 (x.toNat : Int) (y.toNat : Int) = ((x ^^^ y).toNat : Int) := by
  rw [u8_xor_nat _ _ x.toNat_lt y.toNat_lt, UInt8.toNat_xor]
theorem or_is_sum (a b : Nat) (ha : a < 256) (hb : b < 256) : a ||| b = (a ^^^ b) + (a &&& b) := by
  let x := BitVec.ofNat 16 a
  let y := BitVec.ofNat 16 b
  have hx : x.toNat = a := Nat.mod_eq_of_lt (by omega)
  have hy : y.toNat = b := Nat.mod_eq_of_lt (by omega)
  have h0 : (x ^^^ y) &&& (x &&& y) = 0#16 := by
    apply BitVec.eq_of_getLsbD_eq
    intro i hi
    simp only [BitVec.getLsbD_and, BitVec.getLsbD_xor, BitVec.getLsbD_zero]
    cases x.getLsbD i <;> cases y.getLsbD i <;> rfl
  have h1 : (x ^^^ y) ||| (x &&& y) = x ||| y := by
    apply BitVec.eq_of_getLsbD_eq
    intro i hi
    simp only [BitVec.getLsbD_and, BitVec.getLsbD_xor, BitVec.getLsbD_or]
    cases x.getLsbD i <;> cases y.getLsbD i <;> rfl
  have h2 := BitVec.add_eq_or_of_and_eq_zero _ _ h0
  rw [h1] at h2
  have h3 := congrArg BitVec.toNat h2
  rw [BitVec.toNat_add, BitVec.toNat_and, BitVec.toNat_xor, BitVec.toNat_or, hx, hy] at h3
  have l1 : a ^^^ b < 2 ^ 8 := Nat.xor_lt_two_pow ha hb
  have l2 : a &&& b ≤ a := Nat.and_le_left
  omega
theorem or_sub_and (x y : UInt8) : (bits BinOp.or IntKind.u8 (x.toNat : Int) (y.toNat : Int) - bits BinOp.and IntKind.u8 (x.toNat : Int) (y.toNat : Int)) % 256 = ((x ^^^ y).toNat : Int) := by
  have hx := x.toNat_lt
  have hy := y.toNat_lt
  rw [u8_or_nat _ _ hx hy, u8_and_nat _ _ hx hy, UInt8.toNat_xor, or_is_sum _ _ hx hy]
  have l1 : x.toNat ^^^ y.toNat < 2 ^ 8 := Nat.xor_lt_two_pow hx hy
  omega

theorem xor_yes (a b : ByteArray) (hab : a.size = b.size) (ha : a.size ≤ 140737488351232) (w : World) :
    Calls Tryz.prog 108 #[.string a, .string b] w fun e w' => e = .returned (.tuple #[.string ⟨(xorL a.data.toList b.data.toList).toArray⟩, .bool true]) ∧ Ext w w' := by
  have hmk := make_bytes a.size (by omega)
  have hne : ((a.size : Int) != (b.size : Int)) = false := by rw [hab]; simp
  have Hab := Lib.hid hab; clear hab
  go_enter Tryz.func108, Tryz.ntmps108
  go_wp2
  go_loopw [18] (fun i wr => ∃ j : Nat, j ≤ a.size ∧ i = .int .i64 j ∧ Row wr w.heap.size 5 ((xorL a.data.toList b.data.toList).take j ++ List.replicate (a.size - j) 0) ∧ Ext w wr) (fun i _ => a.size - (intOf i).toNat)
  case atStart => exact ⟨0, Nat.zero_le _, rfl, by simpa using Row.made w 5 a.size, (Ext.refl w).alloc _⟩
  case round =>
    obtain ⟨j, hj, rfl, hrow, hext⟩ := hrel
    by_cases hlt : j < a.size
    · have hlt2 : j < b.size := by have := Hab.out; omega
      have hc := fill_cell hrow (xorL_length Hab.out) hlt
      have hf := hrow.frozen j
      go_wp2
      go_region
      go_wp2
      go_roundw
      case rel => exact ⟨j + 1, by omega, by go_num, (fill_step hrow (xorL_length Hab.out) hlt _ _ (xorL_at hlt hlt2) (xor_byte _ _)).drew, (hext.setCell (Nat.le_refl _) _).drew⟩
      case measure => simp [intOf]; omega
    · obtain rfl : j = a.size := by omega
      have ht := (fill_done hrow (xorL_length Hab.out)).text (P := Tryz.prog) 43 5 9 Tryz.underlying43 Tryz.underlying5 Tryz.underlying9 a.size a.size (xorL_length Hab.out)
      clear hrow
      go_wp2
      go_ret2
      exact ⟨rfl, hext⟩

theorem xor_no (a b : ByteArray) (hab : ¬ a.size = b.size) (w : World) :
    Calls Tryz.prog 108 #[.string a, .string b] w fun e w' => e = .returned (.tuple #[.string ⟨#[]⟩, .bool false]) ∧ Ext w w' := by
  have hne : ((a.size : Int) != (b.size : Int)) = true := by simp; omega
  go_enter Tryz.func108, Tryz.ntmps108
  go_wp2
  go_ret2
  exact ⟨rfl, Ext.refl _⟩

end Go.Proofs.YtcjdnifckngcfaaGreatDoor
end

section
namespace Go.Proofs.YtcjdnifckngcfaaGreatDoor
open Go.RowKit

/-- A key; of one of more than 64 bytes its sum. -/
def keyL (k : List UInt8) : List UInt8 := if 64 < k.length then shaL k else k
def blockL (k : List UInt8) : List UInt8 := keyL k ++ List.replicate (64 - (keyL k).length) 0
def mixL (k : List UInt8) (c : UInt8) : List UInt8 := xorL (blockL k) (List.replicate 64 c)
/-- The tag of a text. -/
def macL (k m : List UInt8) : List UInt8 := shaL (mixL k 92 ++ shaL (mixL k 54 ++ m))
theorem keyL_le (k : List UInt8) : (keyL k).length ≤ 64 := by
  unfold keyL
  by_cases h : 64 < k.length
  · rw [if_pos h, shaL_length]; omega
  · rw [if_neg h]; omega
theorem blockL_length (k : List UInt8) : (blockL k).length = 64 := by
  have := keyL_le k
  unfold blockL
  rw [List.length_append, List.length_replicate]; omega
theorem mixL_length (k : List UInt8) (c : UInt8) : (mixL k c).length = 64 := by
  unfold mixL xorL
  rw [List.length_zipWith, blockL_length, List.length_replicate]; rfl
theorem macL_eq (k m : List UInt8) : macL k m = shaL (mixL k 92 ++ shaL (mixL k 54 ++ m)) := rfl
theorem macL_length (k m : List UInt8) : (macL k m).length = 32 := shaL_length _
/-- A key of more than 64 bytes is as good as its sum. -/
theorem macL_sum (k m : List UInt8) (h : 64 < k.length) : macL k m = macL (shaL k) m := by
  have e : blockL k = blockL (shaL k) := by
    have e2 : keyL k = keyL (shaL k) := by
      unfold keyL
      rw [if_pos h, if_neg (by rw [shaL_length]; omega)]
    unfold blockL
    rw [e2]
  unfold macL mixL
  rw [e]
/-- Bytes 0 behind a key of fewer make no difference. -/
theorem macL_zeros (k m : List UInt8) (n : Nat) (h : k.length + n ≤ 64) : macL k m = macL (k ++ List.replicate n 0) m := by
  have e : blockL k = blockL (k ++ List.replicate n 0) := by
    have e1 : keyL k = k := by unfold keyL; rw [if_neg (by omega)]
    have e2 : keyL (k ++ List.replicate n 0) = k ++ List.replicate n 0 := by unfold keyL; rw [if_neg (by simp; omega)]
    unfold blockL
    rw [e1, e2, List.append_assoc, List.replicate_append_replicate, List.length_append, List.length_replicate]
    congr 2
    omega
  unfold macL mixL
  rw [e]

/-- The tag of a label by number; nothing ahead of the first. -/
def tagL (k label : List UInt8) : Nat → List UInt8
  | 0 => []
  | i + 1 => macL k (tagL k label i ++ label ++ [UInt8.ofNat (i + 1)])
theorem tagL_succ (k label : List UInt8) (i : Nat) : tagL k label (i + 1) = macL k (tagL k label i ++ label ++ [UInt8.ofNat (i + 1)]) := rfl
theorem tagL_length (k label : List UInt8) (i : Nat) : (tagL k label (i + 1)).length = 32 := macL_length _ _
theorem tagL_le (k label : List UInt8) (i : Nat) : (tagL k label i).length ≤ 32 := by
  cases i with
  | zero => simp [tagL]
  | succ i => rw [tagL_length]; omega
/-- The first n tags, one behind the other. -/
def rowL (k label : List UInt8) : Nat → List UInt8
  | 0 => []
  | n + 1 => rowL k label n ++ tagL k label (n + 1)
theorem rowL_succ (k label : List UInt8) (n : Nat) : rowL k label (n + 1) = rowL k label n ++ tagL k label (n + 1) := rfl
theorem rowL_length (k label : List UInt8) : ∀ n, (rowL k label n).length = 32 * n
  | 0 => rfl
  | n + 1 => by rw [rowL_succ, List.length_append, rowL_length k label n, tagL_length]; omega
theorem rowL_take (k label : List UInt8) (m : Nat) : ∀ d, (rowL k label (m + d)).take (32 * m) = rowL k label m
  | 0 => by rw [List.take_of_length_le (by rw [rowL_length]; simp)]; rfl
  | d + 1 => by
    rw [← Nat.add_assoc, rowL_succ, List.take_append_of_le_length (by rw [rowL_length]; omega)]
    exact rowL_take k label m d
/-- What is derived: the first n bytes of all 255 tags. -/
def derL (k label : List UInt8) (n : Nat) : List UInt8 := (rowL k label 255).take n
theorem derL_length (k label : List UInt8) (n : Nat) (h : n ≤ 8160) : (derL k label n).length = n := by
  unfold derL
  rw [List.length_take, rowL_length]; omega
theorem derL_take (k label : List UInt8) (m n : Nat) (h : m ≤ n) : (derL k label n).take m = derL k label m := by
  unfold derL
  rw [List.take_take, Nat.min_eq_left h]
theorem derL_of (k label : List UInt8) (n m : Nat) (h : n ≤ 32 * m) (hm : m ≤ 255) : derL k label n = (rowL k label m).take n := by
  obtain ⟨d, hd⟩ : ∃ d, d + m = 255 := ⟨255 - m, by omega⟩
  have e := rowL_take k label m d
  unfold derL
  have e2 : (255 : Nat) = m + d := by omega
  rw [e2, ← e, List.take_take, Nat.min_eq_left h]
attribute [irreducible] macL
end Go.Proofs.YtcjdnifckngcfaaGreatDoor
end

section
namespace Go.Proofs.YtcjdnifckngcfaaGreatDoor
open Go.RowKit

/-- A number in memory. -/
def cell32 (n : Nat) : Value := .int .u32 (n : Int)
/-- Block g holds just these numbers. -/
def Row32 (w : World) (g : Nat) (t : TypeId) (l : List Nat) : Prop := w.heap[g]? = some (.cells (l.map cell32).toArray t (0, 0))
section
variable {w w' : World} {g : Nat} {t : TypeId} {l : List Nat}
theorem Row32.lt (h : Row32 w g t l) : g < w.heap.size := heap_lt h
theorem Row32.cell (h : Row32 w g t l) (i : Nat) (hi : i < l.length) : w.cell? ⟨g, i, none⟩ = some (.int .u32 (l.getD i 0 : Nat)) := by
  rw [cell_of_row w g i _ t (0, 0) h]; simp [List.getElem?_eq_getElem hi, cell32]
theorem Row32.frozen (h : Row32 w g t l) (i : Nat) : w.frozen? ⟨g, i, none⟩ = false := by
  unfold Row32 at h
  simp [World.frozen?, h]
theorem Row32.drew (h : Row32 w g t l) : Row32 w.drew g t l := h
theorem Row32.drewN (h : Row32 w g t l) (n : Nat) : Row32 (w.drewN n) g t l := h
theorem Row32.alloc (h : Row32 w g t l) (o : Obj) : Row32 (w.alloc o) g t l := (Below.heap_alloc w o g h.lt).trans h
theorem Row32.new (w : World) (l : List Nat) (t : TypeId) : Row32 (w.alloc (.cells (l.map cell32).toArray t)) w.heap.size t l := heap_alloc_new w _
theorem Row32.set_ (h : Row32 w g t l) (i : Nat) (x : Int) (y : Nat) (e : x = (y : Int)) : Row32 (w.setCell ⟨g, i, none⟩ (.int .u32 x)) g t (l.set i y) := by
  subst e
  unfold Row32 at h ⊢
  simp [World.setCell, Array.getElem?_modify, h, List.map_set, cell32]
theorem Row32.below {B : Nat} (h : Row32 w g t l) (hb : Below B w w') (hg : g < B) : Row32 w' g t l := (hb.block g hg).trans h
theorem Row32.ext (h : Row32 w g t l) (hb : Ext w w') : Row32 w' g t l := h.below hb h.lt
theorem Row32.other (h : Row32 w g t l) {b : Nat} (hb : g ≠ b) (o : Nat) (u : Value) : Row32 (w.setCell ⟨b, o, none⟩ u) g t l := by
  unfold Row32 at h ⊢
  simp [World.setCell, Array.getElem?_modify, h, Ne.symm hb]
end
theorem cells32_one (l : List Nat) : ((l.map cell32).toArray).all (·.oneCell') = true := by
  rw [Array.all_eq_true_iff_forall_mem]
  intro v hv
  simp only [List.mem_toArray, List.mem_map] at hv
  obtain ⟨n, _, rfl⟩ := hv
  rfl
/-- Filled from the front. -/
theorem set_zero32 (l : List Nat) (n x : Nat) (h : l.length < n) : (l ++ List.replicate (n - l.length) 0).set l.length x = (l ++ [x]) ++ List.replicate (n - (l.length + 1)) 0 := by
  have e2 : n - l.length = (n - (l.length + 1)) + 1 := by omega
  rw [List.set_append_right _ _ (Nat.le_refl _), Nat.sub_self, e2, List.replicate_succ]
  simp
end Go.Proofs.YtcjdnifckngcfaaGreatDoor
end

section
namespace Go.Proofs.YtcjdnifckngcfaaGreatDoor
open Go.RowKit
theorem get4_any (s : ByteArray) (hs : s.size = 64) (t : Nat) (ht : t < 16) (w : World) :
    Calls Tryz.prog 120 #[.string s, .int .i64 (4 * (t : Int))] w fun e w' => e = .returned (.tuple #[.int .u32 ((wat s.data.toList t : Nat) : Int), .bool true]) ∧ w = w' := by
  have h := Get32_any s (4 * (t : Int)) (by omega) w
  have e : (4 * (t : Int)) = ((4 * t : Nat) : Int) := by omega
  rw [e] at h ⊢
  rw [getv_yes (by omega), gets_yes (by omega)] at h
  exact h
theorem ws_fill {w : World} {g : Nat} {t : TypeId} {l : List UInt8} {k : Nat} (hk : k < 64) (h : Row32 w g t (ws l k ++ List.replicate (64 - k) 0)) (x : Int) (hx : x = ((if k < 16 then wat l k else wnext (ws l k) k : Nat) : Int)) :
    Row32 (w.setCell ⟨g, k, none⟩ (.int .u32 x)) g t (ws l (k + 1) ++ List.replicate (64 - (k + 1)) 0) := by
  have := h.set_ k x _ hx
  have e := set_zero32 (ws l k) 64 (if k < 16 then wat l k else wnext (ws l k) k) (by rw [ws_length]; exact hk)
  rw [ws_length] at e
  rw [e] at this
  exact this
theorem ws_cell {w : World} {g : Nat} {t : TypeId} {l : List UInt8} {k i : Nat} (h : Row32 w g t (ws l k ++ List.replicate (64 - k) 0)) (hi : i < k) : w.cell? ⟨g, i, none⟩ = some (.int .u32 ((ws l k).getD i 0 : Nat)) := by
  have := h.cell i (by simp [ws_length]; omega)
  rw [this, List.getD_eq_getElem?_getD, List.getD_eq_getElem?_getD, List.getElem?_append_left (by rw [ws_length]; exact hi)]
theorem ws_zero {w : World} {g : Nat} {t : TypeId} {l : List UInt8} {k : Nat} (h : Row32 w g t (ws l k ++ List.replicate (64 - k) 0)) (hk : k < 64) : w.cell? ⟨g, k, none⟩ = some (.int .u32 0) := by
  have := h.cell k (by simp [ws_length]; omega)
  rw [this, List.getD_eq_getElem?_getD, List.getElem?_append_right (by rw [ws_length]; omega), ws_length, Nat.sub_self, List.getElem?_replicate, if_pos (by omega)]
  rfl

theorem info44 : (Tryz.prog.info? 246).map (·.size) = some 64 := by kernel_rfl
set_option maxRecDepth 100000 in
set_option maxHeartbeats 1000000 in
theorem words_any (s : ByteArray) (hs : s.size = 64) (w : World) :
    Calls Tryz.prog 197 #[.string s] w fun e w' => e = .returned (.agg ((ws s.data.toList 64).map cell32).toArray) ∧ Ext w w' := by
  have CG := fun t ht u => get4_any s hs t ht u
  have HG := Lib.hid CG; clear CG
  have Hs := Lib.hid hs; clear hs
  have hz : ∀ u : World, Row32 (u.alloc (.cells (List.replicate 64 (Value.int .u32 0)).toArray 246)) u.heap.size 246 (List.replicate 64 0) := fun u => by
    have := Row32.new u (List.replicate 64 0) 246
    simpa [cell32] using this
  have HZ := Lib.hid hz; clear hz
  go_enter Tryz.func197, Tryz.ntmps197
  go_wp2
  go_loopw [10] (fun i wr => ∃ t : Nat, t ≤ 16 ∧ i = .int .i64 t ∧ Row32 wr (w.heap.size + 1) 246 (ws s.data.toList t ++ List.replicate (64 - t) 0) ∧ Row32 wr w.heap.size 246 (List.replicate 64 0) ∧ Ext w wr) (fun i _ => 16 - (intOf i).toNat)
  case atStart => exact ⟨0, Nat.zero_le _, rfl, by simpa [ws] using HZ.out (w.alloc _), (HZ.out w).alloc _, ((Ext.refl w).alloc _).alloc _⟩
  case round =>
    obtain ⟨t, ht, rfl, hrow, hres, hext⟩ := hrel
    by_cases hlt : t < 16
    · have hc := ws_zero hrow (by omega)
      have hf := hrow.frozen t
      go_wp2_with (go_at_call 120; refine (HG.out t hlt _).mono ?_; rintro e w1 ⟨rfl, rfl⟩)
      go_roundw
      case rel => exact ⟨t + 1, by omega, by go_num, ws_fill (by omega) hrow _ (by rw [if_pos hlt]), hres.other (by omega) _ _, hext.setCell (by simp) _⟩
      case measure => simp [intOf]; omega
    · obtain rfl : t = 16 := by omega
      clear hlt ht
      have e16 : ((16 : Nat) : Int) = 16 := rfl
      rw [e16]
      clear e16
      go_wp2
      go_loopw [5] (fun i wr => ∃ t : Nat, 16 ≤ t ∧ t ≤ 64 ∧ i = .int .i64 t ∧ Row32 wr (w.heap.size + 1) 246 (ws s.data.toList t ++ List.replicate (64 - t) 0) ∧ Row32 wr w.heap.size 246 (List.replicate 64 0) ∧ Ext w wr) (fun i _ => 64 - (intOf i).toNat)
      case atStart => exact ⟨16, by omega, by omega, rfl, hrow, hres, hext⟩
      case round =>
        clear hrow hres hext
        obtain ⟨t, h16, ht, rfl, hrow, hres, hext⟩ := hrel
        by_cases hlt : t < 64
        · have hc := ws_zero hrow hlt
          have hf := hrow.frozen t
          have c2 := ws_cell hrow (show t - 2 < t by omega)
          have c7 := ws_cell hrow (show t - 7 < t by omega)
          have c15 := ws_cell hrow (show t - 15 < t by omega)
          have c16 := ws_cell hrow (show t - 16 < t by omega)
          have b2 := getD_lt (ws_lt s.data.toList t) (t - 2)
          have b15 := getD_lt (ws_lt s.data.toList t) (t - 15)
          obtain ⟨x2, e2⟩ : ∃ x, x = (ws s.data.toList t).getD (t - 2) 0 := ⟨_, rfl⟩
          obtain ⟨x7, e7⟩ : ∃ x, x = (ws s.data.toList t).getD (t - 7) 0 := ⟨_, rfl⟩
          obtain ⟨x15, e15⟩ : ∃ x, x = (ws s.data.toList t).getD (t - 15) 0 := ⟨_, rfl⟩
          obtain ⟨x16, e16⟩ : ∃ x, x = (ws s.data.toList t).getD (t - 16) 0 := ⟨_, rfl⟩
          rw [← e2] at c2 b2; rw [← e7] at c7; rw [← e15] at c15 b15; rw [← e16] at c16
          have E2 := Lib.hid e2; have E7 := Lib.hid e7; have E15 := Lib.hid e15; have E16 := Lib.hid e16
          clear e2 e7 e15 e16
          have v1 := sg1_int x2 b2
          have v0 := sg0_int x15 b15
          go_wp2
          go_region
          all_goals
            go_wp2_with (go_at_call 198; ((with_reducible refine (turn_any _ (by assumption) _ _).mono ?_); rintro e w1 ⟨rfl, rfl⟩))
          all_goals
            clear v1 v0
            go_region
          all_goals
            go_wp2
            go_roundw
            case rel => exact ⟨t + 1, by omega, by omega, by go_num, ws_fill hlt hrow _ (by rw [if_neg (by omega)]; exact wnext_int _ _ _ _ _ _ E2.out E7.out E15.out E16.out), hres.other (by omega) _ _, (hext.setCell (p := ⟨w.heap.size + 1, t, none⟩) (by simp) _).drew.drew⟩
            case measure => simp [intOf]; omega
        · obtain rfl : t = 64 := by omega
          rw [Nat.sub_self, List.replicate_zero, List.append_nil] at hrow
          have i44 : (Tryz.prog.info? 246).map (·.size) = some (((ws s.data.toList 64).map cell32).toArray).size := by rw [info44]; simp [ws_length]
          have e64 : ((64 : Nat) : Int) = 64 := rfl
          rw [e64]
          clear e64
          go_wp2_with (first
            | (refine wpList_load_row rfl 246 (.tmp 3) rfl (w.heap.size + 1) rfl 246 _ (0, 0) _ hrow Tryz.underlying246 rfl i44 ?_)
            | (refine wpList_store_row rfl 246 (.tmp 2) (.tmp 66) rfl w.heap.size _ rfl rfl 246 _ hres i44 (by simp [ws_length]) (cells32_one _) ?_))
          exact bodyPost_ret (results_cell_row rfl _ _ w.heap.size 246 _ (0, 0) _ rfl (setRow_heap _ _ _ _ _ _ hres) Tryz.underlying246 rfl i44) rfl ⟨rfl, hext.setRow (Nat.le_refl _) _⟩
end Go.Proofs.YtcjdnifckngcfaaGreatDoor
end

section
namespace Go.Proofs.YtcjdnifckngcfaaGreatDoor
open Go.RowKit
theorem info29s : (Tryz.prog.info? 40).map (·.size) = some 1 := by kernel_rfl
theorem index8 (t : TypeId) (ht : Tryz.prog.underlying t = some (.array 8 40)) (cs : Array Value) (hc : cs.size = 8) (i : Nat) (hi : i < 8) (w : World) :
    (Instr.index t (.agg cs) (.int .i64 (i : Int))).run Tryz.prog w = .ok (cs.getD i undef) w := by
  have hu2 := Tryz.underlying40
  cases hq : Tryz.prog.info? 40 with
  | none => have := info29s; simp [hq] at this
  | some d =>
    have hs : d.size = 1 := by have := info29s; simpa [hq] using this
    simp [Instr.index, part, isAgg, run_underlying ht, run_underlying hu2, sizeOf, typeInfo, hq, hs, hc, hi, asIntOf, go_sem]
theorem index8s (t : TypeId) (ht : Tryz.prog.underlying t = some (.array 8 40)) (a b c d e f g h : Nat) :
    (∀ u, (Instr.index t (.agg #[.int .u32 (a : Int), .int .u32 (b : Int), .int .u32 (c : Int), .int .u32 (d : Int), .int .u32 (e : Int), .int .u32 (f : Int), .int .u32 (g : Int), .int .u32 (h : Int)]) (.int .i64 0)).run Tryz.prog u = .ok (.int .u32 (a : Int)) u) ∧
    (∀ u, (Instr.index t (.agg #[.int .u32 (a : Int), .int .u32 (b : Int), .int .u32 (c : Int), .int .u32 (d : Int), .int .u32 (e : Int), .int .u32 (f : Int), .int .u32 (g : Int), .int .u32 (h : Int)]) (.int .i64 1)).run Tryz.prog u = .ok (.int .u32 (b : Int)) u) ∧
    (∀ u, (Instr.index t (.agg #[.int .u32 (a : Int), .int .u32 (b : Int), .int .u32 (c : Int), .int .u32 (d : Int), .int .u32 (e : Int), .int .u32 (f : Int), .int .u32 (g : Int), .int .u32 (h : Int)]) (.int .i64 2)).run Tryz.prog u = .ok (.int .u32 (c : Int)) u) ∧
    (∀ u, (Instr.index t (.agg #[.int .u32 (a : Int), .int .u32 (b : Int), .int .u32 (c : Int), .int .u32 (d : Int), .int .u32 (e : Int), .int .u32 (f : Int), .int .u32 (g : Int), .int .u32 (h : Int)]) (.int .i64 3)).run Tryz.prog u = .ok (.int .u32 (d : Int)) u) ∧
    (∀ u, (Instr.index t (.agg #[.int .u32 (a : Int), .int .u32 (b : Int), .int .u32 (c : Int), .int .u32 (d : Int), .int .u32 (e : Int), .int .u32 (f : Int), .int .u32 (g : Int), .int .u32 (h : Int)]) (.int .i64 4)).run Tryz.prog u = .ok (.int .u32 (e : Int)) u) ∧
    (∀ u, (Instr.index t (.agg #[.int .u32 (a : Int), .int .u32 (b : Int), .int .u32 (c : Int), .int .u32 (d : Int), .int .u32 (e : Int), .int .u32 (f : Int), .int .u32 (g : Int), .int .u32 (h : Int)]) (.int .i64 5)).run Tryz.prog u = .ok (.int .u32 (f : Int)) u) ∧
    (∀ u, (Instr.index t (.agg #[.int .u32 (a : Int), .int .u32 (b : Int), .int .u32 (c : Int), .int .u32 (d : Int), .int .u32 (e : Int), .int .u32 (f : Int), .int .u32 (g : Int), .int .u32 (h : Int)]) (.int .i64 6)).run Tryz.prog u = .ok (.int .u32 (g : Int)) u) ∧
    (∀ u, (Instr.index t (.agg #[.int .u32 (a : Int), .int .u32 (b : Int), .int .u32 (c : Int), .int .u32 (d : Int), .int .u32 (e : Int), .int .u32 (f : Int), .int .u32 (g : Int), .int .u32 (h : Int)]) (.int .i64 7)).run Tryz.prog u = .ok (.int .u32 (h : Int)) u) :=
  ⟨fun u => index8 t ht #[.int .u32 (a : Int), .int .u32 (b : Int), .int .u32 (c : Int), .int .u32 (d : Int), .int .u32 (e : Int), .int .u32 (f : Int), .int .u32 (g : Int), .int .u32 (h : Int)] rfl 0 (by omega) u, fun u => index8 t ht #[.int .u32 (a : Int), .int .u32 (b : Int), .int .u32 (c : Int), .int .u32 (d : Int), .int .u32 (e : Int), .int .u32 (f : Int), .int .u32 (g : Int), .int .u32 (h : Int)] rfl 1 (by omega) u, fun u => index8 t ht #[.int .u32 (a : Int), .int .u32 (b : Int), .int .u32 (c : Int), .int .u32 (d : Int), .int .u32 (e : Int), .int .u32 (f : Int), .int .u32 (g : Int), .int .u32 (h : Int)] rfl 2 (by omega) u, fun u => index8 t ht #[.int .u32 (a : Int), .int .u32 (b : Int), .int .u32 (c : Int), .int .u32 (d : Int), .int .u32 (e : Int), .int .u32 (f : Int), .int .u32 (g : Int), .int .u32 (h : Int)] rfl 3 (by omega) u, fun u => index8 t ht #[.int .u32 (a : Int), .int .u32 (b : Int), .int .u32 (c : Int), .int .u32 (d : Int), .int .u32 (e : Int), .int .u32 (f : Int), .int .u32 (g : Int), .int .u32 (h : Int)] rfl 4 (by omega) u, fun u => index8 t ht #[.int .u32 (a : Int), .int .u32 (b : Int), .int .u32 (c : Int), .int .u32 (d : Int), .int .u32 (e : Int), .int .u32 (f : Int), .int .u32 (g : Int), .int .u32 (h : Int)] rfl 5 (by omega) u, fun u => index8 t ht #[.int .u32 (a : Int), .int .u32 (b : Int), .int .u32 (c : Int), .int .u32 (d : Int), .int .u32 (e : Int), .int .u32 (f : Int), .int .u32 (g : Int), .int .u32 (h : Int)] rfl 6 (by omega) u, fun u => index8 t ht #[.int .u32 (a : Int), .int .u32 (b : Int), .int .u32 (c : Int), .int .u32 (d : Int), .int .u32 (e : Int), .int .u32 (f : Int), .int .u32 (g : Int), .int .u32 (h : Int)] rfl 7 (by omega) u⟩
end Go.Proofs.YtcjdnifckngcfaaGreatDoor
end
