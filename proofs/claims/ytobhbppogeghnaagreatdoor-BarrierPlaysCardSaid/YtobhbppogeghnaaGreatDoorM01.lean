/- Plain: blocks of cells that are known whole. Plain words of a block of numbers of 32 bits in memory. Contracts: bytes read as numbers, by the program. Contracts: bytes read as numbers, by the document's answer. Contracts: the words of a block, by the program. Contracts: an array of eight numbers, read by value. -/
import Derived.Test.YtobhbppogeghnaaGreatDoorM00
import Derived.Deep.MidRow
import Derived.WalkSpells
import Derived.Laws.Rows
import Derived.Laws.Tables
import Derived.Laws.World
import Derived.Test.YtobhbppogeghnaaGreatDoorProg
import Derived.Laws.BitsAllLaws
import Derived.Deep.QuietTactic
import Derived.BigQuiet
import Derived.RegionTactic
section
namespace Go.Proofs.YtobhbppogeghnaaGreatDoor
open Go.RowKit

/-- Block b holds these cells. -/
def Blk (w : World) (b : Nat) (T : TypeId) (cs : List Value) : Prop := w.heap[b]? = some (.cells cs.toArray T (0, 0))
section
variable {w w' : World} {b : Nat} {T : TypeId} {cs : List Value}
theorem Blk.lt (h : Blk w b T cs) : b < w.heap.size := heap_lt h
theorem Blk.cell (h : Blk w b T cs) (i : Nat) (v : Value) (hv : cs[i]? = some v) : w.cell? ⟨b, i, none⟩ = some v := by
  rw [cell_of_row w b i _ T (0, 0) h]; simpa using hv
theorem Blk.frozen (h : Blk w b T cs) (i : Nat) : w.frozen? ⟨b, i, none⟩ = false := by
  unfold Blk at h
  simp [World.frozen?, h]
theorem Blk.set_ (h : Blk w b T cs) (i : Nat) (v : Value) : Blk (w.setCell ⟨b, i, none⟩ v) b T (cs.set i v) := by
  unfold Blk at h ⊢
  simp [World.setCell, Array.getElem?_modify, h]
theorem Blk.other (h : Blk w b T cs) {g : Nat} (hb : b ≠ g) (o : Nat) (u : Value) : Blk (w.setCell ⟨g, o, none⟩ u) b T cs := by
  unfold Blk at h ⊢
  simp [World.setCell, Array.getElem?_modify, h, Ne.symm hb]
theorem Blk.below {B : Nat} (h : Blk w b T cs) (hb : Below B w w') (hg : b < B) : Blk w' b T cs := (hb.block b hg).trans h
theorem Blk.ext (h : Blk w b T cs) (hb : Ext w w') : Blk w' b T cs := h.below hb h.lt
theorem Blk.alloc (h : Blk w b T cs) (o : Obj) : Blk (w.alloc o) b T cs := (Below.heap_alloc w o b h.lt).trans h
theorem Blk.drew (h : Blk w b T cs) : Blk w.drew b T cs := h
theorem Blk.new (w : World) (cs : List Value) (T : TypeId) : Blk (w.alloc (.cells cs.toArray T)) w.heap.size T cs := heap_alloc_new w _
theorem Blk.range (h : Blk w b T cs) (o : Nat) (l : List Value) (hl : ∀ j v, l[j]? = some v → cs[o + j]? = some v) : w.rangeAt b o l := fun j v hv => h.cell _ _ (hl j v hv)
theorem Blk.there (h : Blk w b T cs) (o n : Nat) (hn : o + n ≤ cs.length) : w.there b o n := fun j hj =>
  ⟨by rw [h.cell (o + j) cs[o + j] (List.getElem?_eq_getElem (by omega))]; rfl, h.frozen _⟩
theorem Blk.setCells : ∀ (vs : List Value) (o : Nat) (cs : List Value) {w : World}, Blk w b T cs → o + vs.length ≤ cs.length → Blk (w.setCells b o vs) b T (cs.take o ++ (vs ++ cs.drop (o + vs.length)))
  | [], o, cs, w, h, _ => by simpa [World.setCells] using h
  | v :: r, o, cs, w, h, hl => by
    rw [World.setCells]
    have h2 := Blk.setCells r (o + 1) _ (h.set_ o v) (by simp at hl ⊢; omega)
    have hlt : o < cs.length := by simp at hl; omega
    have e : (cs.set o v).take (o + 1) = cs.take o ++ [v] := by
      rw [List.take_succ_eq_append_getElem (by simpa using hlt), List.take_set_of_le (Nat.le_refl _)]
      simp
    have e2 : (cs.set o v).drop (o + 1 + r.length) = cs.drop (o + (v :: r).length) := by
      rw [List.drop_set_of_lt (by omega)]
      congr 1
      simp; omega
    rw [e, e2] at h2
    simpa using h2
theorem Row.blk {l : List UInt8} (h : Row w b T l) : Blk w b T (l.map cellOf) := h
theorem Blk.row {l : List UInt8} (h : Blk w b T (l.map cellOf)) : Row w b T l := h
theorem Row.other {l : List UInt8} (h : Row w b T l) {g : Nat} (hb : b ≠ g) (o : Nat) (u : Value) : Row (w.setCell ⟨g, o, none⟩ u) b T l := Blk.other h hb o u
end
theorem cells8_one (l : List UInt8) : ((l.map cellOf).toArray).all (·.oneCell') = true := by
  rw [Array.all_eq_true_iff_forall_mem]
  intro v hv
  simp only [List.mem_toArray, List.mem_map] at hv
  obtain ⟨n, _, rfl⟩ := hv
  rfl
theorem below_setCells {B : Nat} {a : World} {g : Nat} (hg : B ≤ g) : ∀ (vs : List Value) (o : Nat) {b : World}, Below B a b → Below B a (b.setCells g o vs)
  | [], _, _, h => h
  | v :: r, o, _, h => below_setCells hg r (o + 1) (h.setCell (p := ⟨g, o, none⟩) hg v)
/-- A whole block written. -/
theorem below_setRow {B : Nat} {a b : World} (h : Below B a b) {g : Nat} (hg : B ≤ g) (cs : Array Value) : Below B a (b.setRow g cs) :=
  h.trans ⟨rfl, rfl, rfl, by simp, fun k hk => setRow_other _ _ _ _ (by omega)⟩
theorem Ext.setRow {a b : World} (h : Ext a b) {g : Nat} (hg : a.heap.size ≤ g) (cs : Array Value) : Ext a (b.setRow g cs) := below_setRow h hg cs
theorem Ext.setCells {a b : World} (h : Ext a b) {g : Nat} (hg : a.heap.size ≤ g) (vs : List Value) (o : Nat) : Ext a (b.setCells g o vs) := below_setCells hg vs o h
theorem Ext.trans3 {a b c : World} (h : Ext a b) (k : Below a.heap.size b c) : Ext a c := Below.trans h k
end Go.Proofs.YtobhbppogeghnaaGreatDoor
end

section
namespace Go.Proofs.YtobhbppogeghnaaGreatDoor
open Go.RowKit

/-- A number in memory. -/
def cell32 (n : Nat) : Value := .int .u32 (n : Int)
/-- Block g holds just these numbers. -/
def Row32 (w : World) (g : Nat) (t : TypeId) (l : List Nat) : Prop := w.heap[g]? = some (.cells (l.map cell32).toArray t (0, 0))
section
variable {w w' : World} {g : Nat} {t : TypeId} {l : List Nat}
theorem Row32.lt (h : Row32 w g t l) : g < w.heap.size := heap_lt h
theorem Row32.cell (h : Row32 w g t l) (i : Nat) (hi : i < l.length) : w.cell? ⟨g, i, none⟩ = some (.int .u32 (l.getD i 0 : Nat)) := by
  rw [cell_of_row w g i _ t (0, 0) h]; simp [List.getElem?_eq_getElem hi, cell32]
theorem Row32.frozen (h : Row32 w g t l) (i : Nat) : w.frozen? ⟨g, i, none⟩ = false := by
  unfold Row32 at h
  simp [World.frozen?, h]
theorem Row32.drew (h : Row32 w g t l) : Row32 w.drew g t l := h
theorem Row32.drewN (h : Row32 w g t l) (n : Nat) : Row32 (w.drewN n) g t l := h
theorem Row32.alloc (h : Row32 w g t l) (o : Obj) : Row32 (w.alloc o) g t l := (Below.heap_alloc w o g h.lt).trans h
theorem Row32.new (w : World) (l : List Nat) (t : TypeId) : Row32 (w.alloc (.cells (l.map cell32).toArray t)) w.heap.size t l := heap_alloc_new w _
theorem Row32.set_ (h : Row32 w g t l) (i : Nat) (x : Int) (y : Nat) (e : x = (y : Int)) : Row32 (w.setCell ⟨g, i, none⟩ (.int .u32 x)) g t (l.set i y) := by
  subst e
  unfold Row32 at h ⊢
  simp [World.setCell, Array.getElem?_modify, h, List.map_set, cell32]
theorem Row32.below {B : Nat} (h : Row32 w g t l) (hb : Below B w w') (hg : g < B) : Row32 w' g t l := (hb.block g hg).trans h
theorem Row32.ext (h : Row32 w g t l) (hb : Ext w w') : Row32 w' g t l := h.below hb h.lt
theorem Row32.other (h : Row32 w g t l) {b : Nat} (hb : g ≠ b) (o : Nat) (u : Value) : Row32 (w.setCell ⟨b, o, none⟩ u) g t l := by
  unfold Row32 at h ⊢
  simp [World.setCell, Array.getElem?_modify, h, Ne.symm hb]
end
theorem cells32_one (l : List Nat) : ((l.map cell32).toArray).all (·.oneCell') = true := by
  rw [Array.all_eq_true_iff_forall_mem]
  intro v hv
  simp only [List.mem_toArray, List.mem_map] at hv
  obtain ⟨n, _, rfl⟩ := hv
  rfl
/-- Filled from the front. -/
theorem set_zero32 (l : List Nat) (n x : Nat) (h : l.length < n) : (l ++ List.replicate (n - l.length) 0).set l.length x = (l ++ [x]) ++ List.replicate (n - (l.length + 1)) 0 := by
  have e2 : n - l.length = (n - (l.length + 1)) + 1 := by omega
  rw [List.set_append_right _ _ (Nat.le_refl _), Nat.sub_self, e2, List.replicate_succ]
  simp
end Go.Proofs.YtobhbppogeghnaaGreatDoor
end

section
namespace Go.Proofs.YtobhbppogeghnaaGreatDoor
open Go.RowKit

/-- k bytes of s from a on. -/
def sub (s : ByteArray) (a k : Nat) : List UInt8 := (s.data.toList.drop a).take k
theorem sub_zero (s : ByteArray) (a : Nat) : sub s a 0 = [] := by simp [sub]
theorem sub_length (s : ByteArray) (a k : Nat) (h : a + k ≤ s.size) : (sub s a k).length = k := by
  have : s.data.toList.length = s.size := by rw [Array.length_toList]; rfl
  simp only [sub, List.length_take, List.length_drop]; omega
theorem sub_snoc (s : ByteArray) (a k : Nat) (h : a + k < s.size) : sub s a (k + 1) = sub s a k ++ [s[a + k]] := by
  have hl : s.data.toList.length = s.size := by rw [Array.length_toList]; rfl
  unfold sub
  rw [List.take_succ_eq_append_getElem (by simp only [List.length_drop]; omega)]
  simp
  rfl
theorem num_sub_snoc (s : ByteArray) (a k : Nat) (h : a + k < s.size) : num (sub s a (k + 1)) = num (sub s a k) * 256 + s[a + k].toNat := by rw [sub_snoc s a k h, num_snoc]
/-- The number that stands in k bytes of s from a on; 0, if they are not all there. -/
def getv (s : ByteArray) (a : Int) (k : Nat) : Nat := if 0 ≤ a ∧ a ≤ (s.size : Int) - k then num (sub s a.toNat k) else 0
def gets (s : ByteArray) (a : Int) (k : Nat) : Bool := if 0 ≤ a ∧ a ≤ (s.size : Int) - k then true else false
theorem getv_yes {s : ByteArray} {b k : Nat} (h : 0 ≤ (b : Int) ∧ (b : Int) ≤ (s.size : Int) - k) : getv s b k = num (sub s b k) := by unfold getv; rw [if_pos h]; rfl
theorem gets_yes {s : ByteArray} {a : Int} {k : Nat} (h : 0 ≤ a ∧ a ≤ (s.size : Int) - k) : gets s a k = true := by unfold gets; rw [if_pos h]
theorem getv_no {s : ByteArray} {a : Int} {k : Nat} (h : ¬ (0 ≤ a ∧ a ≤ (s.size : Int) - k)) : getv s a k = 0 := by unfold getv; rw [if_neg h]
theorem gets_no {s : ByteArray} {a : Int} {k : Nat} (h : ¬ (0 ≤ a ∧ a ≤ (s.size : Int) - k)) : gets s a k = false := by unfold gets; rw [if_neg h]

theorem or_add (m c : Nat) (hc : c < 256) : m * 256 ||| c = m * 256 + c := by
  have := Nat.two_pow_add_eq_or_of_lt (i := 8) (b := c) hc m
  rw [Nat.mul_comm] at this
  exact this.symm
theorem pow_le (j : Nat) (n : Nat) (h : j ≤ n) : 256 ^ j ≤ 256 ^ n := Nat.pow_le_pow_right (by decide) h
theorem u32_nat {x : Nat} (h : x < 2 ^ 32) : IntKind.u32.wrap (x : Int) = (x : Int) := IntWalk.u32_in _ ⟨by omega, by omega⟩
theorem u32_or_step {s : ByteArray} {a j k m : Nat} (hk : k ≤ 4) (hlt : j < k) (hi : a + j < s.size) (hm : m = num (sub s a j)) :
    Value.int .u32 (bits BinOp.or .u32 (IntKind.u32.wrap ((m : Int) * 256)) (IntKind.u32.wrap (s[a + j].toNat : Int))) = Value.int .u32 ((num (sub s a (j + 1)) : Nat) : Int) := by
  have hl := num_lt j (sub s a j) (sub_length s a j (by omega))
  have hp := pow_le j 3 (by omega)
  have hc := s[a + j].toNat_lt
  have e1 : IntKind.u32.wrap ((m : Int) * 256) = ((m * 256 : Nat) : Int) := by have := u32_nat (x := m * 256) (by omega); simpa using this
  have e2 := u32_nat (x := s[a + j].toNat) (by omega)
  rw [e1, e2, u32_or_nat _ _ (by omega) (by omega), or_add _ _ hc, num_sub_snoc _ _ _ hi, hm]
theorem u64_add_step {s : ByteArray} {a j k m : Nat} (hk : k ≤ 8) (hlt : j < k) (hi : a + j < s.size) (hm : m = num (sub s a j)) :
    Value.int .u64 (IntKind.u64.wrap (IntKind.u64.wrap ((m : Int) * 256) + IntKind.u64.wrap (s[a + j].toNat : Int))) = Value.int .u64 ((num (sub s a (j + 1)) : Nat) : Int) := by
  have hl := num_lt j (sub s a j) (sub_length s a j (by omega))
  have hp := pow_le j 7 (by omega)
  have hc := s[a + j].toNat_lt
  have e1 : IntKind.u64.wrap ((m : Int) * 256) = ((m * 256 : Nat) : Int) := by have := u64_nat (x := m * 256) (by omega); simpa using this
  have e2 := u64_nat (x := s[a + j].toNat) (by omega)
  have e3 := u64_nat (x := m * 256 + s[a + j].toNat) (by omega)
  rw [e1, e2, num_sub_snoc _ _ _ hi, ← hm, ← e3]
  rfl

theorem get32_yes (s : ByteArray) (a k : Nat) (hk : k ≤ 4) (h : a + k ≤ s.size) (hs : s.size ≤ 140737488351232) (w : World) :
    Calls Tryz.prog 146 #[.string s, .int .i64 (a : Int), .int .i64 (k : Int)] w fun e w' => e = .returned (.tuple #[.int .u32 (num (sub s a k) : Int), .bool true]) ∧ w = w' := by
  go_enter Tryz.func146, Tryz.ntmps146
  go_wp2
  go_loop [8, 21] (fun n i => ∃ j : Nat, j ≤ k ∧ i = .int .i64 j ∧ n = .int .u32 (num (sub s a j) : Int)) (fun _ i => k - (intOf i).toNat)
  case atStart => exact ⟨0, Nat.zero_le _, rfl, by simp [sub_zero, num]⟩
  case round =>
    obtain ⟨j, hj, rfl, rfl⟩ := hrel
    by_cases hlt : j < k
    · obtain ⟨m, hm⟩ : ∃ m : Nat, m = num (sub s a j) := ⟨_, rfl⟩
      rw [← hm]
      have Hm := Lib.hid hm; clear hm
      have hi : a + j < s.size := by omega
      go_wp2
      go_round
      case rel => exact ⟨j + 1, by omega, by go_num, u32_or_step hk hlt hi Hm.out⟩
      case measure => simp [intOf]; omega
    · obtain rfl : j = k := by omega
      go_wp2
      go_ret2
      exact ⟨rfl, rfl⟩
theorem get32_no (s : ByteArray) (a : Int) (k : Nat) (hk : k ≤ 4) (h : a < 0 ∨ (s.size : Int) - k < a) (hs : s.size ≤ 140737488351232) (w : World) :
    Calls Tryz.prog 146 #[.string s, .int .i64 a, .int .i64 (k : Int)] w fun e w' => e = .returned (.tuple #[.int .u32 0, .bool false]) ∧ w = w' := by
  by_cases h0 : a < 0
  all_goals
    go_enter Tryz.func146, Tryz.ntmps146
    go_wp2
    go_ret2
    exact ⟨rfl, rfl⟩
theorem get32_any (s : ByteArray) (a : Int) (k : Nat) (hk : k ≤ 4) (hs : s.size ≤ 140737488351232) (w : World) :
    Calls Tryz.prog 146 #[.string s, .int .i64 a, .int .i64 (k : Int)] w fun e w' => e = .returned (.tuple #[.int .u32 (getv s a k : Int), .bool (gets s a k)]) ∧ w = w' := by
  by_cases h : 0 ≤ a ∧ a ≤ (s.size : Int) - k
  · obtain ⟨b, rfl⟩ : ∃ b : Nat, a = (b : Int) := ⟨a.toNat, by omega⟩
    rw [getv_yes h, gets_yes h]
    exact get32_yes s b k hk (by omega) hs w
  · rw [getv_no h, gets_no h]
    exact get32_no s a k hk (by omega) hs w

theorem Get32_any (s : ByteArray) (a : Int) (hs : s.size ≤ 140737488351232) (w : World) :
    Calls Tryz.prog 120 #[.string s, .int .i64 a] w fun e w' => e = .returned (.tuple #[.int .u32 (getv s a 4 : Int), .bool (gets s a 4)]) ∧ w = w' := by
  go_enter Tryz.func120, Tryz.ntmps120
  go_wp2_with (go_at_call 146; refine (get32_any s a 4 (by omega) hs _).mono ?_; rintro e w1 ⟨rfl, rfl⟩)
  go_ret2
  exact ⟨rfl, rfl⟩
end Go.Proofs.YtobhbppogeghnaaGreatDoor
end

section
namespace Go.Proofs.YtobhbppogeghnaaGreatDoor
open Go.RowKit

theorem rGet_yes (s : ByteArray) (a k : Nat) (hk : k ≤ 8) (h : a + k ≤ s.size) (hs : s.size ≤ 140737488351232) (w : World) :
    Calls Tryz.prog 98 #[.string s, .int .i64 (a : Int), .int .i64 (k : Int)] w fun e w' => e = .returned (.tuple #[.int .u64 (num (sub s a k) : Int), .bool true]) ∧ w = w' := by
  go_enter Tryz.func98, Tryz.ntmps98
  go_wp2
  go_loop [8, 9] (fun n i => ∃ j : Nat, j ≤ k ∧ i = .int .i64 j ∧ n = .int .u64 (num (sub s a j) : Int)) (fun _ i => k - (intOf i).toNat)
  case atStart => exact ⟨0, Nat.zero_le _, rfl, by simp [sub_zero, num]⟩
  case round =>
    obtain ⟨j, hj, rfl, rfl⟩ := hrel
    by_cases hlt : j < k
    · obtain ⟨m, hm⟩ : ∃ m : Nat, m = num (sub s a j) := ⟨_, rfl⟩
      rw [← hm]
      have Hm := Lib.hid hm; clear hm
      have hi : a + j < s.size := by omega
      go_wp2
      go_round
      case rel => exact ⟨j + 1, by omega, by go_num, u64_add_step hk hlt hi Hm.out⟩
      case measure => simp [intOf]; omega
    · obtain rfl : j = k := by omega
      go_wp2
      go_ret2
      exact ⟨rfl, rfl⟩
theorem rGet_no (s : ByteArray) (a : Int) (k : Nat) (hk : k ≤ 8) (h : a < 0 ∨ (s.size : Int) - k < a) (hs : s.size ≤ 140737488351232) (w : World) :
    Calls Tryz.prog 98 #[.string s, .int .i64 a, .int .i64 (k : Int)] w fun e w' => e = .returned (.tuple #[.int .u64 0, .bool false]) ∧ w = w' := by
  by_cases h0 : a < 0
  all_goals
    go_enter Tryz.func98, Tryz.ntmps98
    go_wp2
    go_ret2
    exact ⟨rfl, rfl⟩
theorem rGet_any (s : ByteArray) (a : Int) (k : Nat) (hk : k ≤ 8) (hs : s.size ≤ 140737488351232) (w : World) :
    Calls Tryz.prog 98 #[.string s, .int .i64 a, .int .i64 (k : Int)] w fun e w' => e = .returned (.tuple #[.int .u64 (getv s a k : Int), .bool (gets s a k)]) ∧ w = w' := by
  by_cases h : 0 ≤ a ∧ a ≤ (s.size : Int) - k
  · obtain ⟨b, rfl⟩ : ∃ b : Nat, a = (b : Int) := ⟨a.toNat, by omega⟩
    rw [getv_yes h, gets_yes h]
    exact rGet_yes s b k hk (by omega) hs w
  · rw [getv_no h, gets_no h]
    exact rGet_no s a k hk (by omega) hs w
end Go.Proofs.YtobhbppogeghnaaGreatDoor
end

section
namespace Go.Proofs.YtobhbppogeghnaaGreatDoor
open Go.RowKit
theorem get4_any (s : ByteArray) (hs : s.size = 64) (t : Nat) (ht : t < 16) (w : World) :
    Calls Tryz.prog 120 #[.string s, .int .i64 (4 * (t : Int))] w fun e w' => e = .returned (.tuple #[.int .u32 ((wat s.data.toList t : Nat) : Int), .bool true]) ∧ w = w' := by
  have h := Get32_any s (4 * (t : Int)) (by omega) w
  have e : (4 * (t : Int)) = ((4 * t : Nat) : Int) := by omega
  rw [e] at h ⊢
  rw [getv_yes (by omega), gets_yes (by omega)] at h
  exact h
theorem ws_fill {w : World} {g : Nat} {t : TypeId} {l : List UInt8} {k : Nat} (hk : k < 64) (h : Row32 w g t (ws l k ++ List.replicate (64 - k) 0)) (x : Int) (hx : x = ((if k < 16 then wat l k else wnext (ws l k) k : Nat) : Int)) :
    Row32 (w.setCell ⟨g, k, none⟩ (.int .u32 x)) g t (ws l (k + 1) ++ List.replicate (64 - (k + 1)) 0) := by
  have := h.set_ k x _ hx
  have e := set_zero32 (ws l k) 64 (if k < 16 then wat l k else wnext (ws l k) k) (by rw [ws_length]; exact hk)
  rw [ws_length] at e
  rw [e] at this
  exact this
theorem ws_cell {w : World} {g : Nat} {t : TypeId} {l : List UInt8} {k i : Nat} (h : Row32 w g t (ws l k ++ List.replicate (64 - k) 0)) (hi : i < k) : w.cell? ⟨g, i, none⟩ = some (.int .u32 ((ws l k).getD i 0 : Nat)) := by
  have := h.cell i (by simp [ws_length]; omega)
  rw [this, List.getD_eq_getElem?_getD, List.getD_eq_getElem?_getD, List.getElem?_append_left (by rw [ws_length]; exact hi)]
theorem ws_zero {w : World} {g : Nat} {t : TypeId} {l : List UInt8} {k : Nat} (h : Row32 w g t (ws l k ++ List.replicate (64 - k) 0)) (hk : k < 64) : w.cell? ⟨g, k, none⟩ = some (.int .u32 0) := by
  have := h.cell k (by simp [ws_length]; omega)
  rw [this, List.getD_eq_getElem?_getD, List.getElem?_append_right (by rw [ws_length]; omega), ws_length, Nat.sub_self, List.getElem?_replicate, if_pos (by omega)]
  rfl

theorem info44 : (Tryz.prog.info? 246).map (·.size) = some 64 := by kernel_rfl
set_option maxRecDepth 100000 in
set_option maxHeartbeats 1000000 in
theorem words_any (s : ByteArray) (hs : s.size = 64) (w : World) :
    Calls Tryz.prog 197 #[.string s] w fun e w' => e = .returned (.agg ((ws s.data.toList 64).map cell32).toArray) ∧ Ext w w' := by
  have CG := fun t ht u => get4_any s hs t ht u
  have HG := Lib.hid CG; clear CG
  have Hs := Lib.hid hs; clear hs
  have hz : ∀ u : World, Row32 (u.alloc (.cells (List.replicate 64 (Value.int .u32 0)).toArray 246)) u.heap.size 246 (List.replicate 64 0) := fun u => by
    have := Row32.new u (List.replicate 64 0) 246
    simpa [cell32] using this
  have HZ := Lib.hid hz; clear hz
  go_enter Tryz.func197, Tryz.ntmps197
  go_wp2
  go_loopw [10] (fun i wr => ∃ t : Nat, t ≤ 16 ∧ i = .int .i64 t ∧ Row32 wr (w.heap.size + 1) 246 (ws s.data.toList t ++ List.replicate (64 - t) 0) ∧ Row32 wr w.heap.size 246 (List.replicate 64 0) ∧ Ext w wr) (fun i _ => 16 - (intOf i).toNat)
  case atStart => exact ⟨0, Nat.zero_le _, rfl, by simpa [ws] using HZ.out (w.alloc _), (HZ.out w).alloc _, ((Ext.refl w).alloc _).alloc _⟩
  case round =>
    obtain ⟨t, ht, rfl, hrow, hres, hext⟩ := hrel
    by_cases hlt : t < 16
    · have hc := ws_zero hrow (by omega)
      have hf := hrow.frozen t
      go_wp2_with (go_at_call 120; refine (HG.out t hlt _).mono ?_; rintro e w1 ⟨rfl, rfl⟩)
      go_roundw
      case rel => exact ⟨t + 1, by omega, by go_num, ws_fill (by omega) hrow _ (by rw [if_pos hlt]), hres.other (by omega) _ _, hext.setCell (by simp) _⟩
      case measure => simp [intOf]; omega
    · obtain rfl : t = 16 := by omega
      clear hlt ht
      have e16 : ((16 : Nat) : Int) = 16 := rfl
      rw [e16]
      clear e16
      go_wp2
      go_loopw [5] (fun i wr => ∃ t : Nat, 16 ≤ t ∧ t ≤ 64 ∧ i = .int .i64 t ∧ Row32 wr (w.heap.size + 1) 246 (ws s.data.toList t ++ List.replicate (64 - t) 0) ∧ Row32 wr w.heap.size 246 (List.replicate 64 0) ∧ Ext w wr) (fun i _ => 64 - (intOf i).toNat)
      case atStart => exact ⟨16, by omega, by omega, rfl, hrow, hres, hext⟩
      case round =>
        clear hrow hres hext
        obtain ⟨t, h16, ht, rfl, hrow, hres, hext⟩ := hrel
        by_cases hlt : t < 64
        · have hc := ws_zero hrow hlt
          have hf := hrow.frozen t
          have c2 := ws_cell hrow (show t - 2 < t by omega)
          have c7 := ws_cell hrow (show t - 7 < t by omega)
          have c15 := ws_cell hrow (show t - 15 < t by omega)
          have c16 := ws_cell hrow (show t - 16 < t by omega)
          have b2 := getD_lt (ws_lt s.data.toList t) (t - 2)
          have b15 := getD_lt (ws_lt s.data.toList t) (t - 15)
          obtain ⟨x2, e2⟩ : ∃ x, x = (ws s.data.toList t).getD (t - 2) 0 := ⟨_, rfl⟩
          obtain ⟨x7, e7⟩ : ∃ x, x = (ws s.data.toList t).getD (t - 7) 0 := ⟨_, rfl⟩
          obtain ⟨x15, e15⟩ : ∃ x, x = (ws s.data.toList t).getD (t - 15) 0 := ⟨_, rfl⟩
          obtain ⟨x16, e16⟩ : ∃ x, x = (ws s.data.toList t).getD (t - 16) 0 := ⟨_, rfl⟩
          rw [← e2] at c2 b2; rw [← e7] at c7; rw [← e15] at c15 b15; rw [← e16] at c16
          have E2 := Lib.hid e2; have E7 := Lib.hid e7; have E15 := Lib.hid e15; have E16 := Lib.hid e16
          clear e2 e7 e15 e16
          have v1 := sg1_int x2 b2
          have v0 := sg0_int x15 b15
          go_wp2
          go_region
          all_goals
            go_wp2_with (go_at_call 198; ((with_reducible refine (turn_any _ (by assumption) _ _).mono ?_); rintro e w1 ⟨rfl, rfl⟩))
          all_goals
            clear v1 v0
            go_region
          all_goals
            go_wp2
            go_roundw
            case rel => exact ⟨t + 1, by omega, by omega, by go_num, ws_fill hlt hrow _ (by rw [if_neg (by omega)]; exact wnext_int _ _ _ _ _ _ E2.out E7.out E15.out E16.out), hres.other (by omega) _ _, (hext.setCell (p := ⟨w.heap.size + 1, t, none⟩) (by simp) _).drew.drew⟩
            case measure => simp [intOf]; omega
        · obtain rfl : t = 64 := by omega
          rw [Nat.sub_self, List.replicate_zero, List.append_nil] at hrow
          have i44 : (Tryz.prog.info? 246).map (·.size) = some (((ws s.data.toList 64).map cell32).toArray).size := by rw [info44]; simp [ws_length]
          have e64 : ((64 : Nat) : Int) = 64 := rfl
          rw [e64]
          clear e64
          go_wp2_with (first
            | (refine wpList_load_row rfl 246 (.tmp 3) rfl (w.heap.size + 1) rfl 246 _ (0, 0) _ hrow Tryz.underlying246 rfl i44 ?_)
            | (refine wpList_store_row rfl 246 (.tmp 2) (.tmp 66) rfl w.heap.size _ rfl rfl 246 _ hres i44 (by simp [ws_length]) (cells32_one _) ?_))
          exact bodyPost_ret (results_cell_row rfl _ _ w.heap.size 246 _ (0, 0) _ rfl (setRow_heap _ _ _ _ _ _ hres) Tryz.underlying246 rfl i44) rfl ⟨rfl, hext.setRow (Nat.le_refl _) _⟩
end Go.Proofs.YtobhbppogeghnaaGreatDoor
end

section
namespace Go.Proofs.YtobhbppogeghnaaGreatDoor
open Go.RowKit
theorem info29s : (Tryz.prog.info? 40).map (·.size) = some 1 := by kernel_rfl
theorem index8 (t : TypeId) (ht : Tryz.prog.underlying t = some (.array 8 40)) (cs : Array Value) (hc : cs.size = 8) (i : Nat) (hi : i < 8) (w : World) :
    (Instr.index t (.agg cs) (.int .i64 (i : Int))).run Tryz.prog w = .ok (cs.getD i undef) w := by
  have hu2 := Tryz.underlying40
  cases hq : Tryz.prog.info? 40 with
  | none => have := info29s; simp [hq] at this
  | some d =>
    have hs : d.size = 1 := by have := info29s; simpa [hq] using this
    simp [Instr.index, part, isAgg, run_underlying ht, run_underlying hu2, sizeOf, typeInfo, hq, hs, hc, hi, asIntOf, go_sem]
theorem index8s (t : TypeId) (ht : Tryz.prog.underlying t = some (.array 8 40)) (a b c d e f g h : Nat) :
    (∀ u, (Instr.index t (.agg #[.int .u32 (a : Int), .int .u32 (b : Int), .int .u32 (c : Int), .int .u32 (d : Int), .int .u32 (e : Int), .int .u32 (f : Int), .int .u32 (g : Int), .int .u32 (h : Int)]) (.int .i64 0)).run Tryz.prog u = .ok (.int .u32 (a : Int)) u) ∧
    (∀ u, (Instr.index t (.agg #[.int .u32 (a : Int), .int .u32 (b : Int), .int .u32 (c : Int), .int .u32 (d : Int), .int .u32 (e : Int), .int .u32 (f : Int), .int .u32 (g : Int), .int .u32 (h : Int)]) (.int .i64 1)).run Tryz.prog u = .ok (.int .u32 (b : Int)) u) ∧
    (∀ u, (Instr.index t (.agg #[.int .u32 (a : Int), .int .u32 (b : Int), .int .u32 (c : Int), .int .u32 (d : Int), .int .u32 (e : Int), .int .u32 (f : Int), .int .u32 (g : Int), .int .u32 (h : Int)]) (.int .i64 2)).run Tryz.prog u = .ok (.int .u32 (c : Int)) u) ∧
    (∀ u, (Instr.index t (.agg #[.int .u32 (a : Int), .int .u32 (b : Int), .int .u32 (c : Int), .int .u32 (d : Int), .int .u32 (e : Int), .int .u32 (f : Int), .int .u32 (g : Int), .int .u32 (h : Int)]) (.int .i64 3)).run Tryz.prog u = .ok (.int .u32 (d : Int)) u) ∧
    (∀ u, (Instr.index t (.agg #[.int .u32 (a : Int), .int .u32 (b : Int), .int .u32 (c : Int), .int .u32 (d : Int), .int .u32 (e : Int), .int .u32 (f : Int), .int .u32 (g : Int), .int .u32 (h : Int)]) (.int .i64 4)).run Tryz.prog u = .ok (.int .u32 (e : Int)) u) ∧
    (∀ u, (Instr.index t (.agg #[.int .u32 (a : Int), .int .u32 (b : Int), .int .u32 (c : Int), .int .u32 (d : Int), .int .u32 (e : Int), .int .u32 (f : Int), .int .u32 (g : Int), .int .u32 (h : Int)]) (.int .i64 5)).run Tryz.prog u = .ok (.int .u32 (f : Int)) u) ∧
    (∀ u, (Instr.index t (.agg #[.int .u32 (a : Int), .int .u32 (b : Int), .int .u32 (c : Int), .int .u32 (d : Int), .int .u32 (e : Int), .int .u32 (f : Int), .int .u32 (g : Int), .int .u32 (h : Int)]) (.int .i64 6)).run Tryz.prog u = .ok (.int .u32 (g : Int)) u) ∧
    (∀ u, (Instr.index t (.agg #[.int .u32 (a : Int), .int .u32 (b : Int), .int .u32 (c : Int), .int .u32 (d : Int), .int .u32 (e : Int), .int .u32 (f : Int), .int .u32 (g : Int), .int .u32 (h : Int)]) (.int .i64 7)).run Tryz.prog u = .ok (.int .u32 (h : Int)) u) :=
  ⟨fun u => index8 t ht #[.int .u32 (a : Int), .int .u32 (b : Int), .int .u32 (c : Int), .int .u32 (d : Int), .int .u32 (e : Int), .int .u32 (f : Int), .int .u32 (g : Int), .int .u32 (h : Int)] rfl 0 (by omega) u, fun u => index8 t ht #[.int .u32 (a : Int), .int .u32 (b : Int), .int .u32 (c : Int), .int .u32 (d : Int), .int .u32 (e : Int), .int .u32 (f : Int), .int .u32 (g : Int), .int .u32 (h : Int)] rfl 1 (by omega) u, fun u => index8 t ht #[.int .u32 (a : Int), .int .u32 (b : Int), .int .u32 (c : Int), .int .u32 (d : Int), .int .u32 (e : Int), .int .u32 (f : Int), .int .u32 (g : Int), .int .u32 (h : Int)] rfl 2 (by omega) u, fun u => index8 t ht #[.int .u32 (a : Int), .int .u32 (b : Int), .int .u32 (c : Int), .int .u32 (d : Int), .int .u32 (e : Int), .int .u32 (f : Int), .int .u32 (g : Int), .int .u32 (h : Int)] rfl 3 (by omega) u, fun u => index8 t ht #[.int .u32 (a : Int), .int .u32 (b : Int), .int .u32 (c : Int), .int .u32 (d : Int), .int .u32 (e : Int), .int .u32 (f : Int), .int .u32 (g : Int), .int .u32 (h : Int)] rfl 4 (by omega) u, fun u => index8 t ht #[.int .u32 (a : Int), .int .u32 (b : Int), .int .u32 (c : Int), .int .u32 (d : Int), .int .u32 (e : Int), .int .u32 (f : Int), .int .u32 (g : Int), .int .u32 (h : Int)] rfl 5 (by omega) u, fun u => index8 t ht #[.int .u32 (a : Int), .int .u32 (b : Int), .int .u32 (c : Int), .int .u32 (d : Int), .int .u32 (e : Int), .int .u32 (f : Int), .int .u32 (g : Int), .int .u32 (h : Int)] rfl 6 (by omega) u, fun u => index8 t ht #[.int .u32 (a : Int), .int .u32 (b : Int), .int .u32 (c : Int), .int .u32 (d : Int), .int .u32 (e : Int), .int .u32 (f : Int), .int .u32 (g : Int), .int .u32 (h : Int)] rfl 7 (by omega) u⟩
end Go.Proofs.YtobhbppogeghnaaGreatDoor
end
