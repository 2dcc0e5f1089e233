/- Plain: blocks of cells that are known whole. Plain words of a block of numbers of 32 bits in memory. Contracts: bytes read as numbers, by the program. Contracts: bytes read as numbers, by the document's answer. -/
import Derived.Test.YtdnpgmoiapkhnaaDoorM01
import Derived.Deep.MidRow
import Derived.WalkSpells
import Derived.Laws.Rows
import Derived.Laws.Tables
import Derived.Laws.World
import Derived.Test.YtdnpgmoiapkhnaaDoorProg
import Derived.Test.YtdnpgmoiapkhnaaDoorM00
import Derived.Laws.BitsAllLaws
section
namespace Go.Proofs.YtdnpgmoiapkhnaaDoor
open Go.RowKit

/-- Block b holds these cells. -/
def Blk (w : World) (b : Nat) (T : TypeId) (cs : List Value) : Prop := w.heap[b]? = some (.cells cs.toArray T (0, 0))
section
variable {w w' : World} {b : Nat} {T : TypeId} {cs : List Value}
theorem Blk.lt (h : Blk w b T cs) : b < w.heap.size := heap_lt h
theorem Blk.cell (h : Blk w b T cs) (i : Nat) (v : Value) (hv : cs[i]? = some v) : w.cell? ⟨b, i, none⟩ = some v := by
  rw [cell_of_row w b i _ T (0, 0) h]; simpa using hv
theorem Blk.frozen (h : Blk w b T cs) (i : Nat) : w.frozen? ⟨b, i, none⟩ = false := by
  unfold Blk at h
  simp [World.frozen?, h]
theorem Blk.set_ (h : Blk w b T cs) (i : Nat) (v : Value) : Blk (w.setCell ⟨b, i, none⟩ v) b T (cs.set i v) := by
  unfold Blk at h ⊢
  simp [World.setCell, Array.getElem?_modify, h]
theorem Blk.other (h : Blk w b T cs) {g : Nat} (hb : b ≠ g) (o : Nat) (u : Value) : Blk (w.setCell ⟨g, o, none⟩ u) b T cs := by
  unfold Blk at h ⊢
  simp [World.setCell, Array.getElem?_modify, h, Ne.symm hb]
theorem Blk.below {B : Nat} (h : Blk w b T cs) (hb : Below B w w') (hg : b < B) : Blk w' b T cs := (hb.block b hg).trans h
theorem Blk.ext (h : Blk w b T cs) (hb : Ext w w') : Blk w' b T cs := h.below hb h.lt
theorem Blk.alloc (h : Blk w b T cs) (o : Obj) : Blk (w.alloc o) b T cs := (Below.heap_alloc w o b h.lt).trans h
theorem Blk.drew (h : Blk w b T cs) : Blk w.drew b T cs := h
theorem Blk.new (w : World) (cs : List Value) (T : TypeId) : Blk (w.alloc (.cells cs.toArray T)) w.heap.size T cs := heap_alloc_new w _
theorem Blk.range (h : Blk w b T cs) (o : Nat) (l : List Value) (hl : ∀ j v, l[j]? = some v → cs[o + j]? = some v) : w.rangeAt b o l := fun j v hv => h.cell _ _ (hl j v hv)
theorem Blk.there (h : Blk w b T cs) (o n : Nat) (hn : o + n ≤ cs.length) : w.there b o n := fun j hj =>
  ⟨by rw [h.cell (o + j) cs[o + j] (List.getElem?_eq_getElem (by omega))]; rfl, h.frozen _⟩
theorem Blk.setCells : ∀ (vs : List Value) (o : Nat) (cs : List Value) {w : World}, Blk w b T cs → o + vs.length ≤ cs.length → Blk (w.setCells b o vs) b T (cs.take o ++ (vs ++ cs.drop (o + vs.length)))
  | [], o, cs, w, h, _ => by simpa [World.setCells] using h
  | v :: r, o, cs, w, h, hl => by
    rw [World.setCells]
    have h2 := Blk.setCells r (o + 1) _ (h.set_ o v) (by simp at hl ⊢; omega)
    have hlt : o < cs.length := by simp at hl; omega
    have e : (cs.set o v).take (o + 1) = cs.take o ++ [v] := by
      rw [List.take_succ_eq_append_getElem (by simpa using hlt), List.take_set_of_le (Nat.le_refl _)]
      simp
    have e2 : (cs.set o v).drop (o + 1 + r.length) = cs.drop (o + (v :: r).length) := by
      rw [List.drop_set_of_lt (by omega)]
      congr 1
      simp; omega
    rw [e, e2] at h2
    simpa using h2
theorem Row.blk {l : List UInt8} (h : Row w b T l) : Blk w b T (l.map cellOf) := h
theorem Blk.row {l : List UInt8} (h : Blk w b T (l.map cellOf)) : Row w b T l := h
theorem Row.other {l : List UInt8} (h : Row w b T l) {g : Nat} (hb : b ≠ g) (o : Nat) (u : Value) : Row (w.setCell ⟨g, o, none⟩ u) b T l := Blk.other h hb o u
/-- Cells of bytes behind others. -/
theorem bytes_at {pre : List Value} {l : List UInt8} {post : List Value} (o i : Nat) (x : UInt8) (ho : pre.length = o) (hx : l[i]? = some x) : (pre ++ (l.map cellOf ++ post))[o + i]? = some (.int .u8 (x.toNat : Int)) := by
  have hi : i < l.length := (List.getElem?_eq_some_iff.1 hx).1
  rw [List.getElem?_append_right (by omega), ho, Nat.add_sub_cancel_left, List.getElem?_append_left (by simpa using hi)]
  simp [hx, cellOf]
end
theorem cells8_one (l : List UInt8) : ((l.map cellOf).toArray).all (·.oneCell') = true := by
  rw [Array.all_eq_true_iff_forall_mem]
  intro v hv
  simp only [List.mem_toArray, List.mem_map] at hv
  obtain ⟨n, _, rfl⟩ := hv
  rfl
theorem below_setCells {B : Nat} {a : World} {g : Nat} (hg : B ≤ g) : ∀ (vs : List Value) (o : Nat) {b : World}, Below B a b → Below B a (b.setCells g o vs)
  | [], _, _, h => h
  | v :: r, o, _, h => below_setCells hg r (o + 1) (h.setCell (p := ⟨g, o, none⟩) hg v)
/-- A whole block written. -/
theorem below_setRow {B : Nat} {a b : World} (h : Below B a b) {g : Nat} (hg : B ≤ g) (cs : Array Value) : Below B a (b.setRow g cs) :=
  h.trans ⟨rfl, rfl, rfl, by simp, fun k hk => setRow_other _ _ _ _ (by omega)⟩
theorem Ext.setRow {a b : World} (h : Ext a b) {g : Nat} (hg : a.heap.size ≤ g) (cs : Array Value) : Ext a (b.setRow g cs) := below_setRow h hg cs
theorem Ext.setCells {a b : World} (h : Ext a b) {g : Nat} (hg : a.heap.size ≤ g) (vs : List Value) (o : Nat) : Ext a (b.setCells g o vs) := below_setCells hg vs o h
theorem Ext.trans3 {a b c : World} (h : Ext a b) (k : Below a.heap.size b c) : Ext a c := Below.trans h k
end Go.Proofs.YtdnpgmoiapkhnaaDoor
end

section
namespace Go.Proofs.YtdnpgmoiapkhnaaDoor
open Go.RowKit

/-- A number in memory. -/
def cell32 (n : Nat) : Value := .int .u32 (n : Int)
/-- Block g holds just these numbers. -/
def Row32 (w : World) (g : Nat) (t : TypeId) (l : List Nat) : Prop := w.heap[g]? = some (.cells (l.map cell32).toArray t (0, 0))
section
variable {w w' : World} {g : Nat} {t : TypeId} {l : List Nat}
theorem Row32.lt (h : Row32 w g t l) : g < w.heap.size := heap_lt h
theorem Row32.cell (h : Row32 w g t l) (i : Nat) (hi : i < l.length) : w.cell? ⟨g, i, none⟩ = some (.int .u32 (l.getD i 0 : Nat)) := by
  rw [cell_of_row w g i _ t (0, 0) h]; simp [List.getElem?_eq_getElem hi, cell32]
theorem Row32.frozen (h : Row32 w g t l) (i : Nat) : w.frozen? ⟨g, i, none⟩ = false := by
  unfold Row32 at h
  simp [World.frozen?, h]
theorem Row32.drew (h : Row32 w g t l) : Row32 w.drew g t l := h
theorem Row32.drewN (h : Row32 w g t l) (n : Nat) : Row32 (w.drewN n) g t l := h
theorem Row32.alloc (h : Row32 w g t l) (o : Obj) : Row32 (w.alloc o) g t l := (Below.heap_alloc w o g h.lt).trans h
theorem Row32.new (w : World) (l : List Nat) (t : TypeId) : Row32 (w.alloc (.cells (l.map cell32).toArray t)) w.heap.size t l := heap_alloc_new w _
theorem Row32.set_ (h : Row32 w g t l) (i : Nat) (x : Int) (y : Nat) (e : x = (y : Int)) : Row32 (w.setCell ⟨g, i, none⟩ (.int .u32 x)) g t (l.set i y) := by
  subst e
  unfold Row32 at h ⊢
  simp [World.setCell, Array.getElem?_modify, h, List.map_set, cell32]
theorem Row32.below {B : Nat} (h : Row32 w g t l) (hb : Below B w w') (hg : g < B) : Row32 w' g t l := (hb.block g hg).trans h
theorem Row32.ext (h : Row32 w g t l) (hb : Ext w w') : Row32 w' g t l := h.below hb h.lt
theorem Row32.other (h : Row32 w g t l) {b : Nat} (hb : g ≠ b) (o : Nat) (u : Value) : Row32 (w.setCell ⟨b, o, none⟩ u) g t l := by
  unfold Row32 at h ⊢
  simp [World.setCell, Array.getElem?_modify, h, Ne.symm hb]
end
theorem cells32_one (l : List Nat) : ((l.map cell32).toArray).all (·.oneCell') = true := by
  rw [Array.all_eq_true_iff_forall_mem]
  intro v hv
  simp only [List.mem_toArray, List.mem_map] at hv
  obtain ⟨n, _, rfl⟩ := hv
  rfl
/-- Filled from the front. -/
theorem set_zero32 (l : List Nat) (n x : Nat) (h : l.length < n) : (l ++ List.replicate (n - l.length) 0).set l.length x = (l ++ [x]) ++ List.replicate (n - (l.length + 1)) 0 := by
  have e2 : n - l.length = (n - (l.length + 1)) + 1 := by omega
  rw [List.set_append_right _ _ (Nat.le_refl _), Nat.sub_self, e2, List.replicate_succ]
  simp
end Go.Proofs.YtdnpgmoiapkhnaaDoor
end

section
namespace Go.Proofs.YtdnpgmoiapkhnaaDoor
open Go.RowKit

/-- k bytes of s from a on. -/
def sub (s : ByteArray) (a k : Nat) : List UInt8 := (s.data.toList.drop a).take k
theorem sub_zero (s : ByteArray) (a : Nat) : sub s a 0 = [] := by simp [sub]
theorem sub_length (s : ByteArray) (a k : Nat) (h : a + k ≤ s.size) : (sub s a k).length = k := by
  have : s.data.toList.length = s.size := by rw [Array.length_toList]; rfl
  simp only [sub, List.length_take, List.length_drop]; omega
theorem sub_snoc (s : ByteArray) (a k : Nat) (h : a + k < s.size) : sub s a (k + 1) = sub s a k ++ [s[a + k]] := by
  have hl : s.data.toList.length = s.size := by rw [Array.length_toList]; rfl
  unfold sub
  rw [List.take_succ_eq_append_getElem (by simp only [List.length_drop]; omega)]
  simp
  rfl
theorem num_sub_snoc (s : ByteArray) (a k : Nat) (h : a + k < s.size) : num (sub s a (k + 1)) = num (sub s a k) * 256 + s[a + k].toNat := by rw [sub_snoc s a k h, num_snoc]
/-- The number that stands in k bytes of s from a on; 0, if they are not all there. -/
def getv (s : ByteArray) (a : Int) (k : Nat) : Nat := if 0 ≤ a ∧ a ≤ (s.size : Int) - k then num (sub s a.toNat k) else 0
def gets (s : ByteArray) (a : Int) (k : Nat) : Bool := if 0 ≤ a ∧ a ≤ (s.size : Int) - k then true else false
theorem getv_yes {s : ByteArray} {b k : Nat} (h : 0 ≤ (b : Int) ∧ (b : Int) ≤ (s.size : Int) - k) : getv s b k = num (sub s b k) := by unfold getv; rw [if_pos h]; rfl
theorem gets_yes {s : ByteArray} {a : Int} {k : Nat} (h : 0 ≤ a ∧ a ≤ (s.size : Int) - k) : gets s a k = true := by unfold gets; rw [if_pos h]
theorem getv_no {s : ByteArray} {a : Int} {k : Nat} (h : ¬ (0 ≤ a ∧ a ≤ (s.size : Int) - k)) : getv s a k = 0 := by unfold getv; rw [if_neg h]
theorem gets_no {s : ByteArray} {a : Int} {k : Nat} (h : ¬ (0 ≤ a ∧ a ≤ (s.size : Int) - k)) : gets s a k = false := by unfold gets; rw [if_neg h]

theorem or_add (m c : Nat) (hc : c < 256) : m * 256 ||| c = m * 256 + c := by
  have := Nat.two_pow_add_eq_or_of_lt (i := 8) (b := c) hc m
  rw [Nat.mul_comm] at this
  exact this.symm
theorem pow_le (j : Nat) (n : Nat) (h : j ≤ n) : 256 ^ j ≤ 256 ^ n := Nat.pow_le_pow_right (by decide) h
theorem u64_or_step {s : ByteArray} {a j k m : Nat} (hk : k ≤ 8) (hlt : j < k) (hi : a + j < s.size) (hm : m = num (sub s a j)) :
    Value.int .u64 (bits BinOp.or .u64 (IntKind.u64.wrap ((m : Int) * 256)) (IntKind.u64.wrap (s[a + j].toNat : Int))) = Value.int .u64 ((num (sub s a (j + 1)) : Nat) : Int) := by
  have hl := num_lt j (sub s a j) (sub_length s a j (by omega))
  have hp := pow_le j 7 (by omega)
  have hc := s[a + j].toNat_lt
  have e1 : IntKind.u64.wrap ((m : Int) * 256) = ((m * 256 : Nat) : Int) := by have := u64_nat (x := m * 256) (by omega); simpa using this
  have e2 := u64_nat (x := s[a + j].toNat) (by omega)
  rw [e1, e2, u64_or_nat _ _ (by omega) (by omega), or_add _ _ hc, num_sub_snoc _ _ _ hi, hm]
theorem u32_nat {x : Nat} (h : x < 2 ^ 32) : IntKind.u32.wrap (x : Int) = (x : Int) := IntWalk.u32_in _ ⟨by omega, by omega⟩
theorem u32_or_step {s : ByteArray} {a j k m : Nat} (hk : k ≤ 4) (hlt : j < k) (hi : a + j < s.size) (hm : m = num (sub s a j)) :
    Value.int .u32 (bits BinOp.or .u32 (IntKind.u32.wrap ((m : Int) * 256)) (IntKind.u32.wrap (s[a + j].toNat : Int))) = Value.int .u32 ((num (sub s a (j + 1)) : Nat) : Int) := by
  have hl := num_lt j (sub s a j) (sub_length s a j (by omega))
  have hp := pow_le j 3 (by omega)
  have hc := s[a + j].toNat_lt
  have e1 : IntKind.u32.wrap ((m : Int) * 256) = ((m * 256 : Nat) : Int) := by have := u32_nat (x := m * 256) (by omega); simpa using this
  have e2 := u32_nat (x := s[a + j].toNat) (by omega)
  rw [e1, e2, u32_or_nat _ _ (by omega) (by omega), or_add _ _ hc, num_sub_snoc _ _ _ hi, hm]
theorem u64_add_step {s : ByteArray} {a j k m : Nat} (hk : k ≤ 8) (hlt : j < k) (hi : a + j < s.size) (hm : m = num (sub s a j)) :
    Value.int .u64 (IntKind.u64.wrap (IntKind.u64.wrap ((m : Int) * 256) + IntKind.u64.wrap (s[a + j].toNat : Int))) = Value.int .u64 ((num (sub s a (j + 1)) : Nat) : Int) := by
  have hl := num_lt j (sub s a j) (sub_length s a j (by omega))
  have hp := pow_le j 7 (by omega)
  have hc := s[a + j].toNat_lt
  have e1 : IntKind.u64.wrap ((m : Int) * 256) = ((m * 256 : Nat) : Int) := by have := u64_nat (x := m * 256) (by omega); simpa using this
  have e2 := u64_nat (x := s[a + j].toNat) (by omega)
  have e3 := u64_nat (x := m * 256 + s[a + j].toNat) (by omega)
  rw [e1, e2, num_sub_snoc _ _ _ hi, ← hm, ← e3]
  rfl

theorem get32_yes (s : ByteArray) (a k : Nat) (hk : k ≤ 4) (h : a + k ≤ s.size) (hs : s.size ≤ 140737488351232) (w : World) :
    Calls Tryd.prog 52 #[.string s, .int .i64 (a : Int), .int .i64 (k : Int)] w fun e w' => e = .returned (.tuple #[.int .u32 (num (sub s a k) : Int), .bool true]) ∧ w = w' := by
  go_enter Tryd.func52, Tryd.ntmps52
  go_wp2
  go_loop [8, 21] (fun n i => ∃ j : Nat, j ≤ k ∧ i = .int .i64 j ∧ n = .int .u32 (num (sub s a j) : Int)) (fun _ i => k - (intOf i).toNat)
  case atStart => exact ⟨0, Nat.zero_le _, rfl, by simp [sub_zero, num]⟩
  case round =>
    obtain ⟨j, hj, rfl, rfl⟩ := hrel
    by_cases hlt : j < k
    · obtain ⟨m, hm⟩ : ∃ m : Nat, m = num (sub s a j) := ⟨_, rfl⟩
      rw [← hm]
      have Hm := Lib.hid hm; clear hm
      have hi : a + j < s.size := by omega
      go_wp2
      go_round
      case rel => exact ⟨j + 1, by omega, by go_num, u32_or_step hk hlt hi Hm.out⟩
      case measure => simp [intOf]; omega
    · obtain rfl : j = k := by omega
      go_wp2
      go_ret2
      exact ⟨rfl, rfl⟩
theorem get32_no (s : ByteArray) (a : Int) (k : Nat) (hk : k ≤ 4) (h : a < 0 ∨ (s.size : Int) - k < a) (hs : s.size ≤ 140737488351232) (w : World) :
    Calls Tryd.prog 52 #[.string s, .int .i64 a, .int .i64 (k : Int)] w fun e w' => e = .returned (.tuple #[.int .u32 0, .bool false]) ∧ w = w' := by
  by_cases h0 : a < 0
  all_goals
    go_enter Tryd.func52, Tryd.ntmps52
    go_wp2
    go_ret2
    exact ⟨rfl, rfl⟩
theorem get32_any (s : ByteArray) (a : Int) (k : Nat) (hk : k ≤ 4) (hs : s.size ≤ 140737488351232) (w : World) :
    Calls Tryd.prog 52 #[.string s, .int .i64 a, .int .i64 (k : Int)] w fun e w' => e = .returned (.tuple #[.int .u32 (getv s a k : Int), .bool (gets s a k)]) ∧ w = w' := by
  by_cases h : 0 ≤ a ∧ a ≤ (s.size : Int) - k
  · obtain ⟨b, rfl⟩ : ∃ b : Nat, a = (b : Int) := ⟨a.toNat, by omega⟩
    rw [getv_yes h, gets_yes h]
    exact get32_yes s b k hk (by omega) hs w
  · rw [getv_no h, gets_no h]
    exact get32_no s a k hk (by omega) hs w

theorem Get32_any (s : ByteArray) (a : Int) (hs : s.size ≤ 140737488351232) (w : World) :
    Calls Tryd.prog 33 #[.string s, .int .i64 a] w fun e w' => e = .returned (.tuple #[.int .u32 (getv s a 4 : Int), .bool (gets s a 4)]) ∧ w = w' := by
  go_enter Tryd.func33, Tryd.ntmps33
  go_wp2_with (go_at_call 52; refine (get32_any s a 4 (by omega) hs _).mono ?_; rintro e w1 ⟨rfl, rfl⟩)
  go_ret2
  exact ⟨rfl, rfl⟩
end Go.Proofs.YtdnpgmoiapkhnaaDoor
end

section
namespace Go.Proofs.YtdnpgmoiapkhnaaDoor
open Go.RowKit

theorem rGet_yes (s : ByteArray) (a k : Nat) (hk : k ≤ 8) (h : a + k ≤ s.size) (hs : s.size ≤ 140737488351232) (w : World) :
    Calls Tryd.prog 35 #[.string s, .int .i64 (a : Int), .int .i64 (k : Int)] w fun e w' => e = .returned (.tuple #[.int .u64 (num (sub s a k) : Int), .bool true]) ∧ w = w' := by
  go_enter Tryd.func35, Tryd.ntmps35
  go_wp2
  go_loop [8, 9] (fun n i => ∃ j : Nat, j ≤ k ∧ i = .int .i64 j ∧ n = .int .u64 (num (sub s a j) : Int)) (fun _ i => k - (intOf i).toNat)
  case atStart => exact ⟨0, Nat.zero_le _, rfl, by simp [sub_zero, num]⟩
  case round =>
    obtain ⟨j, hj, rfl, rfl⟩ := hrel
    by_cases hlt : j < k
    · obtain ⟨m, hm⟩ : ∃ m : Nat, m = num (sub s a j) := ⟨_, rfl⟩
      rw [← hm]
      have Hm := Lib.hid hm; clear hm
      have hi : a + j < s.size := by omega
      go_wp2
      go_round
      case rel => exact ⟨j + 1, by omega, by go_num, u64_add_step hk hlt hi Hm.out⟩
      case measure => simp [intOf]; omega
    · obtain rfl : j = k := by omega
      go_wp2
      go_ret2
      exact ⟨rfl, rfl⟩
theorem rGet_no (s : ByteArray) (a : Int) (k : Nat) (hk : k ≤ 8) (h : a < 0 ∨ (s.size : Int) - k < a) (hs : s.size ≤ 140737488351232) (w : World) :
    Calls Tryd.prog 35 #[.string s, .int .i64 a, .int .i64 (k : Int)] w fun e w' => e = .returned (.tuple #[.int .u64 0, .bool false]) ∧ w = w' := by
  by_cases h0 : a < 0
  all_goals
    go_enter Tryd.func35, Tryd.ntmps35
    go_wp2
    go_ret2
    exact ⟨rfl, rfl⟩
theorem rGet_any (s : ByteArray) (a : Int) (k : Nat) (hk : k ≤ 8) (hs : s.size ≤ 140737488351232) (w : World) :
    Calls Tryd.prog 35 #[.string s, .int .i64 a, .int .i64 (k : Int)] w fun e w' => e = .returned (.tuple #[.int .u64 (getv s a k : Int), .bool (gets s a k)]) ∧ w = w' := by
  by_cases h : 0 ≤ a ∧ a ≤ (s.size : Int) - k
  · obtain ⟨b, rfl⟩ : ∃ b : Nat, a = (b : Int) := ⟨a.toNat, by omega⟩
    rw [getv_yes h, gets_yes h]
    exact rGet_yes s b k hk (by omega) hs w
  · rw [getv_no h, gets_no h]
    exact rGet_no s a k hk (by omega) hs w
end Go.Proofs.YtdnpgmoiapkhnaaDoor
end
