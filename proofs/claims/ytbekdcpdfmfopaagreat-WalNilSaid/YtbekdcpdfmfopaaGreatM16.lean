/- Contracts: the number in front of a text, and one that counts what is behind it, by the program. Plain: a text's bytes copied into a block. Contract: a text's copy. Contracts: a reader: whether it is there, its fault, how many bytes are left. Contracts: a number that a reader takes. Contract: a number that a reader takes, above what may be. -/
import Derived.Test.YtbekdcpdfmfopaaGreatM05
import Derived.Test.YtbekdcpdfmfopaaGreatM15
import Derived.Test.YtbekdcpdfmfopaaGreatM00
import Derived.Test.YtbekdcpdfmfopaaGreatM14
import Derived.Laws.BitsAllLaws
import Derived.IntWalk
import Derived.Outline
import Derived.Test.YtbekdcpdfmfopaaGreatProg
import Derived.Lib.SlBuf
import Derived.Lib.Buffer
import Derived.Lib.Strings
import Derived.Lib.UnsafeStr
import Derived.Lib.Walk
section
namespace Go.Proofs.YtbekdcpdfmfopaaGreat
open Go.RowKit

theorem run_min10 (ts : Array TypeId) (t : TypeId) (a n : Nat) (hn : n = min a 10) (u : World) : (Builtin.min_ ts t #[.int .i64 (a : Int), .int .i64 10]).run Tryz.prog u = .ok (.int .i64 (n : Int)) u := by
  simp [Builtin.min_, Builtin.min2]
  split <;> omega
theorem num_or (n j b : Nat) (hj : j ≤ 9) (hn : n < 128 ^ j) :
    ∃ n' : Nat, bits BinOp.or IntKind.u64 (n : Int) (IntKind.u64.wrap ((b : Int) % 128 * 2 ^ (7 * j))) = (n' : Int) ∧ (b % 128 * 128 ^ j < 18446744073709551616 → n' = n + b % 128 * 128 ^ j) := by
  have e7 : (2 : Nat) ^ (7 * j) = 128 ^ j := by rw [Nat.pow_mul]
  have hp : 128 ^ j ≤ 128 ^ 9 := Nat.pow_le_pow_right (by decide) hj
  have e1 : IntKind.u64.wrap ((b : Int) % 128 * 2 ^ (7 * j)) = ((b % 128 * 128 ^ j % 18446744073709551616 : Nat) : Int) := by
    rw [wrap_u64]
    have : (b : Int) % 128 * 2 ^ (7 * j) = ((b % 128 * 128 ^ j : Nat) : Int) := by
      rw [← e7]; simp
    rw [this]
    omega
  rw [e1, u64_or_nat _ _ (by omega) (by omega)]
  refine ⟨_, rfl, fun hlt => ?_⟩
  rw [Nat.mod_eq_of_lt hlt]
  have := Nat.two_pow_add_eq_or_of_lt (i := 7 * j) (b := n) (by rw [e7]; exact hn) (b % 128)
  rw [e7, Nat.mul_comm] at this
  rw [Nat.or_comm, ← this, Nat.add_comm]
theorem drop_at (l : List UInt8) (j : Nat) (x : UInt8) (h : l[j]? = some x) : l.drop j = x :: l.drop (j + 1) := by
  obtain ⟨hj, rfl⟩ := List.getElem?_eq_some_iff.1 h
  exact List.drop_eq_getElem_cons hj
attribute [local irreducible] numG
set_option maxRecDepth 100000 in
set_option maxHeartbeats 2000000 in
theorem wnumber_any (s : ByteArray) (hs : s.size ≤ 1000000) (w : World) :
    Calls Tryz.prog 117 #[.string s] w fun e w' => e = .returned (.tuple #[.int .u64 ((numR s.data.toList).1 : Int), .int .i64 ((numR s.data.toList).2.1 : Int), .int .i64 ((numR s.data.toList).2.2 : Int)]) ∧ w = w' := by
  obtain ⟨m, hm⟩ : ∃ m, m = min s.size 10 := ⟨_, rfl⟩
  have hmin := fun ts t u => run_min10 ts t s.size m hm u
  have HM := Lib.hid hm
  obtain ⟨v, sz, f, hR⟩ : ∃ v sz f, numR s.data.toList = (v, sz, f) := ⟨_, _, _, rfl⟩
  rw [hR]
  have HR := Lib.hid hR
  clear hm hR
  go_enter Tryz.func117, Tryz.ntmps117
  go_wp2
  go_loop [2, 10] (fun nv i => ∃ (j a n : Nat), j ≤ m ∧ i = .int .i64 (j : Int) ∧ nv = .int .u64 (n : Int) ∧ Hid (numG j a (s.data.toList.drop j) = (v, sz, f)) ∧ Hid (j ≤ 9 → n = a ∧ a < 128 ^ j)) (fun _ i => m - (intOf i).toNat)
  case atStart => exact ⟨0, 0, 0, Nat.zero_le _, rfl, rfl, HR, Lib.hid (fun _ => ⟨rfl, by decide⟩)⟩
  case round =>
    obtain ⟨j, a, n, hj, rfl, rfl, hg, ha⟩ := hrel
    by_cases hlt : j < m
    · have hj9 : j ≤ 9 := by have := HM.out; omega
      have hjl : j < s.data.toList.length := by have := HM.out; rw [size_list]; omega
      obtain ⟨x, hx⟩ : ∃ x, s.data.toList[j]? = some x := ⟨_, List.getElem?_eq_getElem hjl⟩
      have hi : ∀ u, (Instr.index 9 (.string s) (.int .i64 (j : Int))).run Tryz.prog u = .ok (.int .u8 (x.toNat : Int)) u := fun u => index_text s j x hx u
      have hb256 := x.toNat_lt
      obtain ⟨rfl, hal⟩ := ha.out hj9
      have hgx := hg.out
      rw [drop_at _ _ _ hx, numG, if_neg (by omega)] at hgx
      obtain ⟨n', hor, hn'⟩ := num_or n j x.toNat hj9 hal
      have HN := Lib.hid hn'
      clear hn' hx hjl hg ha
      generalize x.toNat = b at *
      by_cases h128 : 128 ≤ b
      · rw [if_pos h128] at hgx
        have HG := Lib.hid hgx
        have HA := Lib.hid hal
        have h128i : (128 : Int) ≤ (b : Int) := by omega
        clear hgx hal
        go_wp2
        go_round
        case rel =>
          refine ⟨j + 1, _, n', hlt, by go_num, rfl, HG, Lib.hid fun h9 => ?_⟩
          have hp : 128 ^ j ≤ 128 ^ 8 := Nat.pow_le_pow_right (by decide) (by omega)
          have h1 : b % 128 * 128 ^ j ≤ 127 * 128 ^ j := Nat.mul_le_mul_right _ (by omega)
          have e := HN.out (by omega)
          refine ⟨e, ?_⟩
          have := HA.out
          rw [pow_step]
          omega
        case measure => simp [intOf]; omega
      · rw [if_neg h128] at hgx
        by_cases hbad : (0 < j ∧ b = 0) ∨ (j = 9 ∧ 1 < b)
        · rw [if_pos hbad] at hgx
          simp only [Prod.mk.injEq] at hgx
          obtain ⟨rfl, rfl, rfl⟩ := hgx
          rcases hbad with ⟨h0, hz⟩ | ⟨h9, h1⟩
          · have hb0 : ((b : Int) == 0) = true := by rw [beq_iff_eq]; omega
            have hb1 : (b : Int) < 128 := by omega
            clear hal hz
            go_wp2
            go_ret3
            exact ⟨rfl, rfl⟩
          · have hb1 : (1 : Int) < (b : Int) := by omega
            have hb0 : ((b : Int) == 0) = false := by rw [beq_eq_false_iff_ne]; omega
            have hj9 : ((j : Int) == 9) = true := by rw [beq_iff_eq]; omega
            have hj0 : 0 < j := by omega
            clear hal h9
            go_wp2
            go_ret3
            exact ⟨rfl, rfl⟩
        · rw [if_neg hbad] at hgx
          simp only [Prod.mk.injEq] at hgx
          have hb : b % 128 * 128 ^ j < 18446744073709551616 := by
            by_cases h9 : j = 9
            · subst h9
              have : b % 128 ≤ 1 := by omega
              have := Nat.mul_le_mul_right (128 ^ 9) this
              omega
            · have hp : 128 ^ j ≤ 128 ^ 8 := Nat.pow_le_pow_right (by decide) (by omega)
              have h1 : b % 128 * 128 ^ j ≤ 127 * 128 ^ j := Nat.mul_le_mul_right _ (by omega)
              omega
          have e := HN.out hb
          rw [Nat.mod_eq_of_lt (by omega : b < 128)] at e
          have HV : Hid (v = n' ∧ sz = j + 1 ∧ f = 0) := Lib.hid ⟨by rw [e]; exact hgx.1.symm, hgx.2.1.symm, hgx.2.2.symm⟩
          have hcase : j = 0 ∨ (0 < j ∧ j = 9 ∧ ¬ b = 0 ∧ b ≤ 1) ∨ (0 < j ∧ ¬ j = 9 ∧ ¬ b = 0) := by omega
          clear hbad hb hal e hgx
          rcases hcase with q0 | ⟨q1, q2, q3, q4⟩ | ⟨q1, q2, q3⟩
          · have hj9b : ((j : Int) == 9) = false := by rw [beq_eq_false_iff_ne]; omega
            have hj0 : ¬ 0 < j := by omega
            clear q0
            go_wp2
            go_ret3
            exact ⟨by obtain ⟨h1, h2, h3⟩ := HV.out; rw [h1, h2, h3]; rfl, rfl⟩
          · have hb1 : (b : Int) ≤ 1 := by omega
            have hb0 : ((b : Int) == 0) = false := by rw [beq_eq_false_iff_ne]; omega
            have hj9b : ((j : Int) == 9) = true := by rw [beq_iff_eq]; omega
            clear q2
            go_wp2
            go_ret3
            exact ⟨by obtain ⟨h1, h2, h3⟩ := HV.out; rw [h1, h2, h3]; rfl, rfl⟩
          · have hj9b : ((j : Int) == 9) = false := by rw [beq_eq_false_iff_ne]; omega
            have hb0 : ((b : Int) == 0) = false := by rw [beq_eq_false_iff_ne]; omega
            go_wp2
            go_ret3
            exact ⟨by obtain ⟨h1, h2, h3⟩ := HV.out; rw [h1, h2, h3]; rfl, rfl⟩
    · obtain rfl : j = m := by omega
      have hgx := hg.out
      have hmm := HM.out
      by_cases h10 : s.size < 10
      · rw [List.drop_eq_nil_of_le (by rw [size_list]; omega), numG, if_pos (by omega)] at hgx
        simp only [Prod.mk.injEq] at hgx
        obtain ⟨rfl, rfl, rfl⟩ := hgx
        clear hmm
        go_wp2
        go_ret3
        exact ⟨rfl, rfl⟩
      · have h10j : j = 10 := by omega
        have hz : v = 0 ∧ sz = 0 ∧ f = 7 := by
          subst h10j
          cases hd : s.data.toList.drop 10 with
          | nil => rw [hd, numG] at hgx; simpa [eq_comm] using hgx
          | cons x r => rw [hd, numG, if_pos rfl] at hgx; simpa [eq_comm] using hgx
        obtain ⟨rfl, rfl, rfl⟩ := hz
        clear hmm hgx h10j
        go_wp2
        go_ret3
        exact ⟨rfl, rfl⟩
end Go.Proofs.YtbekdcpdfmfopaaGreat
end

section
namespace Go.Proofs.YtbekdcpdfmfopaaGreat
open Go.RowKit

theorem infoB : (Tryz.prog.info? 5).map (·.size) = some 1 := by kernel_rfl
theorem run_copy_text (w : World) (ty : TypeId) (g o dLen dCap : Nat) (s : ByteArray) (cs : List Value) (T : TypeId) (hg : Blk w g T cs) (hfit : o + dLen ≤ cs.length) (k : Nat) (hk : k = min s.size dLen) :
    (Builtin.copy_ #[41, 9] ty #[.slice (some ⟨g, o, none⟩) dLen dCap, .string s]).run Tryz.prog w =
      .ok (goInt k) (w.setRow g (cs.take o ++ (s.data.toList.take k).map cellOf ++ cs.drop (o + k)).toArray) := by
  have hmin : Nat.min s.size dLen = k := hk.symm
  have hk1 : k ≤ s.size := by rw [hk]; exact Nat.min_le_left _ _
  have hk2 : k ≤ dLen := by rw [hk]; exact Nat.min_le_right _ _
  have hlen : ((s.data.toList.take k).map cellOf).length = k := by rw [List.length_map, List.length_take, size_list]; omega
  have hst := run_storeCells_at Tryz.prog g o T ((s.data.toList.take k).map cellOf) 0 cs.toArray w hg (by rw [hlen]; simp; omega) (by
    intro v hv
    simp only [List.mem_map] at hv
    obtain ⟨b, _, rfl⟩ := hv
    rfl)
  rw [hlen] at hst
  simp only [Nat.add_zero] at hst
  have htk : List.take k (List.map (fun b : UInt8 => Value.int IntKind.u8 (b.toNat : Int)) s.data.toList) = (s.data.toList.take k).map cellOf := by rw [← List.map_take]; rfl
  have hu := Tryz.underlying41
  cases hq : Tryz.prog.info? 5 with
  | none => have := infoB; simp [hq] at this
  | some i =>
    simp [Builtin.copy_, run_underlying hu, Builtin.lenOf, Builtin.firstCells, sizeOf, typeInfo, hq, hmin]
    rw [htk, hst]
    simp [Result.andThen]
/-- A text of as many bytes over all of a block. -/
theorem copy_all (w : World) (ty : TypeId) (g n : Nat) (s : ByteArray) (l : List UInt8) (T : TypeId) (hg : Row w g T l) (hl : l.length = n) (hs : s.size = n) :
    (Builtin.copy_ #[41, 9] ty #[.slice (some ⟨g, 0, none⟩) n n, .string s]).run Tryz.prog w = .ok (.int .i64 (n : Int)) (w.setRow g (s.data.toList.map cellOf).toArray) := by
  have h := run_copy_text w ty g 0 n n s _ T hg.blk (by simp [hl]) n (by omega)
  have e : s.data.toList.take n = s.data.toList := List.take_of_length_le (by rw [size_list]; omega)
  have e2 : (l.map cellOf).drop (0 + n) = [] := List.drop_of_length_le (by simp [hl])
  rw [h, e, e2, List.take_zero, List.nil_append, List.append_nil]
  rfl
end Go.Proofs.YtbekdcpdfmfopaaGreat
end

section
namespace Go.Proofs.YtbekdcpdfmfopaaGreat
open Go.RowKit
theorem cells_uint8 : Tryz.prog.cellsOf 5 = 1 := by kernel_rfl
theorem clone_any (s : ByteArray) (h0 : 1 ≤ s.size) (h1 : s.size ≤ 1048576) (w : World) :
    Calls Tryz.prog 110 #[.string s] w fun e w' => e = .returned (.string s) ∧ Ext w w' := by
  have hmk := make_bytes s.size (by omega)
  obtain ⟨C, hC⟩ : ∃ C, madeCells #[Value.int .u8 0] s.size = C := ⟨_, rfl⟩
  rw [hC] at hmk
  have hr0 := Row.made w 5 s.size
  rw [hC] at hr0
  have hcp := fun ty => copy_all (w.alloc (.cells C 5)) ty w.heap.size s.size s _ 5 hr0 (by simp) rfl
  obtain ⟨Y, hY⟩ : ∃ Y, Y = (s.data.toList.map cellOf).toArray := ⟨_, rfl⟩
  rw [← hY] at hcp
  have hYs : Y.size = s.size := by rw [hY, List.size_toArray, List.length_map, size_list]
  have hgY : ((w.alloc (.cells C 5)).setRow w.heap.size Y).heap[w.heap.size]? = some (.cells Y 5 (0, 0)) := setRow_heap _ _ _ _ 5 (0, 0) hr0
  have hne : s.data.toList ≠ [] := fun e => by have := size_list s; rw [e] at this; simp at this; omega
  have hUS := Lib.run_unsafeString_row (P := Tryz.prog) ((w.alloc (.cells C 5)).setRow w.heap.size Y) 184 3 9 5 Tryz.underlying184 cells_uint8 w.heap.size Y.size (by unfold World.shape?; rw [hgY]) s.data.toList hne (by rw [size_list]; omega) (by rw [size_list]; omega)
      (fun j x hx => Lib.cells_of_row hgY Y.size j _ (by rw [List.take_of_length_le (by rw [Array.length_toList]; exact Nat.le_refl _), hY]; simp [hx, cellOf]))
  rw [size_list] at hUS
  have hx : Ext w ((w.alloc (.cells C 5)).setRow w.heap.size Y) := ((Ext.refl w).alloc _).setRow (Nat.le_refl _) _
  have hz : (s.size : Int) ≠ 0 := by omega
  have hz2 : ((s.size : Int) == 0) = false := by rw [beq_eq_false_iff_ne]; omega
  clear hY hr0 hgY hne hC
  go_enter Tryz.func110, Tryz.ntmps110
  go_wp2
  go_ret
  exact ⟨rfl, Lib.below_freeze hx (p := ⟨w.heap.size, 0, none⟩) (Nat.le_refl _) _⟩
theorem Clone_any (s : ByteArray) (h0 : 1 ≤ s.size) (h1 : s.size ≤ 1048576) (w : World) :
    Calls Tryz.prog 97 #[.string s] w fun e w' => e = .returned (.string s) ∧ Ext w w' := by
  go_enter Tryz.func97, Tryz.ntmps97
  go_wp2_with (go_at_call 110; refine (clone_any s h0 h1 _).mono ?_; rintro e w1 ⟨rfl, x1⟩)
  go_ret
  exact ⟨rfl, x1⟩
theorem clone_none (w : World) : Calls Tryz.prog 110 #[.string ⟨#[]⟩] w fun e w' => e = .returned (.string ⟨#[]⟩) ∧ w = w' := by
  go_enter Tryz.func110, Tryz.ntmps110
  go_wp2
  go_ret
  exact ⟨rfl, rfl⟩
theorem Clone_none (w : World) : Calls Tryz.prog 97 #[.string ⟨#[]⟩] w fun e w' => e = .returned (.string ⟨#[]⟩) ∧ Ext w w' := by
  go_enter Tryz.func97, Tryz.ntmps97
  go_wp2_with (go_at_call 110; refine (clone_none _).mono ?_; rintro e w1 ⟨rfl, rfl⟩)
  go_ret
  exact ⟨rfl, Ext.refl _⟩
/-- A text's copy, whatever the text is. -/
theorem copied (s : ByteArray) (h1 : s.size ≤ 1048576) (w : World) :
    Calls Tryz.prog 97 #[.string s] w fun e w' => e = .returned (.string s) ∧ Ext w w' := by
  by_cases h0 : 1 ≤ s.size
  · exact Clone_any s h0 h1 w
  · obtain rfl : s = ⟨#[]⟩ := by
      apply ByteArray.ext
      exact Array.eq_empty_of_size_eq_zero (by show s.size = 0; omega)
    exact Clone_none w
end Go.Proofs.YtbekdcpdfmfopaaGreat
end

section
namespace Go.Proofs.YtbekdcpdfmfopaaGreat
open Go.RowKit

theorem slice_rest (X : ByteArray) (c : Nat) (h : c ≤ X.size) (u : World) : (Instr.slice 9 (.string X) (some (.int .i64 (c : Int))) none none).run Tryz.prog u = .ok (.string (X.extract c X.size)) u := by
  have hj : (0 : Int) ≤ (c : Int) ∧ (c : Int) ≤ (X.size : Int) := by omega
  simp [Instr.slice, Instr.sliceBounds, Instr.sliceBound, asIntOf, run_underlying Tryz.underlying9, hj]
  intro hgt
  omega
/-- Block r is a reader that New made: these bytes are left, this is its fault. -/
def IsR (w : World) (r : Nat) (left : ByteArray) (f : Nat) : Prop := Blk w r 178 [.string left, .int .i64 (f : Int), .bool true]
/-! ### What a call leaves of all else -/
/-- All blocks but r are as they were. -/
def Mod (r : Nat) (w w' : World) : Prop := w.grownBy w' (some r)
section
variable {r : Nat} {a b c : World}
theorem Mod.refl (r : Nat) (w : World) : Mod r w w := ⟨rfl, rfl, rfl, Nat.le_refl _, fun _ _ _ => rfl⟩
theorem Mod.trans (h : Mod r a b) (k : Mod r b c) : Mod r a c :=
  ⟨k.os.trans h.os, k.tape.trans h.tape, k.output.trans h.output, Nat.le_trans h.size k.size, fun i hi hr => (k.block i (Nat.lt_of_lt_of_le hi h.size) hr).trans (h.block i hi hr)⟩
theorem Ext.mod (h : Ext a b) (r : Nat) : Mod r a b := ⟨h.os, h.tape, h.output, h.size, fun i hi _ => h.block i hi⟩
theorem Mod.ext (h : Mod r a b) (k : Ext b c) : Mod r a c := h.trans (k.mod r)
theorem Mod.alloc (h : Mod r a b) (o : Obj) : Mod r a (b.alloc o) := h.ext ((Ext.refl b).alloc o)
theorem Mod.drew (h : Mod r a b) : Mod r a b.drew := ⟨h.os, h.tape, h.output, h.size, h.block⟩
theorem Mod.set (h : Mod r a b) (i : Nat) (v : Value) : Mod r a (b.setCell ⟨r, i, none⟩ v) :=
  h.trans ⟨rfl, rfl, rfl, by simp [World.setCell], fun k _ hk => Below.heap_setCell _ _ _ _ (by intro e; exact hk (by rw [e]))⟩
theorem Mod.own (h : Mod r a b) {g : Nat} (hg : a.heap.size ≤ g) (i : Nat) (v : Value) : Mod r a (b.setCell ⟨g, i, none⟩ v) :=
  ⟨h.os, h.tape, h.output, by simpa [World.setCell] using h.size, fun k hk hr => (Below.heap_setCell _ _ _ _ (by simp; omega)).trans (h.block k hk hr)⟩
/-- Where r is younger than w, nothing of w has turned. -/
theorem Ext.moded {w : World} (h : Ext w a) (k : Mod r a b) (hr : w.heap.size ≤ r) : Ext w b :=
  Below.grown h k h.size (fun i hi => by cases hi; exact hr)
theorem Blk.moded {g : Nat} {T : TypeId} {cs : List Value} (h : Blk a g T cs) (k : Mod r a b) (hg : g ≠ r) : Blk b g T cs :=
  (k.block g h.lt (by simpa using hg)).trans h
end
theorem IsR.lt {w : World} {r : Nat} {s : ByteArray} {f : Nat} (h : IsR w r s f) : r < w.heap.size := Blk.lt h
theorem IsR.ext {w w' : World} {r : Nat} {s : ByteArray} {f : Nat} (h : IsR w r s f) (hx : Ext w w') : IsR w' r s f := Blk.ext h hx
theorem IsR.other {w w' : World} {r q : Nat} {s : ByteArray} {f : Nat} (h : IsR w r s f) (hx : Mod q w w') (hq : r ≠ q) : IsR w' r s f := Blk.moded h hx hq
theorem IsR.cells {w : World} {r : Nat} {s : ByteArray} {f : Nat} (h : IsR w r s f) : w.cell? ⟨r, 0, none⟩ = some (.string s) ∧ w.cell? ⟨r, 1, none⟩ = some (.int .i64 (f : Int)) ∧ w.cell? ⟨r, 2, none⟩ = some (.bool true) ∧ w.frozen? ⟨r, 0, none⟩ = false ∧ w.frozen? ⟨r, 1, none⟩ = false ∧ w.frozen? ⟨r, 2, none⟩ = false :=
  ⟨Blk.cell h 0 _ rfl, Blk.cell h 1 _ rfl, Blk.cell h 2 _ rfl, Blk.frozen h 0, Blk.frozen h 1, Blk.frozen h 2⟩
theorem rthere_yes (w : World) (r : Nat) (s : ByteArray) (f : Nat) (h : IsR w r s f) :
    Calls Tryz.prog 118 #[.pointer (some ⟨r, 0, none⟩)] w fun e w' => e = .returned (.bool true) ∧ w = w' := by
  obtain ⟨c0, c1, c2, f0, f1, f2⟩ := h.cells
  clear h
  go_enter Tryz.func118, Tryz.ntmps118
  go_wp2
  go_ret
  exact ⟨rfl, rfl⟩
theorem rthere_nil (w : World) :
    Calls Tryz.prog 118 #[.pointer none] w fun e w' => e = .returned (.bool false) ∧ w = w' := by
  go_enter Tryz.func118, Tryz.ntmps118
  go_wp2
  go_ret
  exact ⟨rfl, rfl⟩
theorem Err_any (w : World) (r : Nat) (s : ByteArray) (f : Nat) (h : IsR w r s f) :
    Calls Tryz.prog 105 #[.pointer (some ⟨r, 0, none⟩)] w fun e w' => e = .returned (.int .i64 (f : Int)) ∧ w = w' := by
  have HT := Lib.hid (rthere_yes w r s f h)
  obtain ⟨c0, c1, c2, f0, f1, f2⟩ := h.cells
  clear h
  go_enter Tryz.func105, Tryz.ntmps105
  go_wp2_with (go_at_call 118; refine (HT.out).mono ?_; rintro e w1 ⟨rfl, rfl⟩)
  go_ret
  exact ⟨rfl, rfl⟩
theorem Err_nil (w : World) :
    Calls Tryz.prog 105 #[.pointer none] w fun e w' => e = .returned (.int .i64 1) ∧ w = w' := by
  go_enter Tryz.func105, Tryz.ntmps105
  go_wp2_with (go_at_call 118; refine (rthere_nil _).mono ?_; rintro e w1 ⟨rfl, rfl⟩)
  go_ret
  exact ⟨rfl, rfl⟩
theorem Left_any (w : World) (r : Nat) (s : ByteArray) (f : Nat) (h : IsR w r s f) :
    Calls Tryz.prog 104 #[.pointer (some ⟨r, 0, none⟩)] w fun e w' => e = .returned (.int .i64 (s.size : Int)) ∧ w = w' := by
  have HT := Lib.hid (rthere_yes w r s f h)
  obtain ⟨c0, c1, c2, f0, f1, f2⟩ := h.cells
  clear h
  go_enter Tryz.func104, Tryz.ntmps104
  go_wp2_with (go_at_call 118; refine (HT.out).mono ?_; rintro e w1 ⟨rfl, rfl⟩)
  go_ret
  exact ⟨rfl, rfl⟩
theorem Left_nil (w : World) :
    Calls Tryz.prog 104 #[.pointer none] w fun e w' => e = .returned (.int .i64 0) ∧ w = w' := by
  go_enter Tryz.func104, Tryz.ntmps104
  go_wp2_with (go_at_call 118; refine (rthere_nil _).mono ?_; rintro e w1 ⟨rfl, rfl⟩)
  go_ret
  exact ⟨rfl, rfl⟩
theorem New_any (s : ByteArray) (w : World) :
    Calls Tryz.prog 102 #[.string s] w fun e w' => e = .returned (.pointer (some ⟨w.heap.size, 0, none⟩)) ∧ IsR w' w.heap.size s 0 ∧ Ext w w' := by
  go_enter Tryz.func102, Tryz.ntmps102
  go_wp2
  go_ret
  exact ⟨rfl, Blk.new w [.string s, .int .i64 0, .bool true] 178, (Ext.refl w).alloc _⟩
end Go.Proofs.YtbekdcpdfmfopaaGreat
end

section
namespace Go.Proofs.YtbekdcpdfmfopaaGreat
open Go.RowKit

theorem makeFunc_runR (fn : Fn) (first cap : Array Value) (w : World) : (Instr.makeFunc fn first cap).run Tryz.prog w = .ok (.func fn first cap) w := rfl
set_option maxRecDepth 100000 in
set_option maxHeartbeats 2000000 in
theorem Uint_ok (w : World) (r : Nat) (s : ByteArray) (h : IsR w r s 0) (hs : s.size ≤ 1000000) (most v sz : Nat) (hn : numR s.data.toList = (v, sz, 0)) (hv : v ≤ most) :
    Calls Tryz.prog 103 #[.pointer (some ⟨r, 0, none⟩), .int .u64 (most : Int)] w fun e w' => e = .returned (.int .u64 (v : Int)) ∧ IsR w' r (s.extract sz s.size) 0 ∧ Mod r w w' := by
  have hN := fun u => wnumber_any s hs u
  have hmf := makeFunc_runR
  obtain ⟨c0, c1, c2, f0, f1, f2⟩ := h.cells
  have hr := h.lt
  obtain ⟨_, hv64, _, hs10, hszl⟩ := numR_from _ _ _ hn
  rw [hn] at hN
  rw [size_list] at hszl
  have HN := Lib.hid hN
  have hsl := slice_rest s sz hszl
  have HB := Lib.hid h
  have hvi : (v : Int) ≤ (most : Int) := by omega
  generalize s.extract sz s.size = S2 at *
  clear hN hn h hv
  go_enter Tryz.func103, Tryz.ntmps103
  go_wp2_with (first | (go_at_call 117; refine (HN.out _).mono ?_; rintro e w2 ⟨rfl, rfl⟩) | go_in)
  go_ret
  exact ⟨rfl, Blk.alloc (Blk.alloc (Blk.set_ HB.out 0 (.string S2)) _) _, (((Mod.refl r w).set 0 _).alloc _).alloc _⟩
set_option maxRecDepth 100000 in
set_option maxHeartbeats 2000000 in
theorem Uint_bad (w : World) (r : Nat) (s : ByteArray) (h : IsR w r s 0) (hs : s.size ≤ 1000000) (most : Int) (f : Nat) (hn : numR s.data.toList = (0, 0, f)) (hf : ¬ f = 0) :
    Calls Tryz.prog 103 #[.pointer (some ⟨r, 0, none⟩), .int .u64 most] w fun e w' => e = .returned (.int .u64 0) ∧ IsR w' r s f ∧ Mod r w w' := by
  have hN := fun u => wnumber_any s hs u
  have hmf := makeFunc_runR
  obtain ⟨c0, c1, c2, f0, f1, f2⟩ := h.cells
  have hr := h.lt
  rw [hn] at hN
  have HN := Lib.hid hN
  have HB := Lib.hid h
  have hfi : ((f : Int) != 0) = true := by rw [bne_iff_ne]; omega
  clear hN hn h hf
  go_enter Tryz.func103, Tryz.ntmps103
  go_wp2_with (first | (go_at_call 117; refine (HN.out _).mono ?_; rintro e w2 ⟨rfl, rfl⟩) | go_in)
  go_ret
  exact ⟨rfl, Blk.alloc (Blk.alloc (Blk.set_ HB.out 1 (.int .i64 (f : Int))) _) _, (((Mod.refl r w).set 1 _).alloc _).alloc _⟩
end Go.Proofs.YtbekdcpdfmfopaaGreat
end

section
namespace Go.Proofs.YtbekdcpdfmfopaaGreat
open Go.RowKit
set_option maxRecDepth 100000 in
set_option maxHeartbeats 2000000 in
theorem Uint_over (w : World) (r : Nat) (s : ByteArray) (h : IsR w r s 0) (hs : s.size ≤ 1000000) (most v sz : Nat) (hn : numR s.data.toList = (v, sz, 0)) (hv : ¬ v ≤ most) :
    Calls Tryz.prog 103 #[.pointer (some ⟨r, 0, none⟩), .int .u64 (most : Int)] w fun e w' => e = .returned (.int .u64 0) ∧ IsR w' r s 80 ∧ Mod r w w' := by
  have hN := fun u => wnumber_any s hs u
  have hmf := makeFunc_runR
  obtain ⟨c0, c1, c2, f0, f1, f2⟩ := h.cells
  have hr := h.lt
  obtain ⟨_, hv64, _, hs10, hszl⟩ := numR_from _ _ _ hn
  rw [hn] at hN
  have HN := Lib.hid hN
  have HB := Lib.hid h
  have hvi : ¬ (v : Int) ≤ (most : Int) := by omega
  have hvi2 : (most : Int) < (v : Int) := by omega
  clear hN hn h hv
  go_enter Tryz.func103, Tryz.ntmps103
  go_wp2_with (first | (go_at_call 117; refine (HN.out _).mono ?_; rintro e w2 ⟨rfl, rfl⟩) | go_in)
  go_ret
  exact ⟨rfl, Blk.alloc (Blk.alloc (Blk.set_ HB.out 1 (.int .i64 80)) _) _, (((Mod.refl r w).set 1 _).alloc _).alloc _⟩
end Go.Proofs.YtbekdcpdfmfopaaGreat
end
