/- Contracts: a reader: whether it is there, its fault, how many bytes are left. -/
import Derived.Test.YthnoegipadnmeaaNumber
import Derived.Test.YthnoegipadnmeaaClone
import Derived.Outline
namespace Go.Proofs.Ythnoegipadnmeaa
open Go.RowKit

theorem slice_rest (X : ByteArray) (c : Nat) (h : c ≤ X.size) (u : World) : (Instr.slice 9 (.string X) (some (.int .i64 (c : Int))) none none).run Try.prog u = .ok (.string (X.extract c X.size)) u := by
  have hj : (0 : Int) ≤ (c : Int) ∧ (c : Int) ≤ (X.size : Int) := by omega
  simp [Instr.slice, Instr.sliceBounds, Instr.sliceBound, asIntOf, run_underlying Try.underlying9, hj]
  intro hgt
  omega
/-- Block r is a reader that New made: these bytes are left, this is its fault. -/
def IsR (w : World) (r : Nat) (left : ByteArray) (f : Nat) : Prop := Blk w r 121 [.string left, .int .i64 (f : Int), .bool true]
/-! ### What a call leaves of all else -/
/-- All blocks but r are as they were. -/
def Mod (r : Nat) (w w' : World) : Prop := w.grownBy w' (some r)
section
variable {r : Nat} {a b c : World}
theorem Mod.refl (r : Nat) (w : World) : Mod r w w := ⟨rfl, rfl, rfl, Nat.le_refl _, fun _ _ _ => rfl⟩
theorem Mod.trans (h : Mod r a b) (k : Mod r b c) : Mod r a c :=
  ⟨k.os.trans h.os, k.tape.trans h.tape, k.output.trans h.output, Nat.le_trans h.size k.size, fun i hi hr => (k.block i (Nat.lt_of_lt_of_le hi h.size) hr).trans (h.block i hi hr)⟩
theorem Ext.mod (h : Ext a b) (r : Nat) : Mod r a b := ⟨h.os, h.tape, h.output, h.size, fun i hi _ => h.block i hi⟩
theorem Mod.ext (h : Mod r a b) (k : Ext b c) : Mod r a c := h.trans (k.mod r)
theorem Mod.alloc (h : Mod r a b) (o : Obj) : Mod r a (b.alloc o) := h.ext ((Ext.refl b).alloc o)
theorem Mod.drew (h : Mod r a b) : Mod r a b.drew := ⟨h.os, h.tape, h.output, h.size, h.block⟩
theorem Mod.set (h : Mod r a b) (i : Nat) (v : Value) : Mod r a (b.setCell ⟨r, i, none⟩ v) :=
  h.trans ⟨rfl, rfl, rfl, by simp [World.setCell], fun k _ hk => Below.heap_setCell _ _ _ _ (by intro e; exact hk (by rw [e]))⟩
theorem Mod.own (h : Mod r a b) {g : Nat} (hg : a.heap.size ≤ g) (i : Nat) (v : Value) : Mod r a (b.setCell ⟨g, i, none⟩ v) :=
  ⟨h.os, h.tape, h.output, by simpa [World.setCell] using h.size, fun k hk hr => (Below.heap_setCell _ _ _ _ (by simp; omega)).trans (h.block k hk hr)⟩
/-- Where r is younger than w, nothing of w has turned. -/
theorem Ext.moded {w : World} (h : Ext w a) (k : Mod r a b) (hr : w.heap.size ≤ r) : Ext w b :=
  Below.grown h k h.size (fun i hi => by cases hi; exact hr)
theorem Blk.moded {g : Nat} {T : TypeId} {cs : List Value} (h : Blk a g T cs) (k : Mod r a b) (hg : g ≠ r) : Blk b g T cs :=
  (k.block g h.lt (by simpa using hg)).trans h
end
theorem IsR.lt {w : World} {r : Nat} {s : ByteArray} {f : Nat} (h : IsR w r s f) : r < w.heap.size := Blk.lt h
theorem IsR.ext {w w' : World} {r : Nat} {s : ByteArray} {f : Nat} (h : IsR w r s f) (hx : Ext w w') : IsR w' r s f := Blk.ext h hx
theorem IsR.other {w w' : World} {r q : Nat} {s : ByteArray} {f : Nat} (h : IsR w r s f) (hx : Mod q w w') (hq : r ≠ q) : IsR w' r s f := Blk.moded h hx hq
theorem IsR.cells {w : World} {r : Nat} {s : ByteArray} {f : Nat} (h : IsR w r s f) : w.cell? ⟨r, 0, none⟩ = some (.string s) ∧ w.cell? ⟨r, 1, none⟩ = some (.int .i64 (f : Int)) ∧ w.cell? ⟨r, 2, none⟩ = some (.bool true) ∧ w.frozen? ⟨r, 0, none⟩ = false ∧ w.frozen? ⟨r, 1, none⟩ = false ∧ w.frozen? ⟨r, 2, none⟩ = false :=
  ⟨Blk.cell h 0 _ rfl, Blk.cell h 1 _ rfl, Blk.cell h 2 _ rfl, Blk.frozen h 0, Blk.frozen h 1, Blk.frozen h 2⟩
theorem there_yes (w : World) (r : Nat) (s : ByteArray) (f : Nat) (h : IsR w r s f) :
    Calls Try.prog 66 #[.pointer (some ⟨r, 0, none⟩)] w fun e w' => e = .returned (.bool true) ∧ w = w' := by
  obtain ⟨c0, c1, c2, f0, f1, f2⟩ := h.cells
  clear h
  go_enter Try.func66, Try.ntmps66
  go_wp2
  go_ret
  exact ⟨rfl, rfl⟩
theorem there_nil (w : World) :
    Calls Try.prog 66 #[.pointer none] w fun e w' => e = .returned (.bool false) ∧ w = w' := by
  go_enter Try.func66, Try.ntmps66
  go_wp2
  go_ret
  exact ⟨rfl, rfl⟩
theorem Err_any (w : World) (r : Nat) (s : ByteArray) (f : Nat) (h : IsR w r s f) :
    Calls Try.prog 53 #[.pointer (some ⟨r, 0, none⟩)] w fun e w' => e = .returned (.int .i64 (f : Int)) ∧ w = w' := by
  have HT := Lib.hid (there_yes w r s f h)
  obtain ⟨c0, c1, c2, f0, f1, f2⟩ := h.cells
  clear h
  go_enter Try.func53, Try.ntmps53
  go_wp2_with (go_at_call 66; refine (HT.out).mono ?_; rintro e w1 ⟨rfl, rfl⟩)
  go_ret
  exact ⟨rfl, rfl⟩
theorem Err_nil (w : World) :
    Calls Try.prog 53 #[.pointer none] w fun e w' => e = .returned (.int .i64 1) ∧ w = w' := by
  go_enter Try.func53, Try.ntmps53
  go_wp2_with (go_at_call 66; refine (there_nil _).mono ?_; rintro e w1 ⟨rfl, rfl⟩)
  go_ret
  exact ⟨rfl, rfl⟩
theorem Left_any (w : World) (r : Nat) (s : ByteArray) (f : Nat) (h : IsR w r s f) :
    Calls Try.prog 52 #[.pointer (some ⟨r, 0, none⟩)] w fun e w' => e = .returned (.int .i64 (s.size : Int)) ∧ w = w' := by
  have HT := Lib.hid (there_yes w r s f h)
  obtain ⟨c0, c1, c2, f0, f1, f2⟩ := h.cells
  clear h
  go_enter Try.func52, Try.ntmps52
  go_wp2_with (go_at_call 66; refine (HT.out).mono ?_; rintro e w1 ⟨rfl, rfl⟩)
  go_ret
  exact ⟨rfl, rfl⟩
theorem Left_nil (w : World) :
    Calls Try.prog 52 #[.pointer none] w fun e w' => e = .returned (.int .i64 0) ∧ w = w' := by
  go_enter Try.func52, Try.ntmps52
  go_wp2_with (go_at_call 66; refine (there_nil _).mono ?_; rintro e w1 ⟨rfl, rfl⟩)
  go_ret
  exact ⟨rfl, rfl⟩
theorem New_any (s : ByteArray) (w : World) :
    Calls Try.prog 50 #[.string s] w fun e w' => e = .returned (.pointer (some ⟨w.heap.size, 0, none⟩)) ∧ IsR w' w.heap.size s 0 ∧ Ext w w' := by
  go_enter Try.func50, Try.ntmps50
  go_wp2
  go_ret
  exact ⟨rfl, Blk.new w [.string s, .int .i64 0, .bool true] 121, (Ext.refl w).alloc _⟩
end Go.Proofs.Ythnoegipadnmeaa
