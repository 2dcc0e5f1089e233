/- The walk of layer 8's statement WireFault. -/
import Derived.Test.YtcmmcaoidmldkaaWireAlive
import Derived.Test.YtcmmcaoidmldkaaTakes2
import Derived.Test.YtcmmcaoidmldkaaReadsP
import Derived.Deep.Slices
import Derived.Outline
namespace Go.Proofs.Ytcmmcaoidmldkaa
open Go.RowKit
attribute [local irreducible] wnF numG

/-- A cell of a call, as the walk spells its place. -/
theorem six_at {w : World} {a : Addr} {j k : Nat} {v : Option Value} (h : w.cell? (a.add (j * 6 + (k + 1))) = v) : w.cell? ⟨(a.add (j * 6)).block, (a.add (j * 6)).off + (k + 1), none⟩ = v := by
  rw [← Deep.add_add] at h
  exact h
/-- The cells of the round's own call. -/
theorem Blk.six {w : World} {g : Nat} {T : TypeId} {d u lo hi n m : Int} (h : Blk w g T (readCells d u lo hi n m)) :
    w.cell? ⟨g, 1, none⟩ = some (.int .u64 u) ∧ w.cell? ⟨g, 2, none⟩ = some (.int .i64 lo) ∧ w.cell? ⟨g, 3, none⟩ = some (.int .i64 hi) ∧ w.cell? ⟨g, 4, none⟩ = some (.int .i64 n) ∧ w.cell? ⟨g, 5, none⟩ = some (.int .i64 m) :=
  ⟨h.cell 1 _ rfl, h.cell 2 _ rfl, h.cell 3 _ rfl, h.cell 4 _ rfl, h.cell 5 _ rfl⟩
set_option maxRecDepth 100000 in
set_option maxHeartbeats 4000000 in
theorem WireFault_walk (s : ByteArray) (s1 : Option Addr) (n1 c1 : Nat) (W : World) (z0 : s.size ≤ 140737488351232) (f1 : ReadsP W s1 n1) (z1 : n1 ≤ 140737488355328) :
    Calls Try.prog 6 #[.string s, .slice s1 n1 c1] W fun e W' => e = .returned (.bool true) ∧ Ext W W' := by
  by_cases h1 : 4096 < s.size
  · have h1i : (4096 : Int) < (s.size : Int) := by omega
    clear f1
    go_enter Try.func6, Try.ntmps6
    go_wp2_with (go_at_call 8; refine (wire_alive _).mono ?_; rintro e w1 ⟨rfl, x1⟩)
    go_ret
    exact ⟨rfl, x1⟩
  · have h1i : ¬ (4096 : Int) < (s.size : Int) := by omega
    by_cases h2 : 100 < n1
    · have h2i : (100 : Int) < (n1 : Int) := by omega
      clear f1
      go_enter Try.func6, Try.ntmps6
      go_wp2_with (go_at_call 8; refine (wire_alive _).mono ?_; rintro e w1 ⟨rfl, x1⟩)
      go_ret
      exact ⟨rfl, x1⟩
    · have h2i : ¬ (100 : Int) < (n1 : Int) := by omega
      obtain ⟨f, hf, hn⟩ : ∃ f, ¬ f = 0 ∧ lenR s.data.toList (-1) = (0, 0, f) := by
        rcases lenR_neg s.data.toList (-1) (by decide) with h | h | h
        · exact ⟨5, by decide, h⟩
        · exact ⟨6, by decide, h⟩
        · exact ⟨7, by decide, h⟩
      have hfi : ((f : Int) == 0) = false := by rw [beq_eq_false_iff_ne]; omega
      have HF := Lib.hid f1
      have HT := Lib.hid (fun u r (hu : IsR u r s 0) => Text_bad u r s hu (by omega) (-1) f (by decide) (by decide) hn hf)
      have HNF := Lib.hid hf
      clear f1 hn hf h1 h2 z0 z1
      go_enter Try.func6, Try.ntmps6
      go_wp2_with (first
        | (go_at_call 17; refine (New_any s W).mono ?_; rintro e w1 ⟨rfl, hr1, x1⟩; obtain ⟨r, hr⟩ : ∃ r, r = W.heap.size := ⟨_, rfl⟩; rw [← hr] at hr1 ⊢; have HR1 := Lib.hid hr1; have HWr := Lib.hid (show W.heap.size ≤ r by omega); have X1 := Lib.hid x1; clear hr hr1 x1)
        | (go_at_call 23; refine (HT.out _ _ HR1.out).mono ?_; rintro e w2 ⟨rfl, hr2, x2⟩; have HR2 := Lib.hid hr2; have X2 := Lib.hid (X1.out.moded x2 HWr.out); clear hr2 x2)
        | (go_at_call 24; refine (Err_any _ r s f HR2.out).mono ?_; rintro e w3 ⟨rfl, rfl⟩)
        | (go_at_call 25; refine (Left_any _ r s f HR2.out).mono ?_; rintro e w3 ⟨rfl, rfl⟩))
      go_loopw [9] (fun i wr => ∃ j : Nat, j ≤ n1 ∧ i = .int .i64 (j : Int) ∧ Hid (Ext w2 wr)) (fun i _ => n1 - (intOf i).toNat)
      case atStart => exact ⟨0, Nat.zero_le _, rfl, Lib.hid (Ext.refl _)⟩
      case round =>
        obtain ⟨j, hj, rfl, hx⟩ := hrel
        by_cases hlt : j < n1
        · obtain ⟨a, d, u, lo, hi, n, m, rfl, _, hcl⟩ := HF.out.ext (X2.out.trans hx.out) j hlt
          have k0 := hcl 0 _ rfl
          have k1 := six_at (hcl 1 _ rfl)
          have k2 := six_at (hcl 2 _ rfl)
          have k3 := six_at (hcl 3 _ rfl)
          have k4 := six_at (hcl 4 _ rfl)
          have k5 := six_at (hcl 5 _ rfl)
          rw [Nat.add_zero] at k0
          have XA := Lib.hid (show Ext w2 (wr.alloc (.cells #[.int .u8 d, .int .u64 u, .int .i64 lo, .int .i64 hi, .int .i64 n, .int .i64 m] 52)) from hx.out.alloc _)
          have XC := Lib.hid (Ext.refl (wr.alloc (.cells #[.int .u8 d, .int .u64 u, .int .i64 lo, .int .i64 hi, .int .i64 n, .int .i64 m] 52)))
          have HR := Lib.hid (fun v (hv : Ext (wr.alloc (.cells #[.int .u8 d, .int .u64 u, .int .i64 lo, .int .i64 hi, .int .i64 n, .int .i64 m] 52)) v) => HR2.out.ext (XA.out.trans hv))
          have HG := Lib.hid (fun v (hv : Ext (wr.alloc (.cells #[.int .u8 d, .int .u64 u, .int .i64 lo, .int .i64 hi, .int .i64 n, .int .i64 m] 52)) v) => Blk.ext (Blk.new wr (readCells d u lo hi n m) 52) hv)
          obtain ⟨g1, g2, g3, g4, g5⟩ := (HG.out _ XC.out).six
          clear hcl HT
          go_wp2_with (first
            | (go_at_call 18; (with_reducible refine (Uint_still _ r s f (HR.out _ XC.out) HNF.out _).mono ?_); rintro e w3 ⟨rfl, x⟩; replace XC := Lib.hid (XC.out.trans x); clear x g1 g2 g3 g4 g5; obtain ⟨g1, g2, g3, g4, g5⟩ := (HG.out _ XC.out).six)
            | (go_at_call 21; (with_reducible refine (Int_still _ r s f (HR.out _ XC.out) HNF.out _ _).mono ?_); rintro e w3 ⟨rfl, x⟩; replace XC := Lib.hid (XC.out.trans x); clear x g1 g2 g3 g4 g5; obtain ⟨g1, g2, g3, g4, g5⟩ := (HG.out _ XC.out).six)
            | (go_at_call 22; (with_reducible refine (Bool_still _ r s f (HR.out _ XC.out) HNF.out).mono ?_); rintro e w3 ⟨rfl, x⟩; replace XC := Lib.hid (XC.out.trans x); clear x g1 g2 g3 g4 g5; obtain ⟨g1, g2, g3, g4, g5⟩ := (HG.out _ XC.out).six)
            | (go_at_call 23; (with_reducible refine (Text_still _ r s f (HR.out _ XC.out) HNF.out _).mono ?_); rintro e w3 ⟨rfl, x⟩; replace XC := Lib.hid (XC.out.trans x); clear x g1 g2 g3 g4 g5; obtain ⟨g1, g2, g3, g4, g5⟩ := (HG.out _ XC.out).six)
            | (go_at_call 28; (with_reducible refine (Count_still _ r s f (HR.out _ XC.out) HNF.out _).mono ?_); rintro e w3 ⟨rfl, x⟩; replace XC := Lib.hid (XC.out.trans x); clear x g1 g2 g3 g4 g5; obtain ⟨g1, g2, g3, g4, g5⟩ := (HG.out _ XC.out).six)
            | (go_at_call 20; (with_reducible refine (List_still _ r s f (HR.out _ XC.out) HNF.out _ _).mono ?_); rintro e w3 ⟨rfl, x⟩; replace XC := Lib.hid (XC.out.trans x); clear x g1 g2 g3 g4 g5; obtain ⟨g1, g2, g3, g4, g5⟩ := (HG.out _ XC.out).six)
            | (go_at_call 26; (with_reducible refine (End_still _ r s f (HR.out _ XC.out) HNF.out).mono ?_); rintro e w3 ⟨rfl, rfl⟩)
            | (go_at_call 24; (with_reducible refine (Err_any _ r s f (HR.out _ XC.out)).mono ?_); rintro e w3 ⟨rfl, rfl⟩)
            | (go_at_call 25; (with_reducible refine (Left_any _ r s f (HR.out _ XC.out)).mono ?_); rintro e w3 ⟨rfl, rfl⟩)
            | (go_at_call 18; (with_reducible refine (Uint_nil _ _).mono ?_); rintro e w3 ⟨rfl, x⟩; replace XC := Lib.hid (XC.out.trans x); clear x g1 g2 g3 g4 g5; obtain ⟨g1, g2, g3, g4, g5⟩ := (HG.out _ XC.out).six)
            | (go_at_call 21; (with_reducible refine (Int_nil _ _ _).mono ?_); rintro e w3 ⟨rfl, x⟩; replace XC := Lib.hid (XC.out.trans x); clear x g1 g2 g3 g4 g5; obtain ⟨g1, g2, g3, g4, g5⟩ := (HG.out _ XC.out).six)
            | (go_at_call 22; (with_reducible refine (Bool_nil _).mono ?_); rintro e w3 ⟨rfl, x⟩; replace XC := Lib.hid (XC.out.trans x); clear x g1 g2 g3 g4 g5; obtain ⟨g1, g2, g3, g4, g5⟩ := (HG.out _ XC.out).six)
            | (go_at_call 23; (with_reducible refine (Text_nil _ _).mono ?_); rintro e w3 ⟨rfl, x⟩; replace XC := Lib.hid (XC.out.trans x); clear x g1 g2 g3 g4 g5; obtain ⟨g1, g2, g3, g4, g5⟩ := (HG.out _ XC.out).six)
            | (go_at_call 28; (with_reducible refine (Count_nil _ _).mono ?_); rintro e w3 ⟨rfl, x⟩; replace XC := Lib.hid (XC.out.trans x); clear x g1 g2 g3 g4 g5; obtain ⟨g1, g2, g3, g4, g5⟩ := (HG.out _ XC.out).six)
            | (go_at_call 20; (with_reducible refine (List_nil _ _ _).mono ?_); rintro e w3 ⟨rfl, x⟩; replace XC := Lib.hid (XC.out.trans x); clear x g1 g2 g3 g4 g5; obtain ⟨g1, g2, g3, g4, g5⟩ := (HG.out _ XC.out).six)
            | (go_at_call 26; (with_reducible refine (End_nil _).mono ?_); rintro e w3 ⟨rfl, rfl⟩)
            | (go_at_call 24; (with_reducible refine (Err_nil _).mono ?_); rintro e w3 ⟨rfl, rfl⟩)
            | (go_at_call 25; (with_reducible refine (Left_nil _).mono ?_); rintro e w3 ⟨rfl, rfl⟩))
          go_roundw
          case rel => exact ⟨j + 1, hlt, by go_num, Lib.hid (XA.out.trans XC.out)⟩
          case measure => simp [intOf]; omega
        · obtain rfl : j = n1 := by omega
          clear HT
          go_wp2_with (go_at_call 8; refine (wire_alive _).mono ?_; rintro e w3 ⟨rfl, x3⟩)
          go_ret
          exact ⟨rfl, (X2.out.trans hx.out).trans x3⟩
end Go.Proofs.Ytcmmcaoidmldkaa
