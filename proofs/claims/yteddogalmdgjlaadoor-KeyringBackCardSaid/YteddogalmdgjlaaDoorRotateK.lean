/- Contracts: keys by epochs: a new ring, the next epoch's key, an epoch's key forgotten: by the program. -/
import Derived.Test.YteddogalmdgjlaaDoorRingK
import Derived.RegionTactic
import Derived.Deep.RegionWith
namespace Go.Proofs.YteddogalmdgjlaaDoor
open Go.RowKit

theorem strclone_any (s : ByteArray) (hs : s.size ≤ 281474976710656) (w : World) :
    Calls Tryd.prog 41 #[.string s] w fun e w' => e = .returned (.string s) ∧ Ext w w' := by
  go_enter Tryd.func41, Tryd.ntmps41
  go_wp2_with (go_at_call 49; refine (Tryd.stringslite_Clone s w hs).mono ?_; rintro e w1 ⟨rfl, x1⟩)
  go_ret
  exact ⟨rfl, x1⟩
theorem rootKey_info : (Tryd.prog.info? 64).map (·.size) = some (#[Value.string ⟨#[]⟩] : Array Value).size := by kernel_rfl
theorem rootKeyOf_any (s : ByteArray) (hs : s.size = 32) (w : World) :
    Calls Tryd.prog 28 #[.string s] w fun e w' => e = .returned (.agg #[.string s]) ∧ Ext w w' := by
  have HC := Lib.hid (fun u => strclone_any s (by omega) u)
  obtain ⟨W0, hW0⟩ : ∃ W0, w.alloc (.cells #[.string ⟨#[]⟩] 64) = W0 := ⟨_, rfl⟩
  have hx0 : Ext w W0 := by rw [← hW0]; exact (Ext.refl w).alloc _
  have hB0 : Blk W0 w.heap.size 64 [.string ⟨#[]⟩] := by rw [← hW0]; exact Blk.new w _ _
  have HX := Lib.hid hx0; have HB := Lib.hid hB0
  clear hx0 hB0
  go_enter Tryd.func28, Tryd.ntmps28
  go_wp2_with (go_at_call 41; refine (HC.out _).mono ?_; rintro e w1 ⟨rfl, x1⟩; have hb1 := HB.out.ext x1; have c1 := hb1.cell 0 _ rfl; have f1 := hb1.frozen 0)
  exact bodyPost_ret (results_cell_row rfl _ _ w.heap.size 64 #[.string s] (0, 0) _ rfl (hb1.set_ 0 _) Tryd.underlying64 rfl rootKey_info) rfl ⟨rfl, (HX.out.trans x1).setCell (p := ⟨w.heap.size, 0, none⟩) (Nat.le_refl _) _⟩
/-! ### Rotate -/
theorem rotate_nil (w : World) (s : ByteArray) :
    Calls Tryd.prog 17 #[.pointer none, .string s] w fun e w' => e = .returned (.tuple #[.int .u32 0, .int .i64 1]) ∧ w = w' := by
  go_enter Tryd.func17, Tryd.ntmps17
  go_wp2_with (first
    | (go_at_call 20; refine (newest_nil _).mono ?_; rintro e w1 ⟨rfl, rfl⟩)
    | (go_at_call 30; refine (thereK_no _).mono ?_; rintro e w1 ⟨rfl, rfl⟩))
  go_ret2
  exact ⟨rfl, rfl⟩
theorem rotate_arg (w : World) (r b : Nat) (L : List (Nat × ByteArray)) (h : IsK w r b L) (s : ByteArray) (hs : s.size ≠ 32) :
    Calls Tryd.prog 17 #[.pointer (some ⟨r, 0, none⟩), .string s] w fun e w' => e = .returned (.tuple #[.int .u32 0, .int .i64 2]) ∧ Ext w w' := by
  have HK := Lib.hid h
  have hs2 : (s.size : Int) ≠ 32 := by omega
  have hs3 : ((s.size : Int) == 32) = false := by simpa using hs2
  clear h
  go_enter Tryd.func17, Tryd.ntmps17
  go_wp2_with (first
    | (go_at_call 20; refine (newest_any _ r b L HK.out).mono ?_; rintro e w1 ⟨rfl, x1⟩)
    | (go_at_call 30; refine (thereK_yes _ r b (HK.out.ext x1).cell).mono ?_; rintro e w2 ⟨rfl, rfl⟩))
  go_ret2
  exact ⟨rfl, x1⟩
theorem rotate_full (w : World) (r b : Nat) (L : List (Nat × ByteArray)) (h : IsK w r b L) (s : ByteArray) (hs : s.size = 32) (hf : 64 ≤ L.length ∨ top (eps L) = 4294967295) :
    Calls Tryd.prog 17 #[.pointer (some ⟨r, 0, none⟩), .string s] w fun e w' => e = .returned (.tuple #[.int .u32 0, .int .i64 4]) ∧ Ext w w' := by
  have HK := Lib.hid h
  have hs2 : (s.size : Int) = 32 := by omega
  have HF := Lib.hid hf
  clear h hf
  go_enter Tryd.func17, Tryd.ntmps17
  by_cases hl : 64 ≤ L.length
  · have hl2 : (64 : Int) ≤ (L.length : Int) := by omega
    go_wp2_with (first
      | (go_at_call 20; refine (newest_any _ r b L HK.out).mono ?_; rintro e w1 ⟨rfl, x1⟩; have c1 := (HK.out.ext x1).cell; have hlen := fun ty => (HK.out.ext x1).map.len ty)
      | (go_at_call 30; refine (thereK_yes _ r b c1).mono ?_; rintro e w2 ⟨rfl, rfl⟩))
    go_ret2
    exact ⟨rfl, x1⟩
  · have ht : top (eps L) = 4294967295 := HF.out.resolve_left hl
    have hl2 : ¬ (64 : Int) ≤ (L.length : Int) := by omega
    have HN : Hid (∀ u, IsK u r b L → Calls Tryd.prog 20 #[.pointer (some ⟨r, 0, none⟩)] u fun e w' => e = .returned (.int .u32 4294967295) ∧ Ext u w') := Lib.hid (fun u hu => by
      have := newest_any u r b L hu
      rw [ht] at this
      exact this)
    go_wp2_with (first
      | (go_at_call 20; refine (HN.out _ HK.out).mono ?_; rintro e w1 ⟨rfl, x1⟩; have c1 := (HK.out.ext x1).cell; have hlen := fun ty => (HK.out.ext x1).map.len ty)
      | (go_at_call 30; refine (thereK_yes _ r b c1).mono ?_; rintro e w2 ⟨rfl, rfl⟩))
    go_ret2
    exact ⟨rfl, x1⟩
theorem extK_grown {a b' c : World} {row : Option Nat} (h : Ext a b') (k : b'.grownBy c row) : a.grownBy c row :=
  ⟨k.os.trans h.os, k.tape.trans h.tape, k.output.trans h.output, Nat.le_trans h.size k.size, fun i hi hne => (k.block i (Nat.lt_of_lt_of_le hi h.size) hne).trans (h.block i hi)⟩
theorem grownK_ext {a b' c : World} {row : Option Nat} (k : a.grownBy b' row) (h : Ext b' c) : a.grownBy c row :=
  ⟨h.os.trans k.os, h.tape.trans k.tape, h.output.trans k.output, Nat.le_trans k.size h.size, fun i hi hne => (h.block i (Nat.lt_of_lt_of_le hi k.size)).trans (k.block i hi hne)⟩
theorem IsK.turned {w w1 w2 : World} {r b : Nat} {L L' : List (Nat × ByteArray)} (h : IsK w r b L) (x : Ext w w1) (ht : w1.mapTurned w2 b) (hm : IsM w2 b L') (hg : GoodK L') : IsK w2 r b L' ∧ w.grownBy w2 (some b) := by
  have g := ht.grown
  exact ⟨⟨(g.block r (Nat.lt_of_lt_of_le h.ring.lt x.size) (by simpa using h.ne)).trans (h.ring.ext x), hm, hg⟩, extK_grown x g⟩
set_option maxRecDepth 100000 in
set_option maxHeartbeats 2000000 in
theorem rotate_yes (w : World) (r b : Nat) (L : List (Nat × ByteArray)) (h : IsK w r b L) (s : ByteArray) (hs : s.size = 32) (hl : L.length < 64) (ht : top (eps L) < 4294967295) :
    Calls Tryd.prog 17 #[.pointer (some ⟨r, 0, none⟩), .string s] w fun e w' => e = .returned (.tuple #[.int .u32 (top (eps L) + 1 : Nat), .int .i64 0]) ∧ IsK w' r b (L ++ [(top (eps L) + 1, s)]) ∧ w.grownBy w' (some b) := by
  have HK := Lib.hid h
  have hs2 : (s.size : Int) = 32 := by omega
  have hl2 : ¬ (64 : Int) ≤ (L.length : Int) := by omega
  have HG := Lib.hid (h.good.snoc (s := s) hl ht hs)
  have HP := Lib.hid (fun u (hu : IsM u b L) => hu.put (e := top (eps L) + 1) (s := s) (by omega) (fun q => by have := le_top q; omega))
  have HN := Lib.hid (fun u hu => newest_any u r b L hu)
  have HC := Lib.hid (fun u => rootKeyOf_any s hs u)
  clear h hl
  generalize top (eps L) = t at *
  have HE : Hid (((t + 1 : Nat) : Int) = (t : Int) + 1) := Lib.hid (by omega)
  have ht2 : (t : Int) ≠ 4294967295 := by omega
  have hw : IntKind.u32.wrap ((t : Int) + 1) = ((t + 1 : Nat) : Int) := by simp [IntKind.wrap, IntKind.signed, IntKind.bits]; omega
  go_enter Tryd.func17, Tryd.ntmps17
  go_wp2_with (first
    | (go_at_call 20; refine (HN.out _ HK.out).mono ?_; rintro e w1 ⟨rfl, x1⟩; have c1 := (HK.out.ext x1).cell; have hlen := fun ty => (HK.out.ext x1).map.len ty)
    | (go_at_call 30; refine (thereK_yes _ r b c1).mono ?_; rintro e w2 ⟨rfl, rfl⟩))
  · rename_i hbad
    exfalso
    simp at hbad
    omega
  go_region_with (go_at_call 28; refine (HC.out _).mono ?_; rintro e w3 ⟨rfl, x3⟩; have c3 := ((HK.out.ext x1).drew.ext x3).cell; obtain ⟨w4, hrun, hm4, ht4⟩ := HP.out _ ((HK.out.ext x1).drew.ext x3).map; rw [HE.out] at hrun)
  all_goals
    go_wp2
    go_ret2
    have hh := HK.out.turned (x1.drew.trans x3) ht4 hm4 HG.out
    exact ⟨by first | rfl | (rw [HE.out]; rfl) | (rw [HE.out]; done) | simp [HE.out], hh.1, hh.2⟩
end Go.Proofs.YteddogalmdgjlaaDoor
