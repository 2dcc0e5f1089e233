/- Contracts: keys by epochs: a new ring, the next epoch's key, an epoch's key forgotten: by the program. Contracts: keys by epochs: a new ring, an epoch's key forgotten: by the program. Plain: a byte of a text. Texts cut: from, up to, between. Contracts: keys by epochs: how many keys a text tells of; a piece taken off what is left: by the program. Texts spelt as lists: how long; one behind another. -/
import Derived.Test.YtdnpgmoiapkhnaaDoorRingK
import Derived.RegionTactic
import Derived.Deep.RegionWith
import Derived.Test.YtdnpgmoiapkhnaaDoorProg
import Derived.Test.YtdnpgmoiapkhnaaDoorM00
import Derived.WalkSpells
import Derived.Test.YtdnpgmoiapkhnaaDoorM02
import Derived.WalkKit
section
namespace Go.Proofs.YtdnpgmoiapkhnaaDoor
open Go.RowKit

theorem strclone_any (s : ByteArray) (hs : s.size ≤ 281474976710656) (w : World) :
    Calls Tryd.prog 53 #[.string s] w fun e w' => e = .returned (.string s) ∧ Ext w w' := by
  go_enter Tryd.func53, Tryd.ntmps53
  go_wp2_with (go_at_call 71; refine (Tryd.stringslite_Clone s w hs).mono ?_; rintro e w1 ⟨rfl, x1⟩)
  go_ret
  exact ⟨rfl, x1⟩
theorem rootKey_info : (Tryd.prog.info? 71).map (·.size) = some (#[Value.string ⟨#[]⟩] : Array Value).size := by kernel_rfl
theorem rootKeyOf_any (s : ByteArray) (hs : s.size = 32) (w : World) :
    Calls Tryd.prog 34 #[.string s] w fun e w' => e = .returned (.agg #[.string s]) ∧ Ext w w' := by
  have HC := Lib.hid (fun u => strclone_any s (by omega) u)
  obtain ⟨W0, hW0⟩ : ∃ W0, w.alloc (.cells #[.string ⟨#[]⟩] 71) = W0 := ⟨_, rfl⟩
  have hx0 : Ext w W0 := by rw [← hW0]; exact (Ext.refl w).alloc _
  have hB0 : Blk W0 w.heap.size 71 [.string ⟨#[]⟩] := by rw [← hW0]; exact Blk.new w _ _
  have HX := Lib.hid hx0; have HB := Lib.hid hB0
  clear hx0 hB0
  go_enter Tryd.func34, Tryd.ntmps34
  go_wp2_with (go_at_call 53; refine (HC.out _).mono ?_; rintro e w1 ⟨rfl, x1⟩; have hb1 := HB.out.ext x1; have c1 := hb1.cell 0 _ rfl; have f1 := hb1.frozen 0)
  exact bodyPost_ret (results_cell_row rfl _ _ w.heap.size 71 #[.string s] (0, 0) _ rfl (hb1.set_ 0 _) Tryd.underlying71 rfl rootKey_info) rfl ⟨rfl, (HX.out.trans x1).setCell (p := ⟨w.heap.size, 0, none⟩) (Nat.le_refl _) _⟩
/-! ### Rotate -/
theorem rotate_nil (w : World) (s : ByteArray) :
    Calls Tryd.prog 21 #[.pointer none, .string s] w fun e w' => e = .returned (.tuple #[.int .u32 0, .int .i64 1]) ∧ w = w' := by
  go_enter Tryd.func21, Tryd.ntmps21
  go_wp2_with (first
    | (go_at_call 20; refine (newest_nil _).mono ?_; rintro e w1 ⟨rfl, rfl⟩)
    | (go_at_call 45; refine (thereK_no _).mono ?_; rintro e w1 ⟨rfl, rfl⟩))
  go_ret2
  exact ⟨rfl, rfl⟩
theorem rotate_arg (w : World) (r b : Nat) (L : List (Nat × ByteArray)) (h : IsK w r b L) (s : ByteArray) (hs : s.size ≠ 32) :
    Calls Tryd.prog 21 #[.pointer (some ⟨r, 0, none⟩), .string s] w fun e w' => e = .returned (.tuple #[.int .u32 0, .int .i64 2]) ∧ Ext w w' := by
  have HK := Lib.hid h
  have hs2 : (s.size : Int) ≠ 32 := by omega
  have hs3 : ((s.size : Int) == 32) = false := by simpa using hs2
  clear h
  go_enter Tryd.func21, Tryd.ntmps21
  go_wp2_with (first
    | (go_at_call 20; refine (newest_any _ r b L HK.out).mono ?_; rintro e w1 ⟨rfl, x1⟩)
    | (go_at_call 45; refine (thereK_yes _ r b (HK.out.ext x1).cell).mono ?_; rintro e w2 ⟨rfl, rfl⟩))
  go_ret2
  exact ⟨rfl, x1⟩
theorem rotate_full (w : World) (r b : Nat) (L : List (Nat × ByteArray)) (h : IsK w r b L) (s : ByteArray) (hs : s.size = 32) (hf : 64 ≤ L.length ∨ top (eps L) = 4294967295) :
    Calls Tryd.prog 21 #[.pointer (some ⟨r, 0, none⟩), .string s] w fun e w' => e = .returned (.tuple #[.int .u32 0, .int .i64 4]) ∧ Ext w w' := by
  have HK := Lib.hid h
  have hs2 : (s.size : Int) = 32 := by omega
  have HF := Lib.hid hf
  clear h hf
  go_enter Tryd.func21, Tryd.ntmps21
  by_cases hl : 64 ≤ L.length
  · have hl2 : (64 : Int) ≤ (L.length : Int) := by omega
    go_wp2_with (first
      | (go_at_call 20; refine (newest_any _ r b L HK.out).mono ?_; rintro e w1 ⟨rfl, x1⟩; have c1 := (HK.out.ext x1).cell; have hlen := fun ty => (HK.out.ext x1).map.len ty)
      | (go_at_call 45; refine (thereK_yes _ r b c1).mono ?_; rintro e w2 ⟨rfl, rfl⟩))
    go_ret2
    exact ⟨rfl, x1⟩
  · have ht : top (eps L) = 4294967295 := HF.out.resolve_left hl
    have hl2 : ¬ (64 : Int) ≤ (L.length : Int) := by omega
    have HN : Hid (∀ u, IsK u r b L → Calls Tryd.prog 20 #[.pointer (some ⟨r, 0, none⟩)] u fun e w' => e = .returned (.int .u32 4294967295) ∧ Ext u w') := Lib.hid (fun u hu => by
      have := newest_any u r b L hu
      rw [ht] at this
      exact this)
    go_wp2_with (first
      | (go_at_call 20; refine (HN.out _ HK.out).mono ?_; rintro e w1 ⟨rfl, x1⟩; have c1 := (HK.out.ext x1).cell; have hlen := fun ty => (HK.out.ext x1).map.len ty)
      | (go_at_call 45; refine (thereK_yes _ r b c1).mono ?_; rintro e w2 ⟨rfl, rfl⟩))
    go_ret2
    exact ⟨rfl, x1⟩
theorem extK_grown {a b' c : World} {row : Option Nat} (h : Ext a b') (k : b'.grownBy c row) : a.grownBy c row :=
  ⟨k.os.trans h.os, k.tape.trans h.tape, k.output.trans h.output, Nat.le_trans h.size k.size, fun i hi hne => (k.block i (Nat.lt_of_lt_of_le hi h.size) hne).trans (h.block i hi)⟩
theorem grownK_ext {a b' c : World} {row : Option Nat} (k : a.grownBy b' row) (h : Ext b' c) : a.grownBy c row :=
  ⟨h.os.trans k.os, h.tape.trans k.tape, h.output.trans k.output, Nat.le_trans k.size h.size, fun i hi hne => (h.block i (Nat.lt_of_lt_of_le hi k.size)).trans (k.block i hi hne)⟩
theorem IsK.turned {w w1 w2 : World} {r b : Nat} {L L' : List (Nat × ByteArray)} (h : IsK w r b L) (x : Ext w w1) (ht : w1.mapTurned w2 b) (hm : IsM w2 b L') (hg : GoodK L') : IsK w2 r b L' ∧ w.grownBy w2 (some b) := by
  have g := ht.grown
  exact ⟨⟨(g.block r (Nat.lt_of_lt_of_le h.ring.lt x.size) (by simpa using h.ne)).trans (h.ring.ext x), hm, hg⟩, extK_grown x g⟩
set_option maxRecDepth 100000 in
set_option maxHeartbeats 2000000 in
theorem rotate_yes (w : World) (r b : Nat) (L : List (Nat × ByteArray)) (h : IsK w r b L) (s : ByteArray) (hs : s.size = 32) (hl : L.length < 64) (ht : top (eps L) < 4294967295) :
    Calls Tryd.prog 21 #[.pointer (some ⟨r, 0, none⟩), .string s] w fun e w' => e = .returned (.tuple #[.int .u32 (top (eps L) + 1 : Nat), .int .i64 0]) ∧ IsK w' r b (L ++ [(top (eps L) + 1, s)]) ∧ w.grownBy w' (some b) := by
  have HK := Lib.hid h
  have hs2 : (s.size : Int) = 32 := by omega
  have hl2 : ¬ (64 : Int) ≤ (L.length : Int) := by omega
  have HG := Lib.hid (h.good.snoc (s := s) hl ht hs)
  have HP := Lib.hid (fun u (hu : IsM u b L) => hu.put (e := top (eps L) + 1) (s := s) (by omega) (fun q => by have := le_top q; omega))
  have HN := Lib.hid (fun u hu => newest_any u r b L hu)
  have HC := Lib.hid (fun u => rootKeyOf_any s hs u)
  clear h hl
  generalize top (eps L) = t at *
  have HE : Hid (((t + 1 : Nat) : Int) = (t : Int) + 1) := Lib.hid (by omega)
  have ht2 : (t : Int) ≠ 4294967295 := by omega
  have hw : IntKind.u32.wrap ((t : Int) + 1) = ((t + 1 : Nat) : Int) := by simp [IntKind.wrap, IntKind.signed, IntKind.bits]; omega
  go_enter Tryd.func21, Tryd.ntmps21
  go_wp2_with (first
    | (go_at_call 20; refine (HN.out _ HK.out).mono ?_; rintro e w1 ⟨rfl, x1⟩; have c1 := (HK.out.ext x1).cell; have hlen := fun ty => (HK.out.ext x1).map.len ty)
    | (go_at_call 45; refine (thereK_yes _ r b c1).mono ?_; rintro e w2 ⟨rfl, rfl⟩))
  · rename_i hbad
    exfalso
    simp at hbad
    omega
  go_region_with (go_at_call 34; refine (HC.out _).mono ?_; rintro e w3 ⟨rfl, x3⟩; have c3 := ((HK.out.ext x1).drew.ext x3).cell; obtain ⟨w4, hrun, hm4, ht4⟩ := HP.out _ ((HK.out.ext x1).drew.ext x3).map; rw [HE.out] at hrun)
  all_goals
    go_wp2
    go_ret2
    have hh := HK.out.turned (x1.drew.trans x3) ht4 hm4 HG.out
    exact ⟨by first | rfl | (rw [HE.out]; rfl) | (rw [HE.out]; done) | simp [HE.out], hh.1, hh.2⟩
end Go.Proofs.YtdnpgmoiapkhnaaDoor
end

section
namespace Go.Proofs.YtdnpgmoiapkhnaaDoor
open Go.RowKit

theorem GoodK.one (s : ByteArray) (hs : s.size = 32) : GoodK [(1, s)] := by
  refine ⟨by simp, by simp, by simp [eps], fun x hx => ?_⟩
  rw [List.mem_singleton] at hx
  subst hx
  exact ⟨Nat.le_refl _, by simp, hs⟩
set_option maxRecDepth 100000 in
set_option maxHeartbeats 2000000 in
theorem newK_yes (w : World) (s : ByteArray) (hs : s.size = 32) :
    Calls Tryd.prog 26 #[.string s] w fun e w' => ∃ r b, e = .returned (.tuple #[.pointer (some ⟨r, 0, none⟩), .int .i64 0]) ∧ IsK w' r b [(1, s)] ∧ w.heap.size ≤ r ∧ w.heap.size ≤ b ∧ Ext w w' := by
  have hs2 : (s.size : Int) = 32 := by omega
  have HC := Lib.hid (fun u => rootKeyOf_any s hs u)
  have HG := Lib.hid (GoodK.one s hs)
  obtain ⟨W0, hW0⟩ : ∃ W0, w.alloc (.map #[] 0) = W0 := ⟨_, rfl⟩
  have hx0 : Ext w W0 := by rw [← hW0]; exact (Ext.refl w).alloc _
  have hM0 : IsM W0 w.heap.size [] := by rw [← hW0]; exact IsM.made w
  have hmk : ∀ t, (Instr.makeMap t none).run Tryd.prog w = .ok (.map (some w.heap.size)) W0 := fun t => by rw [← hW0]; exact run_makeMap t w
  have HX := Lib.hid hx0; have HM := Lib.hid hM0
  have HP := Lib.hid (fun u (hu : IsM u w.heap.size []) => hu.put (e := 1) (s := s) (by omega) (by simp [eps]))
  clear hx0 hM0 hW0
  go_enter Tryd.func26, Tryd.ntmps26
  go_wp2_with (go_at_call 34; refine (HC.out _).mono ?_; rintro e w1 ⟨rfl, x1⟩; obtain ⟨w4, hrun, hm4, ht4⟩ := HP.out _ (HM.out.ext x1); rw [show ((1 : Nat) : Int) = 1 from rfl] at hrun)
  have g := ht4.grown
  have x4 : Ext w w4 := Ext.grown (HX.out.trans x1) g (fun k hk => by cases hk; exact Nat.le_refl _)
  go_ret2
  refine ⟨w4.heap.size, w.heap.size, rfl, ⟨Blk.new _ _ _, ?_, HG.out⟩, x4.size, Nat.le_refl _, x4.alloc _⟩
  simpa using hm4.alloc _
theorem newK_no (w : World) (s : ByteArray) (hs : s.size ≠ 32) :
    Calls Tryd.prog 26 #[.string s] w fun e w' => e = .returned (.tuple #[.pointer none, .int .i64 2]) ∧ w = w' := by
  have hs2 : (s.size : Int) ≠ 32 := by omega
  have hs3 : ((s.size : Int) == 32) = false := by simpa using hs2
  go_enter Tryd.func26, Tryd.ntmps26
  go_wp2
  go_ret2
  exact ⟨rfl, rfl⟩
/-! ### Retire -/
theorem retire_nil (w : World) (e : Int) :
    Calls Tryd.prog 25 #[.pointer none, .int .u32 e] w fun x w' => x = .returned (.int .i64 1) ∧ w = w' := by
  go_enter Tryd.func25, Tryd.ntmps25
  go_wp2_with (go_at_call 45; refine (thereK_no _).mono ?_; rintro e w1 ⟨rfl, rfl⟩)
  go_ret
  exact ⟨rfl, rfl⟩
theorem retire_top (w : World) (r b : Nat) (L : List (Nat × ByteArray)) (h : IsK w r b L) :
    Calls Tryd.prog 25 #[.pointer (some ⟨r, 0, none⟩), .int .u32 (top (eps L) : Int)] w fun x w' => x = .returned (.int .i64 2) ∧ Ext w w' := by
  have HK := Lib.hid h
  have HN := Lib.hid (fun u hu => newest_any u r b L hu)
  have hc := h.cell
  clear h
  generalize top (eps L) = t at *
  go_enter Tryd.func25, Tryd.ntmps25
  go_wp2_with (first
    | (go_at_call 20; refine (HN.out _ HK.out).mono ?_; rintro e w1 ⟨rfl, x1⟩)
    | (go_at_call 45; refine (thereK_yes _ r b hc).mono ?_; rintro e w2 ⟨rfl, rfl⟩))
  go_ret
  exact ⟨rfl, x1⟩
theorem retire_none (w : World) (r b : Nat) (L : List (Nat × ByteArray)) (h : IsK w r b L) (e : Nat) (h32 : e < 4294967296) (he : e ∉ eps L) :
    Calls Tryd.prog 25 #[.pointer (some ⟨r, 0, none⟩), .int .u32 (e : Int)] w fun x w' => x = .returned (.int .i64 3) ∧ Ext w w' := by
  have HK := Lib.hid h
  have HN := Lib.hid (fun u hu => newest_any u r b L hu)
  have hne : e ≠ top (eps L) := fun q => he (q ▸ h.good.top_in)
  have HH := Lib.hid (fun u (hu : IsK u r b L) => has_no u r b L e hu h32 he)
  have hc := h.cell
  clear h he
  generalize top (eps L) = t at *
  have hne2 : (e : Int) ≠ (t : Int) := by omega
  have hne3 : ((e : Int) == (t : Int)) = false := by simpa using hne2
  go_enter Tryd.func25, Tryd.ntmps25
  go_wp2_with (first
    | (go_at_call 20; refine (HN.out _ HK.out).mono ?_; rintro e w1 ⟨rfl, x1⟩)
    | (go_at_call 48; refine (HH.out _ (HK.out.ext x1)).mono ?_; rintro e w3 ⟨rfl, x3⟩)
    | (go_at_call 45; refine (thereK_yes _ r b hc).mono ?_; rintro e w2 ⟨rfl, rfl⟩))
  go_ret
  exact ⟨rfl, x1.trans x3⟩
set_option maxRecDepth 100000 in
set_option maxHeartbeats 2000000 in
theorem retire_yes (w : World) (r b : Nat) (L : List (Nat × ByteArray)) (h : IsK w r b L) (e : Nat) (hne : e ≠ top (eps L)) (he : e ∈ eps L) :
    Calls Tryd.prog 25 #[.pointer (some ⟨r, 0, none⟩), .int .u32 (e : Int)] w fun x w' => x = .returned (.int .i64 0) ∧ IsK w' r b (outK L e) ∧ w.grownBy w' (some b) := by
  have HK := Lib.hid h
  have h32 := (h.good.eps_each e he).2
  have HN := Lib.hid (fun u hu => newest_any u r b L hu)
  have HH := Lib.hid (fun u (hu : IsK u r b L) => has_yes u r b L e hu he)
  have HD := Lib.hid (fun u (hu : IsM u b L) => hu.drop h32 h.good.up)
  have HG := Lib.hid (h.good.out hne)
  have hc := h.cell
  clear h he
  generalize top (eps L) = t at *
  have hne2 : (e : Int) ≠ (t : Int) := by omega
  have hne3 : ((e : Int) == (t : Int)) = false := by simpa using hne2
  go_enter Tryd.func25, Tryd.ntmps25
  go_wp2_with (first
    | (go_at_call 20; refine (HN.out _ HK.out).mono ?_; rintro e w1 ⟨rfl, x1⟩)
    | (go_at_call 48; refine (HH.out _ (HK.out.ext x1)).mono ?_; rintro e w3 ⟨rfl, x3⟩; have x13 := x1.trans x3; have c3 := (HK.out.ext x13).cell; obtain ⟨w4, hrun, hm4, ht4⟩ := HD.out _ (HK.out.ext x13).map)
    | (go_at_call 45; refine (thereK_yes _ r b hc).mono ?_; rintro e w2 ⟨rfl, rfl⟩))
  go_ret
  have hh := HK.out.turned x13 ht4 hm4 HG.out
  exact ⟨rfl, hh.1, hh.2⟩
end Go.Proofs.YtdnpgmoiapkhnaaDoor
end

section
namespace Go.Proofs.YtdnpgmoiapkhnaaDoor
open Go.RowKit
theorem text_get (s : ByteArray) (i : Nat) (b : UInt8) (hb : s.data.toList[i]? = some b) : s[i]? = some b := by
  have hi : i < s.data.toList.length := (List.getElem?_eq_some_iff.1 hb).1
  have h2 : i < s.size := by rw [← size_list]; exact hi
  rw [getElem?_pos s i h2]
  rw [List.getElem?_eq_getElem hi] at hb
  exact hb
theorem text_at (s : ByteArray) (i : Nat) (b : UInt8) (hb : s.data.toList[i]? = some b) (h : i < s.size) : s[i] = b := by
  have e := text_get s i b hb
  rw [getElem?_pos s i h] at e
  exact Option.some.inj e
theorem index_text (s : ByteArray) (i : Nat) (b : UInt8) (hb : s.data.toList[i]? = some b) (w : World) :
    (Instr.index 9 (.string s) (.int .i64 (i : Int))).run Tryd.prog w = .ok (.int .u8 (b.toNat : Int)) w := by
  have h := text_get s i b hb
  have hu := Tryd.underlying9
  have h0 : (0 : Int) ≤ (i : Int) := by omega
  simp [Instr.index, run_underlying hu, asIntOf, go_sem, h0, h]
end Go.Proofs.YtdnpgmoiapkhnaaDoor
end

section
namespace Go.Proofs.YtdnpgmoiapkhnaaDoor
open Go.RowKit

theorem cut_to (X : ByteArray) (c : Nat) (h : c ≤ X.size) (u : World) : (Instr.slice 9 (.string X) none (some (.int .i64 (c : Int))) none).run Tryd.prog u = .ok (.string (X.extract 0 c)) u := by
  have hj : (0 : Int) ≤ (c : Int) ∧ (c : Int) ≤ (X.size : Int) := by omega
  simp [Instr.slice, Instr.sliceBounds, Instr.sliceBound, asIntOf, run_underlying Tryd.underlying9, hj]
  intro hgt
  omega
theorem cut_from (X : ByteArray) (c : Nat) (h : c ≤ X.size) (u : World) : (Instr.slice 9 (.string X) (some (.int .i64 (c : Int))) none none).run Tryd.prog u = .ok (.string (X.extract c X.size)) u := by
  have hj : (0 : Int) ≤ (c : Int) ∧ (c : Int) ≤ (X.size : Int) := by omega
  simp [Instr.slice, Instr.sliceBounds, Instr.sliceBound, asIntOf, run_underlying Tryd.underlying9, hj]
  intro hgt
  omega
theorem cut_mid (X : ByteArray) (a c : Nat) (ha : a ≤ c) (h : c ≤ X.size) (u : World) : (Instr.slice 9 (.string X) (some (.int .i64 (a : Int))) (some (.int .i64 (c : Int))) none).run Tryd.prog u = .ok (.string (X.extract a c)) u := by
  have hj : (0 : Int) ≤ (c : Int) ∧ (c : Int) ≤ (X.size : Int) := by omega
  have hk : (0 : Int) ≤ (a : Int) ∧ (a : Int) ≤ (c : Int) := by omega
  simp [Instr.slice, Instr.sliceBounds, Instr.sliceBound, asIntOf, run_underlying Tryd.underlying9, hj, hk]
  rw [if_pos h, if_pos ha]
theorem cut_list (X : ByteArray) (a c : Nat) : (X.extract a c).data.toList = (X.data.toList.drop a).take (c - a) := by
  rw [ByteArray.data_extract, Array.toList_extract, List.extract_eq_take_drop]
end Go.Proofs.YtdnpgmoiapkhnaaDoor
end

section
namespace Go.Proofs.YtdnpgmoiapkhnaaDoor
open Go.RowKit

theorem count_yes (s : ByteArray) (n : Nat) (h0 : 0 < s.size) (hb : s[0].toNat = n) (h1 : 1 ≤ n) (h64 : n ≤ 64) (hs : s.size = 1 + n * 36) (w : World) :
    Calls Tryd.prog 31 #[.string s] w fun e w' => e = .returned (.tuple #[.int .i64 (n : Int), .bool true]) ∧ w = w' := by
  have hemp : s.toList.isEmpty = false := by
    have hl : s.toList.length = s.size := by rw [ByteArray.toList_eq, size_list]
    cases hq : s.toList with
    | nil => rw [hq] at hl; simp at hl; omega
    | cons => rfl
  have hw : wrap64 (s[0].toNat : Int) = (n : Int) := by rw [hb]; simp [wrap64]; omega
  have hsi : (s.size : Int) = 1 + (n : Int) * 36 := by omega
  have h1i : ¬ ((n : Int) < 1) := by omega
  have h1j : 1 ≤ (n : Int) := by omega
  have h64i : ¬ (64 : Int) < (n : Int) := by omega
  have h64j : (n : Int) ≤ 64 := by omega
  have hsz := Lib.hid hs; have HB := Lib.hid hb
  have h0i : (0 : Int) < (s.size : Int) := by omega
  clear hs hb
  go_enter Tryd.func31, Tryd.ntmps31
  go_wp2
  go_ret2
  exact ⟨rfl, rfl⟩
theorem takeK_any (w : World) (c : Nat) (X : ByteArray) (k : Nat) (hk : k ≤ X.size) (hB : Blk w c 9 [.string X]) :
    Calls Tryd.prog 32 #[.int .i64 (k : Int), .pointer (some ⟨c, 0, none⟩)] w fun e w' => e = .returned (.string (X.extract 0 k)) ∧ w' = w.setCell ⟨c, 0, none⟩ (.string (X.extract k X.size)) := by
  have h1 := fun u => cut_to X k hk u
  have h2 := fun u => cut_from X k hk u
  have c0 := hB.cell 0 _ rfl
  have f0 := hB.frozen 0
  clear hB
  go_enter Tryd.func32, Tryd.ntmps32
  go_wp2
  go_ret
  exact ⟨rfl, rfl⟩
end Go.Proofs.YtdnpgmoiapkhnaaDoor
end

section
namespace Go.Proofs.YtdnpgmoiapkhnaaDoor
open Go.RowKit

theorem txt_size (l : List UInt8) : ((⟨l.toArray⟩ : ByteArray)).size = l.length := by simp [ByteArray.size]
theorem str_append (a b : List UInt8) : (⟨a.toArray⟩ : ByteArray) ++ ⟨b.toArray⟩ = ⟨(a ++ b).toArray⟩ := by
  apply ByteArray.ext
  rw [ByteArray.data_append]
  simp
theorem txt_cat (s : ByteArray) (b : List UInt8) : s ++ ⟨b.toArray⟩ = ⟨(s.data.toList ++ b).toArray⟩ := by
  apply ByteArray.ext
  rw [ByteArray.data_append]
  simp
theorem txt_extract (l : List UInt8) (n : Nat) : (⟨l.toArray⟩ : ByteArray).extract 0 n = ⟨(l.take n).toArray⟩ := by
  apply ByteArray.ext
  simp
/-- The first n bytes of a text. -/
theorem slice_upto (X : ByteArray) (c : Nat) (h : c ≤ X.size) (u : World) : (Instr.slice 9 (.string X) none (some (.int .i64 (c : Int))) none).run Tryd.prog u = .ok (.string (X.extract 0 c)) u := by
  have hj : (0 : Int) ≤ (c : Int) ∧ (c : Int) ≤ (X.size : Int) := by omega
  simp [Instr.slice, Instr.sliceBounds, Instr.sliceBound, asIntOf, run_underlying Tryd.underlying9, hj]
  intro hgt
  omega
end Go.Proofs.YtdnpgmoiapkhnaaDoor
end
