/- Contracts: what a reader's calls take: truths, texts, counts. -/
import Derived.Test.YtcmmcaoidmldkaaStill
import Derived.Lib.Strings
import Derived.Outline
namespace Go.Proofs.Ytcmmcaoidmldkaa
open Go.RowKit

theorem slice_in (X : ByteArray) (a b : Nat) (h1 : a ≤ b) (h2 : b ≤ X.size) (u : World) : (Instr.slice 9 (.string X) (some (.int .i64 (a : Int))) (some (.int .i64 (b : Int))) none).run Try.prog u = .ok (.string (X.extract a b)) u := by
  have hj : (0 : Int) ≤ (a : Int) ∧ (a : Int) ≤ (b : Int) ∧ (b : Int) ≤ (X.size : Int) := by omega
  simp [Instr.slice, Instr.sliceBounds, Instr.sliceBound, asIntOf, run_underlying Try.underlying9, hj]
  rw [if_pos h2, if_pos h1]
theorem extract_none (X : ByteArray) : X.extract 0 0 = ⟨#[]⟩ := by
  apply ByteArray.ext
  simp
theorem not_none (s : ByteArray) (h : 1 ≤ s.size) : s.toList.isEmpty = false := by
  rw [Lib.toList_data]
  have := size_list s
  cases hd : s.data.toList with
  | nil => rw [hd] at this; simp at this; omega
  | cons x r => rfl
set_option maxRecDepth 100000 in
set_option maxHeartbeats 2000000 in
theorem Bool_ok (w : World) (r : Nat) (s : ByteArray) (h : IsR w r s 0) (x : Bool) (rest : List UInt8) (hx : s.data.toList = wb x ++ rest) :
    Calls Try.prog 22 #[.pointer (some ⟨r, 0, none⟩)] w fun e w' => e = .returned (.bool x) ∧ IsR w' r (s.extract 1 s.size) 0 ∧ Mod r w w' := by
  have hmf := makeFunc_run
  obtain ⟨c0, c1, c2, f0, f1, f2⟩ := h.cells
  have hr := h.lt
  have hl : 1 ≤ s.size := by rw [← size_list, hx]; simp [wb]
  have hl0 : 0 < s.size := hl
  have hne := not_none s hl
  have hb0 := text_at s 0 (if x then 1 else 0) (by rw [hx]; rfl) hl0
  have HB := Lib.hid h
  clear h hx
  cases x
  · have hb : s[0].toNat = 0 := by rw [hb0]; rfl
    clear hb0
    go_enter Try.func22, Try.ntmps22
    go_wp2_with (go_in)
    go_ret
    exact ⟨rfl, Blk.alloc (Blk.set_ HB.out 0 (.string (s.extract 1 s.size))) _, ((Mod.refl r w).set 0 _).alloc _⟩
  · have hb : s[0].toNat = 1 := by rw [hb0]; rfl
    clear hb0
    go_enter Try.func22, Try.ntmps22
    go_wp2_with (go_in)
    go_ret
    exact ⟨rfl, Blk.alloc (Blk.set_ HB.out 0 (.string (s.extract 1 s.size))) _, ((Mod.refl r w).set 0 _).alloc _⟩
set_option maxRecDepth 100000 in
set_option maxHeartbeats 2000000 in
theorem Count_ok (w : World) (r : Nat) (s : ByteArray) (h : IsR w r s 0) (hs : s.size ≤ 1000000) (most : Int) (v sz : Nat) (h0 : -9223372036854775808 ≤ most) (h1 : most ≤ 9223372036854775807) (hn : lenR s.data.toList most = (v, sz, 0)) (hv : sz + v ≤ s.size) :
    Calls Try.prog 28 #[.pointer (some ⟨r, 0, none⟩), .int .i64 most] w fun e w' => e = .returned (.int .i64 (v : Int)) ∧ IsR w' r (s.extract sz s.size) 0 ∧ Mod r w w' := by
  have hN := fun u => length_any s hs most h0 h1 u
  have hmf := makeFunc_run
  obtain ⟨c0, c1, c2, f0, f1, f2⟩ := h.cells
  have hr := h.lt
  rw [hn] at hN
  have HN := Lib.hid hN
  have hsl := slice_rest s sz (by omega)
  have HB := Lib.hid h
  generalize s.extract sz s.size = S2 at *
  clear hN hn h
  go_enter Try.func28, Try.ntmps28
  go_wp2_with (first | (go_at_call 44; refine (HN.out _).mono ?_; rintro e w2 ⟨rfl, rfl⟩) | go_in)
  go_ret
  exact ⟨rfl, Blk.alloc (Blk.alloc (Blk.set_ HB.out 0 (.string S2)) _) _, (((Mod.refl r w).set 0 _).alloc _).alloc _⟩
set_option maxRecDepth 100000 in
set_option maxHeartbeats 2000000 in
theorem Text_bad (w : World) (r : Nat) (s : ByteArray) (h : IsR w r s 0) (hs : s.size ≤ 1000000) (most : Int) (f : Nat) (h0 : -9223372036854775808 ≤ most) (h1 : most ≤ 9223372036854775807) (hn : lenR s.data.toList most = (0, 0, f)) (hf : ¬ f = 0) :
    Calls Try.prog 23 #[.pointer (some ⟨r, 0, none⟩), .int .i64 most] w fun e w' => e = .returned (.string ⟨#[]⟩) ∧ IsR w' r s f ∧ Mod r w w' := by
  have hN := fun u => length_any s hs most h0 h1 u
  have hmf := makeFunc_run
  obtain ⟨c0, c1, c2, f0, f1, f2⟩ := h.cells
  have hr := h.lt
  rw [hn] at hN
  have HN := Lib.hid hN
  have hsl := slice_in s 0 0 (by omega) (by omega)
  rw [extract_none] at hsl
  have HB := Lib.hid (show IsR ((w.alloc (.cells #[.int .i64 most] 3)).alloc (.cells #[.string ⟨#[]⟩] 9)) r s 0 from Blk.alloc (Blk.alloc h _) _)
  have HV : Hid (Blk ((w.alloc (.cells #[.int .i64 most] 3)).alloc (.cells #[.string ⟨#[]⟩] 9)) (w.heap.size + 1) 9 [.string ⟨#[]⟩]) := Lib.hid (by have := Blk.new (w.alloc (.cells #[.int .i64 most] 3)) [.string ⟨#[]⟩] 9; simpa using this)
  have HX := Lib.hid (show Ext w ((w.alloc (.cells #[.int .i64 most] 3)).alloc (.cells #[.string ⟨#[]⟩] 9)) from ((Ext.refl w).alloc _).alloc _)
  have HC : Hid (∀ u, Calls Try.prog 45 #[.string ByteArray.empty] u fun e w' => e = .returned (.string ⟨#[]⟩) ∧ Ext u w') := Lib.hid (fun u => Clone_none u)
  have hfi : ((f : Int) != 0) = true := by rw [bne_iff_ne]; omega
  have hrn : ¬ w.heap.size + 1 = r := by omega
  have hrm : ¬ r = w.heap.size + 1 := by omega
  clear hN hn h hf
  go_enter Try.func23, Try.ntmps23
  go_wp2_with (first | (go_at_call 44; refine (HN.out _).mono ?_; rintro e w2 ⟨rfl, rfl⟩) | (go_at_call 45; refine (HC.out _).mono ?_; rintro e w1 ⟨rfl, x1⟩; have HB1 := Lib.hid (HB.out.ext x1); have HV1 := Lib.hid (HV.out.ext x1); have HX1 := Lib.hid (HX.out.trans x1); obtain ⟨e0, e1, e2, g0, g1, g2⟩ := HB1.out.cells; have v0 := HV1.out.cell 0 _ rfl; have q0 := HV1.out.frozen 0; have hr1 := HB1.out.lt; have hv1 := HV1.out.lt; clear x1) | go_in)
  go_ret
  exact ⟨rfl, Blk.set_ (Blk.other HB1.out hrm 0 (.string ⟨#[]⟩)) 1 (.int .i64 (f : Int)), ((HX1.out.mod r).own (by omega) 0 _).set 1 _⟩
end Go.Proofs.Ytcmmcaoidmldkaa
