/- Contracts: what a reader's calls take: numbers, whole numbers, truths. -/
import Derived.Test.YtcmmcaoidmldkaaStill
import Derived.Outline
namespace Go.Proofs.Ytcmmcaoidmldkaa
open Go.RowKit

set_option maxRecDepth 100000 in
set_option maxHeartbeats 2000000 in
theorem Uint_ok (w : World) (r : Nat) (s : ByteArray) (h : IsR w r s 0) (hs : s.size ≤ 1000000) (most v sz : Nat) (hn : numR s.data.toList = (v, sz, 0)) (hv : v ≤ most) :
    Calls Try.prog 18 #[.pointer (some ⟨r, 0, none⟩), .int .u64 (most : Int)] w fun e w' => e = .returned (.int .u64 (v : Int)) ∧ IsR w' r (s.extract sz s.size) 0 ∧ Mod r w w' := by
  have hN := fun u => number_any s hs u
  have hmf := makeFunc_run
  obtain ⟨c0, c1, c2, f0, f1, f2⟩ := h.cells
  have hr := h.lt
  obtain ⟨_, hv64, _, hs10, hszl⟩ := numR_from _ _ _ hn
  rw [hn] at hN
  rw [size_list] at hszl
  have HN := Lib.hid hN
  have hsl := slice_rest s sz hszl
  have HB := Lib.hid h
  have hvi : (v : Int) ≤ (most : Int) := by omega
  generalize s.extract sz s.size = S2 at *
  clear hN hn h hv
  go_enter Try.func18, Try.ntmps18
  go_wp2_with (first | (go_at_call 39; refine (HN.out _).mono ?_; rintro e w2 ⟨rfl, rfl⟩) | go_in)
  go_ret
  exact ⟨rfl, Blk.alloc (Blk.alloc (Blk.set_ HB.out 0 (.string S2)) _) _, (((Mod.refl r w).set 0 _).alloc _).alloc _⟩
set_option maxRecDepth 100000 in
set_option maxHeartbeats 2000000 in
theorem Uint_bad (w : World) (r : Nat) (s : ByteArray) (h : IsR w r s 0) (hs : s.size ≤ 1000000) (most : Int) (f : Nat) (hn : numR s.data.toList = (0, 0, f)) (hf : ¬ f = 0) :
    Calls Try.prog 18 #[.pointer (some ⟨r, 0, none⟩), .int .u64 most] w fun e w' => e = .returned (.int .u64 0) ∧ IsR w' r s f ∧ Mod r w w' := by
  have hN := fun u => number_any s hs u
  have hmf := makeFunc_run
  obtain ⟨c0, c1, c2, f0, f1, f2⟩ := h.cells
  have hr := h.lt
  rw [hn] at hN
  have HN := Lib.hid hN
  have HB := Lib.hid h
  have hfi : ((f : Int) != 0) = true := by rw [bne_iff_ne]; omega
  clear hN hn h hf
  go_enter Try.func18, Try.ntmps18
  go_wp2_with (first | (go_at_call 39; refine (HN.out _).mono ?_; rintro e w2 ⟨rfl, rfl⟩) | go_in)
  go_ret
  exact ⟨rfl, Blk.alloc (Blk.alloc (Blk.set_ HB.out 1 (.int .i64 (f : Int))) _) _, (((Mod.refl r w).set 1 _).alloc _).alloc _⟩
set_option maxRecDepth 100000 in
set_option maxHeartbeats 2000000 in
theorem Int_ok (w : World) (r : Nat) (s : ByteArray) (h : IsR w r s 0) (hs : s.size ≤ 1000000) (lo hi : Int) (v sz : Nat) (hn : numR s.data.toList = (v, sz, 0)) (h1 : lo ≤ zag v) (h2 : zag v ≤ hi) :
    Calls Try.prog 21 #[.pointer (some ⟨r, 0, none⟩), .int .i64 lo, .int .i64 hi] w fun e w' => e = .returned (.int .i64 (zag v)) ∧ IsR w' r (s.extract sz s.size) 0 ∧ Mod r w w' := by
  have hN := fun u => number_any s hs u
  have hmf := makeFunc_run
  have h3 : IsR (((w.alloc (.cells #[.int .i64 lo] 2)).alloc (.cells #[.int .i64 hi] 2)).alloc (.cells #[.int .i64 0] 2)) r s 0 := Blk.alloc (Blk.alloc (Blk.alloc h _) _) _
  obtain ⟨e0, e1, e2, g0, g1, g2⟩ := h3.cells
  obtain ⟨c0, c1, c2, f0, f1, f2⟩ := h.cells
  have hr := h.lt
  obtain ⟨_, hv64, _, hs10, hszl⟩ := numR_from _ _ _ hn
  rw [hn] at hN
  rw [size_list] at hszl
  have HN := Lib.hid hN
  have HU := Lib.hid (fun u => unfold_any v hv64 u)
  have hsl := slice_rest s sz hszl
  have HB := Lib.hid h
  generalize s.extract sz s.size = S2 at *
  generalize zag v = z at *
  have h4 : IsR (((w.alloc (.cells #[.int .i64 lo] 2)).alloc (.cells #[.int .i64 hi] 2)).alloc (.cells #[.int .i64 z] 2)) r s 0 := Blk.alloc (Blk.alloc (Blk.alloc h _) _) _
  obtain ⟨d0, d1, d2, k0, k1, k2⟩ := h4.cells
  clear hN hn h h3 h4 hv64
  go_enter Try.func21, Try.ntmps21
  go_wp2_with (first | (go_at_call 39; refine (HN.out _).mono ?_; rintro e w2 ⟨rfl, rfl⟩) | (go_at_call 41; refine (HU.out _).mono ?_; rintro e w2 ⟨rfl, rfl⟩) | go_in)
  go_ret
  exact ⟨rfl, Blk.set_ (Blk.alloc (Blk.alloc (Blk.alloc HB.out _) _) _) 0 (.string S2), ((((Mod.refl r w).alloc _).alloc _).alloc _).set 0 _⟩
set_option maxRecDepth 100000 in
set_option maxHeartbeats 2000000 in
theorem Int_bad (w : World) (r : Nat) (s : ByteArray) (h : IsR w r s 0) (hs : s.size ≤ 1000000) (lo hi : Int) (f : Nat) (hn : numR s.data.toList = (0, 0, f)) (hf : ¬ f = 0) :
    Calls Try.prog 21 #[.pointer (some ⟨r, 0, none⟩), .int .i64 lo, .int .i64 hi] w fun e w' => e = .returned (.int .i64 0) ∧ IsR w' r s f ∧ Mod r w w' := by
  have hN := fun u => number_any s hs u
  have hmf := makeFunc_run
  have h3 : IsR (((w.alloc (.cells #[.int .i64 lo] 2)).alloc (.cells #[.int .i64 hi] 2)).alloc (.cells #[.int .i64 0] 2)) r s 0 := Blk.alloc (Blk.alloc (Blk.alloc h _) _) _
  obtain ⟨e0, e1, e2, g0, g1, g2⟩ := h3.cells
  obtain ⟨c0, c1, c2, f0, f1, f2⟩ := h.cells
  have hr := h.lt
  rw [hn] at hN
  have HN := Lib.hid hN
  have HU := Lib.hid (fun u => unfold_any 0 (by decide) u)
  have HB := Lib.hid h
  have hfi : ((f : Int) != 0) = true := by rw [bne_iff_ne]; omega
  clear hN hn h h3 hf
  go_enter Try.func21, Try.ntmps21
  go_wp2_with (first | (go_at_call 39; refine (HN.out _).mono ?_; rintro e w2 ⟨rfl, rfl⟩) | (go_at_call 41; refine (HU.out _).mono ?_; rintro e w2 ⟨rfl, rfl⟩) | go_in)
  go_ret
  exact ⟨rfl, Blk.set_ (Blk.alloc (Blk.alloc (Blk.alloc HB.out _) _) _) 1 (.int .i64 (f : Int)), ((((Mod.refl r w).alloc _).alloc _).alloc _).set 1 _⟩
end Go.Proofs.Ytcmmcaoidmldkaa
