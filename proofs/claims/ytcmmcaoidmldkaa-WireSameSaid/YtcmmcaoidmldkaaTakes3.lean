/- Contracts: a text that a reader takes. -/
import Derived.Test.YtcmmcaoidmldkaaTakes2
import Derived.Outline
namespace Go.Proofs.Ytcmmcaoidmldkaa
open Go.RowKit

set_option maxRecDepth 100000 in
set_option maxHeartbeats 2000000 in
theorem Text_ok (w : World) (r : Nat) (s : ByteArray) (h : IsR w r s 0) (hs : s.size ≤ 1000000) (most : Int) (v sz : Nat) (h0 : -9223372036854775808 ≤ most) (h1 : most ≤ 9223372036854775807) (hn : lenR s.data.toList most = (v, sz, 0)) (hv : sz + v ≤ s.size) :
    Calls Try.prog 23 #[.pointer (some ⟨r, 0, none⟩), .int .i64 most] w fun e w' => e = .returned (.string (s.extract sz (sz + v))) ∧ IsR w' r (s.extract (sz + v) s.size) 0 ∧ Mod r w w' := by
  have hN := fun u => length_any s hs most h0 h1 u
  have hmf := makeFunc_run
  obtain ⟨c0, c1, c2, f0, f1, f2⟩ := h.cells
  have hr := h.lt
  rw [hn] at hN
  have HN := Lib.hid hN
  have hsl := slice_in s sz (sz + v) (by omega) hv
  have hsr := slice_rest s (sz + v) hv
  have hsz : (s.extract sz (sz + v)).size ≤ 1048576 := by simp; omega
  have hs63 : (sz : Int) + (v : Int) ≤ 1000000 := by omega
  have HB := Lib.hid (show IsR ((w.alloc (.cells #[.int .i64 most] 3)).alloc (.cells #[.string ⟨#[]⟩] 9)) r s 0 from Blk.alloc (Blk.alloc h _) _)
  have HV : Hid (Blk ((w.alloc (.cells #[.int .i64 most] 3)).alloc (.cells #[.string ⟨#[]⟩] 9)) (w.heap.size + 1) 9 [.string ⟨#[]⟩]) := Lib.hid (by have := Blk.new (w.alloc (.cells #[.int .i64 most] 3)) [.string ⟨#[]⟩] 9; simpa using this)
  have HX := Lib.hid (show Ext w ((w.alloc (.cells #[.int .i64 most] 3)).alloc (.cells #[.string ⟨#[]⟩] 9)) from ((Ext.refl w).alloc _).alloc _)
  have HC := Lib.hid (fun u => copied _ hsz u)
  generalize s.extract sz (sz + v) = X at *
  generalize s.extract (sz + v) s.size = S2 at *
  have e1 : ((sz + v : Nat) : Int) = (sz : Int) + (v : Int) := by omega
  rw [e1] at hsl hsr
  have hrn : ¬ w.heap.size + 1 = r := by omega
  have hrm : ¬ r = w.heap.size + 1 := by omega
  clear hN hn h hsz e1
  go_enter Try.func23, Try.ntmps23
  go_wp2_with (first | (go_at_call 44; refine (HN.out _).mono ?_; rintro e w2 ⟨rfl, rfl⟩) | (go_at_call 45; refine (HC.out _).mono ?_; rintro e w1 ⟨rfl, x1⟩; have HB1 := Lib.hid (HB.out.ext x1); have HV1 := Lib.hid (HV.out.ext x1); have HX1 := Lib.hid (HX.out.trans x1); obtain ⟨e0, e1, e2, g0, g1, g2⟩ := HB1.out.cells; have v0 := HV1.out.cell 0 _ rfl; have q0 := HV1.out.frozen 0; have hr1 := HB1.out.lt; have hv1 := HV1.out.lt; clear x1) | go_in)
  go_ret
  exact ⟨rfl, Blk.set_ (Blk.other HB1.out hrm 0 (.string X)) 0 (.string S2), ((HX1.out.mod r).own (by omega) 0 _).set 0 _⟩
end Go.Proofs.Ytcmmcaoidmldkaa
