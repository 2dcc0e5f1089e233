/- Contracts: a number that a reader takes. -/
import Derived.Test.YthnoegipadnmeaaReader
import Derived.Outline
namespace Go.Proofs.Ythnoegipadnmeaa
open Go.RowKit

theorem makeFunc_run (fn : Fn) (first cap : Array Value) (w : World) : (Instr.makeFunc fn first cap).run Try.prog w = .ok (.func fn first cap) w := rfl
set_option maxRecDepth 100000 in
set_option maxHeartbeats 2000000 in
theorem Uint_ok (w : World) (r : Nat) (s : ByteArray) (h : IsR w r s 0) (hs : s.size ≤ 1000000) (most v sz : Nat) (hn : numR s.data.toList = (v, sz, 0)) (hv : v ≤ most) :
    Calls Try.prog 51 #[.pointer (some ⟨r, 0, none⟩), .int .u64 (most : Int)] w fun e w' => e = .returned (.int .u64 (v : Int)) ∧ IsR w' r (s.extract sz s.size) 0 ∧ Mod r w w' := by
  have hN := fun u => wnumber_any s hs u
  have hmf := makeFunc_run
  obtain ⟨c0, c1, c2, f0, f1, f2⟩ := h.cells
  have hr := h.lt
  obtain ⟨_, hv64, _, hs10, hszl⟩ := numR_from _ _ _ hn
  rw [hn] at hN
  rw [size_list] at hszl
  have HN := Lib.hid hN
  have hsl := slice_rest s sz hszl
  have HB := Lib.hid h
  have hvi : (v : Int) ≤ (most : Int) := by omega
  generalize s.extract sz s.size = S2 at *
  clear hN hn h hv
  go_enter Try.func51, Try.ntmps51
  go_wp2_with (first | (go_at_call 65; refine (HN.out _).mono ?_; rintro e w2 ⟨rfl, rfl⟩) | go_in)
  go_ret
  exact ⟨rfl, Blk.alloc (Blk.alloc (Blk.set_ HB.out 0 (.string S2)) _) _, (((Mod.refl r w).set 0 _).alloc _).alloc _⟩
set_option maxRecDepth 100000 in
set_option maxHeartbeats 2000000 in
theorem Uint_bad (w : World) (r : Nat) (s : ByteArray) (h : IsR w r s 0) (hs : s.size ≤ 1000000) (most : Int) (f : Nat) (hn : numR s.data.toList = (0, 0, f)) (hf : ¬ f = 0) :
    Calls Try.prog 51 #[.pointer (some ⟨r, 0, none⟩), .int .u64 most] w fun e w' => e = .returned (.int .u64 0) ∧ IsR w' r s f ∧ Mod r w w' := by
  have hN := fun u => wnumber_any s hs u
  have hmf := makeFunc_run
  obtain ⟨c0, c1, c2, f0, f1, f2⟩ := h.cells
  have hr := h.lt
  rw [hn] at hN
  have HN := Lib.hid hN
  have HB := Lib.hid h
  have hfi : ((f : Int) != 0) = true := by rw [bne_iff_ne]; omega
  clear hN hn h hf
  go_enter Try.func51, Try.ntmps51
  go_wp2_with (first | (go_at_call 65; refine (HN.out _).mono ?_; rintro e w2 ⟨rfl, rfl⟩) | go_in)
  go_ret
  exact ⟨rfl, Blk.alloc (Blk.alloc (Blk.set_ HB.out 1 (.int .i64 (f : Int))) _) _, (((Mod.refl r w).set 1 _).alloc _).alloc _⟩
end Go.Proofs.Ythnoegipadnmeaa
