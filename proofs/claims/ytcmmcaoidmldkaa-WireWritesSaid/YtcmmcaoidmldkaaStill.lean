/- Contracts: a reader whose fault stays, and one that is not there. -/
import Derived.Test.YtcmmcaoidmldkaaReader
import Derived.Outline
namespace Go.Proofs.Ytcmmcaoidmldkaa
open Go.RowKit

theorem makeFunc_run (fn : Fn) (first cap : Array Value) (w : World) : (Instr.makeFunc fn first cap).run Try.prog w = .ok (.func fn first cap) w := rfl

set_option maxRecDepth 100000 in
set_option maxHeartbeats 2000000 in
theorem Uint_still (w : World) (r : Nat) (s : ByteArray) (f : Nat) (h : IsR w r s f) (hf : ¬ f = 0) (m : Int) :
    Calls Try.prog 18 #[.pointer (some ⟨r, 0, none⟩), .int .u64 m] w fun e w' => e = .returned (.int .u64 0) ∧ Ext w w' := by
  have hmf := makeFunc_run
  obtain ⟨c0, c1, c2, f0, f1, f2⟩ := h.cells
  have hr := h.lt
  have hfi : ((f : Int) != 0) = true := by rw [bne_iff_ne]; omega
  clear h hf
  go_enter Try.func18, Try.ntmps18
  go_wp2_with (go_in)
  go_ret
  exact ⟨rfl, (((Ext.refl w).alloc _).alloc _)⟩
set_option maxRecDepth 100000 in
set_option maxHeartbeats 2000000 in
theorem Uint_nil (w : World) (m : Int) :
    Calls Try.prog 18 #[.pointer none, .int .u64 m] w fun e w' => e = .returned (.int .u64 0) ∧ Ext w w' := by
  have hmf := makeFunc_run
  go_enter Try.func18, Try.ntmps18
  go_wp2_with (go_in)
  go_ret
  exact ⟨rfl, (((Ext.refl w).alloc _).alloc _)⟩

set_option maxRecDepth 100000 in
set_option maxHeartbeats 2000000 in
theorem Int_still (w : World) (r : Nat) (s : ByteArray) (f : Nat) (h : IsR w r s f) (hf : ¬ f = 0) (lo hi : Int) :
    Calls Try.prog 21 #[.pointer (some ⟨r, 0, none⟩), .int .i64 lo, .int .i64 hi] w fun e w' => e = .returned (.int .i64 0) ∧ Ext w w' := by
  have hmf := makeFunc_run
  obtain ⟨c0, c1, c2, f0, f1, f2⟩ := h.cells
  have hr := h.lt
  have hfi : ((f : Int) != 0) = true := by rw [bne_iff_ne]; omega
  have h3 : IsR (((w.alloc (.cells #[.int .i64 lo] 2)).alloc (.cells #[.int .i64 hi] 2)).alloc (.cells #[.int .i64 0] 2)) r s f := Blk.alloc (Blk.alloc (Blk.alloc h _) _) _
  obtain ⟨e0, e1, e2, g0, g1, g2⟩ := h3.cells
  clear h3
  clear h hf
  go_enter Try.func21, Try.ntmps21
  go_wp2_with (go_in)
  go_ret
  exact ⟨rfl, ((((Ext.refl w).alloc _).alloc _).alloc _)⟩
set_option maxRecDepth 100000 in
set_option maxHeartbeats 2000000 in
theorem Int_nil (w : World) (lo hi : Int) :
    Calls Try.prog 21 #[.pointer none, .int .i64 lo, .int .i64 hi] w fun e w' => e = .returned (.int .i64 0) ∧ Ext w w' := by
  have hmf := makeFunc_run
  go_enter Try.func21, Try.ntmps21
  go_wp2_with (go_in)
  go_ret
  exact ⟨rfl, ((((Ext.refl w).alloc _).alloc _).alloc _)⟩

set_option maxRecDepth 100000 in
set_option maxHeartbeats 2000000 in
theorem Bool_still (w : World) (r : Nat) (s : ByteArray) (f : Nat) (h : IsR w r s f) (hf : ¬ f = 0)  :
    Calls Try.prog 22 #[.pointer (some ⟨r, 0, none⟩)] w fun e w' => e = .returned (.bool false) ∧ Ext w w' := by
  have hmf := makeFunc_run
  obtain ⟨c0, c1, c2, f0, f1, f2⟩ := h.cells
  have hr := h.lt
  have hfi : ((f : Int) != 0) = true := by rw [bne_iff_ne]; omega
  clear h hf
  go_enter Try.func22, Try.ntmps22
  go_wp2_with (go_in)
  go_ret
  exact ⟨rfl, ((Ext.refl w).alloc _)⟩
set_option maxRecDepth 100000 in
set_option maxHeartbeats 2000000 in
theorem Bool_nil (w : World)  :
    Calls Try.prog 22 #[.pointer none] w fun e w' => e = .returned (.bool false) ∧ Ext w w' := by
  have hmf := makeFunc_run
  go_enter Try.func22, Try.ntmps22
  go_wp2_with (go_in)
  go_ret
  exact ⟨rfl, ((Ext.refl w).alloc _)⟩

set_option maxRecDepth 100000 in
set_option maxHeartbeats 2000000 in
theorem Text_still (w : World) (r : Nat) (s : ByteArray) (f : Nat) (h : IsR w r s f) (hf : ¬ f = 0) (m : Int) :
    Calls Try.prog 23 #[.pointer (some ⟨r, 0, none⟩), .int .i64 m] w fun e w' => e = .returned (.string ⟨#[]⟩) ∧ Ext w w' := by
  have hmf := makeFunc_run
  obtain ⟨c0, c1, c2, f0, f1, f2⟩ := h.cells
  have hr := h.lt
  have hfi : ((f : Int) != 0) = true := by rw [bne_iff_ne]; omega
  clear h hf
  go_enter Try.func23, Try.ntmps23
  go_wp2_with (go_in)
  go_ret
  exact ⟨rfl, (((Ext.refl w).alloc _).alloc _)⟩
set_option maxRecDepth 100000 in
set_option maxHeartbeats 2000000 in
theorem Text_nil (w : World) (m : Int) :
    Calls Try.prog 23 #[.pointer none, .int .i64 m] w fun e w' => e = .returned (.string ⟨#[]⟩) ∧ Ext w w' := by
  have hmf := makeFunc_run
  go_enter Try.func23, Try.ntmps23
  go_wp2_with (go_in)
  go_ret
  exact ⟨rfl, (((Ext.refl w).alloc _).alloc _)⟩

set_option maxRecDepth 100000 in
set_option maxHeartbeats 2000000 in
theorem Count_still (w : World) (r : Nat) (s : ByteArray) (f : Nat) (h : IsR w r s f) (hf : ¬ f = 0) (m : Int) :
    Calls Try.prog 28 #[.pointer (some ⟨r, 0, none⟩), .int .i64 m] w fun e w' => e = .returned (.int .i64 0) ∧ Ext w w' := by
  have hmf := makeFunc_run
  obtain ⟨c0, c1, c2, f0, f1, f2⟩ := h.cells
  have hr := h.lt
  have hfi : ((f : Int) != 0) = true := by rw [bne_iff_ne]; omega
  clear h hf
  go_enter Try.func28, Try.ntmps28
  go_wp2_with (go_in)
  go_ret
  exact ⟨rfl, (((Ext.refl w).alloc _).alloc _)⟩
set_option maxRecDepth 100000 in
set_option maxHeartbeats 2000000 in
theorem Count_nil (w : World) (m : Int) :
    Calls Try.prog 28 #[.pointer none, .int .i64 m] w fun e w' => e = .returned (.int .i64 0) ∧ Ext w w' := by
  have hmf := makeFunc_run
  go_enter Try.func28, Try.ntmps28
  go_wp2_with (go_in)
  go_ret
  exact ⟨rfl, (((Ext.refl w).alloc _).alloc _)⟩

set_option maxRecDepth 100000 in
set_option maxHeartbeats 2000000 in
theorem List_still (w : World) (r : Nat) (s : ByteArray) (f : Nat) (h : IsR w r s f) (hf : ¬ f = 0) (m each : Int) :
    Calls Try.prog 20 #[.pointer (some ⟨r, 0, none⟩), .int .i64 m, .int .i64 each] w fun e w' => e = .returned (.slice none 0 0) ∧ Ext w w' := by
  have HC := Lib.hid (Count_still w r s f h hf m)
  clear h hf
  go_enter Try.func20, Try.ntmps20
  go_wp2_with (go_at_call 28; refine (HC.out).mono ?_; rintro e w1 ⟨rfl, x1⟩)
  go_loopw [7, 11] (fun v i wr => v = .slice none 0 0 ∧ i = .int .i64 0 ∧ Ext w wr) (fun _ _ _ => 0)
  case atStart => exact ⟨rfl, rfl, x1⟩
  case round =>
    obtain ⟨rfl, rfl, hx⟩ := hrel
    go_wp2
    go_ret
    exact ⟨rfl, hx⟩

set_option maxRecDepth 100000 in
set_option maxHeartbeats 2000000 in
theorem List_nil (w : World) (m each : Int) :
    Calls Try.prog 20 #[.pointer none, .int .i64 m, .int .i64 each] w fun e w' => e = .returned (.slice none 0 0) ∧ Ext w w' := by
  have HC := Lib.hid (Count_nil w m)
  go_enter Try.func20, Try.ntmps20
  go_wp2_with (go_at_call 28; refine (HC.out).mono ?_; rintro e w1 ⟨rfl, x1⟩)
  go_loopw [7, 11] (fun v i wr => v = .slice none 0 0 ∧ i = .int .i64 0 ∧ Ext w wr) (fun _ _ _ => 0)
  case atStart => exact ⟨rfl, rfl, x1⟩
  case round =>
    obtain ⟨rfl, rfl, hx⟩ := hrel
    go_wp2
    go_ret
    exact ⟨rfl, hx⟩

theorem End_still (w : World) (r : Nat) (s : ByteArray) (f : Nat) (h : IsR w r s f) (hf : ¬ f = 0) :
    Calls Try.prog 26 #[.pointer (some ⟨r, 0, none⟩)] w fun e w' => e = .returned (.int .i64 (f : Int)) ∧ w = w' := by
  obtain ⟨c0, c1, c2, f0, f1, f2⟩ := h.cells
  have hfi : ((f : Int) != 0) = true := by rw [bne_iff_ne]; omega
  have HE := Lib.hid (Err_any w r s f h)
  clear h hf
  go_enter Try.func26, Try.ntmps26
  go_wp2_with (first | (go_at_call 24; refine (HE.out).mono ?_; rintro e w1 ⟨rfl, rfl⟩) | go_in)
  go_ret
  exact ⟨rfl, rfl⟩
theorem End_nil (w : World) :
    Calls Try.prog 26 #[.pointer none] w fun e w' => e = .returned (.int .i64 1) ∧ w = w' := by
  have HE := Lib.hid (Err_nil w)
  go_enter Try.func26, Try.ntmps26
  go_wp2_with (first | (go_at_call 24; refine (HE.out).mono ?_; rintro e w1 ⟨rfl, rfl⟩) | go_in)
  go_ret
  exact ⟨rfl, rfl⟩
theorem End_ok (w : World) (r : Nat) (h : IsR w r ⟨#[]⟩ 0) :
    Calls Try.prog 26 #[.pointer (some ⟨r, 0, none⟩)] w fun e w' => e = .returned (.int .i64 0) ∧ Mod r w w' := by
  obtain ⟨c0, c1, c2, f0, f1, f2⟩ := h.cells
  have hr := h.lt
  have hsl := slice_rest ⟨#[]⟩ 0 (by decide)
  have HE := Lib.hid (fun u (hu : IsR u r ⟨#[]⟩ 0) => Err_any u r ⟨#[]⟩ 0 hu)
  have HS := Lib.hid (Blk.set_ h 0 (.string ⟨#[]⟩))
  clear h
  go_enter Try.func26, Try.ntmps26
  go_wp2_with (first | (go_at_call 24; refine (HE.out _ HS.out).mono ?_; rintro e w1 ⟨rfl, rfl⟩) | go_in)
  go_ret
  exact ⟨rfl, (Mod.refl r w).set 0 _⟩
end Go.Proofs.Ytcmmcaoidmldkaa