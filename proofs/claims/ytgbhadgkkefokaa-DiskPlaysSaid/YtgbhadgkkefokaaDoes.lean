/- Contracts: a step, of a disk; of none. -/
import Derived.Test.YtgbhadgkkefokaaCrashW
import Derived.Test.YtgbhadgkkefokaaSpoil
import Derived.Test.YtgbhadgkkefokaaSteps
namespace Go.Proofs.Ytgbhadgkkefokaa
open Go.RowKit

def Stp.k (x : Stp) : Nat := x.d % 8
/-- What a step leaves, and its error. -/
def DS.stepK (d : DS) (k : Nat) (f n m : Int) (s : ByteArray) (by_ : Nat) : DS × Int :=
  match k with
  | 0 => d.write f s
  | 1 => d.cutF f n
  | 2 => d.sync
  | 3 => (d.fused n, 0)
  | 4 => (d.crash n m, 0)
  | 5 => d.spoil f n by_
  | 6 => (d, (d.read f).2)
  | _ => (d, 0)
def DS.step (d : DS) (x : Stp) : DS × Int := d.stepK x.k x.f x.n x.m x.s x.by_
theorem Stp.k_lt (x : Stp) : x.k < 8 := Nat.mod_lt _ (by decide)
theorem Blk.six {w : World} {g : Nat} {T : TypeId} {x : Stp} (h : Blk w g T x.cells) :
    w.cell? ⟨g, 0, none⟩ = some (.int .u8 (x.d : Int)) ∧ w.cell? ⟨g, 1, none⟩ = some (.int .i64 x.f) ∧ w.cell? ⟨g, 2, none⟩ = some (.int .i64 x.n) ∧ w.cell? ⟨g, 3, none⟩ = some (.int .i64 x.m) ∧ w.cell? ⟨g, 4, none⟩ = some (.string x.s) ∧ w.cell? ⟨g, 5, none⟩ = some (.int .u8 (x.by_ : Int)) :=
  ⟨h.cell 0 _ rfl, h.cell 1 _ rfl, h.cell 2 _ rfl, h.cell 3 _ rfl, h.cell 4 _ rfl, h.cell 5 _ rfl⟩
set_option maxRecDepth 100000 in
set_option maxHeartbeats 4000000 in
theorem Does_any (w : World) (b : Nat) (κ : Foot) (d : DS) (h : IsD w b κ d) (x : Stp) (hx : x.Ok) (hs : x.s.size ≤ 1048576) (hL : d.L.length ≤ 1000000) :
    Calls Try.prog 15 #[.pointer (some ⟨b, 0, none⟩), .agg #[.int .u8 (x.d : Int), .int .i64 x.f, .int .i64 x.n, .int .i64 x.m, .string x.s, .int .u8 (x.by_ : Int)]] w fun e w' => e = .returned (.int .i64 (d.step x).2) ∧ Post w b κ w' (d.step x).1 := by
  have hb0 : Blk (w.alloc (.cells #[.int .u8 (x.d : Int), .int .i64 x.f, .int .i64 x.n, .int .i64 x.m, .string x.s, .int .u8 (x.by_ : Int)] 32)) w.heap.size 32 x.cells := Blk.new w x.cells _
  obtain ⟨a0, a1, a2, a3, a4, a5⟩ := hb0.six
  have HD := Lib.hid (h.alloc (.cells #[.int .u8 (x.d : Int), .int .i64 x.f, .int .i64 x.n, .int .i64 x.m, .string x.s, .int .u8 (x.by_ : Int)] 32))
  have HF : Hid (Fr κ (2 ≤ ·) w (w.alloc (.cells #[.int .u8 (x.d : Int), .int .i64 x.f, .int .i64 x.n, .int .i64 x.m, .string x.s, .int .u8 (x.by_ : Int)] 32)) κ) := Lib.hid ((Fr.refl κ _ w).alloc _)
  have hn := hx.n.2
  have hby := hx.by_
  have hd := hx.d
  obtain ⟨k, hk⟩ : ∃ k, x.k = k := ⟨_, rfl⟩
  have hk8 : k < 8 := by rw [← hk]; exact x.k_lt
  have hstep : d.step x = d.stepK k x.f x.n x.m x.s x.by_ := by rw [← hk]; rfl
  rw [hstep]
  have hq : (x.d : Int) % 8 = (k : Int) := by rw [← hk]; unfold Stp.k; omega
  have hq2 : (x.d : Int).tmod 8 = (k : Int) := by rw [Int.tmod_eq_emod_of_nonneg (by omega)]; exact hq
  clear hb0 h hk hstep hx hd
  generalize x.f = xf at *
  generalize x.n = xn at *
  generalize x.m = xm at *
  generalize x.s = xs at *
  generalize x.by_ = xb at *
  generalize x.d = xd at *
  rcases (show k = 0 ∨ k = 1 ∨ k = 2 ∨ k = 3 ∨ k = 4 ∨ k = 5 ∨ k = 6 ∨ k = 7 by omega) with rfl | rfl | rfl | rfl | rfl | rfl | rfl | rfl
  · replace hq : (xd : Int) % 8 = 0 := hq
    replace hq2 : (xd : Int).tmod 8 = 0 := hq2
    go_enter Try.func15, Try.ntmps15
    go_wp2_with (go_at_call 17; refine (Write_any _ b κ d HD.out _ _ hs hL).mono ?_; rintro e w1 ⟨rfl, hp⟩; have HP := Lib.hid hp; clear hp)
    go_ret
    exact ⟨rfl, Post.trans HF.out HP.out⟩
  · replace hq : (xd : Int) % 8 = 1 := hq
    replace hq2 : (xd : Int).tmod 8 = 1 := hq2
    go_enter Try.func15, Try.ntmps15
    go_wp2_with (go_at_call 31; refine (Cut_any _ b κ d HD.out _ _ hL).mono ?_; rintro e w1 ⟨rfl, hp⟩; have HP := Lib.hid hp; clear hp)
    go_ret
    exact ⟨rfl, Post.trans HF.out HP.out⟩
  · replace hq : (xd : Int) % 8 = 2 := hq
    replace hq2 : (xd : Int).tmod 8 = 2 := hq2
    go_enter Try.func15, Try.ntmps15
    go_wp2_with (go_at_call 21; refine (Sync_any _ b κ d HD.out).mono ?_; rintro e w1 ⟨rfl, hp⟩; have HP := Lib.hid hp; clear hp)
    go_ret
    exact ⟨rfl, Post.trans HF.out HP.out⟩
  · replace hq : (xd : Int) % 8 = 3 := hq
    replace hq2 : (xd : Int).tmod 8 = 3 := hq2
    go_enter Try.func15, Try.ntmps15
    go_wp2_with (go_at_call 32; refine (Fuse_any _ b κ d HD.out _ hn).mono ?_; rintro e w1 ⟨rfl, hp⟩; have HP := Lib.hid hp; clear hp)
    go_ret
    exact ⟨rfl, Post.trans HF.out HP.out⟩
  · replace hq : (xd : Int) % 8 = 4 := hq
    replace hq2 : (xd : Int).tmod 8 = 4 := hq2
    go_enter Try.func15, Try.ntmps15
    go_wp2_with (go_at_call 18; refine (Crash_any _ b κ d HD.out _ _ hL).mono ?_; rintro e w1 ⟨rfl, hp⟩; have HP := Lib.hid hp; clear hp)
    go_ret
    exact ⟨rfl, Post.trans HF.out HP.out⟩
  · replace hq : (xd : Int) % 8 = 5 := hq
    replace hq2 : (xd : Int).tmod 8 = 5 := hq2
    go_enter Try.func15, Try.ntmps15
    go_wp2_with (go_at_call 33; refine (Spoil_any _ b κ d HD.out _ _ _ hby).mono ?_; rintro e w1 ⟨rfl, hp⟩; have HP := Lib.hid hp; clear hp)
    go_ret
    exact ⟨rfl, Post.trans HF.out HP.out⟩
  · replace hq : (xd : Int) % 8 = 6 := hq
    replace hq2 : (xd : Int).tmod 8 = 6 := hq2
    go_enter Try.func15, Try.ntmps15
    go_wp2_with (go_at_call 23; refine (Read_any _ b κ d HD.out _).mono ?_; rintro e w1 ⟨rfl, rfl⟩)
    go_ret
    exact ⟨rfl, κ, HD.out, HF.out⟩
  · replace hq : (xd : Int) % 8 = 7 := hq
    replace hq2 : (xd : Int).tmod 8 = 7 := hq2
    go_enter Try.func15, Try.ntmps15
    go_wp2
    go_ret
    exact ⟨rfl, κ, HD.out, HF.out⟩
set_option maxRecDepth 100000 in
set_option maxHeartbeats 4000000 in
theorem Does_nil (w : World) (x : Stp) (h7 : x.k ≠ 7) :
    Calls Try.prog 15 #[.pointer none, .agg #[.int .u8 (x.d : Int), .int .i64 x.f, .int .i64 x.n, .int .i64 x.m, .string x.s, .int .u8 (x.by_ : Int)]] w fun e w' => e = .returned (.int .i64 1) ∧ Ext w w' := by
  have hb0 : Blk (w.alloc (.cells #[.int .u8 (x.d : Int), .int .i64 x.f, .int .i64 x.n, .int .i64 x.m, .string x.s, .int .u8 (x.by_ : Int)] 32)) w.heap.size 32 x.cells := Blk.new w x.cells _
  obtain ⟨a0, a1, a2, a3, a4, a5⟩ := hb0.six
  have HX : Hid (Ext w (w.alloc (.cells #[.int .u8 (x.d : Int), .int .i64 x.f, .int .i64 x.n, .int .i64 x.m, .string x.s, .int .u8 (x.by_ : Int)] 32))) := Lib.hid ((Ext.refl w).alloc _)
  obtain ⟨k, hk⟩ : ∃ k, x.k = k := ⟨_, rfl⟩
  have hk8 : k < 8 := by rw [← hk]; exact x.k_lt
  have hk7 : k ≠ 7 := by rw [← hk]; exact h7
  have hq : (x.d : Int) % 8 = (k : Int) := by rw [← hk]; unfold Stp.k; omega
  have hq2 : (x.d : Int).tmod 8 = (k : Int) := by rw [Int.tmod_eq_emod_of_nonneg (by omega)]; exact hq
  clear hb0 hk h7
  generalize x.f = xf at *
  generalize x.n = xn at *
  generalize x.m = xm at *
  generalize x.s = xs at *
  generalize x.by_ = xb at *
  generalize x.d = xd at *
  rcases (show k = 0 ∨ k = 1 ∨ k = 2 ∨ k = 3 ∨ k = 4 ∨ k = 5 ∨ k = 6 by omega) with rfl | rfl | rfl | rfl | rfl | rfl | rfl
  · replace hq : (xd : Int) % 8 = 0 := hq
    replace hq2 : (xd : Int).tmod 8 = 0 := hq2
    go_enter Try.func15, Try.ntmps15
    go_wp2_with (go_at_call 17; refine (Write_nil _ _ _).mono ?_; rintro e w1 ⟨rfl, rfl⟩)
    go_ret
    exact ⟨rfl, HX.out⟩
  · replace hq : (xd : Int) % 8 = 1 := hq
    replace hq2 : (xd : Int).tmod 8 = 1 := hq2
    go_enter Try.func15, Try.ntmps15
    go_wp2_with (go_at_call 31; refine (Cut_nil _ _ _).mono ?_; rintro e w1 ⟨rfl, rfl⟩)
    go_ret
    exact ⟨rfl, HX.out⟩
  · replace hq : (xd : Int) % 8 = 2 := hq
    replace hq2 : (xd : Int).tmod 8 = 2 := hq2
    go_enter Try.func15, Try.ntmps15
    go_wp2_with (go_at_call 21; refine (Sync_nil _).mono ?_; rintro e w1 ⟨rfl, rfl⟩)
    go_ret
    exact ⟨rfl, HX.out⟩
  · replace hq : (xd : Int) % 8 = 3 := hq
    replace hq2 : (xd : Int).tmod 8 = 3 := hq2
    go_enter Try.func15, Try.ntmps15
    go_wp2_with (go_at_call 32; refine (Fuse_nil _ _).mono ?_; rintro e w1 ⟨rfl, rfl⟩)
    go_ret
    exact ⟨rfl, HX.out⟩
  · replace hq : (xd : Int) % 8 = 4 := hq
    replace hq2 : (xd : Int).tmod 8 = 4 := hq2
    go_enter Try.func15, Try.ntmps15
    go_wp2_with (go_at_call 18; refine (Crash_nil _ _ _).mono ?_; rintro e w1 ⟨rfl, rfl⟩)
    go_ret
    exact ⟨rfl, HX.out⟩
  · replace hq : (xd : Int) % 8 = 5 := hq
    replace hq2 : (xd : Int).tmod 8 = 5 := hq2
    go_enter Try.func15, Try.ntmps15
    go_wp2_with (go_at_call 33; refine (Spoil_nil _ _ _ _).mono ?_; rintro e w1 ⟨rfl, rfl⟩)
    go_ret
    exact ⟨rfl, HX.out⟩
  · replace hq : (xd : Int) % 8 = 6 := hq
    replace hq2 : (xd : Int).tmod 8 = 6 := hq2
    go_enter Try.func15, Try.ntmps15
    go_wp2_with (go_at_call 23; refine (Read_nil _ _).mono ?_; rintro e w1 ⟨rfl, rfl⟩)
    go_ret
    exact ⟨rfl, HX.out⟩
end Go.Proofs.Ytgbhadgkkefokaa
