/- Contracts: whether a disk is there, whether it has a file, whether it goes; how many files, what room, what is loose. -/
import Derived.Test.YtgbhadgkkefokaaDisk
import Derived.Outline
namespace Go.Proofs.Ytgbhadgkkefokaa
open Go.RowKit

theorem run_max2 (ts : Array TypeId) (t : TypeId) (a b n : Int) (hn : n = max a b) (u : World) : (Builtin.max_ ts t #[.int .i64 a, .int .i64 b]).run Try.prog u = .ok (.int .i64 n) u := by
  simp [Builtin.max_, Builtin.max2]
  omega
theorem run_min2 (ts : Array TypeId) (t : TypeId) (a b n : Int) (hn : n = min a b) (u : World) : (Builtin.min_ ts t #[.int .i64 a, .int .i64 b]).run Try.prog u = .ok (.int .i64 n) u := by
  simp [Builtin.min_, Builtin.min2]
  omega
theorem there_nil (w : World) : Calls Try.prog 34 #[.pointer none] w fun e w' => e = .returned (.bool false) ∧ w = w' := by
  go_enter Try.func34, Try.ntmps34
  go_wp2
  go_ret
  exact ⟨rfl, rfl⟩
theorem there_yes (w : World) (b : Nat) (m : Nat) (hm : 1 ≤ m) (c0 : w.cell? ⟨b, 0, none⟩ = some (.int .i64 (m : Int))) : Calls Try.prog 34 #[.pointer (some ⟨b, 0, none⟩)] w fun e w' => e = .returned (.bool true) ∧ w = w' := by
  have hm' : (0 : Int) < (m : Int) := by omega
  have hm2 : 0 < m := by omega
  go_enter Try.func34, Try.ntmps34
  go_wp2
  go_ret
  exact ⟨rfl, rfl⟩
theorem has_any (w : World) (b : Nat) (m : Nat) (c0 : w.cell? ⟨b, 0, none⟩ = some (.int .i64 (m : Int))) (f : Int) : Calls Try.prog 38 #[.pointer (some ⟨b, 0, none⟩), .int .i64 f] w fun e w' => e = .returned (.bool (decide (0 ≤ f ∧ f < (m : Int)))) ∧ w = w' := by
  by_cases h0 : 0 ≤ f
  · by_cases h1 : f < (m : Int)
    · rw [decide_eq_true ⟨h0, h1⟩]
      go_enter Try.func38, Try.ntmps38
      go_wp2
      go_ret
      exact ⟨rfl, rfl⟩
    · rw [decide_eq_false (fun h => h1 h.2)]
      go_enter Try.func38, Try.ntmps38
      go_wp2
      go_ret
      exact ⟨rfl, rfl⟩
  · rw [decide_eq_false (fun h => h0 h.1)]
    go_enter Try.func38, Try.ntmps38
    go_wp2
    go_ret
    exact ⟨rfl, rfl⟩
theorem goes_nil (w : World) : Calls Try.prog 42 #[.pointer none] w fun e w' => e = .returned (.int .i64 1) ∧ w = w' := by
  go_enter Try.func42, Try.ntmps42
  go_wp2_with (go_at_call 34; refine (there_nil _).mono ?_; rintro e w1 ⟨rfl, rfl⟩)
  go_ret
  exact ⟨rfl, rfl⟩
section
variable (w : World) (b : Nat) (κ : Foot) (d : DS) (h : IsD w b κ d)
theorem IsD.cells {w : World} {b : Nat} {κ : Foot} {d : DS} (h : IsD w b κ d) : w.cell? ⟨b, 0, none⟩ = some (.int .i64 (d.m : Int)) ∧ w.cell? ⟨b, 1, none⟩ = some (.int .i64 (d.room : Int)) ∧ w.cell? ⟨b, 2, none⟩ = some (.int .i64 d.fuse) ∧ w.frozen? ⟨b, 2, none⟩ = false ∧ ∃ lp lc, w.cell? ⟨b, 35, none⟩ = some (.slice lp d.L.length lc) := by
  obtain ⟨pn, qs, cn, ks, lp, lc, h1, h2⟩ := h.lay
  obtain ⟨c0, c1, c2, c3⟩ := h1.cells
  exact ⟨c0, c1, c2, h1.blk.frozen 2, lp, lc, c3⟩
include h
theorem goes_any : Calls Try.prog 42 #[.pointer (some ⟨b, 0, none⟩)] w fun e w' => e = .returned (.int .i64 (if d.fuse = 0 then 90 else 0)) ∧ w = w' := by
  obtain ⟨c0, c1, c2, f2, lp, lc, c3⟩ := h.cells
  have HT := Lib.hid (there_yes w b d.m h.ok.m1 c0)
  clear h
  by_cases hf : d.fuse = 0
  · rw [if_pos hf]
    rw [hf] at c2
    go_enter Try.func42, Try.ntmps42
    go_wp2_with (go_at_call 34; refine (HT.out).mono ?_; rintro e w1 ⟨rfl, rfl⟩)
    go_ret
    exact ⟨rfl, rfl⟩
  · rw [if_neg hf]
    have hf2 : (d.fuse == 0) = false := by simpa using hf
    generalize d.fuse = q at *
    go_enter Try.func42, Try.ntmps42
    go_wp2_with (go_at_call 34; refine (HT.out).mono ?_; rintro e w1 ⟨rfl, rfl⟩)
    go_ret
    exact ⟨rfl, rfl⟩
theorem burn_any : Calls Try.prog 37 #[.pointer (some ⟨b, 0, none⟩)] w fun e w' => e = .returned (.int .i64 (if d.fuse = 0 then 90 else 0)) ∧ Post w b κ w' (if d.fuse = 0 then d else d.burnt) := by
  obtain ⟨c0, c1, c2, f2, lp, lc, c3⟩ := h.cells
  have HG := Lib.hid (goes_any w b κ d h)
  have HD := Lib.hid h
  have HS := Lib.hid (fun x a c => h.setFuse x a c)
  have hlo := h.ok.fuse0
  have hhi := h.ok.fuse1
  clear h
  by_cases hf : d.fuse = 0
  · rw [if_pos hf] at HG ⊢
    rw [if_pos hf]
    go_enter Try.func37, Try.ntmps37
    go_wp2_with (go_at_call 42; refine (HG.out).mono ?_; rintro e w1 ⟨rfl, rfl⟩)
    go_ret
    exact ⟨rfl, κ, HD.out, Fr.refl _ _ _⟩
  · rw [if_neg hf] at HG ⊢
    rw [if_neg hf]
    by_cases hn : d.fuse = -1
    · have e : d.burnt = d := by unfold DS.burnt; rw [if_neg (by omega)]
      rw [e]
      rw [hn] at c2
      go_enter Try.func37, Try.ntmps37
      go_wp2_with (go_at_call 42; refine (HG.out).mono ?_; rintro e w1 ⟨rfl, rfl⟩)
      go_ret
      exact ⟨rfl, κ, HD.out, Fr.refl _ _ _⟩
    · have e : d.burnt = { d with fuse := d.fuse - 1 } := by unfold DS.burnt; rw [if_pos (by omega)]
      rw [e]
      have HS1 := Lib.hid (HS.out (d.fuse - 1) (by omega) (by omega))
      have hq : (d.fuse != -1) = true := by simpa using hn
      have hw : IntKind.i64.wrap (d.fuse - 1) = d.fuse - 1 := IntWalk.i64_in _ ⟨by omega, by omega⟩
      clear hf hn hlo hhi
      generalize { d with fuse := d.fuse - 1 } = d1 at *
      generalize d.fuse = q at *
      go_enter Try.func37, Try.ntmps37
      go_wp2_with (go_at_call 42; refine (HG.out).mono ?_; rintro e w1 ⟨rfl, rfl⟩)
      go_ret
      exact ⟨rfl, HS1.out⟩
theorem Files_any : Calls Try.prog 25 #[.pointer (some ⟨b, 0, none⟩)] w fun e w' => e = .returned (.int .i64 (d.m : Int)) ∧ w = w' := by
  obtain ⟨c0, c1, c2, f2, lp, lc, c3⟩ := h.cells
  have HT := Lib.hid (there_yes w b d.m h.ok.m1 c0)
  clear h
  go_enter Try.func25, Try.ntmps25
  go_wp2_with (go_at_call 34; refine (HT.out).mono ?_; rintro e w1 ⟨rfl, rfl⟩)
  go_ret
  exact ⟨rfl, rfl⟩
theorem Loose_any : Calls Try.prog 22 #[.pointer (some ⟨b, 0, none⟩)] w fun e w' => e = .returned (.int .i64 (d.L.length : Int)) ∧ w = w' := by
  obtain ⟨c0, c1, c2, f2, lp, lc, c3⟩ := h.cells
  have HT := Lib.hid (there_yes w b d.m h.ok.m1 c0)
  clear h
  go_enter Try.func22, Try.ntmps22
  go_wp2_with (go_at_call 34; refine (HT.out).mono ?_; rintro e w1 ⟨rfl, rfl⟩)
  go_ret
  exact ⟨rfl, rfl⟩
theorem Fuse_any (n : Int) (hn : n ≤ 9223372036854775807) : Calls Try.prog 32 #[.pointer (some ⟨b, 0, none⟩), .int .i64 n] w fun e w' => e = .returned (.int .i64 0) ∧ Post w b κ w' (d.fused n) := by
  obtain ⟨c0, c1, c2, f2, lp, lc, c3⟩ := h.cells
  have HT := Lib.hid (there_yes w b d.m h.ok.m1 c0)
  have HS := Lib.hid (h.setFuse (max n (-1)) (by omega) (by omega))
  have hmx := fun ts t u => run_max2 ts t n (-1) _ rfl u
  clear h
  have e : d.fused n = { d with fuse := max n (-1) } := rfl
  rw [e]
  clear e
  generalize { d with fuse := max n (-1) } = d1 at *
  generalize max n (-1) = q at *
  go_enter Try.func32, Try.ntmps32
  go_wp2_with (go_at_call 34; refine (HT.out).mono ?_; rintro e w1 ⟨rfl, rfl⟩)
  go_ret
  exact ⟨rfl, HS.out⟩
end
theorem Files_nil (w : World) : Calls Try.prog 25 #[.pointer none] w fun e w' => e = .returned (.int .i64 0) ∧ w = w' := by
  go_enter Try.func25, Try.ntmps25
  go_wp2_with (go_at_call 34; refine (there_nil _).mono ?_; rintro e w1 ⟨rfl, rfl⟩)
  go_ret
  exact ⟨rfl, rfl⟩
theorem Room_nil (w : World) : Calls Try.prog 24 #[.pointer none] w fun e w' => e = .returned (.int .i64 0) ∧ w = w' := by
  go_enter Try.func24, Try.ntmps24
  go_wp2_with (go_at_call 34; refine (there_nil _).mono ?_; rintro e w1 ⟨rfl, rfl⟩)
  go_ret
  exact ⟨rfl, rfl⟩
theorem Loose_nil (w : World) : Calls Try.prog 22 #[.pointer none] w fun e w' => e = .returned (.int .i64 0) ∧ w = w' := by
  go_enter Try.func22, Try.ntmps22
  go_wp2_with (go_at_call 34; refine (there_nil _).mono ?_; rintro e w1 ⟨rfl, rfl⟩)
  go_ret
  exact ⟨rfl, rfl⟩
theorem Copy_nil (w : World) : Calls Try.prog 16 #[.pointer none] w fun e w' => e = .returned (.pointer none) ∧ w = w' := by
  go_enter Try.func16, Try.ntmps16
  go_wp2_with (go_at_call 34; refine (there_nil _).mono ?_; rintro e w1 ⟨rfl, rfl⟩)
  go_ret
  exact ⟨rfl, rfl⟩
theorem Fuse_nil (w : World) (n : Value) : Calls Try.prog 32 #[.pointer none, n] w fun e w' => e = .returned (.int .i64 1) ∧ w = w' := by
  go_enter Try.func32, Try.ntmps32
  go_wp2_with (go_at_call 34; refine (there_nil _).mono ?_; rintro e w1 ⟨rfl, rfl⟩)
  go_ret
  exact ⟨rfl, rfl⟩
theorem Crash_nil (w : World) (n k : Value) : Calls Try.prog 18 #[.pointer none, n, k] w fun e w' => e = .returned (.int .i64 1) ∧ w = w' := by
  go_enter Try.func18, Try.ntmps18
  go_wp2_with (go_at_call 34; refine (there_nil _).mono ?_; rintro e w1 ⟨rfl, rfl⟩)
  go_ret
  exact ⟨rfl, rfl⟩
theorem Spoil_nil (w : World) (f n k : Value) : Calls Try.prog 33 #[.pointer none, f, n, k] w fun e w' => e = .returned (.int .i64 1) ∧ w = w' := by
  go_enter Try.func33, Try.ntmps33
  go_wp2_with (go_at_call 34; refine (there_nil _).mono ?_; rintro e w1 ⟨rfl, rfl⟩)
  go_ret
  exact ⟨rfl, rfl⟩
theorem burn_nil (w : World) : Calls Try.prog 37 #[.pointer none] w fun e w' => e = .returned (.int .i64 1) ∧ w = w' := by
  go_enter Try.func37, Try.ntmps37
  go_wp2_with (go_at_call 42; refine (goes_nil _).mono ?_; rintro e w1 ⟨rfl, rfl⟩)
  go_ret
  exact ⟨rfl, rfl⟩
theorem Write_nil (w : World) (f s : Value) : Calls Try.prog 17 #[.pointer none, f, s] w fun e w' => e = .returned (.int .i64 1) ∧ w = w' := by
  go_enter Try.func17, Try.ntmps17
  go_wp2_with (go_at_call 37; refine (burn_nil _).mono ?_; rintro e w1 ⟨rfl, rfl⟩)
  go_ret
  exact ⟨rfl, rfl⟩
theorem Cut_nil (w : World) (f n : Value) : Calls Try.prog 31 #[.pointer none, f, n] w fun e w' => e = .returned (.int .i64 1) ∧ w = w' := by
  go_enter Try.func31, Try.ntmps31
  go_wp2_with (go_at_call 37; refine (burn_nil _).mono ?_; rintro e w1 ⟨rfl, rfl⟩)
  go_ret
  exact ⟨rfl, rfl⟩
theorem Sync_nil (w : World) : Calls Try.prog 21 #[.pointer none] w fun e w' => e = .returned (.int .i64 1) ∧ w = w' := by
  go_enter Try.func21, Try.ntmps21
  go_wp2_with (go_at_call 37; refine (burn_nil _).mono ?_; rintro e w1 ⟨rfl, rfl⟩)
  go_ret
  exact ⟨rfl, rfl⟩
theorem Read_nil (w : World) (f : Value) : Calls Try.prog 23 #[.pointer none, f] w fun e w' => e = .returned (.tuple #[.string ⟨#[]⟩, .int .i64 1]) ∧ w = w' := by
  go_enter Try.func23, Try.ntmps23
  go_wp2_with (go_at_call 42; refine (goes_nil _).mono ?_; rintro e w1 ⟨rfl, rfl⟩)
  go_ret2
  exact ⟨rfl, rfl⟩
end Go.Proofs.Ytgbhadgkkefokaa
