/- Contract: the answers that the document fixes. -/
import Derived.Test.YtgbhadgkkefokaaDiskEx
import Derived.Test.YtgbhadgkkefokaaCrashW
namespace Go.Proofs.Ytgbhadgkkefokaa
open Go.RowKit
theorem exB_is : (exA.write 0 ⟨#[120, 121]⟩).1 = exB := rfl
theorem exC_is : exB.sync.1 = exC := rfl
theorem exD_is : (exC.write 0 ⟨#[122]⟩).1 = exD := rfl
theorem exE_is : (exD.write 1 ⟨#[119]⟩).1 = exE := rfl
theorem exF_is : exE.crash 1 0 = exF := rfl
theorem exA_is : DS.new 2 100 = exA := rfl
attribute [local irreducible] exA exB exC exD exE exF
theorem al_new (w : World) : Calls Try.prog 6 #[.int .i64 2, .int .i64 100] w fun e w' => e = .returned (.tuple #[.pointer (some ⟨w.heap.size, 0, none⟩), .int .i64 0]) ∧ IsD w' w.heap.size (setK (fun _ => 0) w.heap.size 2) exA ∧ Ext w w' := by
  have := New_yes w 2 100 (by decide) (by decide) (by decide)
  rw [exA_is] at this
  exact this
section
variable (w : World) (b : Nat) (κ : Foot)
theorem al_w1 (h : IsD w b κ exA) : Calls Try.prog 17 #[.pointer (some ⟨b, 0, none⟩), .int .i64 0, .string ⟨#[120, 121]⟩] w fun e w' => e = .returned (.int .i64 0) ∧ Post w b κ w' exB := by
  have := Write_any w b κ exA h 0 ⟨#[120, 121]⟩ (by decide) (by rw [exL.1]; decide)
  rw [ex1, exB_is] at this
  exact this
theorem al_s (h : IsD w b κ exB) : Calls Try.prog 21 #[.pointer (some ⟨b, 0, none⟩)] w fun e w' => e = .returned (.int .i64 0) ∧ Post w b κ w' exC := by
  have := Sync_any w b κ exB h
  rw [ex2, exC_is] at this
  exact this
theorem al_w2 (h : IsD w b κ exC) : Calls Try.prog 17 #[.pointer (some ⟨b, 0, none⟩), .int .i64 0, .string ⟨#[122]⟩] w fun e w' => e = .returned (.int .i64 0) ∧ Post w b κ w' exD := by
  have := Write_any w b κ exC h 0 ⟨#[122]⟩ (by decide) (by rw [exL.2.2.1]; decide)
  rw [ex3, exD_is] at this
  exact this
theorem al_w3 (h : IsD w b κ exD) : Calls Try.prog 17 #[.pointer (some ⟨b, 0, none⟩), .int .i64 1, .string ⟨#[119]⟩] w fun e w' => e = .returned (.int .i64 0) ∧ Post w b κ w' exE := by
  have := Write_any w b κ exD h 1 ⟨#[119]⟩ (by decide) (by rw [exL.2.2.2]; decide)
  rw [ex4, exE_is] at this
  exact this
theorem al_l (h : IsD w b κ exE) : Calls Try.prog 22 #[.pointer (some ⟨b, 0, none⟩)] w fun e w' => e = .returned (.int .i64 2) ∧ w = w' := by
  have := Loose_any w b κ exE h
  rw [ex5] at this
  exact this
theorem al_c (h : IsD w b κ exE) : Calls Try.prog 18 #[.pointer (some ⟨b, 0, none⟩), .int .i64 1, .int .i64 0] w fun e w' => e = .returned (.int .i64 0) ∧ Post w b κ w' exF := by
  have := Crash_any w b κ exE h 1 0 (by rw [ex5]; decide)
  rw [exF_is] at this
  exact this
theorem al_r0 (h : IsD w b κ exF) : Calls Try.prog 23 #[.pointer (some ⟨b, 0, none⟩), .int .i64 0] w fun e w' => e = .returned (.tuple #[.string ⟨#[120, 121, 122]⟩, .int .i64 0]) ∧ w = w' := by
  have := Read_any w b κ exF h 0
  rw [ex6] at this
  exact this
theorem al_r1 (h : IsD w b κ exF) : Calls Try.prog 23 #[.pointer (some ⟨b, 0, none⟩), .int .i64 1] w fun e w' => e = .returned (.tuple #[.string ⟨#[]⟩, .int .i64 0]) ∧ w = w' := by
  have := Read_any w b κ exF h 1
  rw [ex7] at this
  exact this
theorem al_rm (h : IsD w b κ exF) : Calls Try.prog 24 #[.pointer (some ⟨b, 0, none⟩)] w fun e w' => e = .returned (.int .i64 97) ∧ w = w' := by
  have := Room_any w b κ exF h
  rw [ex8] at this
  exact this
theorem al_f (h : IsD w b κ exF) : Calls Try.prog 25 #[.pointer (some ⟨b, 0, none⟩)] w fun e w' => e = .returned (.int .i64 2) ∧ w = w' := by
  have := Files_any w b κ exF h
  rw [ex9] at this
  exact this
end
theorem al_no (w : World) : Calls Try.prog 6 #[.int .i64 0, .int .i64 1] w fun e w' => e = .returned (.tuple #[.pointer none, .int .i64 2]) ∧ w = w' := New_no w 0 1 (.inl (by decide))
/-- All of the object's blocks are younger than w. -/
theorem Fr.young {κ κ' : Foot} {w w1 w2 : World} (f : Fr κ (2 ≤ ·) w1 w2 κ') (x : Ext w w1) (h : ∀ g, g < w.heap.size → κ g = 0) : Ext w w2 ∧ ∀ g, g < w.heap.size → κ' g = 0 :=
  ⟨x.trans3 (f.below (by decide) h x.size), fun g hg => (f.foot g (Nat.lt_of_lt_of_le hg x.size)).trans (h g hg)⟩
theorem setK_young (n k : Nat) : ∀ g, g < n → setK (fun _ => 0) n k g = 0 := fun g hg => setK_other _ _ (by omega)
set_option maxRecDepth 100000 in
set_option maxHeartbeats 2000000 in
theorem disk_alive (w : World) : Calls Try.prog 5 #[] w fun e w' => e = .returned (.bool true) ∧ Ext w w' := by
  go_enter Try.func5, Try.ntmps5
  go_wp2_with (first
    | (go_at_call 6; (with_reducible refine (al_new _).mono ?_); rintro e w1 ⟨rfl, h1, x1⟩; have H1 := Lib.hid h1; have X1 := Lib.hid (And.intro x1 (setK_young w.heap.size 2)); clear h1 x1)
    | (go_at_call 17; (with_reducible refine (al_w1 _ _ _ H1.out).mono ?_); rintro e w2 ⟨rfl, κ2, h2, f2⟩; have H2 := Lib.hid h2; have X2 := Lib.hid (f2.young X1.out.1 X1.out.2); clear h2 f2)
    | (go_at_call 21; (with_reducible refine (al_s _ _ _ H2.out).mono ?_); rintro e w3 ⟨rfl, κ3, h3, f3⟩; have H3 := Lib.hid h3; have X3 := Lib.hid (f3.young X2.out.1 X2.out.2); clear h3 f3)
    | (go_at_call 17; (with_reducible refine (al_w2 _ _ _ H3.out).mono ?_); rintro e w4 ⟨rfl, κ4, h4, f4⟩; have H4 := Lib.hid h4; have X4 := Lib.hid (f4.young X3.out.1 X3.out.2); clear h4 f4)
    | (go_at_call 17; (with_reducible refine (al_w3 _ _ _ H4.out).mono ?_); rintro e w5 ⟨rfl, κ5, h5, f5⟩; have H5 := Lib.hid h5; have X5 := Lib.hid (f5.young X4.out.1 X4.out.2); clear h5 f5)
    | (go_at_call 22; (with_reducible refine (al_l _ _ _ H5.out).mono ?_); rintro e w6 ⟨rfl, rfl⟩)
    | (go_at_call 18; (with_reducible refine (al_c _ _ _ H5.out).mono ?_); rintro e w7 ⟨rfl, κ7, h7, f7⟩; have H7 := Lib.hid h7; have X7 := Lib.hid (f7.young X5.out.1 X5.out.2); clear h7 f7)
    | (go_at_call 23; (with_reducible refine (al_r0 _ _ _ H7.out).mono ?_); rintro e w8 ⟨rfl, rfl⟩)
    | (go_at_call 23; (with_reducible refine (al_r1 _ _ _ H7.out).mono ?_); rintro e w8 ⟨rfl, rfl⟩)
    | (go_at_call 6; (with_reducible refine (al_no _).mono ?_); rintro e w8 ⟨rfl, rfl⟩)
    | (go_at_call 24; (with_reducible refine (al_rm _ _ _ H7.out).mono ?_); rintro e w8 ⟨rfl, rfl⟩)
    | (go_at_call 25; (with_reducible refine (al_f _ _ _ H7.out).mono ?_); rintro e w8 ⟨rfl, rfl⟩))
  go_ret
  exact ⟨rfl, X7.out.1⟩
end Go.Proofs.Ytgbhadgkkefokaa
