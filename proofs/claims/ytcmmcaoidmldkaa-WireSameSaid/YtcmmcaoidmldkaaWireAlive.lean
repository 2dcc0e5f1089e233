/- Contract: some answers that the document fixes for layer 8. -/
import Derived.Test.YtcmmcaoidmldkaaBytesOf
import Derived.Test.YtcmmcaoidmldkaaTakes
import Derived.Outline
namespace Go.Proofs.Ytcmmcaoidmldkaa
open Go.RowKit

theorem alive_uints (u : World) : Calls Try.prog 12 #[.slice (some ⟨u.heap.size, 0, none⟩) 4 4] (u.alloc (.cells #[.int .u64 0, .int .u64 127, .int .u64 128, .int .u64 300] 29)) fun e w' => e = .returned (.string ⟨#[0, 127, 128, 1, 172, 2]⟩) ∧ Ext u w' := by
  have hb := Blk.new u [.int .u64 0, .int .u64 127, .int .u64 128, .int .u64 300] 29
  have h := Uints_any _ (some ⟨u.heap.size, 0, none⟩) 4 4 [0, 127, 128, 300] rfl (Blk.vals (l := vU [0, 127, 128, 300]) hb) (by decide) (by decide) (by decide)
  have e : ([0, 127, 128, 300] : List Nat).flatMap wn = [0, 127, 128, 1, 172, 2] := by decide
  rw [e] at h
  exact h.mono fun e w' ⟨h1, h2⟩ => ⟨h1, ((Ext.refl u).alloc _).trans h2⟩
theorem alive_ints (u : World) : Calls Try.prog 13 #[.slice (some ⟨u.heap.size, 0, none⟩) 1 1] (u.alloc (.cells #[.int .i64 (-3)] 2)) fun e w' => e = .returned (.string ⟨#[5]⟩) ∧ Ext u w' := by
  have hb := Blk.new u [.int .i64 (-3)] 2
  have h := Ints_any _ (some ⟨u.heap.size, 0, none⟩) 1 1 [-3] rfl (Blk.vals (l := vI [-3]) hb) (by decide) (by decide) (by decide)
  have e : ([-3] : List Int).flatMap (fun n => wn (zig n)) = [5] := by decide
  rw [e] at h
  exact h.mono fun e w' ⟨h1, h2⟩ => ⟨h1, ((Ext.refl u).alloc _).trans h2⟩
theorem alive_list (u : World) : Calls Try.prog 16 #[.slice (some ⟨u.heap.size, 0, none⟩) 2 2] (u.alloc (.cells #[.string ⟨#[97]⟩, .string ⟨#[98, 99]⟩] 9)) fun e w' => e = .returned (.string ⟨#[2, 1, 97, 2, 98, 99]⟩) ∧ Ext u w' := by
  have hb := Blk.new u [.string ⟨#[97]⟩, .string ⟨#[98, 99]⟩] 9
  have h := List_any _ (some ⟨u.heap.size, 0, none⟩) 2 2 [⟨#[97]⟩, ⟨#[98, 99]⟩] rfl (Blk.vals (l := vS [⟨#[97]⟩, ⟨#[98, 99]⟩]) hb) (by decide) (by decide) (by decide)
  have e : wl [⟨#[97]⟩, ⟨#[98, 99]⟩] = [2, 1, 97, 2, 98, 99] := by decide
  rw [e] at h
  exact h.mono fun e w' ⟨h1, h2⟩ => ⟨h1, ((Ext.refl u).alloc _).trans h2⟩
theorem alive_bools (u : World) : Calls Try.prog 15 #[.slice (some ⟨u.heap.size, 0, none⟩) 2 2] (u.alloc (.cells #[.bool true, .bool false] 4)) fun e w' => e = .returned (.string ⟨#[1, 0]⟩) ∧ Ext u w' := by
  have hb := Blk.new u [.bool true, .bool false] 4
  have h := Bools_any _ (some ⟨u.heap.size, 0, none⟩) 2 2 [true, false] rfl (Blk.vals (l := vB [true, false]) hb) (by simp) (by decide) (by decide)
  have e : ([true, false] : List Bool).flatMap wb = [1, 0] := by decide
  rw [e] at h
  exact h.mono fun e w' ⟨h1, h2⟩ => ⟨h1, ((Ext.refl u).alloc _).trans h2⟩
theorem bad_front : numR (⟨#[128, 0]⟩ : ByteArray).data.toList = (0, 0, 7) := by decide
attribute [local irreducible] wnF numG
set_option maxRecDepth 100000 in
set_option maxHeartbeats 2000000 in
theorem wire_alive (w : World) : Calls Try.prog 8 #[] w fun e w' => e = .returned (.bool true) ∧ Ext w w' := by
  have HU : Hid (∀ (u : World) (r : Nat), IsR u r ⟨#[128, 0]⟩ 0 → Calls Try.prog 18 #[.pointer (some ⟨r, 0, none⟩), .int .u64 9] u fun e w' => e = .returned (.int .u64 0) ∧ IsR w' r ⟨#[128, 0]⟩ 7 ∧ Mod r u w') := Lib.hid (fun u r h => Uint_bad u r ⟨#[128, 0]⟩ h (by decide) 9 7 (bad_front) (by decide))
  go_enter Try.func8, Try.ntmps8
  go_wp2_with (first
    | (go_at_call 17; refine (New_any _ _).mono ?_; rintro e w1 ⟨rfl, hr1, x1⟩; have HR1 := Lib.hid hr1; have X1 := Lib.hid x1; clear hr1 x1)
    | (go_at_call 18; refine (HU.out _ _ HR1.out).mono ?_; rintro e w2 ⟨rfl, hr2, x2⟩; have HR2 := Lib.hid hr2; have X2 := Lib.hid (X1.out.moded x2 (Nat.le_refl _)); clear hr2 x2)
    | (go_at_call 12; refine (alive_uints _).mono ?_; rintro e w3 ⟨rfl, x3⟩; have X3 := Lib.hid x3; clear x3)
    | (go_at_call 13; refine (alive_ints _).mono ?_; rintro e w4 ⟨rfl, x4⟩; have X4 := Lib.hid (X3.out.trans x4); clear x4)
    | (go_at_call 16; refine (alive_list _).mono ?_; rintro e w5 ⟨rfl, x5⟩; have X5 := Lib.hid (X4.out.trans x5); clear x5)
    | (go_at_call 15; refine (alive_bools _).mono ?_; rintro e w6 ⟨rfl, x6⟩; have X6 := Lib.hid (X5.out.trans x6); clear x6)
    | (go_at_call 24; refine (Err_any _ _ _ 7 (HR2.out.ext X6.out)).mono ?_; rintro e w7 ⟨rfl, rfl⟩))
  go_ret
  exact ⟨rfl, X2.out.trans X6.out⟩
end Go.Proofs.Ytcmmcaoidmldkaa
