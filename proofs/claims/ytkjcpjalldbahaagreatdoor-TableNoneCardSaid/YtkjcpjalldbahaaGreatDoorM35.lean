/- The walk of TableNone. -/
import Derived.Test.YtkjcpjalldbahaaGreatDoorM34
import Derived.Test.YtkjcpjalldbahaaGreatDoorM03
section
namespace Go.Proofs.YtkjcpjalldbahaaGreatDoor
open Go.RowKit

set_option maxRecDepth 100000 in
set_option maxHeartbeats 4000000 in
theorem TableNone_walk (w : World) (x : EditO) (p : ByteArray) (n : Int) (hx : x.Ok) (hp : p.size ≤ 140737488351232) (_hn : 0 ≤ n ∧ n ≤ 18446744073709551615) :
    Calls Tryz.prog 5 #[.agg x.cells.toArray, .string p, .int .u64 n] w fun e w' => e = .returned (.bool true) ∧ Ext w w' := by
  obtain ⟨k, s, any, want, m, t⟩ := x
  have hs : s.size ≤ 140737488351232 := hx.Path
  have ht : t.size ≤ 140737488351232 := hx.Text
  have HW := Lib.hid (fun u => works18_any u)
  have hw1 : IntKind.i64.wrap ((s.size : Int) + (t.size : Int)) = (s.size : Int) + (t.size : Int) := IntWalk.i64_in _ ⟨by omega, by omega⟩
  have hw2 : IntKind.i64.wrap ((s.size : Int) + (t.size : Int) + (p.size : Int)) = (s.size : Int) + (t.size : Int) + (p.size : Int) := IntWalk.i64_in _ ⟨by omega, by omega⟩
  unfold EditO.cells
  dsimp only
  have HX0 := Lib.hid ((Ext.refl w).alloc (.cells #[.int .u8 (k : Int), .string s, .bool any, .int .u64 (want : Int), .int .u64 (m : Int), .string t] 62))
  have HB0 := Lib.hid (Blk.new w [.int .u8 (k : Int), .string s, .bool any, .int .u64 (want : Int), .int .u64 (m : Int), .string t] 62)
  clear hx hs ht hp
  by_cases hbig : (4096 : Int) < (s.size : Int) + (t.size : Int) + (p.size : Int)
  · go_enter Tryz.func5, Tryz.ntmps5
    go_wp2_with (go_at_call 7; refine (HW.out _).mono ?_; rintro e w1 ⟨rfl, x1⟩)
    go_ret
    exact ⟨rfl, HX0.out.trans x1⟩
  · go_enter Tryz.func5, Tryz.ntmps5
    go_wp2_with (first
      | (go_at_call 27; refine (try_no _ _).mono ?_; rintro e w1 ⟨rfl, x1⟩; have HX1 := Lib.hid ((HX0.out.alloc _).trans x1); have B1 := Lib.hid ((HB0.out.alloc _).ext x1); have b0 := B1.out.cell 0 _ rfl; have b1 := B1.out.cell 1 _ rfl; have b2 := B1.out.cell 2 _ rfl; have b3 := B1.out.cell 3 _ rfl; have b4 := B1.out.cell 4 _ rfl; have b5 := B1.out.cell 5 _ rfl; clear x1)
      | (go_at_call 24; refine (apply_no _ _).mono ?_; rintro e w2 ⟨rfl, x2⟩; have HX2 := Lib.hid ((HX1.out.alloc _).trans x2); clear x2)
      | (go_at_call 11; refine (tread_no _ _ _).mono ?_; rintro e w3 ⟨rfl, x3⟩; have HX3 := Lib.hid (HX2.out.trans x3); clear x3)
      | (go_at_call 28; refine (tsize_no _).mono ?_; rintro e w4 ⟨rfl, rfl⟩)
      | (go_at_call 13; refine (tnow_no _ _).mono ?_; rintro e w5 ⟨rfl, x5⟩; have HX5 := Lib.hid ((HX3.out.alloc _).trans x5); clear x5)
      | (go_at_call 15; refine (tlast_no _ _).mono ?_; rintro e w6 ⟨rfl, x6⟩; have HX6 := Lib.hid (HX5.out.trans x6); clear x6)
      | (go_at_call 18; refine (tlist_no _ _).mono ?_; rintro e w7 ⟨rfl, rfl⟩)
      | (go_at_call 20; refine (trows_no _).mono ?_; rintro e w7 ⟨rfl, rfl⟩)
      | (go_at_call 21; refine (tload_no _ _).mono ?_; rintro e w7 ⟨rfl, rfl⟩)
      | (go_at_call 26; refine (tdrops_no _ _).mono ?_; rintro e w7 ⟨rfl, rfl⟩)
      | (go_at_call 7; refine (HW.out _).mono ?_; rintro e w8 ⟨rfl, x8⟩; have HX8 := Lib.hid ((HX6.out.alloc _).trans x8); clear x8))
    go_ret
    exact ⟨rfl, HX8.out⟩
end Go.Proofs.YtkjcpjalldbahaaGreatDoor
end
