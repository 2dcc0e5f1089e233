/- The law's play: an act: what was put is got. (Printed by mkdoes.py.) The law's play: an act: a share comes. (Printed by mkdoes.py.) The law's play: an act: a text is put. (Printed by mkdoes.py.) The law's play: an act: another barrier. (Printed by mkdoes.py.) The law's play: both barriers are begun. -/
import Derived.Test.YtobhbppogeghnaaGreatDoorM43
import Derived.Test.YtobhbppogeghnaaGreatDoorM42
import Derived.BigRegion
import Derived.Great.Frames
section
namespace Go.Proofs.YtobhbppogeghnaaGreatDoor
open Go.RowKit
attribute [local irreducible] rkey expand enc dec ctrB ctrC ctrL xorL xorAll turnL turnT kd t4 t8 env5 chk tagT sealT ringL hdT envOf hdOf f12B f32B n15 r15 shareB

set_option maxRecDepth 1000000 in
set_option maxHeartbeats 8000000 in
theorem does_get (w0 w : World) (pb : Nat) (h : Sit w0 w pb) (dv nv sv : Nat) (tx ot : ByteArray) (fit : Bool) (hok : ActOk w0 dv nv sv tx ot) (hk : dv % 9 = 7) :
    Calls Tryz.prog 10 #[.pointer (some ⟨pb, 0, none⟩), .agg #[.int .u8 (dv : Int), .string tx, .string ot, .int .u32 (nv : Int), .int .u8 (sv : Int), .bool fit]] w fun e w' => e = .returned (.bool true) ∧ Sit w0 w' pb := by
  obtain ⟨b, d, S, sh, T, hd, pt, n, hP, hD, hT, hTl, hhd, hn, hx, hpb⟩ := h
  obtain ⟨X, c, HP, HQ⟩ := both_get w0 hok.L w0.heap.size S hD.ok n hn pt
  have hm : (dv : Int) % 9 = 7 := by omega
  have hs256 := hok.sv
  obtain ⟨W, hW⟩ : ∃ W, w.alloc (.cells #[.int .u8 (dv : Int), .string tx, .string ot, .int .u32 (nv : Int), .int .u8 (sv : Int), .bool fit] 42) = W := ⟨_, rfl⟩
  have xW : Ext w W := hW ▸ (Ext.refl w).alloc _
  have hA : Blk W w.heap.size 42 [.int .u8 (dv : Int), .string tx, .string ot, .int .u32 (nv : Int), .int .u8 (sv : Int), .bool fit] := hW ▸ Blk.new w _ _
  have hPW : PlayBlk W pb b d sh hd pt n := hP.turn2 (xW.turn2 (Nat.le_refl _))
  have a0 := hA.cell 0 _ rfl
  have hxW := hx.trans xW
  have hBW := hxW.size
  have HD := Lib.hid (hD.ext xW)
  have HT := Lib.hid (hT.ext xW)
  have HPl := Lib.hid hPW
  have HX := Lib.hid hxW

  have HKeep : Hid (∀ u, Turn2 w0.heap.size W u → u.cell? ⟨pb, 0, none⟩ = some (.pointer (some ⟨b, 0, none⟩)) ∧ u.cell? ⟨pb, 1, none⟩ = some (.pointer (some ⟨d, 0, none⟩)) ∧ u.cell? ⟨pb, 4, none⟩ = some (.string pt) ∧ u.cell? ⟨pb, 5, none⟩ = some (.int .u64 (n : Int)) ∧ Turn2 w0.heap.size W u) :=
    Lib.hid (fun u t => ⟨(hPW.turn2 t).cell 0 _ rfl, (hPW.turn2 t).cell 1 _ rfl, (hPW.turn2 t).cell 4 _ rfl, (hPW.turn2 t).cell 5 _ rfl, t⟩)
  have HEnd : Hid (∀ u S', OkS S' → Turn2 w0.heap.size W u → IsP u w0.heap.size b S' → IsQ u w0.heap.size d S' → Sit w0 u pb) :=
    Lib.hid (fun u S' hS' t i j => ⟨b, d, S', sh, T, hd, pt, n, hPW.turn2 t, ⟨i, j, hS'⟩, (hT.ext xW).turn2 t, hTl, hhd, hn, Ext.turned2 hxW t, hpb⟩)
  have HRight : Hid (∀ u, Turn2 w0.heap.size W u → PlayBlk u pb b d sh hd pt n ∧ BufS u w0.heap.size sh T ∧ Ext w0 u ∧ Blk u w.heap.size 42 [.int .u8 (dv : Int), .string tx, .string ot, .int .u32 (nv : Int), .int .u8 (sv : Int), .bool fit]) :=
    Lib.hid (fun u t => ⟨hPW.turn2 t, (hT.ext xW).turn2 t, Ext.turned2 hxW t, Turn2.blk t hA (by decide) (by decide) (by decide) (by decide) (by decide)⟩)
  have HPS := Lib.hid HP; have HQS := Lib.hid HQ
  have hR : Turn2 w0.heap.size W W := (Ext.refl W).turn2 hBW
  have hRd : Turn2 w0.heap.size W W.drew := (Ext.refl W).drew.turn2 hBW
  have hEd : Ext W W.drew := (Ext.refl W).drew
  have hS0 := HKeep.out _ hR
  have hS := HKeep.out _ hRd
  clear hP hD hT hx xW hA hPW hxW hok hs256 HP HQ
  go_enter Tryz.func10, Tryz.ntmps10
  go_wp2
  go_region_held3 (fun u => u.cell? ⟨pb, 0, none⟩ = some (.pointer (some ⟨b, 0, none⟩)) ∧ u.cell? ⟨pb, 1, none⟩ = some (.pointer (some ⟨d, 0, none⟩)) ∧ u.cell? ⟨pb, 4, none⟩ = some (.string pt) ∧ u.cell? ⟨pb, 5, none⟩ = some (.int .u64 (n : Int)) ∧ Turn2 w0.heap.size W u) (first | exact hS | exact hS0 | exact hS1 | assumption | go_keep) (first
    | (go_at_call 20; (with_reducible refine (HPS.out _ _ (HX.out.trans hEd) (HD.out.p.ext hEd)).mono ?_); rintro e w1 ⟨rfl, x1⟩; have e1 := Ext.trans hEd x1; have y1 := e1.turn2 hBW; have hS1 := HKeep.out _ y1; have y1d := e1.drew.turn2 hBW; have e1d := e1.drew; have hS1d := HKeep.out _ y1d; clear x1))
  go_wp2
  go_region_held3 (fun u => u.cell? ⟨pb, 0, none⟩ = some (.pointer (some ⟨b, 0, none⟩)) ∧ u.cell? ⟨pb, 1, none⟩ = some (.pointer (some ⟨d, 0, none⟩)) ∧ u.cell? ⟨pb, 4, none⟩ = some (.string pt) ∧ u.cell? ⟨pb, 5, none⟩ = some (.int .u64 (n : Int)) ∧ Turn2 w0.heap.size W u) (first | exact hS1d | exact hS1 | exact hS2 | assumption | go_keep) (first
    | (go_at_call 36; (with_reducible refine (HQS.out _ _ (HD.out.q.ext e1d)).mono ?_); rintro e w2 ⟨rfl, x2⟩; have e2 := Ext.trans e1d x2; have y2 := e2.turn2 hBW; have hS2 := HKeep.out _ y2; clear x2))
  all_goals
    go_wp2
    go_ret
    exact ⟨by simp, HEnd.out _ _ HD.out.ok y2 (HD.out.p.ext e2) (HD.out.q.ext e2)⟩
end Go.Proofs.YtobhbppogeghnaaGreatDoor
end

section
namespace Go.Proofs.YtobhbppogeghnaaGreatDoor
open Go.RowKit
attribute [local irreducible] rkey expand enc dec ctrB ctrC ctrL xorL xorAll turnL turnT kd t4 t8 env5 chk tagT sealT ringL hdT envOf hdOf f12B f32B n15 r15 shareB

set_option maxRecDepth 1000000 in
set_option maxHeartbeats 8000000 in
theorem does_unseal (w0 w : World) (pb : Nat) (h : Sit w0 w pb) (dv nv sv : Nat) (tx ot : ByteArray) (fit : Bool) (hok : ActOk w0 dv nv sv tx ot) (hk : dv % 9 = 2) :
    Calls Tryz.prog 10 #[.pointer (some ⟨pb, 0, none⟩), .agg #[.int .u8 (dv : Int), .string tx, .string ot, .int .u32 (nv : Int), .int .u8 (sv : Int), .bool fit]] w fun e w' => e = .returned (.bool true) ∧ Sit w0 w' pb := by
  obtain ⟨b, d, S, sh, T, hd, pt, n, hP, hD, hT, hTl, hhd, hn, hx, hpb⟩ := h
  obtain ⟨op, c, S', hS', HP, HQ⟩ := both_unseal w0 hok.L S hD.ok hD.alike (shareB tx sv T)
  have hm : (dv : Int) % 9 = 2 := by omega
  have hs256 := hok.sv
  obtain ⟨W, hW⟩ : ∃ W, w.alloc (.cells #[.int .u8 (dv : Int), .string tx, .string ot, .int .u32 (nv : Int), .int .u8 (sv : Int), .bool fit] 42) = W := ⟨_, rfl⟩
  have xW : Ext w W := hW ▸ (Ext.refl w).alloc _
  have hA : Blk W w.heap.size 42 [.int .u8 (dv : Int), .string tx, .string ot, .int .u32 (nv : Int), .int .u8 (sv : Int), .bool fit] := hW ▸ Blk.new w _ _
  have hPW : PlayBlk W pb b d sh hd pt n := hP.turn2 (xW.turn2 (Nat.le_refl _))
  have a0 := hA.cell 0 _ rfl
  have hxW := hx.trans xW
  have hBW := hxW.size
  have HD := Lib.hid (hD.ext xW)
  have HT := Lib.hid (hT.ext xW)
  have HPl := Lib.hid hPW
  have HX := Lib.hid hxW

  have HKeep : Hid (∀ u, Turn2 w0.heap.size W u → u.cell? ⟨pb, 0, none⟩ = some (.pointer (some ⟨b, 0, none⟩)) ∧ u.cell? ⟨pb, 1, none⟩ = some (.pointer (some ⟨d, 0, none⟩)) ∧ u.cell? ⟨w.heap.size, 0, none⟩ = some (.int .u8 (dv : Int)) ∧ u.cell? ⟨w.heap.size, 1, none⟩ = some (.string tx) ∧ u.cell? ⟨w.heap.size, 2, none⟩ = some (.string ot) ∧ u.cell? ⟨w.heap.size, 3, none⟩ = some (.int .u32 (nv : Int)) ∧ u.cell? ⟨w.heap.size, 4, none⟩ = some (.int .u8 (sv : Int)) ∧ u.cell? ⟨w.heap.size, 5, none⟩ = some (.bool fit) ∧ Turn2 w0.heap.size W u) :=
    Lib.hid (fun u t => ⟨(hPW.turn2 t).cell 0 _ rfl, (hPW.turn2 t).cell 1 _ rfl, (Turn2.blk t hA (by decide) (by decide) (by decide) (by decide) (by decide)).cell 0 _ rfl, (Turn2.blk t hA (by decide) (by decide) (by decide) (by decide) (by decide)).cell 1 _ rfl, (Turn2.blk t hA (by decide) (by decide) (by decide) (by decide) (by decide)).cell 2 _ rfl, (Turn2.blk t hA (by decide) (by decide) (by decide) (by decide) (by decide)).cell 3 _ rfl, (Turn2.blk t hA (by decide) (by decide) (by decide) (by decide) (by decide)).cell 4 _ rfl, (Turn2.blk t hA (by decide) (by decide) (by decide) (by decide) (by decide)).cell 5 _ rfl, t⟩)
  have HEnd : Hid (∀ u S', OkS S' → Turn2 w0.heap.size W u → IsP u w0.heap.size b S' → IsQ u w0.heap.size d S' → Sit w0 u pb) :=
    Lib.hid (fun u S' hS' t i j => ⟨b, d, S', sh, T, hd, pt, n, hPW.turn2 t, ⟨i, j, hS'⟩, (hT.ext xW).turn2 t, hTl, hhd, hn, Ext.turned2 hxW t, hpb⟩)
  have HRight : Hid (∀ u, Turn2 w0.heap.size W u → PlayBlk u pb b d sh hd pt n ∧ BufS u w0.heap.size sh T ∧ Ext w0 u ∧ Blk u w.heap.size 42 [.int .u8 (dv : Int), .string tx, .string ot, .int .u32 (nv : Int), .int .u8 (sv : Int), .bool fit]) :=
    Lib.hid (fun u t => ⟨hPW.turn2 t, (hT.ext xW).turn2 t, Ext.turned2 hxW t, Turn2.blk t hA (by decide) (by decide) (by decide) (by decide) (by decide)⟩)
  have HPS := Lib.hid HP; have HQS := Lib.hid HQ
  have hR : Turn2 w0.heap.size W W := (Ext.refl W).turn2 hBW
  have hRd : Turn2 w0.heap.size W W.drew := (Ext.refl W).drew.turn2 hBW
  have hEd : Ext W W.drew := (Ext.refl W).drew
  have hS0 := HKeep.out _ hR
  have hS := HKeep.out _ hRd
  clear hP hD hT hx xW hA hPW hxW hok HP HQ
  go_enter Tryz.func10, Tryz.ntmps10
  go_wp2
  go_region_held3 (fun u => u.cell? ⟨pb, 0, none⟩ = some (.pointer (some ⟨b, 0, none⟩)) ∧ u.cell? ⟨pb, 1, none⟩ = some (.pointer (some ⟨d, 0, none⟩)) ∧ u.cell? ⟨w.heap.size, 0, none⟩ = some (.int .u8 (dv : Int)) ∧ u.cell? ⟨w.heap.size, 1, none⟩ = some (.string tx) ∧ u.cell? ⟨w.heap.size, 2, none⟩ = some (.string ot) ∧ u.cell? ⟨w.heap.size, 3, none⟩ = some (.int .u32 (nv : Int)) ∧ u.cell? ⟨w.heap.size, 4, none⟩ = some (.int .u8 (sv : Int)) ∧ u.cell? ⟨w.heap.size, 5, none⟩ = some (.bool fit) ∧ Turn2 w0.heap.size W u) (first | exact hS | exact hS0 | exact hS1 | exact hS2 | assumption | go_keep) (first
    | (go_at_call 29; (with_reducible refine (share15 _ w0.heap.size pb b d sh hd pt n T (HRight.out _ hRd).1 (HRight.out _ hRd).2.1 hTl dv nv sv tx ot fit hs256).mono ?_); rintro e w1 ⟨rfl, x1⟩; have e1 := Ext.trans hEd x1; have y1 := e1.turn2 hBW; have hS1 := HKeep.out _ y1; clear x1)
    | (go_at_call 21; (with_reducible refine (HPS.out _ _ (HX.out.trans e1) (HD.out.p.ext e1)).mono ?_); rintro e w2 ⟨rfl, i2, t2⟩; have I2 := Lib.hid i2; have Q2 := Lib.hid ((HD.out.q.ext e1).turnP t2); have y2 := y1.trans t2.turn2; have hS2 := HKeep.out _ y2; have y2d := y2.trans ((Ext.refl _).drew.turn2 (Nat.le_trans hBW y2.size)); have hS2d := HKeep.out _ y2d; clear i2 t2))
  go_wp2
  go_region_held3 (fun u => u.cell? ⟨pb, 0, none⟩ = some (.pointer (some ⟨b, 0, none⟩)) ∧ u.cell? ⟨pb, 1, none⟩ = some (.pointer (some ⟨d, 0, none⟩)) ∧ u.cell? ⟨w.heap.size, 0, none⟩ = some (.int .u8 (dv : Int)) ∧ u.cell? ⟨w.heap.size, 1, none⟩ = some (.string tx) ∧ u.cell? ⟨w.heap.size, 2, none⟩ = some (.string ot) ∧ u.cell? ⟨w.heap.size, 3, none⟩ = some (.int .u32 (nv : Int)) ∧ u.cell? ⟨w.heap.size, 4, none⟩ = some (.int .u8 (sv : Int)) ∧ u.cell? ⟨w.heap.size, 5, none⟩ = some (.bool fit) ∧ Turn2 w0.heap.size W u) (first | exact hS2d | exact hS2 | exact hS3 | exact hS4 | assumption | go_keep) (first
    | (go_at_call 29; (with_reducible refine (share15 _ w0.heap.size pb b d sh hd pt n T (HRight.out _ y2d).1 (HRight.out _ y2d).2.1 hTl dv nv sv tx ot fit hs256).mono ?_); rintro e w3 ⟨rfl, x3⟩; have y3 := Turn2.trans y2d (x3.turn2 (Nat.le_trans hBW (Turn2.size y2d))); have hS3 := HKeep.out _ y3; have E3 := Lib.hid x3; clear x3)
    | (go_at_call 30; (with_reducible refine (HQS.out _ _ (Q2.out.ext ((Ext.refl _).drew.trans E3.out))).mono ?_); rintro e w4 ⟨rfl, i4, t4⟩; have I4 := Lib.hid i4; have P4 := Lib.hid ((I2.out.ext ((Ext.refl _).drew.trans E3.out)).turnQ t4); have y4 := y3.trans t4.turn2; have hS4 := HKeep.out _ y4; clear i4 t4))
  all_goals
    go_wp2
    go_ret
    exact ⟨by simp, HEnd.out _ _ hS' y4 P4.out I4.out⟩
end Go.Proofs.YtobhbppogeghnaaGreatDoor
end

section
namespace Go.Proofs.YtobhbppogeghnaaGreatDoor
open Go.RowKit
attribute [local irreducible] rkey expand enc dec ctrB ctrC ctrL xorL xorAll turnL turnT kd t4 t8 env5 chk tagT sealT ringL hdT envOf hdOf f12B f32B n15 r15 shareB

set_option maxRecDepth 1000000 in
set_option maxHeartbeats 8000000 in
theorem does_put (w0 w : World) (pb : Nat) (h : Sit w0 w pb) (dv nv sv : Nat) (tx ot : ByteArray) (fit : Bool) (hok : ActOk w0 dv nv sv tx ot) (hk : dv % 9 = 6) :
    Calls Tryz.prog 10 #[.pointer (some ⟨pb, 0, none⟩), .agg #[.int .u8 (dv : Int), .string tx, .string ot, .int .u32 (nv : Int), .int .u8 (sv : Int), .bool fit]] w fun e w' => e = .returned (.bool true) ∧ Sit w0 w' pb := by
  obtain ⟨b, d, S, sh, T, hd, pt, n, hP, hD, hT, hTl, hhd, hn, hx, hpb⟩ := h
  obtain ⟨X, c, hXs, HP, HQ⟩ := both_put w0 hok.L w0.heap.size S hD.ok nv (by have := hok.nv; omega) (n15 fit tx) ot (by have := hok.ot; omega)
  have hw64 : IntKind.u64.wrap (nv : Int) = (nv : Int) := IntWalk.u64_in _ ⟨by omega, by have := hok.nv; omega⟩
  have hnv64 : nv < 18446744073709551616 := by have := hok.nv; omega
  have hneP : w.heap.size ≠ pb := fun e => by have := Blk.lt hP; omega
  have hm : (dv : Int) % 9 = 6 := by omega
  have hs256 := hok.sv
  obtain ⟨W, hW⟩ : ∃ W, w.alloc (.cells #[.int .u8 (dv : Int), .string tx, .string ot, .int .u32 (nv : Int), .int .u8 (sv : Int), .bool fit] 42) = W := ⟨_, rfl⟩
  have xW : Ext w W := hW ▸ (Ext.refl w).alloc _
  have hA : Blk W w.heap.size 42 [.int .u8 (dv : Int), .string tx, .string ot, .int .u32 (nv : Int), .int .u8 (sv : Int), .bool fit] := hW ▸ Blk.new w _ _
  have hPW : PlayBlk W pb b d sh hd pt n := hP.turn2 (xW.turn2 (Nat.le_refl _))
  have a0 := hA.cell 0 _ rfl
  have hxW := hx.trans xW
  have hBW := hxW.size
  have HD := Lib.hid (hD.ext xW)
  have HT := Lib.hid (hT.ext xW)
  have HPl := Lib.hid hPW
  have HX := Lib.hid hxW

  have HKeep : Hid (∀ u, Turn2 w0.heap.size W u → u.cell? ⟨pb, 0, none⟩ = some (.pointer (some ⟨b, 0, none⟩)) ∧ u.cell? ⟨pb, 1, none⟩ = some (.pointer (some ⟨d, 0, none⟩)) ∧ u.cell? ⟨w.heap.size, 1, none⟩ = some (.string tx) ∧ u.cell? ⟨w.heap.size, 2, none⟩ = some (.string ot) ∧ u.cell? ⟨w.heap.size, 3, none⟩ = some (.int .u32 (nv : Int)) ∧ u.cell? ⟨w.heap.size, 5, none⟩ = some (.bool fit) ∧ Turn2 w0.heap.size W u) :=
    Lib.hid (fun u t => ⟨(hPW.turn2 t).cell 0 _ rfl, (hPW.turn2 t).cell 1 _ rfl, (Turn2.blk t hA (by decide) (by decide) (by decide) (by decide) (by decide)).cell 1 _ rfl, (Turn2.blk t hA (by decide) (by decide) (by decide) (by decide) (by decide)).cell 2 _ rfl, (Turn2.blk t hA (by decide) (by decide) (by decide) (by decide) (by decide)).cell 3 _ rfl, (Turn2.blk t hA (by decide) (by decide) (by decide) (by decide) (by decide)).cell 5 _ rfl, t⟩)
  have HEnd : Hid (∀ u S', OkS S' → Turn2 w0.heap.size W u → IsP u w0.heap.size b S' → IsQ u w0.heap.size d S' → Sit w0 u pb) :=
    Lib.hid (fun u S' hS' t i j => ⟨b, d, S', sh, T, hd, pt, n, hPW.turn2 t, ⟨i, j, hS'⟩, (hT.ext xW).turn2 t, hTl, hhd, hn, Ext.turned2 hxW t, hpb⟩)
  have HRight : Hid (∀ u, Turn2 w0.heap.size W u → PlayBlk u pb b d sh hd pt n ∧ BufS u w0.heap.size sh T ∧ Ext w0 u ∧ Blk u w.heap.size 42 [.int .u8 (dv : Int), .string tx, .string ot, .int .u32 (nv : Int), .int .u8 (sv : Int), .bool fit]) :=
    Lib.hid (fun u t => ⟨hPW.turn2 t, (hT.ext xW).turn2 t, Ext.turned2 hxW t, Turn2.blk t hA (by decide) (by decide) (by decide) (by decide) (by decide)⟩)
  have HPS := Lib.hid HP; have HQS := Lib.hid HQ
  have hR : Turn2 w0.heap.size W W := (Ext.refl W).turn2 hBW
  have hRd : Turn2 w0.heap.size W W.drew := (Ext.refl W).drew.turn2 hBW
  have hEd : Ext W W.drew := (Ext.refl W).drew
  have hS0 := HKeep.out _ hR
  have hS := HKeep.out _ hRd
  clear hP hD hT hx xW hA hPW hxW hok hs256 HP HQ
  go_enter Tryz.func10, Tryz.ntmps10
  go_wp2
  go_region_held3 (fun u => u.cell? ⟨pb, 0, none⟩ = some (.pointer (some ⟨b, 0, none⟩)) ∧ u.cell? ⟨pb, 1, none⟩ = some (.pointer (some ⟨d, 0, none⟩)) ∧ u.cell? ⟨w.heap.size, 1, none⟩ = some (.string tx) ∧ u.cell? ⟨w.heap.size, 2, none⟩ = some (.string ot) ∧ u.cell? ⟨w.heap.size, 3, none⟩ = some (.int .u32 (nv : Int)) ∧ u.cell? ⟨w.heap.size, 5, none⟩ = some (.bool fit) ∧ Turn2 w0.heap.size W u) (first | exact hS | exact hS0 | exact hS1 | exact hS2 | assumption | go_keep) (first
    | (go_at_call 14; (with_reducible refine (nonce15 _ _ _).mono ?_); rintro e w1 ⟨rfl, x1⟩; have e1 := Ext.trans hEd x1; have y1 := e1.turn2 hBW; have hS1 := HKeep.out _ y1; clear x1)
    | (go_at_call 15; (with_reducible refine (HPS.out _ _ (HX.out.trans e1) (HD.out.p.ext e1)).mono ?_); rintro e w2 ⟨rfl, x2⟩; have e2 := Ext.trans e1 x2; have y2 := e2.turn2 hBW; have hS2 := HKeep.out _ y2; have y2d := e2.drew.turn2 hBW; have e2d := e2.drew; have hS2d := HKeep.out _ y2d; clear x2))
  go_wp2
  go_region_held3 (fun u => u.cell? ⟨pb, 0, none⟩ = some (.pointer (some ⟨b, 0, none⟩)) ∧ u.cell? ⟨pb, 1, none⟩ = some (.pointer (some ⟨d, 0, none⟩)) ∧ u.cell? ⟨w.heap.size, 1, none⟩ = some (.string tx) ∧ u.cell? ⟨w.heap.size, 2, none⟩ = some (.string ot) ∧ u.cell? ⟨w.heap.size, 3, none⟩ = some (.int .u32 (nv : Int)) ∧ u.cell? ⟨w.heap.size, 5, none⟩ = some (.bool fit) ∧ Turn2 w0.heap.size W u) (first | exact hS2d | exact hS2 | exact hS3 | exact hS4 | assumption | go_keep) (first
    | (go_at_call 14; (with_reducible refine (nonce15 _ _ _).mono ?_); rintro e w3 ⟨rfl, x3⟩; have e3 := Ext.trans e2d x3; have y3 := e3.turn2 hBW; have hS3 := HKeep.out _ y3; clear x3)
    | (go_at_call 35; (with_reducible refine (HQS.out _ _ (HD.out.q.ext e3)).mono ?_); rintro e w4 ⟨rfl, x4⟩; have e4 := Ext.trans e3 x4; have y4 := e4.turn2 hBW; have hS4 := HKeep.out _ y4; clear x4))
  all_goals
    have hr4 := HRight.out _ y4
    have hB4 := hr4.1
    have f4 := hB4.frozen 4
    have c4 := hB4.cell 4 _ rfl
    have hB5 := hB4.set_ 4 (.string X)
    have f5 := hB5.frozen 5
    have c5 := hB5.cell 5 _ rfl
    have hB6 := hB5.set_ 5 (.int .u64 (nv : Int))
    have hD4 : Duo w0.heap.size w4 b d S := HD.out.ext e4
    have HNew := Lib.hid (show Sit w0 ((w4.setCell ⟨pb, 4, none⟩ (.string X)).setCell ⟨pb, 5, none⟩ (.int .u64 (nv : Int))) pb from
      ⟨b, d, S, sh, T, hd, X, nv, hB6, (hD4.put hB4).put hB5, (hr4.2.1.put hB4).put hB5, hTl, hhd, hnv64, (hr4.2.2.1.setCell hpb _).setCell hpb _, hpb⟩)
    have a3b : (w4.setCell ⟨pb, 4, none⟩ (.string X)).cell? ⟨w.heap.size, 3, none⟩ = some (.int .u32 (nv : Int)) := (hr4.2.2.2.other hneP 4 _).cell 3 _ rfl
    clear hr4 hB4 hB5 hB6 hD4
    by_cases hc : c = 0
    · subst hc
      go_wp2
      go_ret
      exact ⟨by simp, HNew.out⟩
    · have hcb : (c == 0) = false := by simpa using hc
      go_wp2
      go_ret
      exact ⟨by simp, HEnd.out _ _ HD.out.ok y4 (HD.out.p.ext e4) (HD.out.q.ext e4)⟩
end Go.Proofs.YtobhbppogeghnaaGreatDoor
end

section
namespace Go.Proofs.YtobhbppogeghnaaGreatDoor
open Go.RowKit
attribute [local irreducible] rkey expand enc dec ctrB ctrC ctrL xorL xorAll turnL turnT kd t4 t8 env5 chk tagT sealT ringL hdT envOf hdOf f12B f32B n15 r15 shareB

set_option maxRecDepth 1000000 in
set_option maxHeartbeats 8000000 in
theorem does_new (w0 w : World) (pb : Nat) (h : Sit w0 w pb) (dv nv sv : Nat) (tx ot : ByteArray) (fit : Bool) (hok : ActOk w0 dv nv sv tx ot) (hk : dv % 9 = 8) :
    Calls Tryz.prog 10 #[.pointer (some ⟨pb, 0, none⟩), .agg #[.int .u8 (dv : Int), .string tx, .string ot, .int .u32 (nv : Int), .int .u8 (sv : Int), .bool fit]] w fun e w' => e = .returned (.bool true) ∧ Sit w0 w' pb := by
  obtain ⟨b, d, S, sh, T, hd, pt, n, hP, hD, hT, hTl, hhd, hn, hx, hpb⟩ := h

  have hm : (dv : Int) % 9 = 8 := by omega
  have hs256 := hok.sv
  obtain ⟨W, hW⟩ : ∃ W, w.alloc (.cells #[.int .u8 (dv : Int), .string tx, .string ot, .int .u32 (nv : Int), .int .u8 (sv : Int), .bool fit] 42) = W := ⟨_, rfl⟩
  have xW : Ext w W := hW ▸ (Ext.refl w).alloc _
  have hA : Blk W w.heap.size 42 [.int .u8 (dv : Int), .string tx, .string ot, .int .u32 (nv : Int), .int .u8 (sv : Int), .bool fit] := hW ▸ Blk.new w _ _
  have hPW : PlayBlk W pb b d sh hd pt n := hP.turn2 (xW.turn2 (Nat.le_refl _))
  have a0 := hA.cell 0 _ rfl
  have hxW := hx.trans xW
  have hBW := hxW.size
  have HD := Lib.hid (hD.ext xW)
  have HT := Lib.hid (hT.ext xW)
  have HPl := Lib.hid hPW
  have HX := Lib.hid hxW

  have HKeep : Hid (∀ u, Turn2 w0.heap.size W u → u.cell? ⟨pb, 0, none⟩ = some (.pointer (some ⟨b, 0, none⟩)) ∧ u.cell? ⟨pb, 1, none⟩ = some (.pointer (some ⟨d, 0, none⟩)) ∧ Turn2 w0.heap.size W u) :=
    Lib.hid (fun u t => ⟨(hPW.turn2 t).cell 0 _ rfl, (hPW.turn2 t).cell 1 _ rfl, t⟩)
  have HEnd : Hid (∀ u S', OkS S' → Turn2 w0.heap.size W u → IsP u w0.heap.size b S' → IsQ u w0.heap.size d S' → Sit w0 u pb) :=
    Lib.hid (fun u S' hS' t i j => ⟨b, d, S', sh, T, hd, pt, n, hPW.turn2 t, ⟨i, j, hS'⟩, (hT.ext xW).turn2 t, hTl, hhd, hn, Ext.turned2 hxW t, hpb⟩)
  have HRight : Hid (∀ u, Turn2 w0.heap.size W u → PlayBlk u pb b d sh hd pt n ∧ BufS u w0.heap.size sh T ∧ Ext w0 u ∧ Blk u w.heap.size 42 [.int .u8 (dv : Int), .string tx, .string ot, .int .u32 (nv : Int), .int .u8 (sv : Int), .bool fit]) :=
    Lib.hid (fun u t => ⟨hPW.turn2 t, (hT.ext xW).turn2 t, Ext.turned2 hxW t, Turn2.blk t hA (by decide) (by decide) (by decide) (by decide) (by decide)⟩)
  have HNw := Lib.hid (fun u => bnew_any u)
  have hR : Turn2 w0.heap.size W W := (Ext.refl W).turn2 hBW
  have hRd : Turn2 w0.heap.size W W.drew := (Ext.refl W).drew.turn2 hBW
  have hEd : Ext W W.drew := (Ext.refl W).drew
  have hS0 := HKeep.out _ hR
  have hS := HKeep.out _ hRd
  clear hP hD hT hx xW hA hPW hxW hok hs256
  go_enter Tryz.func10, Tryz.ntmps10
  go_wp2_with (go_at_call 9; refine (HNw.out _).mono ?_; rintro e w1 ⟨b1, rfl, i1, x1⟩; have hr1 := HRight.out _ (x1.turn2 hBW); obtain ⟨f0, ⟨u0, c0⟩, f1, ⟨u1, c1⟩, hN⟩ := sit_new hr1.1 hr1.2.1 hTl hhd hn hr1.2.2.1 hpb i1 hBW; have HNew := Lib.hid hN; clear i1 x1 hr1 hN)
  go_ret
  exact ⟨rfl, HNew.out⟩
end Go.Proofs.YtobhbppogeghnaaGreatDoor
end

section
namespace Go.Proofs.YtobhbppogeghnaaGreatDoor
open Go.RowKit

/-- The keys of the shares. -/
def textsQ (fit : Bool) (s : ByteArray) (m : Nat) : List ByteArray := (List.range m).map fun i => r15 fit (s ++ ⟨#[UInt8.ofNat i]⟩)
theorem textsQ_length (fit : Bool) (s : ByteArray) (m : Nat) : (textsQ fit s m).length = m := by simp [textsQ]
theorem textsQ_succ (fit : Bool) (s : ByteArray) (m : Nat) : textsQ fit s (m + 1) = textsQ fit s m ++ [r15 fit (s ++ ⟨#[UInt8.ofNat m]⟩)] := by simp [textsQ, List.range_succ]
attribute [local irreducible] rkey expand enc dec ctrB ctrC ctrL xorL xorAll turnL turnT kd t4 t8 env5 chk tagT sealT ringL hdT envOf hdOf f12B f32B n15 r15 shareB textsQ

set_option maxRecDepth 1000000 in
set_option maxHeartbeats 8000000 in
theorem begins15 (w0 w : World) (pb : Nat) (h : Sit w0 w pb) (dv nv sv : Nat) (tx ot : ByteArray) (fit : Bool) (hok : ActOk w0 dv nv sv tx ot) :
    Calls Tryz.prog 27 #[.pointer (some ⟨pb, 0, none⟩), .agg #[.int .u8 (dv : Int), .string tx, .string ot, .int .u32 (nv : Int), .int .u8 (sv : Int), .bool fit]] w fun e w' => e = .returned (.bool true) ∧ Sit w0 w' pb := by
  obtain ⟨b, d, S, sh, T0, hd, pt, n, hP, hD, hT, hTl, hhd, hn, hx, hpb⟩ := h
  obtain ⟨m, hm⟩ : ∃ m, nv % 5 = m := ⟨_, rfl⟩
  have hm4 : m ≤ 4 := by omega
  have hmi : (nv : Int) % 5 = (m : Int) := by omega
  have htl := textsQ_length fit ot
  obtain ⟨c, T, S', hS', hT5, -, HP, HQ⟩ := both_begin w0 hok.L w0.heap.size hok.B2 S hD.ok (r15 fit tx) (r15 fit ot) (n15 fit tx) (textsQ fit ot m) (by rw [htl]; exact hm4)
  rw [htl] at HP HQ
  have hts := textsQ_succ fit ot
  obtain ⟨k, hk⟩ : ∃ k, T.length = k := ⟨_, rfl⟩
  have HBf : Hid (∀ u A v, BufS u A v T → ∃ q c', v = .slice q k c') := Lib.hid (fun u A v hb => by
    obtain ⟨q, c', e, -⟩ := hb.texts
    exact ⟨q, c', by rw [e, hk]⟩)
  obtain ⟨W, hW⟩ : ∃ W, w.alloc (.cells #[.int .u8 (dv : Int), .string tx, .string ot, .int .u32 (nv : Int), .int .u8 (sv : Int), .bool fit] 42) = W := ⟨_, rfl⟩
  have xW : Ext w W := hW ▸ (Ext.refl w).alloc _
  have hA : Blk W w.heap.size 42 [.int .u8 (dv : Int), .string tx, .string ot, .int .u32 (nv : Int), .int .u8 (sv : Int), .bool fit] := hW ▸ Blk.new w _ _
  have hPW : PlayBlk W pb b d sh hd pt n := hP.turn2 (xW.turn2 (Nat.le_refl _))
  have hxW := hx.trans xW
  have hBW := hxW.size
  have HD := Lib.hid (hD.ext xW)
  have HX0 := Lib.hid hxW
  have HKeep : Hid (∀ u, Turn2 w0.heap.size W u → u.cell? ⟨pb, 0, none⟩ = some (.pointer (some ⟨b, 0, none⟩)) ∧ u.cell? ⟨pb, 1, none⟩ = some (.pointer (some ⟨d, 0, none⟩)) ∧ u.cell? ⟨w.heap.size, 1, none⟩ = some (.string tx) ∧ u.cell? ⟨w.heap.size, 2, none⟩ = some (.string ot) ∧ u.cell? ⟨w.heap.size, 5, none⟩ = some (.bool fit) ∧ Turn2 w0.heap.size W u) :=
    Lib.hid (fun u t => ⟨(hPW.turn2 t).cell 0 _ rfl, (hPW.turn2 t).cell 1 _ rfl, (Turn2.blk t hA (by decide) (by decide) (by decide) (by decide) (by decide)).cell 1 _ rfl, (Turn2.blk t hA (by decide) (by decide) (by decide) (by decide) (by decide)).cell 2 _ rfl, (Turn2.blk t hA (by decide) (by decide) (by decide) (by decide) (by decide)).cell 5 _ rfl, t⟩)
  have HAct : Hid (∀ u, Ext W u → u.cell? ⟨w.heap.size, 2, none⟩ = some (.string ot) ∧ u.cell? ⟨w.heap.size, 3, none⟩ = some (.int .u32 (nv : Int)) ∧ u.cell? ⟨w.heap.size, 5, none⟩ = some (.bool fit)) :=
    Lib.hid (fun u x => ⟨(hA.ext x).cell 2 _ rfl, (hA.ext x).cell 3 _ rfl, (hA.ext x).cell 5 _ rfl⟩)
  have HRight : Hid (∀ u, Turn2 w0.heap.size W u → PlayBlk u pb b d sh hd pt n ∧ BufS u w0.heap.size sh T0 ∧ Ext w0 u) :=
    Lib.hid (fun u t => ⟨hPW.turn2 t, (hT.ext xW).turn2 t, Ext.turned2 hxW t⟩)
  have HPS := Lib.hid HP; have HQS := Lib.hid HQ
  have HTs := Lib.hid hts; have HTl := Lib.hid htl
  have HRo := Lib.hid (fun s u => root15 fit s u)
  have hotz : ot.size ≤ 5000 := hok.ot
  clear hP hD hT hx xW hA hPW hxW hok HP HQ hts htl hm
  go_enter Tryz.func27, Tryz.ntmps27
  go_wp2_with (fail)
  go_loopw [5, 6] (fun lv iv wr => ∃ j : Nat, j ≤ m ∧ iv = .int .u32 (j : Int) ∧ (∃ p' c', lv = .slice p' j c' ∧ Hid (IsL wr W.heap.size p' c' (textsQ fit ot j))) ∧ Hid (Ext W wr)) (fun _ iv _ => m - (intOf iv).toNat)
  case atStart => exact ⟨0, Nat.zero_le _, rfl, ⟨none, 0, rfl, Lib.hid (by rw [show textsQ fit ot 0 = [] by unfold textsQ; rfl]; exact IsL.nil _ _)⟩, Lib.hid (by first | exact Ext.refl _ | (rw [hW]; exact Ext.refl _))⟩
  case round =>
    obtain ⟨j, hj, rfl, ⟨pl, cl, rfl, HS⟩, HX⟩ := hrel
    have a3 := (HAct.out _ HX.out).2.1
    by_cases hlt : j < m
    · have hlt2 : (j : Int) < (m : Int) := by omega
      have hw8 : IntKind.u8.wrap (j : Int) = (j : Int) := IntWalk.u8_in _ ⟨by omega, by omega⟩
      have hcv := fun t u => byte_text j (by omega) t u
      have hbs : ¬ 9223372036854775807 < ot.size + 1 := by omega
      have a2 := (HAct.out _ HX.out).1
      have a5 := (HAct.out _ (HX.out.alloc (.cells #[.int .u8 (j : Int)] 5))).2.2
      have HTj := Lib.hid (HTs.out j)
      have hj5 : j ≤ 4 := by omega
      go_wp2_with (first
        | (go_at_call 32; refine (HRo.out _ _).mono ?_; rintro e w2 ⟨rfl, x2⟩; have Y2 := (HX.out.alloc _).trans x2; have HX3 := Y2.alloc (.cells #[.string (r15 fit (ot ++ ⟨#[UInt8.ofNat j]⟩))] 9))
        | (at_builtin; go_loud (refine wpList_append_sl rfl (.tmp 19) (.tmp 30) 35 35 rfl Tryz.underlying35 infoS14 rfl (by decide) rfl ((HS.out.ext (((Ext.refl wr).alloc _).trans (x2.alloc _))).slN (HTl.out j)) (strs_one _) _ rfl 1 [.string (r15 fit (ot ++ ⟨#[UInt8.ofNat j]⟩))] (src_one _ _ _ ((Blk.new w2 [.string (r15 fit (ot ++ ⟨#[UInt8.ofNat j]⟩))] 9).cell 0 _ rfl)) (by omega) ?_)
           intro p3 c3 w3 κ3 s3 f3 e3 x3 _
           obtain ⟨l3, k3⟩ := left_more HS.out HX.out.size (HTl.out j) (((Ext.refl wr).alloc _).trans (x2.alloc _)) s3 f3 e3 x3
           have L3 := Lib.hid l3; have X3 := Lib.hid (HX3.keptS k3)
           clear l3 k3 s3 f3 e3 x3))
      go_roundw
      case rel => exact ⟨j + 1, by omega, by go_num, ⟨p3, c3, by go_num, by rw [HTj.out]; exact L3⟩, X3⟩
      case measure => simp [intOf]; omega
    · obtain rfl : j = m := by omega
      have hlt2 : ¬ (j : Int) < (j : Int) := by omega
      clear hlt hj
      have hS0 := HKeep.out _ (HX.out.turn2 hBW)
      have hS := HKeep.out _ (HX.out.drew.turn2 hBW)
      have hEd : Ext wr wr.drew := (Ext.refl wr).drew
      have HNo := Lib.hid (fun s u => nonce15 fit s u)
      go_wp2
      go_region_held3 (fun u => u.cell? ⟨pb, 0, none⟩ = some (.pointer (some ⟨b, 0, none⟩)) ∧ u.cell? ⟨pb, 1, none⟩ = some (.pointer (some ⟨d, 0, none⟩)) ∧ u.cell? ⟨w.heap.size, 1, none⟩ = some (.string tx) ∧ u.cell? ⟨w.heap.size, 2, none⟩ = some (.string ot) ∧ u.cell? ⟨w.heap.size, 5, none⟩ = some (.bool fit) ∧ Turn2 w0.heap.size W u) (first | exact hS | exact hS0 | exact hS1 | exact hS2 | exact hS3 | exact hS4 | assumption | go_keep) (first
        | (go_at_call 32; (with_reducible refine (HRo.out tx _).mono ?_); rintro e w1 ⟨rfl, x1⟩; have e1 := Ext.trans hEd x1; have y1 := (HX.out.trans e1).turn2 hBW; have hS1 := HKeep.out _ y1; clear x1)
        | (go_at_call 32; (with_reducible refine (HRo.out ot _).mono ?_); rintro e w2 ⟨rfl, x2⟩; have e2 := Ext.trans e1 x2; have y2 := (HX.out.trans e2).turn2 hBW; have hS2 := HKeep.out _ y2; clear x2)
        | (go_at_call 14; (with_reducible refine (HNo.out tx _).mono ?_); rintro e w3 ⟨rfl, x3⟩; have e3 := Ext.trans e2 x3; have y3 := (HX.out.trans e3).turn2 hBW; have hS3 := HKeep.out _ y3; clear x3)
        | (go_at_call 13; (with_reducible refine (HPS.out _ _ _ _ (HX0.out.trans (HX.out.trans e3)) (HD.out.p.ext (HX.out.trans e3)) (HS.out.ext e3).textsP).mono ?_); rintro e w4 ⟨⟨v1, rfl, b4⟩, i4, t4⟩; obtain ⟨q1, k1, rfl⟩ := HBf.out _ _ _ b4; have I4 := Lib.hid i4; have Q4 := Lib.hid ((HD.out.q.ext (HX.out.trans e3)).turnP t4); have L4 := Lib.hid ((HS.out.ext e3).turnP t4); have B4 := Lib.hid (b4.mono (Nat.le_trans hBW (HX.out.trans e3).size)); have y4 := y3.trans t4.turn2; have hS4 := HKeep.out _ y4; have y4d := y4.trans ((Ext.refl _).drew.turn2 (Nat.le_trans hBW y4.size)); have hS4d := HKeep.out _ y4d; have E4 := Lib.hid ((Ext.refl w4).drew); clear i4 t4 b4))
      go_wp2
      go_region_held3 (fun u => u.cell? ⟨pb, 0, none⟩ = some (.pointer (some ⟨b, 0, none⟩)) ∧ u.cell? ⟨pb, 1, none⟩ = some (.pointer (some ⟨d, 0, none⟩)) ∧ u.cell? ⟨w.heap.size, 1, none⟩ = some (.string tx) ∧ u.cell? ⟨w.heap.size, 2, none⟩ = some (.string ot) ∧ u.cell? ⟨w.heap.size, 5, none⟩ = some (.bool fit) ∧ Turn2 w0.heap.size W u) (first | exact hS4d | exact hS4 | exact hS5 | exact hS6 | exact hS7 | exact hS8 | assumption | go_keep) (first
        | (go_at_call 32; (with_reducible refine (HRo.out tx _).mono ?_); rintro e w5 ⟨rfl, x5⟩; have y5 := Turn2.trans y4d (x5.turn2 (Nat.le_trans hBW (Turn2.size y4d))); have hS5 := HKeep.out _ y5; have E5 := Lib.hid (Ext.trans E4.out x5); clear x5)
        | (go_at_call 32; (with_reducible refine (HRo.out ot _).mono ?_); rintro e w6 ⟨rfl, x6⟩; have y6 := Turn2.trans y5 (x6.turn2 (Nat.le_trans hBW (Turn2.size y5))); have hS6 := HKeep.out _ y6; have E6 := Lib.hid (Ext.trans E5.out x6); clear x6)
        | (go_at_call 14; (with_reducible refine (HNo.out tx _).mono ?_); rintro e w7 ⟨rfl, x7⟩; have y7 := Turn2.trans y6 (x7.turn2 (Nat.le_trans hBW (Turn2.size y6))); have hS7 := HKeep.out _ y7; have E7 := Lib.hid (Ext.trans E6.out x7); clear x7)
        | (go_at_call 59; (with_reducible refine (HQS.out _ _ _ _ (Q4.out.ext E7.out) (L4.out.ext E7.out).textsP).mono ?_); rintro e w8 ⟨⟨v2, rfl, b8⟩, i8, t8⟩; obtain ⟨q2, k2, rfl⟩ := HBf.out _ _ _ b8; have I8 := Lib.hid i8; have P8 := Lib.hid ((I4.out.ext E7.out).turnQ t8); have X8 := Lib.hid ((B4.out.ext E7.out).turnQ t8); have B8 := Lib.hid (b8.mono (Nat.le_trans hBW y7.size)); have y8 := y7.trans t8.turn2; have hS8 := HKeep.out _ y8; clear i8 t8 b8))
      all_goals
        have HR8 := Lib.hid (HRight.out _ y8)
        clear hS0 hS hS1 hS2 hS3 hS4 hS4d hS5 hS6 hS7 hS8 y1 y2 y3 y4 y4d y5 y6 y7 e1 e2 e3 hEd
        go_wp2
        go_loopw [11] (fun iv wr => ∃ i : Nat, i ≤ k ∧ iv = .int .i64 (i : Int) ∧ Hid (Ext w8 wr)) (fun iv _ => k - (intOf iv).toNat)
        case atStart => exact ⟨0, Nat.zero_le _, rfl, Lib.hid (Ext.refl _)⟩
        case round =>
          obtain ⟨i, hi, rfl, HXi⟩ := hrel
          by_cases hlt : i < k
          · have hlti : (i : Int) < (k : Int) := by omega
            have hi0 : (0 : Int) ≤ (i : Int) := by omega
            obtain ⟨t, ht⟩ : ∃ t, T[i]? = some t := ⟨_, List.getElem?_eq_getElem (by omega)⟩
            obtain ⟨g1, rfl, c1⟩ := (X8.out.ext HXi.out).text ht
            obtain ⟨g2, rfl, c2⟩ := (B8.out.ext HXi.out).text ht
            have hR0 : wr.cell? ⟨g1, i, none⟩ = some (.string t) ∧ wr.cell? ⟨g2, i, none⟩ = some (.string t) ∧ Ext w8 wr := ⟨c1, c2, HXi.out⟩
            have hR1 : wr.drew.cell? ⟨g1, i, none⟩ = some (.string t) ∧ wr.drew.cell? ⟨g2, i, none⟩ = some (.string t) ∧ Ext w8 wr.drew := ⟨c1, c2, HXi.out.drew⟩
            have hXd := Lib.hid HXi.out.drew
            go_wp2
            go_region_held3 (fun u => u.cell? ⟨g1, i, none⟩ = some (.string t) ∧ u.cell? ⟨g2, i, none⟩ = some (.string t) ∧ Ext w8 u) (first | exact hR1 | exact hR0 | assumption | go_keep) (first | fail)
            all_goals
              go_wp2
              go_roundw
              case rel => exact ⟨i + 1, by omega, by go_num, hXd⟩
              case measure => simp [intOf]; omega
          · obtain rfl : i = k := by omega
            have hlti : ¬ (i : Int) < (i : Int) := by omega
            have hE := HXi.out.turn2 (Nat.le_trans hBW y8.size)
            have hr := HRight.out _ (y8.trans hE)
            have hB9 := hr.1
            have f2 := hB9.frozen 2
            have c2 := hB9.cell 2 _ rfl
            have hDn : Duo w0.heap.size wr b d S' := ⟨P8.out.ext HXi.out, I8.out.ext HXi.out, hS'⟩
            have HNew := Lib.hid (show Sit w0 (wr.setCell ⟨pb, 2, none⟩ (.slice q1 i k1)) pb from ⟨b, d, S', .slice q1 i k1, T, hd, pt, n, hB9.set_ 2 _, hDn.put hB9, (X8.out.ext HXi.out).put hB9, hT5, hhd, hn, hr.2.2.setCell hpb _, hpb⟩)
            have HOld := Lib.hid (show Sit w0 wr pb from ⟨b, d, S', sh, T0, hd, pt, n, hB9, hDn, hr.2.1, hTl, hhd, hn, hr.2.2, hpb⟩)
            clear hB9 hr hE hDn
            by_cases hc : c = 0
            · subst hc
              go_wp2
              go_ret
              exact ⟨rfl, HNew.out⟩
            · have hcb : (c == 0) = false := by simpa using hc
              go_wp2
              go_ret
              exact ⟨rfl, HOld.out⟩
end Go.Proofs.YtobhbppogeghnaaGreatDoor
end
