/- The law's play: an act: both are begun. (Printed by mkdoes.py.) The law's play: any act. The law's play: both barriers look the same. (Printed by mkstands.py.) The law's play: both barriers look the same: open ones. The law's play: its start, how it stands, its header. Contract: whether acts are too heavy: the laws of layer 15. The walk of BarrierPlays: what each call answers, and what a barrier is behind any calls. -/
import Derived.Test.YtobhbppogeghnaaGreatDoorM44
import Derived.Test.YtobhbppogeghnaaGreatDoorM43
import Derived.BigRegion
import Derived.Great.Frames
import Derived.Test.YtobhbppogeghnaaGreatDoorM03
import Derived.Deep.RegionHeld3
import Derived.Deep.DeepCutAuto
import Derived.Outline
import Derived.Test.YtobhbppogeghnaaGreatDoorM42
section
namespace Go.Proofs.YtobhbppogeghnaaGreatDoor
open Go.RowKit
attribute [local irreducible] rkey expand enc dec ctrB ctrC ctrL xorL xorAll turnL turnT kd t4 t8 env5 chk tagT sealT ringL hdT envOf hdOf f12B f32B n15 r15 shareB

set_option maxRecDepth 1000000 in
set_option maxHeartbeats 8000000 in
theorem does_begin (w0 w : World) (pb : Nat) (h : Sit w0 w pb) (dv nv sv : Nat) (tx ot : ByteArray) (fit : Bool) (hok : ActOk w0 dv nv sv tx ot) (hk : dv % 9 = 0) :
    Calls Tryz.prog 10 #[.pointer (some ⟨pb, 0, none⟩), .agg #[.int .u8 (dv : Int), .string tx, .string ot, .int .u32 (nv : Int), .int .u8 (sv : Int), .bool fit]] w fun e w' => e = .returned (.bool true) ∧ Sit w0 w' pb := by
  obtain ⟨b, d, S, sh, T, hd, pt, n, hP, hD, hT, hTl, hhd, hn, hx, hpb⟩ := h

  have hm : (dv : Int) % 9 = 0 := by omega
  have hs256 := hok.sv
  obtain ⟨W, hW⟩ : ∃ W, w.alloc (.cells #[.int .u8 (dv : Int), .string tx, .string ot, .int .u32 (nv : Int), .int .u8 (sv : Int), .bool fit] 42) = W := ⟨_, rfl⟩
  have xW : Ext w W := hW ▸ (Ext.refl w).alloc _
  have hA : Blk W w.heap.size 42 [.int .u8 (dv : Int), .string tx, .string ot, .int .u32 (nv : Int), .int .u8 (sv : Int), .bool fit] := hW ▸ Blk.new w _ _
  have hPW : PlayBlk W pb b d sh hd pt n := hP.turn2 (xW.turn2 (Nat.le_refl _))
  have a0 := hA.cell 0 _ rfl
  have hxW := hx.trans xW
  have hBW := hxW.size
  have HD := Lib.hid (hD.ext xW)
  have HT := Lib.hid (hT.ext xW)
  have HPl := Lib.hid hPW
  have HX := Lib.hid hxW
  have a1 := hA.cell 1 _ rfl
  have a2 := hA.cell 2 _ rfl
  have a3 := hA.cell 3 _ rfl
  have a4 := hA.cell 4 _ rfl
  have a5 := hA.cell 5 _ rfl
  have HKeep : Hid (∀ u, Turn2 w0.heap.size W u → u.cell? ⟨pb, 0, none⟩ = some (.pointer (some ⟨b, 0, none⟩)) ∧ u.cell? ⟨pb, 1, none⟩ = some (.pointer (some ⟨d, 0, none⟩)) ∧ Turn2 w0.heap.size W u) :=
    Lib.hid (fun u t => ⟨(hPW.turn2 t).cell 0 _ rfl, (hPW.turn2 t).cell 1 _ rfl, t⟩)
  have HEnd : Hid (∀ u S', OkS S' → Turn2 w0.heap.size W u → IsP u w0.heap.size b S' → IsQ u w0.heap.size d S' → Sit w0 u pb) :=
    Lib.hid (fun u S' hS' t i j => ⟨b, d, S', sh, T, hd, pt, n, hPW.turn2 t, ⟨i, j, hS'⟩, (hT.ext xW).turn2 t, hTl, hhd, hn, Ext.turned2 hxW t, hpb⟩)
  have HRight : Hid (∀ u, Turn2 w0.heap.size W u → PlayBlk u pb b d sh hd pt n ∧ BufS u w0.heap.size sh T ∧ Ext w0 u ∧ Blk u w.heap.size 42 [.int .u8 (dv : Int), .string tx, .string ot, .int .u32 (nv : Int), .int .u8 (sv : Int), .bool fit]) :=
    Lib.hid (fun u t => ⟨hPW.turn2 t, (hT.ext xW).turn2 t, Ext.turned2 hxW t, Turn2.blk t hA (by decide) (by decide) (by decide) (by decide) (by decide)⟩)
  have HBg := Lib.hid (begins15 w0 W pb (HEnd.out W S HD.out.ok ((Ext.refl W).turn2 hBW) HD.out.p HD.out.q) dv nv sv tx ot fit hok)
  have hR : Turn2 w0.heap.size W W := (Ext.refl W).turn2 hBW
  have hRd : Turn2 w0.heap.size W W.drew := (Ext.refl W).drew.turn2 hBW
  have hEd : Ext W W.drew := (Ext.refl W).drew
  have hS0 := HKeep.out _ hR
  have hS := HKeep.out _ hRd
  clear hP hD hT hx xW hA hPW hxW hok hs256
  go_enter Tryz.func10, Tryz.ntmps10
  go_wp2_with (go_at_call 27; refine (HBg.out).mono ?_; rintro e w1 ⟨rfl, s1⟩; have S1 := Lib.hid s1; clear s1)
  go_ret
  exact ⟨rfl, S1.out⟩
end Go.Proofs.YtobhbppogeghnaaGreatDoor
end

section
namespace Go.Proofs.YtobhbppogeghnaaGreatDoor
open Go.RowKit
theorem does_any (w0 w : World) (pb : Nat) (h : Sit w0 w pb) (dv nv sv : Nat) (tx ot : ByteArray) (fit : Bool) (hok : ActOk w0 dv nv sv tx ot) :
    Calls Tryz.prog 10 #[.pointer (some ⟨pb, 0, none⟩), .agg #[.int .u8 (dv : Int), .string tx, .string ot, .int .u32 (nv : Int), .int .u8 (sv : Int), .bool fit]] w fun e w' => e = .returned (.bool true) ∧ Sit w0 w' pb := by
  rcases (show dv % 9 = 0 ∨ dv % 9 = 1 ∨ dv % 9 = 2 ∨ dv % 9 = 3 ∨ dv % 9 = 4 ∨ dv % 9 = 5 ∨ dv % 9 = 6 ∨ dv % 9 = 7 ∨ dv % 9 = 8 by omega) with e | e | e | e | e | e | e | e | e
  · exact does_begin w0 w pb h dv nv sv tx ot fit hok e
  · exact does_load w0 w pb h dv nv sv tx ot fit hok e
  · exact does_unseal w0 w pb h dv nv sv tx ot fit hok e
  · exact does_seal w0 w pb h dv nv sv tx ot fit hok e
  · exact does_rotate w0 w pb h dv nv sv tx ot fit hok e
  · exact does_retire w0 w pb h dv nv sv tx ot fit hok e
  · exact does_put w0 w pb h dv nv sv tx ot fit hok e
  · exact does_get w0 w pb h dv nv sv tx ot fit hok e
  · exact does_new w0 w pb h dv nv sv tx ot fit hok e
end Go.Proofs.YtobhbppogeghnaaGreatDoor
end

section
namespace Go.Proofs.YtobhbppogeghnaaGreatDoor
open Go.RowKit
attribute [local irreducible] rkey expand enc dec ctrB ctrC ctrL xorL xorAll turnL turnT kd t4 t8 env5 chk tagT sealT ringL hdT envOf hdOf f12B f32B n15 r15 shareB

set_option maxRecDepth 1000000 in
set_option maxHeartbeats 8000000 in
theorem stands_none (w : World) (B pb b d : Nat) (sh : Value) (hd pt : ByteArray) (n : Nat) (hP : PlayBlk w pb b d sh hd pt n) (hD : Duo B w b d .none) :
    Calls Tryz.prog 11 #[.pointer (some ⟨pb, 0, none⟩)] w fun e w' => e = .returned (.bool true) ∧ Ext w w' := by
  have HSt := Lib.hid (fun u (x : Ext w u) => bstate_any u B b _ (hD.p.ext x))
  have HHd := Lib.hid (fun u (x : Ext w u) => header_any u B b _ (hD.p.ext x))
  have HHv := Lib.hid (fun u (x : Ext w u) => have_any15 u B b _ (hD.p.ext x))
  have HEp := Lib.hid (fun u (x : Ext w u) => epochs_shut u B b _ (hD.p.ext x) (by simp [stN]))
  simp only [haveS, hdS, stN] at HHv HHd HSt
  obtain ⟨v, i, _⟩ := hD.q
  obtain ⟨p4, c4, rfl, -⟩ := i.buf.cells

  have HKeep : Hid (∀ u, Ext w u → u.cell? ⟨pb, 0, none⟩ = some (.pointer (some ⟨b, 0, none⟩)) ∧ u.cell? ⟨pb, 1, none⟩ = some (.pointer (some ⟨d, 0, none⟩)) ∧ u.cell? ⟨d, 0, none⟩ = some (.int .u8 0) ∧ u.cell? ⟨d, 1, none⟩ = some (.string ⟨#[]⟩) ∧ Ext w u) :=
    Lib.hid (fun u x => ⟨(Blk.ext hP x).cell 0 _ rfl, (Blk.ext hP x).cell 1 _ rfl, (i.blk.ext x).cell 0 _ rfl, (i.blk.ext x).cell 1 _ rfl, x⟩)
  have HC4 : Hid (∀ u, Ext w u → u.cell? ⟨d, 4, none⟩ = some (.slice p4 0 c4)) := Lib.hid (fun u x => (i.blk.ext x).cell 4 _ rfl)
  have hS0 := HKeep.out _ (Ext.refl w)
  obtain ⟨p0, p1, q0, q1, -⟩ := id hS0
  clear hP hD i
  go_enter Tryz.func11, Tryz.ntmps11
  go_wp2_with (first
    | (go_at_call 23; refine (HHv.out _ (Ext.refl w)).mono ?_; rintro e w1 ⟨rfl, x1⟩; obtain ⟨a0, a1, b0, b1, -⟩ := HKeep.out _ x1; have b4 := HC4.out _ x1; have hS1 := HKeep.out _ x1; have hS2 := HKeep.out _ x1.drew)
    | (go_at_call 22; refine (HEp.out _ x1).mono ?_; rintro e w2 ⟨rfl, rfl⟩))
  go_region_held3 (fun u => u.cell? ⟨pb, 0, none⟩ = some (.pointer (some ⟨b, 0, none⟩)) ∧ u.cell? ⟨pb, 1, none⟩ = some (.pointer (some ⟨d, 0, none⟩)) ∧ u.cell? ⟨d, 0, none⟩ = some (.int .u8 0) ∧ u.cell? ⟨d, 1, none⟩ = some (.string ⟨#[]⟩) ∧ Ext w u) (first | exact hS2 | exact hS1 | assumption | go_keep) (first
    | (go_at_call 24; (with_reducible refine (HSt.out _ (by first | exact x1.drew | exact x1)).mono ?_); rintro e w3 ⟨rfl, rfl⟩)
    | (go_at_call 17; (with_reducible refine (HHd.out _ (by first | exact x1.drew | exact x1)).mono ?_); rintro e w4 ⟨rfl, rfl⟩))
  all_goals
    go_wp2
    go_ret
    exact ⟨by simp, x1.drew⟩
set_option maxRecDepth 1000000 in
set_option maxHeartbeats 8000000 in
theorem stands_closed (w : World) (B pb b d : Nat) (sh : Value) (hd pt : ByteArray) (n : Nat) (m : Nat) (E : ByteArray) (L : List (Nat × ByteArray)) (hP : PlayBlk w pb b d sh hd pt n) (hD : Duo B w b d (.closed m E L)) :
    Calls Tryz.prog 11 #[.pointer (some ⟨pb, 0, none⟩)] w fun e w' => e = .returned (.bool true) ∧ Ext w w' := by
  have HSt := Lib.hid (fun u (x : Ext w u) => bstate_any u B b _ (hD.p.ext x))
  have HHd := Lib.hid (fun u (x : Ext w u) => header_any u B b _ (hD.p.ext x))
  have HHv := Lib.hid (fun u (x : Ext w u) => have_any15 u B b _ (hD.p.ext x))
  have HEp := Lib.hid (fun u (x : Ext w u) => epochs_shut u B b _ (hD.p.ext x) (by simp [stN]))
  simp only [haveS, hdS, stN] at HHv HHd HSt
  obtain ⟨v, i, _⟩ := hD.q
  obtain ⟨p4, c4, rfl, -⟩ := i.buf.cells
  have hm16 := hD.ok.2.1
  have hix := hdT_index m E (by omega)
  have hLl := hD.ok.2.2.2
  have hw64 : IntKind.i64.wrap (m : Int) = (m : Int) := IntWalk.i64_in _ ⟨by omega, by omega⟩
  have HKeep : Hid (∀ u, Ext w u → u.cell? ⟨pb, 0, none⟩ = some (.pointer (some ⟨b, 0, none⟩)) ∧ u.cell? ⟨pb, 1, none⟩ = some (.pointer (some ⟨d, 0, none⟩)) ∧ u.cell? ⟨d, 0, none⟩ = some (.int .u8 1) ∧ u.cell? ⟨d, 1, none⟩ = some (.string (hdT m E)) ∧ Ext w u) :=
    Lib.hid (fun u x => ⟨(Blk.ext hP x).cell 0 _ rfl, (Blk.ext hP x).cell 1 _ rfl, (i.blk.ext x).cell 0 _ rfl, (i.blk.ext x).cell 1 _ rfl, x⟩)
  have HC4 : Hid (∀ u, Ext w u → u.cell? ⟨d, 4, none⟩ = some (.slice p4 L.length c4)) := Lib.hid (fun u x => (i.blk.ext x).cell 4 _ rfl)
  have hS0 := HKeep.out _ (Ext.refl w)
  obtain ⟨p0, p1, q0, q1, -⟩ := id hS0
  clear hP hD i
  go_enter Tryz.func11, Tryz.ntmps11
  go_wp2_with (first
    | (go_at_call 23; refine (HHv.out _ (Ext.refl w)).mono ?_; rintro e w1 ⟨rfl, x1⟩; obtain ⟨a0, a1, b0, b1, -⟩ := HKeep.out _ x1; have b4 := HC4.out _ x1; have hS1 := HKeep.out _ x1; have hS2 := HKeep.out _ x1.drew)
    | (go_at_call 22; refine (HEp.out _ x1).mono ?_; rintro e w2 ⟨rfl, rfl⟩))
  go_region_held3 (fun u => u.cell? ⟨pb, 0, none⟩ = some (.pointer (some ⟨b, 0, none⟩)) ∧ u.cell? ⟨pb, 1, none⟩ = some (.pointer (some ⟨d, 0, none⟩)) ∧ u.cell? ⟨d, 0, none⟩ = some (.int .u8 1) ∧ u.cell? ⟨d, 1, none⟩ = some (.string (hdT m E)) ∧ Ext w u) (first | exact hS2 | exact hS1 | assumption | go_keep) (first
    | (go_at_call 24; (with_reducible refine (HSt.out _ (by first | exact x1.drew | exact x1)).mono ?_); rintro e w3 ⟨rfl, rfl⟩)
    | (go_at_call 17; (with_reducible refine (HHd.out _ (by first | exact x1.drew | exact x1)).mono ?_); rintro e w4 ⟨rfl, rfl⟩))
  all_goals
    go_wp2
    go_ret
    exact ⟨by simp, x1.drew⟩
end Go.Proofs.YtobhbppogeghnaaGreatDoor
end

section
namespace Go.Proofs.YtobhbppogeghnaaGreatDoor
open Go.RowKit
attribute [local irreducible] rkey expand enc dec ctrB ctrC ctrL xorL xorAll turnL turnT kd t4 t8 env5 chk tagT sealT ringL hdT envOf hdOf f12B f32B n15 r15 shareB

set_option maxRecDepth 1000000 in
set_option maxHeartbeats 8000000 in
theorem stands_open (w : World) (B pb b d : Nat) (sh : Value) (hd pt : ByteArray) (n : Nat) (m : Nat) (E root : ByteArray) (K : List (Nat × ByteArray)) (hP : PlayBlk w pb b d sh hd pt n) (hD : Duo B w b d (.opened m E root K)) :
    Calls Tryz.prog 11 #[.pointer (some ⟨pb, 0, none⟩)] w fun e w' => e = .returned (.bool true) ∧ Ext w w' := by
  obtain ⟨q, hq⟩ : ∃ q, K.length = q := ⟨_, rfl⟩
  have HSt := Lib.hid (fun u (x : Ext w u) => bstate_any u B b _ (hD.p.ext x))
  have HHd := Lib.hid (fun u (x : Ext w u) => header_any u B b _ (hD.p.ext x))
  have HHv := Lib.hid (fun u (x : Ext w u) => have_any15 u B b _ (hD.p.ext x))
  have HEp := Lib.hid (fun u (x : Ext w u) => epochs_open u B b m E root K (hD.p.ext x) q hq)
  simp only [haveS, hdS, stN] at HHv HHd HSt
  obtain ⟨v, rd, p, c, i, j, _⟩ := hD.q
  obtain ⟨p4, c4, rfl, -⟩ := i.buf.cells
  have hm16 := hD.ok.2.1
  have hix := hdT_index m E (by omega)
  have hw64 : IntKind.i64.wrap (m : Int) = (m : Int) := IntWalk.i64_in _ ⟨by omega, by omega⟩
  have hq64 : q ≤ 64 := by have := hD.ok.2.2.2.2.few; omega
  have hring : Blk w rd 77 [.slice p q c] := hq ▸ j.ring
  have HJ := Lib.hid j
  have HQq := Lib.hid hq
  have HKeep : Hid (∀ u, Ext w u → u.cell? ⟨pb, 0, none⟩ = some (.pointer (some ⟨b, 0, none⟩)) ∧ u.cell? ⟨pb, 1, none⟩ = some (.pointer (some ⟨d, 0, none⟩)) ∧ u.cell? ⟨d, 0, none⟩ = some (.int .u8 2) ∧ u.cell? ⟨d, 1, none⟩ = some (.string (hdT m E)) ∧ Ext w u) :=
    Lib.hid (fun u x => ⟨(Blk.ext hP x).cell 0 _ rfl, (Blk.ext hP x).cell 1 _ rfl, (i.blk.ext x).cell 0 _ rfl, (i.blk.ext x).cell 1 _ rfl, x⟩)
  have HC4 : Hid (∀ u, Ext w u → u.cell? ⟨d, 4, none⟩ = some (.slice p4 0 c4) ∧ u.cell? ⟨d, 3, none⟩ = some (.pointer (some ⟨rd, 0, none⟩)) ∧ u.cell? ⟨rd, 0, none⟩ = some (.slice p q c)) := Lib.hid (fun u x => ⟨(i.blk.ext x).cell 4 _ rfl, (i.blk.ext x).cell 3 _ rfl, (hring.ext x).cell 0 _ rfl⟩)
  have hS0 := HKeep.out _ (Ext.refl w)
  obtain ⟨p0, p1, q0, q1, -⟩ := id hS0
  clear hP hD i j hring
  go_enter Tryz.func11, Tryz.ntmps11
  go_wp2_with (first
    | (go_at_call 23; refine (HHv.out _ (Ext.refl w)).mono ?_; rintro e w1 ⟨rfl, x1⟩; obtain ⟨a0, a1, b0, b1, -⟩ := HKeep.out _ x1; have b4 := (HC4.out _ x1).1)
    | (go_at_call 22; refine (HEp.out _ x1).mono ?_; rintro e w2 ⟨g, cg, rfl, i2, x2⟩; have I2 := Lib.hid i2; have y2 := x1.trans x2; obtain ⟨c0, c1, d0, d1, -⟩ := HKeep.out _ y2; obtain ⟨-, d3, r0⟩ := HC4.out _ y2; have Y2 := Lib.hid y2; clear i2 x2 y2))
  go_loopw [8] (fun iv wr => ∃ i : Nat, i ≤ q ∧ iv = .int .i64 (i : Int) ∧ Hid (Ext w2 wr)) (fun iv _ => q - (intOf iv).toNat)
  case atStart => exact ⟨0, Nat.zero_le _, rfl, Lib.hid (Ext.refl _)⟩
  case round =>
    obtain ⟨i, hi, rfl, HXi⟩ := hrel
    have Y := Lib.hid (Y2.out.trans HXi.out)
    by_cases hlt : i < q
    · have hlti : (i : Int) < (q : Int) := by omega
      have hi0 : (0 : Int) ≤ (i : Int) := by omega
      have hKq := HQq.out
      obtain ⟨x, hx⟩ : ∃ x, K[i]? = some x := ⟨_, List.getElem?_eq_getElem (by omega)⟩
      obtain ⟨gp, rfl, -, ce, -⟩ := (HJ.out.ext Y.out).at_ hx
      have cg1 := (I2.out.ext HXi.out).at_ i x.1 (by simp [eps]; omega) (by obtain ⟨h1, h2⟩ := List.getElem?_eq_some_iff.1 hx; simp [eps, h2])
      have hR0 : wr.cell? ⟨g, i, none⟩ = some (.int .u32 (x.1 : Int)) ∧ wr.cell? ⟨pb, 1, none⟩ = some (.pointer (some ⟨d, 0, none⟩)) ∧ wr.cell? ⟨d, 3, none⟩ = some (.pointer (some ⟨rd, 0, none⟩)) ∧ wr.cell? ⟨rd, 0, none⟩ = some (.slice (some ⟨gp, 0, none⟩) q c) ∧ wr.cell? ⟨gp, i * 2, none⟩ = some (.int .u32 (x.1 : Int)) ∧ Ext w2 wr := ⟨cg1, (HKeep.out _ Y.out).2.1, (HC4.out _ Y.out).2.1, (HC4.out _ Y.out).2.2, ce, HXi.out⟩
      have hR1 : wr.drew.cell? ⟨g, i, none⟩ = some (.int .u32 (x.1 : Int)) ∧ wr.drew.cell? ⟨pb, 1, none⟩ = some (.pointer (some ⟨d, 0, none⟩)) ∧ wr.drew.cell? ⟨d, 3, none⟩ = some (.pointer (some ⟨rd, 0, none⟩)) ∧ wr.drew.cell? ⟨rd, 0, none⟩ = some (.slice (some ⟨gp, 0, none⟩) q c) ∧ wr.drew.cell? ⟨gp, i * 2, none⟩ = some (.int .u32 (x.1 : Int)) ∧ Ext w2 wr.drew := ⟨cg1, (HKeep.out _ Y.out).2.1, (HC4.out _ Y.out).2.1, (HC4.out _ Y.out).2.2, ce, HXi.out.drew⟩
      have hXd := Lib.hid HXi.out.drew
      clear ce cg1
      go_wp2
      go_region_held3 (fun u => u.cell? ⟨g, i, none⟩ = some (.int .u32 (x.1 : Int)) ∧ u.cell? ⟨pb, 1, none⟩ = some (.pointer (some ⟨d, 0, none⟩)) ∧ u.cell? ⟨d, 3, none⟩ = some (.pointer (some ⟨rd, 0, none⟩)) ∧ u.cell? ⟨rd, 0, none⟩ = some (.slice (some ⟨gp, 0, none⟩) q c) ∧ u.cell? ⟨gp, i * 2, none⟩ = some (.int .u32 (x.1 : Int)) ∧ Ext w2 u) (first | exact hR1 | exact hR0 | assumption | go_keep) (first | fail)
      all_goals
        go_wp2
        go_roundw
        case rel => exact ⟨i + 1, by omega, by go_num, hXd⟩
        case measure => simp [intOf]; omega
    · obtain rfl : i = q := by omega
      have hlti : ¬ (i : Int) < (i : Int) := by omega
      have hS1 := HKeep.out _ Y.out
      have hS2 := HKeep.out _ Y.out.drew
      clear c0 c1 d0 d1 d3 r0
      go_wp2
      go_region_held3 (fun u => u.cell? ⟨pb, 0, none⟩ = some (.pointer (some ⟨b, 0, none⟩)) ∧ u.cell? ⟨pb, 1, none⟩ = some (.pointer (some ⟨d, 0, none⟩)) ∧ u.cell? ⟨d, 0, none⟩ = some (.int .u8 2) ∧ u.cell? ⟨d, 1, none⟩ = some (.string (hdT m E)) ∧ Ext w u) (first | exact hS2 | exact hS1 | assumption | go_keep) (first
        | (go_at_call 24; (with_reducible refine (HSt.out _ (by first | exact Y.out.drew | exact Y.out)).mono ?_); rintro e w3 ⟨rfl, rfl⟩)
        | (go_at_call 17; (with_reducible refine (HHd.out _ (by first | exact Y.out.drew | exact Y.out)).mono ?_); rintro e w4 ⟨rfl, rfl⟩))
      all_goals
        go_wp2
        go_ret
        exact ⟨by simp, Y.out.drew⟩
end Go.Proofs.YtobhbppogeghnaaGreatDoor
end

section
namespace Go.Proofs.YtobhbppogeghnaaGreatDoor
open Go.RowKit
attribute [local irreducible] rkey expand enc dec ctrB ctrC ctrL xorL xorAll turnL turnT kd t4 t8 env5 chk tagT sealT ringL hdT envOf hdOf

theorem Sit.ext {w0 w w' : World} {pb : Nat} (h : Sit w0 w pb) (x : Ext w w') : Sit w0 w' pb := by
  obtain ⟨b, d, S, sh, T, hd, pt, n, hP, hD, hT, hTl, hhd, hn, hx, hpb⟩ := h
  exact ⟨b, d, S, sh, T, hd, pt, n, Blk.ext hP x, hD.ext x, hT.ext x, hTl, hhd, hn, hx.trans x, hpb⟩
theorem Sit.base {w0 w : World} {pb : Nat} (h : Sit w0 w pb) : Ext w0 w := by
  obtain ⟨b, d, S, sh, T, hd, pt, n, hP, hD, hT, hTl, hhd, hn, hx, hpb⟩ := h
  exact hx
theorem stands_any (w0 w : World) (pb : Nat) (h : Sit w0 w pb) :
    Calls Tryz.prog 11 #[.pointer (some ⟨pb, 0, none⟩)] w fun e w' => e = .returned (.bool true) ∧ Sit w0 w' pb ∧ Ext w w' := by
  obtain ⟨b, d, S, sh, T, hd, pt, n, hP, hD, hT, hTl, hhd, hn, hx, hpb⟩ := id h
  cases S with
  | none => exact (stands_none w _ pb b d sh hd pt n hP hD).mono fun _ _ ⟨q, x⟩ => ⟨q, h.ext x, x⟩
  | closed m E L => exact (stands_closed w _ pb b d sh hd pt n m E L hP hD).mono fun _ _ ⟨q, x⟩ => ⟨q, h.ext x, x⟩
  | opened m E root K => exact (stands_open w _ pb b d sh hd pt n m E root K hP hD).mono fun _ _ ⟨q, x⟩ => ⟨q, h.ext x, x⟩
theorem IsQ.cell1 {w : World} {B d : Nat} {S : BS} (h : IsQ w B d S) : w.cell? ⟨d, 1, none⟩ = some (.string (hdS S)) := by
  cases S with
  | none => obtain ⟨v, i, l⟩ := h; exact i.blk.cell 1 _ rfl
  | closed n E L => obtain ⟨v, i, l⟩ := h; exact i.blk.cell 1 _ rfl
  | opened n E root K => obtain ⟨v, rd, p, c, i, j, l⟩ := h; exact i.blk.cell 1 _ rfl
theorem hdS_size {S : BS} (h : OkS S) : (hdS S).size ≤ 140737488351233 := by
  cases S with
  | none => exact Nat.zero_le _
  | closed n E L => show (hdT n E).size ≤ _; rw [hdT_size]; have := h.2.2.1; omega
  | opened n E root K => show (hdT n E).size ≤ _; rw [hdT_size]; have := h.2.2.1; omega
theorem sit_look {w0 w : World} {pb : Nat} (h : Sit w0 w pb) : ∃ (d st : Nat) (hd : ByteArray), w.cell? ⟨pb, 1, none⟩ = some (.pointer (some ⟨d, 0, none⟩)) ∧ w.cell? ⟨d, 0, none⟩ = some (.int .u8 (st : Int)) ∧ w.cell? ⟨d, 1, none⟩ = some (.string hd) ∧ w.frozen? ⟨pb, 3, none⟩ = false ∧ (∃ u, w.cell? ⟨pb, 3, none⟩ = some u) ∧ Sit w0 (w.setCell ⟨pb, 3, none⟩ (.string hd)) pb := by
  obtain ⟨b, d, S, sh, T, hd, pt, n, hP, hD, hT, hTl, hhd, hn, hx, hpb⟩ := h
  have hB : Blk w pb 38 _ := hP
  exact ⟨d, stN S, hdS S, hB.cell 1 _ rfl, hD.q.cell0, hD.q.cell1, hB.frozen 3, ⟨_, hB.cell 3 _ rfl⟩, b, d, S, sh, T, hdS S, pt, n, hB.set_ 3 _, hD.put hB, hT.put hB, hTl, hdS_size hD.ok, hn, hx.setCell hpb _, hpb⟩
theorem sit_start {w0 w1 : World} {b : Nat} (i1 : IsP w1 w0.heap.size b .none) (x1 : Ext w0 w1) :
    Sit w0 ((w1.alloc (.cells #[.int .u8 0, .string ⟨#[]⟩, .string ⟨#[]⟩, .pointer none, .slice none 0 0] 34)).alloc (.cells #[.pointer (some ⟨b, 0, none⟩), .pointer (some ⟨w1.heap.size, 0, none⟩), .slice none 0 0, .string ⟨#[]⟩, .string ⟨#[]⟩, .int .u64 0] 38)) (w1.heap.size + 1) := by
  have q1 := rbar_new w1 w0.heap.size x1.size
  have y1 : Ext w1 (w1.alloc (.cells #[.int .u8 0, .string ⟨#[]⟩, .string ⟨#[]⟩, .pointer none, .slice none 0 0] 34)) := (Ext.refl _).alloc _
  have hz : (w1.alloc (.cells #[.int .u8 0, .string ⟨#[]⟩, .string ⟨#[]⟩, .pointer none, .slice none 0 0] 34)).heap.size = w1.heap.size + 1 := by simp
  generalize hV : w1.alloc (.cells #[.int .u8 0, .string ⟨#[]⟩, .string ⟨#[]⟩, .pointer none, .slice none 0 0] 34) = V at *
  have y2 := (Ext.refl V).alloc (.cells #[.pointer (some ⟨b, 0, none⟩), .pointer (some ⟨w1.heap.size, 0, none⟩), .slice none 0 0, .string ⟨#[]⟩, .string ⟨#[]⟩, .int .u64 0] 38)
  have hB := Blk.new V [.pointer (some ⟨b, 0, none⟩), .pointer (some ⟨w1.heap.size, 0, none⟩), .slice none 0 0, .string ⟨#[]⟩, .string ⟨#[]⟩, .int .u64 0] 38
  rw [hz] at hB
  exact ⟨b, w1.heap.size, .none, .slice none 0 0, [], ⟨#[]⟩, ⟨#[]⟩, 0, hB, ⟨(i1.ext y1).ext y2, q1.ext y2, trivial⟩, BufS.nil _ _, by simp, by decide, by decide, (x1.trans y1).trans y2, Nat.le_trans x1.size (Nat.le_succ _)⟩
end Go.Proofs.YtobhbppogeghnaaGreatDoor
end

section
namespace Go.Proofs.YtobhbppogeghnaaGreatDoor
open Go.RowKit

/-- What the texts of the acts weigh. -/
def sumA : List Act15 → Nat
  | [] => 0
  | x :: l => x.Text.size + x.Other.size + sumA l
theorem sumA_app (a b : List Act15) : sumA (a ++ b) = sumA a + sumA b := by
  induction a with
  | nil => simp [sumA]
  | cons x a ih => simp [sumA, ih]; omega
theorem sumA_mem {l : List Act15} {x : Act15} (h : x ∈ l) : x.Text.size + x.Other.size ≤ sumA l := by
  induction l with
  | nil => cases h
  | cons y l ih =>
    rcases List.mem_cons.1 h with rfl | h
    · simp only [sumA]; omega
    · have := ih h
      simp only [sumA]; omega
theorem sumA_take {L : List Act15} {j : Nat} {x : Act15} (h : L[j]? = some x) : sumA (L.take (j + 1)) = sumA (L.take j) + x.Text.size + x.Other.size := by
  rw [List.take_add_one, h]
  simp only [Option.toList_some, sumA_app, sumA]
  omega
/-- Few acts, of few bytes. -/
def Light15 (L : List Act15) : Prop := L.length ≤ 30 ∧ sumA L ≤ 2000
/-- An answer: where it is no, they are light. -/
def HeavyE15 (L : List Act15) (e : Ending) : Prop := ∃ b, e = .returned (.bool b) ∧ (b = false → Light15 L)
set_option maxRecDepth 100000 in
set_option maxHeartbeats 4000000 in
theorem heavy15_any (w : World) (p : Option Addr) (c : Nat) (L : List Act15) (h : Act15sP w p L) (hok : ∀ x ∈ L, x.Ok) (hl : L.length ≤ 140737488355328) :
    Calls Tryz.prog 7 #[.slice p L.length c] w fun e w' => HeavyE15 L e ∧ Ext w w' := by
  have HH := Lib.hid h; have HOk := Lib.hid hok
  obtain ⟨k, hk⟩ : ∃ k, L.length = k := ⟨_, rfl⟩
  have HK := Lib.hid hk
  rw [hk] at hl ⊢
  clear h hok hk
  go_enter Tryz.func7, Tryz.ntmps7
  go_wp2
  go_loopw [3, 4] (fun nv iv wr => ∃ j s : Nat, j ≤ k ∧ j ≤ 60 ∧ iv = .int .i64 (j : Int) ∧ nv = .int .i64 (s : Int) ∧ Hid (s = sumA (L.take j)) ∧ s ≤ j * 281474976702464 ∧ Hid (Ext w wr)) (fun _ iv _ => 60 - (intOf iv).toNat)
  case atStart => exact ⟨0, 0, Nat.zero_le _, by omega, rfl, rfl, Lib.hid (by simp [sumA]), by omega, Lib.hid (Ext.refl _)⟩
  case round =>
    obtain ⟨j, s, hj, h60, rfl, rfl, HS, hs, HX⟩ := hrel
    by_cases h1 : j < k
    · have h1i : (j : Int) < (k : Int) := by omega
      by_cases h2 : j < 60
      · have h2i : (j : Int) < 60 := by omega
        have hj0 : (0 : Int) ≤ (j : Int) := by omega
        have hkl := HK.out
        obtain ⟨x, hx⟩ : ∃ x, L[j]? = some x := ⟨_, List.getElem?_eq_getElem (by omega)⟩
        obtain ⟨a, rfl, ha, hc⟩ := HH.out.ext HX.out j x hx
        have k1 := act15_at (k := 0) (hc 1 _ rfl)
        have k2 := act15_at (k := 1) (hc 2 _ rfl)
        have hxo := HOk.out x (List.mem_of_getElem? hx)
        have hz1 := hxo.Text
        have hz2 := hxo.Other
        have HSt := Lib.hid (sumA_take hx)
        have hR0 : wr.cell? ⟨(a.add (j * 6)).block, (a.add (j * 6)).off + (0 + 1), none⟩ = some (.string x.Text) ∧ wr.cell? ⟨(a.add (j * 6)).block, (a.add (j * 6)).off + (1 + 1), none⟩ = some (.string x.Other) ∧ Ext w wr := ⟨k1, k2, HX.out⟩
        have hR1 : wr.drew.cell? ⟨(a.add (j * 6)).block, (a.add (j * 6)).off + (0 + 1), none⟩ = some (.string x.Text) ∧ wr.drew.cell? ⟨(a.add (j * 6)).block, (a.add (j * 6)).off + (1 + 1), none⟩ = some (.string x.Other) ∧ Ext w wr.drew := ⟨k1, k2, HX.out.drew⟩
        have hXd := Lib.hid HX.out.drew
        clear hx hc hxo k1 k2
        generalize x.Text = t1 at *
        generalize x.Other = t2 at *
        have hw1 : IntKind.i64.wrap ((s : Int) + (t1.size : Int)) = (s : Int) + (t1.size : Int) := IntWalk.i64_in _ ⟨by omega, by omega⟩
        have hw2 : IntKind.i64.wrap ((s : Int) + (t1.size : Int) + (t2.size : Int)) = (s : Int) + (t1.size : Int) + (t2.size : Int) := IntWalk.i64_in _ ⟨by omega, by omega⟩
        go_wp2
        go_region_held3 (fun u => u.cell? ⟨(a.add (j * 6)).block, (a.add (j * 6)).off + (0 + 1), none⟩ = some (.string t1) ∧ u.cell? ⟨(a.add (j * 6)).block, (a.add (j * 6)).off + (1 + 1), none⟩ = some (.string t2) ∧ Ext w u) (first | exact hR1 | exact hR0 | assumption | go_keep) (first | fail)
        all_goals
          go_wp2
          go_roundw
          case rel => exact ⟨j + 1, s + t1.size + t2.size, by omega, by omega, by go_num, by go_num, Lib.hid (by rw [HSt.out, HS.out]), by omega, hXd⟩
          case measure => simp [intOf]; omega
      · have h2i : ¬ (j : Int) < 60 := by omega
        have h30 : (30 : Int) < (k : Int) := by omega
        go_wp2
        go_ret
        exact ⟨⟨_, rfl, fun q => by simp at q⟩, HX.out⟩
    · have h1i : ¬ (j : Int) < (k : Int) := by omega
      obtain rfl : j = k := by omega
      have HT := Lib.hid (show s = sumA L by rw [HS.out, List.take_of_length_le (by rw [HK.out]; exact Nat.le_refl _)])
      go_wp2
      all_goals
        go_ret
        refine ⟨⟨_, rfl, fun q => ?_⟩, HX.out⟩
        have hkl := HK.out
        have ht := HT.out
        simp at q
        try exact ⟨by omega, by omega⟩
end Go.Proofs.YtobhbppogeghnaaGreatDoor
end

section
namespace Go.Proofs.YtobhbppogeghnaaGreatDoor
open Go.RowKit
attribute [local irreducible] rkey expand enc dec ctrB ctrC ctrL xorL xorAll turnL turnT kd t4 t8 env5 chk tagT sealT ringL hdT envOf hdOf Sit

set_option maxRecDepth 1000000 in
set_option maxHeartbeats 16000000 in
theorem BarrierPlays_walk (w : World) (hL : Laid w) (p : Option Addr) (c : Nat) (L : List Act15) (hP : Act15sP w p L) (hok : ∀ x ∈ L, x.Ok) (hl : L.length ≤ 140737488355328) :
    Calls Tryz.prog 3 #[.slice p L.length c] w fun e w' => e = .returned (.bool true) ∧ Ext w w' := by
  have HHv := Lib.hid (heavy15_any w p c L hP hok hl)
  have HW := Lib.hid (fun u (hu : Ext w u) => works15 u (hL.ext hu))
  have HNw := Lib.hid (fun u (x : Ext w u) => (bnew_any u).mono fun e w' he => (show ∃ b, e = .returned (.pointer (some ⟨b, 0, none⟩)) ∧ IsP w' w.heap.size b .none ∧ Ext u w' from by
    obtain ⟨b, h1, h2, h3⟩ := he
    exact ⟨b, h1, h2.monoQ x.size, h3⟩))
  have HP := Lib.hid hP; have HOk := Lib.hid hok; have HL := Lib.hid hL
  have HB2 := Lib.hid hL.size
  obtain ⟨k, hk⟩ : ∃ k, L.length = k := ⟨_, rfl⟩
  have HK := Lib.hid hk
  rw [hk] at HHv hl ⊢
  clear hP hok hL hk
  go_enter Tryz.func3, Tryz.ntmps3
  go_wp2_with (first
    | (go_at_call 7; refine (HHv.out).mono ?_; rintro e w1 ⟨⟨hb, rfl, hlt⟩, x1⟩; have HLt := Lib.hid hlt; clear hlt; cases hb)
    | (go_at_call 8; refine (HW.out _ x1).mono ?_; rintro e w2 ⟨rfl, x2⟩; have X2 := Lib.hid (x1.trans x2))
    | (go_at_call 9; refine (HNw.out _ x1).mono ?_; rintro e w2 ⟨b, rfl, i2, x2⟩; have X2 := Lib.hid (x1.trans x2); have HS0 := Lib.hid (sit_start i2 (x1.trans x2)); clear i2 x2))
  rotate_left 1
  · go_ret
    exact ⟨rfl, X2.out⟩
  have hLt := HLt.out (by simp)
  have hk30 : k ≤ 30 := by have := HK.out; have := hLt.1; omega
  have HSm := Lib.hid hLt.2
  clear hLt HLt
  go_loopw [4] (fun iv wr => ∃ i : Nat, i ≤ k ∧ iv = .int .i64 (i : Int) ∧ Hid (Sit w wr (w2.heap.size + 1))) (fun iv _ => k - (intOf iv).toNat)
  case atStart => exact ⟨0, Nat.zero_le _, rfl, HS0⟩
  case round =>
    obtain ⟨i, hi, rfl, HS⟩ := hrel
    clear HS0 X2 x1
    generalize w2.heap.size + 1 = pb at *
    by_cases hlt : i < k
    · have hlti : (i : Int) < (k : Int) := by omega
      have hi0 : (0 : Int) ≤ (i : Int) := by omega
      have hKq := HK.out
      obtain ⟨x, hx⟩ : ∃ x, L[i]? = some x := ⟨_, List.getElem?_eq_getElem (by omega)⟩
      obtain ⟨a, rfl, _, hcl⟩ := HP.out.ext HS.out.base i x hx
      have k0 := hcl 0 _ rfl
      have k1 := act15_at (k := 0) (hcl 1 _ rfl)
      have k2 := act15_at (k := 1) (hcl 2 _ rfl)
      have k3 := act15_at (k := 2) (hcl 3 _ rfl)
      have k4 := act15_at (k := 3) (hcl 4 _ rfl)
      have k5 := act15_at (k := 4) (hcl 5 _ rfl)
      rw [Nat.add_zero] at k0
      have hmem := List.mem_of_getElem? hx
      have hxo := HOk.out x hmem
      have hsz := Nat.le_trans (sumA_mem hmem) HSm.out
      have HDo := Lib.hid (does_any w wr pb HS.out x.Do x.N x.Share x.Text x.Other x.Fit ⟨HL.out, HB2.out, hxo.Do, hxo.N, hxo.Share, by omega, by omega⟩)
      clear hcl hx hxo hmem hsz hKq
      generalize x.Do = dv at *
      generalize x.Text = tx at *
      generalize x.Other = ot at *
      generalize x.N = nv at *
      generalize x.Share = sv at *
      generalize x.Fit = fit at *
      go_wp2_with (first
        | (go_at_call 10; refine (HDo.out).mono ?_; rintro e w3 ⟨rfl, s3⟩; have S3 := Lib.hid s3; clear s3)
        | (go_at_call 11; refine (stands_any w _ pb S3.out).mono ?_; rintro e w4 ⟨rfl, s4, _⟩; obtain ⟨d, st, hd, q1, q2, q3, f3, ⟨u3, q4⟩, s5⟩ := sit_look s4; have S4 := Lib.hid s4; have S5 := Lib.hid s5; clear s4 s5; rcases Nat.eq_zero_or_pos st with rfl | hst; all_goals (try have hsb : ((st : Int) != 0) = true := (by simp; omega))))
      all_goals
        go_roundw
        case rel => first | exact ⟨i + 1, by omega, by go_num, S4⟩ | exact ⟨i + 1, by omega, by go_num, S5⟩
        case measure => simp [intOf]; omega
    · obtain rfl : i = k := by omega
      have hlti : ¬ (i : Int) < (i : Int) := by omega
      go_wp2_with (go_at_call 8; refine (HW.out _ HS.out.base).mono ?_; rintro e w5 ⟨rfl, x5⟩)
      go_ret
      exact ⟨rfl, HS.out.base.trans x5⟩
end Go.Proofs.YtobhbppogeghnaaGreatDoor
end
