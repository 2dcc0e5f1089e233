/- The law's play: stores into it; which share comes. The law's play: an act: it is sealed. (Printed by mkdoes.py.) The law's play: an act: a header is loaded. (Printed by mkdoes.py.) The law's play: an act: an epoch is retired. (Printed by mkdoes.py.) The law's play: an act: it rotates. (Printed by mkdoes.py.) -/
import Derived.Test.YtobhbppogeghnaaGreatDoorM42
section
namespace Go.Proofs.YtobhbppogeghnaaGreatDoor
open Go.RowKit
attribute [local irreducible] rkey expand enc dec ctrB ctrC ctrL xorL xorAll turnL turnT kd t4 t8 env5 chk tagT sealT ringL hdT envOf hdOf f12B f32B

section
variable {w w' : World} {q i : Nat} {T : TypeId} {cs : List Value} {u : Value}
theorem IsGF.keptT {d n m : Nat} {st : Int} {hh rr : ByteArray} {rg v : Value} {L : List (Nat × ByteArray)} (h : IsGF w d st hh rr rg v n m L) (hb : Blk w q T cs) (h1 : T ≠ 34) (h2 : T ≠ 100) (e : w' = w.setCell ⟨q, i, none⟩ u) : IsGF w' d st hh rr rg v n m L := by
  refine ⟨h.blk.keptT hb h1 e, ⟨h.buf.1, ?_⟩, h.alike⟩
  subst e
  rcases h.buf.2 with h0 | ⟨g, cap, cur, e1, e2, e3, e4⟩
  · exact .inl h0
  · refine .inr ⟨g, cap, cur, e1, e2, (Below.heap_setCell _ _ _ _ fun hq => ?_).trans e3, e4⟩
    simp only at hq
    subst hq
    unfold Blk at hb
    rw [hb] at e3
    cases e3
    exact h2 rfl
theorem IsQ.keptT {B d : Nat} {S : BS} (h : IsQ w B d S) (hb : Blk w q T cs) (h1 : T ≠ 34) (h2 : T ≠ 100) (h3 : T ≠ 77) (h4 : T ≠ 79) (e : w' = w.setCell ⟨q, i, none⟩ u) : IsQ w' B d S := by
  cases S with
  | none => obtain ⟨v, x, l⟩ := h; exact ⟨v, x.keptT hb h1 h2 e, l⟩
  | closed n E L => obtain ⟨v, x, l⟩ := h; exact ⟨v, x.keptT hb h1 h2 e, l⟩
  | opened n E root K => obtain ⟨v, rd, p, c, x, j, l⟩ := h; exact ⟨v, rd, p, c, x.keptT hb h1 h2 e, IsR.keptT (i := i) (u := u) j hb h3 h4 e, l⟩
end
/-- A store into the play's own block. -/
theorem Duo.put {B b d pb i : Nat} {S : BS} {w : World} {cs : List Value} {u : Value} (h : Duo B w b d S) (hb : Blk w pb 38 cs) : Duo B (w.setCell ⟨pb, i, none⟩ u) b d S :=
  ⟨IsP.keptT h.p hb (by decide) (by decide) (by decide) rfl, IsQ.keptT h.q hb (by decide) (by decide) (by decide) (by decide) rfl, h.ok⟩
theorem BufS.put {A pb i : Nat} {x : Value} {l : List ByteArray} {w : World} {cs : List Value} {u : Value} (h : BufS w A x l) (hb : Blk w pb 38 cs) : BufS (w.setCell ⟨pb, i, none⟩ u) A x l :=
  BufS.keptT h hb (by decide) rfl
/-- A new barrier of the document's. -/
theorem rbar_new (w : World) (B : Nat) (hB : B ≤ w.heap.size) : IsQ (w.alloc (.cells #[.int .u8 0, .string ⟨#[]⟩, .string ⟨#[]⟩, .pointer none, .slice none 0 0] 34)) B w.heap.size .none :=
  ⟨.slice none 0 0, ⟨Blk.new w [.int .u8 0, .string ⟨#[]⟩, .string ⟨#[]⟩, .pointer none, .slice none 0 0] _, BufH.nil _ _ _, Alike.nil (by decide) (by decide) (by decide) (by decide)⟩, hB⟩
theorem IsP.monoQ {w : World} {A B b : Nat} {S : BS} (h : IsP w B b S) (hA : A ≤ B) : IsP w A b S := by
  cases S with
  | none => obtain ⟨g, bm, i⟩ := h; exact ⟨g, bm, i.blk, i.gat, Nat.le_trans hA i.low, Nat.le_trans hA i.lowm⟩
  | closed n E L => obtain ⟨g, bm, i⟩ := h; exact ⟨g, bm, i.blk, i.gat, Nat.le_trans hA i.low, Nat.le_trans hA i.lowm⟩
  | opened n E root K => obtain ⟨g, bm, r1, k1, r2, k2, i, j⟩ := h; exact ⟨g, bm, r1, k1, r2, k2, ⟨i.blk, i.gat, Nat.le_trans hA i.low, Nat.le_trans hA i.lowm⟩, ⟨j.one, j.two, Nat.le_trans hA j.low, j.a1, j.a2⟩⟩
/-- Another pair of barriers. -/
theorem sit_new {w0 w1 : World} {A pb b d b1 n : Nat} {sh : Value} {T : List ByteArray} {hd pt : ByteArray} (hP : PlayBlk w1 pb b d sh hd pt n) (hT : BufS w1 w0.heap.size sh T) (hTl : T.length ≤ 5) (hhd : hd.size ≤ 140737488351233) (hn : n < 18446744073709551616) (hx : Ext w0 w1) (hpb : w0.heap.size ≤ pb) (i1 : IsP w1 A b1 .none) (hA : w0.heap.size ≤ A) :
    let V := (w1.setCell ⟨pb, 0, none⟩ (.pointer (some ⟨b1, 0, none⟩))).alloc (.cells #[.int .u8 0, .string ⟨#[]⟩, .string ⟨#[]⟩, .pointer none, .slice none 0 0] 34)
    w1.frozen? ⟨pb, 0, none⟩ = false ∧ (∃ u, w1.cell? ⟨pb, 0, none⟩ = some u) ∧ V.frozen? ⟨pb, 1, none⟩ = false ∧ (∃ u, V.cell? ⟨pb, 1, none⟩ = some u) ∧ Sit w0 (V.setCell ⟨pb, 1, none⟩ (.pointer (some ⟨w1.heap.size, 0, none⟩))) pb := by
  intro V
  have hB1 : Blk w1 pb 38 _ := hP
  have hB2 := hB1.set_ 0 (.pointer (some ⟨b1, 0, none⟩))
  have x3 : Ext (w1.setCell ⟨pb, 0, none⟩ (.pointer (some ⟨b1, 0, none⟩))) V := (Ext.refl _).alloc _
  have i2 : IsP (w1.setCell ⟨pb, 0, none⟩ (.pointer (some ⟨b1, 0, none⟩))) w0.heap.size b1 .none := IsP.keptT (i1.monoQ hA) hB1 (by decide) (by decide) (by decide) rfl
  have hx2 : Ext w0 (w1.setCell ⟨pb, 0, none⟩ (.pointer (some ⟨b1, 0, none⟩))) := hx.setCell (p := ⟨pb, 0, none⟩) hpb _
  have q3 := rbar_new (w1.setCell ⟨pb, 0, none⟩ (.pointer (some ⟨b1, 0, none⟩))) w0.heap.size hx2.size
  have hz : (w1.setCell ⟨pb, 0, none⟩ (.pointer (some ⟨b1, 0, none⟩))).heap.size = w1.heap.size := by simp [World.setCell]
  rw [hz] at q3
  have hB3 := hB2.ext x3
  have hT3 : BufS V w0.heap.size sh T := (hT.put (i := 0) (u := .pointer (some ⟨b1, 0, none⟩)) hB1).ext x3
  have hD3 : Duo w0.heap.size V b1 w1.heap.size .none := ⟨i2.ext x3, q3, trivial⟩
  exact ⟨hB1.frozen 0, ⟨_, hB1.cell 0 _ rfl⟩, hB3.frozen 1, ⟨_, hB3.cell 1 _ rfl⟩, b1, w1.heap.size, .none, sh, T, hd, pt, n, hB3.set_ 1 _, hD3.put hB3, hT3.put hB3, hTl, hhd, hn, (hx2.trans x3).setCell hpb _, hpb⟩
/-- What holds of an act, and of the first world. -/
structure ActOk (w0 : World) (dv nv sv : Nat) (tx ot : ByteArray) : Prop where
  L : Laid w0
  B2 : 2 ≤ w0.heap.size
  dv : dv < 256
  nv : nv < 4294967296
  sv : sv < 256
  tx : tx.size ≤ 5000
  ot : ot.size ≤ 5000
/-- The share that comes. -/
def shareB (tx : ByteArray) (sv : Nat) (T : List ByteArray) : ByteArray := if sv = 0 ∨ T.length = 0 then tx else T.getD ((sv - 1) % T.length) ⟨#[]⟩

set_option maxRecDepth 1000000 in
set_option maxHeartbeats 8000000 in
theorem share15 (w : World) (A pb b d : Nat) (sh : Value) (hd pt : ByteArray) (n : Nat) (T : List ByteArray) (hP : PlayBlk w pb b d sh hd pt n) (hT : BufS w A sh T) (hTl : T.length ≤ 5) (dv nv sv : Nat) (tx ot : ByteArray) (fit : Bool) (hs : sv < 256) :
    Calls Tryz.prog 29 #[.pointer (some ⟨pb, 0, none⟩), .agg #[.int .u8 (dv : Int), .string tx, .string ot, .int .u32 (nv : Int), .int .u8 (sv : Int), .bool fit]] w fun e w' => e = .returned (.string (shareB tx sv T)) ∧ Ext w w' := by
  obtain ⟨W, hW⟩ : ∃ W, w.alloc (.cells #[.int .u8 (dv : Int), .string tx, .string ot, .int .u32 (nv : Int), .int .u8 (sv : Int), .bool fit] 42) = W := ⟨_, rfl⟩
  have xW : Ext w W := hW ▸ (Ext.refl w).alloc _
  have hA : Blk W w.heap.size 42 [.int .u8 (dv : Int), .string tx, .string ot, .int .u32 (nv : Int), .int .u8 (sv : Int), .bool fit] := hW ▸ Blk.new w _ _
  have hPW : Blk W pb 38 _ := Blk.ext hP xW
  have hTW := hT.ext xW
  obtain ⟨p, c, rfl, -, -, -⟩ := hT.texts
  have a1 := hA.cell 1 _ rfl
  have a4 := hA.cell 4 _ rfl
  have p2 := hPW.cell 2 _ rfl
  obtain ⟨k, hk⟩ : ∃ k, T.length = k := ⟨_, rfl⟩
  rw [hk] at p2 hTW
  clear hP hA hPW hT
  by_cases h0 : sv = 0
  · have hval : shareB tx sv T = tx := by simp [shareB, h0]
    rw [hval]
    have hb1 : ((sv : Int) == 0) = true := by simp [h0]
    clear hval hTW
    go_enter Tryz.func29, Tryz.ntmps29
    go_wp2
    go_ret
    first | exact ⟨rfl, xW⟩ | exact ⟨rfl, (Ext.refl w).alloc _⟩
  · by_cases hk0 : k = 0
    · have hval : shareB tx sv T = tx := by simp [shareB, hk, hk0]
      rw [hval]
      have hb1 : ((sv : Int) == 0) = false := by simpa using h0
      have hb2 : ((k : Int) == 0) = true := by simp [hk0]
      clear hval hTW
      go_enter Tryz.func29, Tryz.ntmps29
      go_wp2
      go_ret
      first | exact ⟨rfl, xW⟩ | exact ⟨rfl, (Ext.refl w).alloc _⟩
    · have hval : shareB tx sv T = T.getD ((sv - 1) % k) ⟨#[]⟩ := by simp [shareB, h0, hk, hk0]
      have hlt : (sv - 1) % k < k := Nat.mod_lt _ (by omega)
      obtain ⟨s, hs'⟩ : ∃ s, T[(sv - 1) % k]? = some s := ⟨_, List.getElem?_eq_getElem (by omega)⟩
      have hval2 : shareB tx sv T = s := by rw [hval, List.getD_eq_getElem?_getD, hs']; rfl
      rw [hval2]
      obtain ⟨g, rfl, hc⟩ := hTW.text hs'
      obtain ⟨i, hi⟩ : ∃ i, (sv - 1) % k = i := ⟨_, rfl⟩
      rw [hi] at hc hlt
      obtain ⟨y, hy⟩ : ∃ y, sv - 1 = y := ⟨_, rfl⟩
      rw [hy] at hi
      have hsub : IntKind.u8.wrap ((sv : Int) - 1) = (y : Int) := by
        rw [show ((sv : Int) - 1) = (y : Int) by omega]
        exact IntWalk.u8_in _ ⟨by omega, by omega⟩
      have hyt : Int.tmod (y : Int) (k : Int) = (i : Int) := by rw [Int.tmod_eq_emod_of_nonneg (by omega)]; omega
      have hyw : IntKind.i64.wrap (y : Int) = (y : Int) := IntWalk.i64_in _ ⟨by omega, by omega⟩
      have hiw : IntKind.i64.wrap (i : Int) = (i : Int) := IntWalk.i64_in _ ⟨by omega, by omega⟩
      have hi0 : (0 : Int) ≤ (i : Int) := by omega
      have hik : (i : Int) < (k : Int) := by omega
      have hk5 : k ≤ 5 := by omega
      have n1 : ¬ ((sv : Int) = 0) := by omega
      have n2 : ¬ ((k : Int) = 0) := by omega
      clear hval hval2 hTW
      have hb1 : ((sv : Int) == 0) = false := by simpa using h0
      have hb2 : ((k : Int) == 0) = false := by simpa using hk0
      have hS0 : W.cell? ⟨w.heap.size, 4, none⟩ = some (.int .u8 (sv : Int)) ∧ W.cell? ⟨pb, 2, none⟩ = some (.slice (some ⟨g, 0, none⟩) k c) ∧ W.cell? ⟨g, i, none⟩ = some (.string s) ∧ Ext w W := ⟨a4, p2, hc, xW⟩
      have hS : W.drew.cell? ⟨w.heap.size, 4, none⟩ = some (.int .u8 (sv : Int)) ∧ W.drew.cell? ⟨pb, 2, none⟩ = some (.slice (some ⟨g, 0, none⟩) k c) ∧ W.drew.cell? ⟨g, i, none⟩ = some (.string s) ∧ Ext w W.drew := ⟨a4, p2, hc, xW.drew⟩
      go_enter Tryz.func29, Tryz.ntmps29
      go_wp2
      go_region_held3 (fun u => u.cell? ⟨w.heap.size, 4, none⟩ = some (.int .u8 (sv : Int)) ∧ u.cell? ⟨pb, 2, none⟩ = some (.slice (some ⟨g, 0, none⟩) k c) ∧ u.cell? ⟨g, i, none⟩ = some (.string s) ∧ Ext w u) (first | exact hS | exact hS0 | assumption | go_keep) (first | fail)
      all_goals
        go_wp2
        go_ret
        exact ⟨rfl, xW.drew⟩
end Go.Proofs.YtobhbppogeghnaaGreatDoor
end

section
namespace Go.Proofs.YtobhbppogeghnaaGreatDoor
open Go.RowKit
attribute [local irreducible] rkey expand enc dec ctrB ctrC ctrL xorL xorAll turnL turnT kd t4 t8 env5 chk tagT sealT ringL hdT envOf hdOf f12B f32B n15 r15 shareB

set_option maxRecDepth 1000000 in
set_option maxHeartbeats 8000000 in
theorem does_seal (w0 w : World) (pb : Nat) (h : Sit w0 w pb) (dv nv sv : Nat) (tx ot : ByteArray) (fit : Bool) (hok : ActOk w0 dv nv sv tx ot) (hk : dv % 9 = 3) :
    Calls Tryz.prog 10 #[.pointer (some ⟨pb, 0, none⟩), .agg #[.int .u8 (dv : Int), .string tx, .string ot, .int .u32 (nv : Int), .int .u8 (sv : Int), .bool fit]] w fun e w' => e = .returned (.bool true) ∧ Sit w0 w' pb := by
  obtain ⟨b, d, S, sh, T, hd, pt, n, hP, hD, hT, hTl, hhd, hn, hx, hpb⟩ := h
  obtain ⟨c, S', hS', HP, HQ⟩ := both_seal w0.heap.size S hD.ok
  have hm : (dv : Int) % 9 = 3 := by omega
  have hs256 := hok.sv
  obtain ⟨W, hW⟩ : ∃ W, w.alloc (.cells #[.int .u8 (dv : Int), .string tx, .string ot, .int .u32 (nv : Int), .int .u8 (sv : Int), .bool fit] 42) = W := ⟨_, rfl⟩
  have xW : Ext w W := hW ▸ (Ext.refl w).alloc _
  have hA : Blk W w.heap.size 42 [.int .u8 (dv : Int), .string tx, .string ot, .int .u32 (nv : Int), .int .u8 (sv : Int), .bool fit] := hW ▸ Blk.new w _ _
  have hPW : PlayBlk W pb b d sh hd pt n := hP.turn2 (xW.turn2 (Nat.le_refl _))
  have a0 := hA.cell 0 _ rfl
  have hxW := hx.trans xW
  have hBW := hxW.size
  have HD := Lib.hid (hD.ext xW)
  have HT := Lib.hid (hT.ext xW)
  have HPl := Lib.hid hPW
  have HX := Lib.hid hxW

  have HKeep : Hid (∀ u, Turn2 w0.heap.size W u → u.cell? ⟨pb, 0, none⟩ = some (.pointer (some ⟨b, 0, none⟩)) ∧ u.cell? ⟨pb, 1, none⟩ = some (.pointer (some ⟨d, 0, none⟩)) ∧ Turn2 w0.heap.size W u) :=
    Lib.hid (fun u t => ⟨(hPW.turn2 t).cell 0 _ rfl, (hPW.turn2 t).cell 1 _ rfl, t⟩)
  have HEnd : Hid (∀ u S', OkS S' → Turn2 w0.heap.size W u → IsP u w0.heap.size b S' → IsQ u w0.heap.size d S' → Sit w0 u pb) :=
    Lib.hid (fun u S' hS' t i j => ⟨b, d, S', sh, T, hd, pt, n, hPW.turn2 t, ⟨i, j, hS'⟩, (hT.ext xW).turn2 t, hTl, hhd, hn, Ext.turned2 hxW t, hpb⟩)
  have HRight : Hid (∀ u, Turn2 w0.heap.size W u → PlayBlk u pb b d sh hd pt n ∧ BufS u w0.heap.size sh T ∧ Ext w0 u ∧ Blk u w.heap.size 42 [.int .u8 (dv : Int), .string tx, .string ot, .int .u32 (nv : Int), .int .u8 (sv : Int), .bool fit]) :=
    Lib.hid (fun u t => ⟨hPW.turn2 t, (hT.ext xW).turn2 t, Ext.turned2 hxW t, Turn2.blk t hA (by decide) (by decide) (by decide) (by decide) (by decide)⟩)
  have HPS := Lib.hid HP; have HQS := Lib.hid HQ
  have hR : Turn2 w0.heap.size W W := (Ext.refl W).turn2 hBW
  have hRd : Turn2 w0.heap.size W W.drew := (Ext.refl W).drew.turn2 hBW
  have hEd : Ext W W.drew := (Ext.refl W).drew
  have hS0 := HKeep.out _ hR
  have hS := HKeep.out _ hRd
  clear hP hD hT hx xW hA hPW hxW hok hs256 HP HQ
  go_enter Tryz.func10, Tryz.ntmps10
  go_wp2
  go_region_held3 (fun u => u.cell? ⟨pb, 0, none⟩ = some (.pointer (some ⟨b, 0, none⟩)) ∧ u.cell? ⟨pb, 1, none⟩ = some (.pointer (some ⟨d, 0, none⟩)) ∧ Turn2 w0.heap.size W u) (first | exact hS | exact hS0 | exact hS1 | exact hS2 | assumption | go_keep) (first
    | (go_at_call 18; (with_reducible refine (HPS.out _ _ (HD.out.p.ext hEd)).mono ?_); rintro e w1 ⟨rfl, i1, t1⟩; have I1 := Lib.hid i1; have Q1 := Lib.hid ((HD.out.q.ext hEd).turnP t1); have y1 := hRd.trans t1.turn2; have hS1 := HKeep.out _ y1; clear i1 t1)
    | (go_at_call 31; (with_reducible refine (HQS.out _ _ Q1.out).mono ?_); rintro e w2 ⟨rfl, i2, t2⟩; have I2 := Lib.hid i2; have P2 := Lib.hid (I1.out.turnQ t2); have y2 := y1.trans t2.turn2; have hS2 := HKeep.out _ y2; clear i2 t2))
  all_goals
    go_wp2
    go_ret
    exact ⟨rfl, HEnd.out _ _ hS' y2 P2.out I2.out⟩
end Go.Proofs.YtobhbppogeghnaaGreatDoor
end

section
namespace Go.Proofs.YtobhbppogeghnaaGreatDoor
open Go.RowKit
attribute [local irreducible] rkey expand enc dec ctrB ctrC ctrL xorL xorAll turnL turnT kd t4 t8 env5 chk tagT sealT ringL hdT envOf hdOf f12B f32B n15 r15 shareB

set_option maxRecDepth 1000000 in
set_option maxHeartbeats 8000000 in
theorem does_load (w0 w : World) (pb : Nat) (h : Sit w0 w pb) (dv nv sv : Nat) (tx ot : ByteArray) (fit : Bool) (hok : ActOk w0 dv nv sv tx ot) (hk : dv % 9 = 1) :
    Calls Tryz.prog 10 #[.pointer (some ⟨pb, 0, none⟩), .agg #[.int .u8 (dv : Int), .string tx, .string ot, .int .u32 (nv : Int), .int .u8 (sv : Int), .bool fit]] w fun e w' => e = .returned (.bool true) ∧ Sit w0 w' pb := by
  obtain ⟨b, d, S, sh, T, hd, pt, n, hP, hD, hT, hTl, hhd, hn, hx, hpb⟩ := h
  obtain ⟨c, S', hS', HP, HQ⟩ := both_load w0 hok.L w0.heap.size S hD.ok (if fit = true then hd else tx) (by have := hok.tx; split <;> omega)
  have hm : (dv : Int) % 9 = 1 := by omega
  have hs256 := hok.sv
  obtain ⟨W, hW⟩ : ∃ W, w.alloc (.cells #[.int .u8 (dv : Int), .string tx, .string ot, .int .u32 (nv : Int), .int .u8 (sv : Int), .bool fit] 42) = W := ⟨_, rfl⟩
  have xW : Ext w W := hW ▸ (Ext.refl w).alloc _
  have hA : Blk W w.heap.size 42 [.int .u8 (dv : Int), .string tx, .string ot, .int .u32 (nv : Int), .int .u8 (sv : Int), .bool fit] := hW ▸ Blk.new w _ _
  have hPW : PlayBlk W pb b d sh hd pt n := hP.turn2 (xW.turn2 (Nat.le_refl _))
  have a0 := hA.cell 0 _ rfl
  have hxW := hx.trans xW
  have hBW := hxW.size
  have HD := Lib.hid (hD.ext xW)
  have HT := Lib.hid (hT.ext xW)
  have HPl := Lib.hid hPW
  have HX := Lib.hid hxW

  have HKeep : Hid (∀ u, Turn2 w0.heap.size W u → u.cell? ⟨pb, 0, none⟩ = some (.pointer (some ⟨b, 0, none⟩)) ∧ u.cell? ⟨pb, 1, none⟩ = some (.pointer (some ⟨d, 0, none⟩)) ∧ u.cell? ⟨pb, 3, none⟩ = some (.string hd) ∧ u.cell? ⟨w.heap.size, 1, none⟩ = some (.string tx) ∧ u.cell? ⟨w.heap.size, 5, none⟩ = some (.bool fit) ∧ Turn2 w0.heap.size W u) :=
    Lib.hid (fun u t => ⟨(hPW.turn2 t).cell 0 _ rfl, (hPW.turn2 t).cell 1 _ rfl, (hPW.turn2 t).cell 3 _ rfl, (Turn2.blk t hA (by decide) (by decide) (by decide) (by decide) (by decide)).cell 1 _ rfl, (Turn2.blk t hA (by decide) (by decide) (by decide) (by decide) (by decide)).cell 5 _ rfl, t⟩)
  have HEnd : Hid (∀ u S', OkS S' → Turn2 w0.heap.size W u → IsP u w0.heap.size b S' → IsQ u w0.heap.size d S' → Sit w0 u pb) :=
    Lib.hid (fun u S' hS' t i j => ⟨b, d, S', sh, T, hd, pt, n, hPW.turn2 t, ⟨i, j, hS'⟩, (hT.ext xW).turn2 t, hTl, hhd, hn, Ext.turned2 hxW t, hpb⟩)
  have HRight : Hid (∀ u, Turn2 w0.heap.size W u → PlayBlk u pb b d sh hd pt n ∧ BufS u w0.heap.size sh T ∧ Ext w0 u ∧ Blk u w.heap.size 42 [.int .u8 (dv : Int), .string tx, .string ot, .int .u32 (nv : Int), .int .u8 (sv : Int), .bool fit]) :=
    Lib.hid (fun u t => ⟨hPW.turn2 t, (hT.ext xW).turn2 t, Ext.turned2 hxW t, Turn2.blk t hA (by decide) (by decide) (by decide) (by decide) (by decide)⟩)
  have HPS := Lib.hid HP; have HQS := Lib.hid HQ
  have hR : Turn2 w0.heap.size W W := (Ext.refl W).turn2 hBW
  have hRd : Turn2 w0.heap.size W W.drew := (Ext.refl W).drew.turn2 hBW
  have hEd : Ext W W.drew := (Ext.refl W).drew
  have hS0 := HKeep.out _ hR
  have hS := HKeep.out _ hRd
  clear hP hD hT hx xW hA hPW hxW hok hs256 HP HQ
  go_enter Tryz.func10, Tryz.ntmps10
  cases fit
  · simp only [Bool.false_eq_true, if_false] at HPS HQS
    go_wp2
    go_region_held3 (fun u => u.cell? ⟨pb, 0, none⟩ = some (.pointer (some ⟨b, 0, none⟩)) ∧ u.cell? ⟨pb, 1, none⟩ = some (.pointer (some ⟨d, 0, none⟩)) ∧ u.cell? ⟨pb, 3, none⟩ = some (.string hd) ∧ u.cell? ⟨w.heap.size, 1, none⟩ = some (.string tx) ∧ u.cell? ⟨w.heap.size, 5, none⟩ = some (.bool false) ∧ Turn2 w0.heap.size W u) (first | exact hS | exact hS0 | exact hS1 | exact hS2 | assumption | go_keep) (first
      | (go_at_call 19; (with_reducible refine (HPS.out _ _ (HD.out.p.ext hEd)).mono ?_); rintro e w1 ⟨rfl, i1, t1⟩; have I1 := Lib.hid i1; have Q1 := Lib.hid ((HD.out.q.ext hEd).turnP t1); have y1 := hRd.trans t1.turn2; have hS1 := HKeep.out _ y1; clear i1 t1)
      | (go_at_call 28; (with_reducible refine (HQS.out _ _ Q1.out).mono ?_); rintro e w2 ⟨rfl, i2, t2⟩; have I2 := Lib.hid i2; have P2 := Lib.hid (I1.out.turnQ t2); have y2 := y1.trans t2.turn2; have hS2 := HKeep.out _ y2; clear i2 t2))
    all_goals
      go_wp2
      go_ret
      exact ⟨rfl, HEnd.out _ _ hS' y2 P2.out I2.out⟩
  · simp only [if_true] at HPS HQS
    go_wp2
    go_region_held3 (fun u => u.cell? ⟨pb, 0, none⟩ = some (.pointer (some ⟨b, 0, none⟩)) ∧ u.cell? ⟨pb, 1, none⟩ = some (.pointer (some ⟨d, 0, none⟩)) ∧ u.cell? ⟨pb, 3, none⟩ = some (.string hd) ∧ u.cell? ⟨w.heap.size, 1, none⟩ = some (.string tx) ∧ u.cell? ⟨w.heap.size, 5, none⟩ = some (.bool true) ∧ Turn2 w0.heap.size W u) (first | exact hS | exact hS0 | exact hS1 | exact hS2 | assumption | go_keep) (first
      | (go_at_call 19; (with_reducible refine (HPS.out _ _ (HD.out.p.ext hEd)).mono ?_); rintro e w1 ⟨rfl, i1, t1⟩; have I1 := Lib.hid i1; have Q1 := Lib.hid ((HD.out.q.ext hEd).turnP t1); have y1 := hRd.trans t1.turn2; have hS1 := HKeep.out _ y1; clear i1 t1)
      | (go_at_call 28; (with_reducible refine (HQS.out _ _ Q1.out).mono ?_); rintro e w2 ⟨rfl, i2, t2⟩; have I2 := Lib.hid i2; have P2 := Lib.hid (I1.out.turnQ t2); have y2 := y1.trans t2.turn2; have hS2 := HKeep.out _ y2; clear i2 t2))
    all_goals
      go_wp2
      go_ret
      exact ⟨rfl, HEnd.out _ _ hS' y2 P2.out I2.out⟩

end Go.Proofs.YtobhbppogeghnaaGreatDoor
end

section
namespace Go.Proofs.YtobhbppogeghnaaGreatDoor
open Go.RowKit
attribute [local irreducible] rkey expand enc dec ctrB ctrC ctrL xorL xorAll turnL turnT kd t4 t8 env5 chk tagT sealT ringL hdT envOf hdOf f12B f32B n15 r15 shareB

set_option maxRecDepth 1000000 in
set_option maxHeartbeats 8000000 in
theorem does_retire (w0 w : World) (pb : Nat) (h : Sit w0 w pb) (dv nv sv : Nat) (tx ot : ByteArray) (fit : Bool) (hok : ActOk w0 dv nv sv tx ot) (hk : dv % 9 = 5) :
    Calls Tryz.prog 10 #[.pointer (some ⟨pb, 0, none⟩), .agg #[.int .u8 (dv : Int), .string tx, .string ot, .int .u32 (nv : Int), .int .u8 (sv : Int), .bool fit]] w fun e w' => e = .returned (.bool true) ∧ Sit w0 w' pb := by
  obtain ⟨b, d, S, sh, T, hd, pt, n, hP, hD, hT, hTl, hhd, hn, hx, hpb⟩ := h
  obtain ⟨c, S', hS', HP, HQ⟩ := both_retireB w0 hok.L w0.heap.size hok.B2 S hD.ok nv hok.nv (n15 fit tx)
  have hm : (dv : Int) % 9 = 5 := by omega
  have hs256 := hok.sv
  obtain ⟨W, hW⟩ : ∃ W, w.alloc (.cells #[.int .u8 (dv : Int), .string tx, .string ot, .int .u32 (nv : Int), .int .u8 (sv : Int), .bool fit] 42) = W := ⟨_, rfl⟩
  have xW : Ext w W := hW ▸ (Ext.refl w).alloc _
  have hA : Blk W w.heap.size 42 [.int .u8 (dv : Int), .string tx, .string ot, .int .u32 (nv : Int), .int .u8 (sv : Int), .bool fit] := hW ▸ Blk.new w _ _
  have hPW : PlayBlk W pb b d sh hd pt n := hP.turn2 (xW.turn2 (Nat.le_refl _))
  have a0 := hA.cell 0 _ rfl
  have hxW := hx.trans xW
  have hBW := hxW.size
  have HD := Lib.hid (hD.ext xW)
  have HT := Lib.hid (hT.ext xW)
  have HPl := Lib.hid hPW
  have HX := Lib.hid hxW

  have HKeep : Hid (∀ u, Turn2 w0.heap.size W u → u.cell? ⟨pb, 0, none⟩ = some (.pointer (some ⟨b, 0, none⟩)) ∧ u.cell? ⟨pb, 1, none⟩ = some (.pointer (some ⟨d, 0, none⟩)) ∧ u.cell? ⟨w.heap.size, 1, none⟩ = some (.string tx) ∧ u.cell? ⟨w.heap.size, 3, none⟩ = some (.int .u32 (nv : Int)) ∧ u.cell? ⟨w.heap.size, 5, none⟩ = some (.bool fit) ∧ Turn2 w0.heap.size W u) :=
    Lib.hid (fun u t => ⟨(hPW.turn2 t).cell 0 _ rfl, (hPW.turn2 t).cell 1 _ rfl, (Turn2.blk t hA (by decide) (by decide) (by decide) (by decide) (by decide)).cell 1 _ rfl, (Turn2.blk t hA (by decide) (by decide) (by decide) (by decide) (by decide)).cell 3 _ rfl, (Turn2.blk t hA (by decide) (by decide) (by decide) (by decide) (by decide)).cell 5 _ rfl, t⟩)
  have HEnd : Hid (∀ u S', OkS S' → Turn2 w0.heap.size W u → IsP u w0.heap.size b S' → IsQ u w0.heap.size d S' → Sit w0 u pb) :=
    Lib.hid (fun u S' hS' t i j => ⟨b, d, S', sh, T, hd, pt, n, hPW.turn2 t, ⟨i, j, hS'⟩, (hT.ext xW).turn2 t, hTl, hhd, hn, Ext.turned2 hxW t, hpb⟩)
  have HRight : Hid (∀ u, Turn2 w0.heap.size W u → PlayBlk u pb b d sh hd pt n ∧ BufS u w0.heap.size sh T ∧ Ext w0 u ∧ Blk u w.heap.size 42 [.int .u8 (dv : Int), .string tx, .string ot, .int .u32 (nv : Int), .int .u8 (sv : Int), .bool fit]) :=
    Lib.hid (fun u t => ⟨hPW.turn2 t, (hT.ext xW).turn2 t, Ext.turned2 hxW t, Turn2.blk t hA (by decide) (by decide) (by decide) (by decide) (by decide)⟩)
  have HPS := Lib.hid HP; have HQS := Lib.hid HQ
  have hR : Turn2 w0.heap.size W W := (Ext.refl W).turn2 hBW
  have hRd : Turn2 w0.heap.size W W.drew := (Ext.refl W).drew.turn2 hBW
  have hEd : Ext W W.drew := (Ext.refl W).drew
  have hS0 := HKeep.out _ hR
  have hS := HKeep.out _ hRd
  clear hP hD hT hx xW hA hPW hxW hok hs256 HP HQ
  go_enter Tryz.func10, Tryz.ntmps10
  go_wp2
  go_region_held3 (fun u => u.cell? ⟨pb, 0, none⟩ = some (.pointer (some ⟨b, 0, none⟩)) ∧ u.cell? ⟨pb, 1, none⟩ = some (.pointer (some ⟨d, 0, none⟩)) ∧ u.cell? ⟨w.heap.size, 1, none⟩ = some (.string tx) ∧ u.cell? ⟨w.heap.size, 3, none⟩ = some (.int .u32 (nv : Int)) ∧ u.cell? ⟨w.heap.size, 5, none⟩ = some (.bool fit) ∧ Turn2 w0.heap.size W u) (first | exact hS | exact hS0 | exact hS1 | exact hS2 | exact hS3 | exact hS4 | assumption | go_keep) (first
    | (go_at_call 14; (with_reducible refine (nonce15 _ _ _).mono ?_); rintro e w1 ⟨rfl, x1⟩; have e1 := Ext.trans hEd x1; have y1 := e1.turn2 hBW; have hS1 := HKeep.out _ y1; clear x1)
    | (go_at_call 25; (with_reducible refine (HPS.out _ _ (HX.out.trans e1) (HD.out.p.ext e1)).mono ?_); rintro e w2 ⟨rfl, i2, t2⟩; have I2 := Lib.hid i2; have Q2 := Lib.hid ((HD.out.q.ext e1).turnP t2); have y2 := y1.trans t2.turn2; have hS2 := HKeep.out _ y2; clear i2 t2)
    | (go_at_call 14; (with_reducible refine (nonce15 _ _ _).mono ?_); rintro e w3 ⟨rfl, x3⟩; have y3 := Turn2.trans y2 (x3.turn2 (Nat.le_trans hBW (Turn2.size y2))); have hS3 := HKeep.out _ y3; have E3 := Lib.hid x3; clear x3)
    | (go_at_call 34; (with_reducible refine (HQS.out _ _ (Q2.out.ext E3.out)).mono ?_); rintro e w4 ⟨rfl, i4, t4⟩; have I4 := Lib.hid i4; have P4 := Lib.hid ((I2.out.ext E3.out).turnQ t4); have y4 := y3.trans t4.turn2; have hS4 := HKeep.out _ y4; clear i4 t4))
  all_goals
    go_wp2
    go_ret
    exact ⟨rfl, HEnd.out _ _ hS' y4 P4.out I4.out⟩
end Go.Proofs.YtobhbppogeghnaaGreatDoor
end

section
namespace Go.Proofs.YtobhbppogeghnaaGreatDoor
open Go.RowKit
attribute [local irreducible] rkey expand enc dec ctrB ctrC ctrL xorL xorAll turnL turnT kd t4 t8 env5 chk tagT sealT ringL hdT envOf hdOf f12B f32B n15 r15 shareB

set_option maxRecDepth 1000000 in
set_option maxHeartbeats 8000000 in
theorem does_rotate (w0 w : World) (pb : Nat) (h : Sit w0 w pb) (dv nv sv : Nat) (tx ot : ByteArray) (fit : Bool) (hok : ActOk w0 dv nv sv tx ot) (hk : dv % 9 = 4) :
    Calls Tryz.prog 10 #[.pointer (some ⟨pb, 0, none⟩), .agg #[.int .u8 (dv : Int), .string tx, .string ot, .int .u32 (nv : Int), .int .u8 (sv : Int), .bool fit]] w fun e w' => e = .returned (.bool true) ∧ Sit w0 w' pb := by
  obtain ⟨b, d, S, sh, T, hd, pt, n, hP, hD, hT, hTl, hhd, hn, hx, hpb⟩ := h
  obtain ⟨N, c, S', hS', HP, HQ⟩ := both_rotateB w0 hok.L w0.heap.size hok.B2 S hD.ok (r15 fit tx) (n15 fit tx)
  have hm : (dv : Int) % 9 = 4 := by omega
  have hs256 := hok.sv
  obtain ⟨W, hW⟩ : ∃ W, w.alloc (.cells #[.int .u8 (dv : Int), .string tx, .string ot, .int .u32 (nv : Int), .int .u8 (sv : Int), .bool fit] 42) = W := ⟨_, rfl⟩
  have xW : Ext w W := hW ▸ (Ext.refl w).alloc _
  have hA : Blk W w.heap.size 42 [.int .u8 (dv : Int), .string tx, .string ot, .int .u32 (nv : Int), .int .u8 (sv : Int), .bool fit] := hW ▸ Blk.new w _ _
  have hPW : PlayBlk W pb b d sh hd pt n := hP.turn2 (xW.turn2 (Nat.le_refl _))
  have a0 := hA.cell 0 _ rfl
  have hxW := hx.trans xW
  have hBW := hxW.size
  have HD := Lib.hid (hD.ext xW)
  have HT := Lib.hid (hT.ext xW)
  have HPl := Lib.hid hPW
  have HX := Lib.hid hxW

  have HKeep : Hid (∀ u, Turn2 w0.heap.size W u → u.cell? ⟨pb, 0, none⟩ = some (.pointer (some ⟨b, 0, none⟩)) ∧ u.cell? ⟨pb, 1, none⟩ = some (.pointer (some ⟨d, 0, none⟩)) ∧ u.cell? ⟨w.heap.size, 1, none⟩ = some (.string tx) ∧ u.cell? ⟨w.heap.size, 5, none⟩ = some (.bool fit) ∧ Turn2 w0.heap.size W u) :=
    Lib.hid (fun u t => ⟨(hPW.turn2 t).cell 0 _ rfl, (hPW.turn2 t).cell 1 _ rfl, (Turn2.blk t hA (by decide) (by decide) (by decide) (by decide) (by decide)).cell 1 _ rfl, (Turn2.blk t hA (by decide) (by decide) (by decide) (by decide) (by decide)).cell 5 _ rfl, t⟩)
  have HEnd : Hid (∀ u S', OkS S' → Turn2 w0.heap.size W u → IsP u w0.heap.size b S' → IsQ u w0.heap.size d S' → Sit w0 u pb) :=
    Lib.hid (fun u S' hS' t i j => ⟨b, d, S', sh, T, hd, pt, n, hPW.turn2 t, ⟨i, j, hS'⟩, (hT.ext xW).turn2 t, hTl, hhd, hn, Ext.turned2 hxW t, hpb⟩)
  have HRight : Hid (∀ u, Turn2 w0.heap.size W u → PlayBlk u pb b d sh hd pt n ∧ BufS u w0.heap.size sh T ∧ Ext w0 u ∧ Blk u w.heap.size 42 [.int .u8 (dv : Int), .string tx, .string ot, .int .u32 (nv : Int), .int .u8 (sv : Int), .bool fit]) :=
    Lib.hid (fun u t => ⟨hPW.turn2 t, (hT.ext xW).turn2 t, Ext.turned2 hxW t, Turn2.blk t hA (by decide) (by decide) (by decide) (by decide) (by decide)⟩)
  have HPS := Lib.hid HP; have HQS := Lib.hid HQ
  have hR : Turn2 w0.heap.size W W := (Ext.refl W).turn2 hBW
  have hRd : Turn2 w0.heap.size W W.drew := (Ext.refl W).drew.turn2 hBW
  have hEd : Ext W W.drew := (Ext.refl W).drew
  have hS0 := HKeep.out _ hR
  have hS := HKeep.out _ hRd
  clear hP hD hT hx xW hA hPW hxW hok hs256 HP HQ
  go_enter Tryz.func10, Tryz.ntmps10
  go_wp2
  go_region_held3 (fun u => u.cell? ⟨pb, 0, none⟩ = some (.pointer (some ⟨b, 0, none⟩)) ∧ u.cell? ⟨pb, 1, none⟩ = some (.pointer (some ⟨d, 0, none⟩)) ∧ u.cell? ⟨w.heap.size, 1, none⟩ = some (.string tx) ∧ u.cell? ⟨w.heap.size, 5, none⟩ = some (.bool fit) ∧ Turn2 w0.heap.size W u) (first | exact hS | exact hS0 | exact hS1 | exact hS2 | exact hS3 | assumption | go_keep) (first
    | (go_at_call 32; (with_reducible refine (root15 _ _ _).mono ?_); rintro e w1 ⟨rfl, x1⟩; have e1 := Ext.trans hEd x1; have y1 := e1.turn2 hBW; have hS1 := HKeep.out _ y1; clear x1)
    | (go_at_call 14; (with_reducible refine (nonce15 _ _ _).mono ?_); rintro e w2 ⟨rfl, x2⟩; have e2 := Ext.trans e1 x2; have y2 := e2.turn2 hBW; have hS2 := HKeep.out _ y2; clear x2)
    | (go_at_call 16; (with_reducible refine (HPS.out _ _ (HX.out.trans e2) (HD.out.p.ext e2)).mono ?_); rintro e w3 ⟨rfl, i3, t3⟩; have I3 := Lib.hid i3; have Q3 := Lib.hid ((HD.out.q.ext e2).turnP t3); have y3 := y2.trans t3.turn2; have hS3 := HKeep.out _ y3; have y3d := y3.trans ((Ext.refl _).drew.turn2 (Nat.le_trans hBW y3.size)); have hS3d := HKeep.out _ y3d; clear i3 t3))
  go_wp2
  go_region_held3 (fun u => u.cell? ⟨pb, 0, none⟩ = some (.pointer (some ⟨b, 0, none⟩)) ∧ u.cell? ⟨pb, 1, none⟩ = some (.pointer (some ⟨d, 0, none⟩)) ∧ u.cell? ⟨w.heap.size, 1, none⟩ = some (.string tx) ∧ u.cell? ⟨w.heap.size, 5, none⟩ = some (.bool fit) ∧ Turn2 w0.heap.size W u) (first | exact hS3d | exact hS3 | exact hS4 | exact hS5 | exact hS6 | assumption | go_keep) (first
    | (go_at_call 32; (with_reducible refine (root15 _ _ _).mono ?_); rintro e w4 ⟨rfl, x4⟩; have y4 := Turn2.trans y3d (x4.turn2 (Nat.le_trans hBW (Turn2.size y3d))); have hS4 := HKeep.out _ y4; have E4 := Lib.hid x4; clear x4)
    | (go_at_call 14; (with_reducible refine (nonce15 _ _ _).mono ?_); rintro e w5 ⟨rfl, x5⟩; have y5 := Turn2.trans y4 (x5.turn2 (Nat.le_trans hBW (Turn2.size y4))); have hS5 := HKeep.out _ y5; have E5 := Lib.hid x5; clear x5)
    | (go_at_call 33; (with_reducible refine (HQS.out _ _ ((Q3.out.ext ((Ext.refl _).drew.trans E4.out)).ext E5.out)).mono ?_); rintro e w6 ⟨rfl, i6, t6⟩; have I6 := Lib.hid i6; have P6 := Lib.hid (((I3.out.ext ((Ext.refl _).drew.trans E4.out)).ext E5.out).turnQ t6); have y6 := y5.trans t6.turn2; have hS6 := HKeep.out _ y6; clear i6 t6))
  all_goals
    go_wp2
    go_ret
    exact ⟨by simp, HEnd.out _ _ hS' y6 P6.out I6.out⟩
end Go.Proofs.YtobhbppogeghnaaGreatDoor
end
