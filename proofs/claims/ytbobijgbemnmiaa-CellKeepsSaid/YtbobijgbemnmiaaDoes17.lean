/- Contract: an act, by the program and by the document: the laws of layer 17. -/
import Derived.Test.YtbobijgbemnmiaaCellRDes
import Derived.Test.YtbobijgbemnmiaaOpenAct17
import Derived.Deep.RegionHeld3
import Derived.BigRegion
namespace Go.Proofs.Ytbobijgbemnmiaa
open Go.RowKit

/-- What an act makes of a cell. -/
def actL (m : Nat) (L : List Ver) (dv : Nat) (an : Bool) (wt xn : Nat) (tx : ByteArray) : Out :=
  if dv % 3 = 0 then putL m L an wt tx else if dv % 3 = 1 then delL m L an wt else desL m L xn
theorem results_four {fn : Func} {p p' u u' : Tmp} {ty : TypeId} (h : fn.results = #[.cell p ty, .cell p' ty, .tmp u, .tmp u']) (tmps : Array Value) (w : World) (g g' : Nat) (v v' : Value)
    (hp : tmps.getD p undef = .pointer (some ⟨g, 0, none⟩)) (hp' : tmps.getD p' undef = .pointer (some ⟨g', 0, none⟩)) (hl : (loadVar ty ⟨g, 0, none⟩).run Try.prog w = .ok v w) (hl' : (loadVar ty ⟨g', 0, none⟩).run Try.prog w = .ok v' w) :
    (results fn tmps).run Try.prog w = .ok (.tuple #[v, v', tmps.getD u undef, tmps.getD u' undef]) w := by
  simp only [results, h]
  simp only [Array.getD_eq_getD_getElem?] at hp hp' ⊢
  simp [Sem.run_bind, Result.andThen, asAddr, hp, hp', hl, hl']
theorem VersP.box {w w0 u : World} {p q : Option Addr} {L L' : List Ver} (v : VersP w q L') (h : VersP w0 p L) (k : Kin u p L q L') {b o : Nat} (hb : w0.heap.size ≤ b) (hu : b < u.heap.size) (u0 : Value) : VersP (w.setCell ⟨b, o, none⟩ u0) q L' := by
  cases hL : L' with
  | nil => exact VersP.nil _ _
  | cons y r =>
    subst hL
    have hne : ∀ a, q = some a → a.block ≠ b := fun a e => by
      rcases k with ⟨e1, e2⟩ | e1
      · subst e1
        rw [← e2] at h
        obtain ⟨a', h1, h2, _⟩ := h 0 y rfl
        rw [e] at h1
        cases h1
        omega
      · have := e1 a e
        omega
    intro k x hk
    obtain ⟨a, h1, h2, h4⟩ := v k x hk
    refine ⟨a, h1, by simpa [World.setCell] using h2, fun j v hv => ?_⟩
    rw [← h4 j v hv]
    have hbl := Below.heap_setCell w ⟨b, o, none⟩ u0 (a.add (k * 3 + j)).block (by rw [add_blockV]; exact hne a h1)
    unfold World.cell?
    rw [hbl]
theorem Kin.le {w u : World} {p q : Option Addr} {L L' : List Ver} (k : Kin u p L q L') (h : w.heap.size ≤ u.heap.size) : Kin w p L q L' := by
  rcases k with k | k
  · exact .inl k
  · exact .inr fun a e => Nat.le_trans h (k a e)
theorem size4 (w : World) (o o' o'' o3 : Obj) : ((((w.alloc o).alloc o').alloc o'').alloc o3).heap.size = w.heap.size + 4 := by simp
theorem Blk.new3V (w : World) (o o' o'' : Obj) (cs : List Value) (T : TypeId) : Blk ((((w.alloc o).alloc o').alloc o'').alloc (.cells cs.toArray T)) (w.heap.size + 3) T cs := by
  have h := Blk.new (((w.alloc o).alloc o').alloc o'') cs T
  rwa [size3] at h
set_option maxRecDepth 100000 in
set_option maxHeartbeats 8000000 in
theorem does17_more (w : World) (m : Nat) (p : Option Addr) (c : Nat) (L : List Ver) (h : VersP w p L) (hl : L.length ≤ 1000000) (hm : m < 18446744073709551616) (dv : Nat) (an : Bool) (wt xn : Nat) (tx : ByteArray) (hdv : dv < 256) (ht : tx.size ≤ 140737488355328) :
    Calls Try.prog 9 #[.agg #[.int .u64 (m : Int), .slice p L.length c], .agg #[.int .u8 (dv : Int), .bool an, .int .u64 (wt : Int), .int .u64 (xn : Int), .string tx]] w fun e w' =>
      ∃ q3 c3 q5 c5, e = .returned (.tuple #[.agg #[.int .u64 ((actL m L dv an wt xn tx).last : Int), .slice q3 (actL m L dv an wt xn tx).L.length c3], .agg #[.int .u64 ((actL m L dv an wt xn tx).last : Int), .slice q5 (actL m L dv an wt xn tx).L.length c5], .int .i64 ((actL m L dv an wt xn tx).e : Int), .int .i64 ((actL m L dv an wt xn tx).e : Int)]) ∧
        VersP w' q3 (actL m L dv an wt xn tx).L ∧ VersP w' q5 (actL m L dv an wt xn tx).L ∧ Kin w p L q3 (actL m L dv an wt xn tx).L ∧ Kin w p L q5 (actL m L dv an wt xn tx).L ∧ Ext w w' := by
  obtain ⟨n, hn⟩ : ∃ n, L.length = n := ⟨_, rfl⟩
  have HNL := Lib.hid hn
  have HX0 : Hid (Ext w ((((w.alloc (.cells #[.int .u64 (m : Int), .slice p n c] 25)).alloc (.cells #[.int .u8 (dv : Int), .bool an, .int .u64 (wt : Int), .int .u64 (xn : Int), .string tx] 27)).alloc (.cells #[.int .u64 0, .slice none 0 0] 25)).alloc (.cells #[.int .u64 0, .slice none 0 0] 25))) := Lib.hid (((((Ext.refl w).alloc _).alloc _).alloc _).alloc _)
  have B1 : Hid (Blk ((((w.alloc (.cells #[.int .u64 (m : Int), .slice p n c] 25)).alloc (.cells #[.int .u8 (dv : Int), .bool an, .int .u64 (wt : Int), .int .u64 (xn : Int), .string tx] 27)).alloc (.cells #[.int .u64 0, .slice none 0 0] 25)).alloc (.cells #[.int .u64 0, .slice none 0 0] 25)) w.heap.size 25 [.int .u64 (m : Int), .slice p n c]) := Lib.hid ((((Blk.new w [.int .u64 (m : Int), .slice p n c] 25).alloc _).alloc _).alloc _)
  have B2 : Hid (Blk ((((w.alloc (.cells #[.int .u64 (m : Int), .slice p n c] 25)).alloc (.cells #[.int .u8 (dv : Int), .bool an, .int .u64 (wt : Int), .int .u64 (xn : Int), .string tx] 27)).alloc (.cells #[.int .u64 0, .slice none 0 0] 25)).alloc (.cells #[.int .u64 0, .slice none 0 0] 25)) (w.heap.size + 1) 27 [.int .u8 (dv : Int), .bool an, .int .u64 (wt : Int), .int .u64 (xn : Int), .string tx]) := Lib.hid (((Blk.new1V w _ [.int .u8 (dv : Int), .bool an, .int .u64 (wt : Int), .int .u64 (xn : Int), .string tx] 27).alloc _).alloc _)
  have B3 : Hid (Blk ((((w.alloc (.cells #[.int .u64 (m : Int), .slice p n c] 25)).alloc (.cells #[.int .u8 (dv : Int), .bool an, .int .u64 (wt : Int), .int .u64 (xn : Int), .string tx] 27)).alloc (.cells #[.int .u64 0, .slice none 0 0] 25)).alloc (.cells #[.int .u64 0, .slice none 0 0] 25)) (w.heap.size + 2) 25 [.int .u64 0, .slice none 0 0]) := Lib.hid ((Blk.new2V w _ _ [.int .u64 0, .slice none 0 0] 25).alloc _)
  have B4 : Hid (Blk ((((w.alloc (.cells #[.int .u64 (m : Int), .slice p n c] 25)).alloc (.cells #[.int .u8 (dv : Int), .bool an, .int .u64 (wt : Int), .int .u64 (xn : Int), .string tx] 27)).alloc (.cells #[.int .u64 0, .slice none 0 0] 25)).alloc (.cells #[.int .u64 0, .slice none 0 0] 25)) (w.heap.size + 3) 25 [.int .u64 0, .slice none 0 0]) := Lib.hid (Blk.new3V w _ _ _ [.int .u64 0, .slice none 0 0] 25)
  have HCp := Lib.hid (copied_any ((((w.alloc (.cells #[.int .u64 (m : Int), .slice p n c] 25)).alloc (.cells #[.int .u8 (dv : Int), .bool an, .int .u64 (wt : Int), .int .u64 (xn : Int), .string tx] 27)).alloc (.cells #[.int .u64 0, .slice none 0 0] 25)).alloc (.cells #[.int .u64 0, .slice none 0 0] 25)).drew m p c L (h.ext HX0.out.drew) hl)
  rw [hn] at HCp
  have HV0 := Lib.hid h
  have HKeep : Hid (∀ u, Blk u w.heap.size 25 [.int .u64 (m : Int), .slice p n c] → Blk u (w.heap.size + 1) 27 [.int .u8 (dv : Int), .bool an, .int .u64 (wt : Int), .int .u64 (xn : Int), .string tx] → Ext w u → u.cell? ⟨w.heap.size, 0, none⟩ = some (.int .u64 (m : Int)) ∧ u.cell? ⟨w.heap.size, 1, none⟩ = some (.slice p n c) ∧ u.cell? ⟨w.heap.size + 1, 1, none⟩ = some (.bool an) ∧ u.cell? ⟨w.heap.size + 1, 2, none⟩ = some (.int .u64 (wt : Int)) ∧ u.cell? ⟨w.heap.size + 1, 3, none⟩ = some (.int .u64 (xn : Int)) ∧ u.cell? ⟨w.heap.size + 1, 4, none⟩ = some (.string tx) ∧ Ext w u) := Lib.hid (fun u b1 b2 x => ⟨b1.cell 0 _ rfl, b1.cell 1 _ rfl, b2.cell 1 _ rfl, b2.cell 2 _ rfl, b2.cell 3 _ rfl, b2.cell 4 _ rfl, x⟩)
  have hS0 := HKeep.out _ B1.out B2.out HX0.out
  have hS1 := HKeep.out _ B1.out.drew B2.out.drew HX0.out.drew
  obtain ⟨⟨er, la, LL⟩, hO⟩ : ∃ O, actL m L dv an wt xn tx = O := ⟨_, rfl⟩
  obtain ⟨nl, hnl⟩ : ∃ nl, LL.length = nl := ⟨_, rfl⟩
  rw [hO, hn]
  dsimp only
  rw [hnl]
  have hq : (dv : Int) % 3 = ((dv % 3 : Nat) : Int) := by omega
  rcases (show dv % 3 = 0 ∨ dv % 3 = 1 ∨ dv % 3 = 2 by omega) with e | e | e
  · have hm3 : (dv : Int) % 3 = 0 := by omega
    have hm3t : (dv : Int).tmod 3 = 0 := by rw [Int.tmod_eq_emod_of_nonneg (by omega)]; exact hm3
    have hO2 : putL m L an wt tx = ⟨er, la, LL⟩ := by rw [← hO]; simp [actL, e]
    have HP : Hid (∀ u q c', VersP u q L → Calls Try.prog 21 #[.agg #[.int .u64 (m : Int), .slice q n c'], .bool an, .int .u64 (wt : Int), .string tx] u fun e w' => ∃ q c', e = .returned (.tuple #[.agg #[.int .u64 (la : Int), .slice q nl c'], .int .i64 (er : Int)]) ∧ IsV w' u.heap.size q c' LL ∧ Ext u w') := Lib.hid (fun u q c' v => by
      have := put_any u m q c' L v hl hm an wt tx ht
      rw [hO2, hn] at this
      dsimp only at this
      rwa [hnl] at this)
    have HR : Hid (∀ u, Ext w u → Calls Try.prog 24 #[.agg #[.int .u64 (m : Int), .slice p n c], .bool an, .int .u64 (wt : Int), .string tx] u fun e w' => ∃ q, (∃ c', e = .returned (.tuple #[.agg #[.int .u64 (la : Int), .slice q nl c'], .int .i64 (er : Int)])) ∧ VersP w' q LL ∧ Kin u p L q LL ∧ Ext u w') := Lib.hid (fun u x => by
      have := rput_any u m p c L (h.ext x) hl hm an wt tx ht
      rw [hO2, hn] at this
      dsimp only at this
      rwa [hnl] at this)
    clear h hn hO hO2 hnl e hq hm hl ht hdv
    go_enter Try.func9, Try.ntmps9
    go_wp2
    go_region_held3 (fun u => u.cell? ⟨w.heap.size, 0, none⟩ = some (.int .u64 (m : Int)) ∧ u.cell? ⟨w.heap.size, 1, none⟩ = some (.slice p n c) ∧ u.cell? ⟨w.heap.size + 1, 1, none⟩ = some (.bool an) ∧ u.cell? ⟨w.heap.size + 1, 2, none⟩ = some (.int .u64 (wt : Int)) ∧ u.cell? ⟨w.heap.size + 1, 3, none⟩ = some (.int .u64 (xn : Int)) ∧ u.cell? ⟨w.heap.size + 1, 4, none⟩ = some (.string tx) ∧ Ext w u) (first | exact hS1 | exact hS0 | exact hS2 | exact hS3 | exact hS4 | assumption | go_keep) (first | (go_at_call 11; refine HCp.out.mono ?_; rintro e w2 ⟨q2, c2, rfl, v2, x2⟩; have HV2 := Lib.hid v2; have HX2 := Lib.hid (HX0.out.drew.trans x2); have C1 := Lib.hid (B1.out.drew.ext x2); have C2 := Lib.hid (B2.out.drew.ext x2); have C3 := Lib.hid (B3.out.drew.ext x2); have C4 := Lib.hid (B4.out.drew.ext x2); have hS2 := HKeep.out _ C1.out C2.out HX2.out; clear v2 x2) | (go_at_call 21; refine (HP.out _ q2 c2 HV2.out.vers).mono ?_; rintro e w3 ⟨q3, c3, rfl, v3, x3⟩; have HX3 := Lib.hid (HX2.out.trans x3); have HV3 : Hid (IsV w3 w.heap.size q3 c3 LL) := Lib.hid (v3.base HX2.out.size); have D1 := Lib.hid (C1.out.ext x3); have D2 := Lib.hid (C2.out.ext x3); have D3 := Lib.hid (C3.out.ext x3); have D4 := Lib.hid (C4.out.ext x3); have x0 := D3.out.cell 0 _ rfl; have x1 := D3.out.cell 1 _ rfl; have xf0 := D3.out.frozen 0; have xf1 := D3.out.frozen 1; have HX4 : Hid (Ext w ((w3.setCell ⟨w.heap.size + 2, 0, none⟩ (.int .u64 (la : Int))).setCell ⟨w.heap.size + 2, 1, none⟩ (.slice q3 nl c3))) := Lib.hid ((HX3.out.setCell (p := ⟨w.heap.size + 2, 0, none⟩) (by show w.heap.size ≤ w.heap.size + 2; omega) _).setCell (p := ⟨w.heap.size + 2, 1, none⟩) (by show w.heap.size ≤ w.heap.size + 2; omega) _); have E1 : Hid (Blk ((w3.setCell ⟨w.heap.size + 2, 0, none⟩ (.int .u64 (la : Int))).setCell ⟨w.heap.size + 2, 1, none⟩ (.slice q3 nl c3)) w.heap.size 25 [.int .u64 (m : Int), .slice p n c]) := Lib.hid ((D1.out.other (by omega) 0 _).other (by omega) 1 _); have E2 : Hid (Blk ((w3.setCell ⟨w.heap.size + 2, 0, none⟩ (.int .u64 (la : Int))).setCell ⟨w.heap.size + 2, 1, none⟩ (.slice q3 nl c3)) (w.heap.size + 1) 27 [.int .u8 (dv : Int), .bool an, .int .u64 (wt : Int), .int .u64 (xn : Int), .string tx]) := Lib.hid ((D2.out.other (by omega) 0 _).other (by omega) 1 _); have E3 : Hid (Blk ((w3.setCell ⟨w.heap.size + 2, 0, none⟩ (.int .u64 (la : Int))).setCell ⟨w.heap.size + 2, 1, none⟩ (.slice q3 nl c3)) (w.heap.size + 2) 25 [.int .u64 (la : Int), .slice q3 nl c3]) := Lib.hid ((D3.out.set_ 0 _).set_ 1 _); have E4 : Hid (Blk ((w3.setCell ⟨w.heap.size + 2, 0, none⟩ (.int .u64 (la : Int))).setCell ⟨w.heap.size + 2, 1, none⟩ (.slice q3 nl c3)) (w.heap.size + 3) 25 [.int .u64 0, .slice none 0 0]) := Lib.hid ((D4.out.other (by omega) 0 _).other (by omega) 1 _); have HV4 : Hid (IsV ((w3.setCell ⟨w.heap.size + 2, 0, none⟩ (.int .u64 (la : Int))).setCell ⟨w.heap.size + 2, 1, none⟩ (.slice q3 nl c3)) w.heap.size q3 c3 LL) := Lib.hid ((HV3.out.parted D3.out (by decide) _).parted (D3.out.set_ 0 _) (by decide) _); have hS3 := HKeep.out _ D1.out D2.out HX3.out; have hS4 := HKeep.out _ E1.out E2.out HX4.out; clear v3 x3))
    all_goals
      have e0 := E1.out.cell 0 _ rfl
      have e1 := E1.out.cell 1 _ rfl
      have b1 := E2.out.cell 1 _ rfl
      have b2 := E2.out.cell 2 _ rfl
      have b3 := E2.out.cell 3 _ rfl
      have b4 := E2.out.cell 4 _ rfl
      go_wp2_with ((go_at_call 24; refine (HR.out _ HX4.out).mono ?_; rintro e w4 ⟨q5, ⟨c5, rfl⟩, v5, k5, x5⟩; have HV5 := Lib.hid v5; have HK5 := Lib.hid k5; have HX5 := Lib.hid (HX4.out.trans x5); have HV6 := Lib.hid (HV4.out.ext x5); have F3 := Lib.hid (E3.out.ext x5); have F4 := Lib.hid (E4.out.ext x5); have x0 := F3.out.cell 0 _ rfl; have x1 := F3.out.cell 1 _ rfl; have xf0 := F3.out.frozen 0; have xf1 := F3.out.frozen 1; have y0 := F4.out.cell 0 _ rfl; have y1 := F4.out.cell 1 _ rfl; have yf0 := F4.out.frozen 0; have yf1 := F4.out.frozen 1; clear v5 k5 x5))
      have G3 : Hid (Blk ((w4.setCell ⟨w.heap.size + 3, 0, none⟩ (.int .u64 (la : Int))).setCell ⟨w.heap.size + 3, 1, none⟩ (.slice q5 nl c5)) (w.heap.size + 2) 25 [.int .u64 (la : Int), .slice q3 nl c3]) := Lib.hid ((F3.out.other (by omega) 0 _).other (by omega) 1 _)
      have G4 : Hid (Blk ((w4.setCell ⟨w.heap.size + 3, 0, none⟩ (.int .u64 (la : Int))).setCell ⟨w.heap.size + 3, 1, none⟩ (.slice q5 nl c5)) (w.heap.size + 3) 25 [.int .u64 (la : Int), .slice q5 nl c5]) := Lib.hid ((F4.out.set_ 0 _).set_ 1 _)
      have HX7 : Hid (Ext w ((w4.setCell ⟨w.heap.size + 3, 0, none⟩ (.int .u64 (la : Int))).setCell ⟨w.heap.size + 3, 1, none⟩ (.slice q5 nl c5))) := Lib.hid ((HX5.out.setCell (p := ⟨w.heap.size + 3, 0, none⟩) (by show w.heap.size ≤ w.heap.size + 3; omega) _).setCell (p := ⟨w.heap.size + 3, 1, none⟩) (by show w.heap.size ≤ w.heap.size + 3; omega) _)
      have HV7 : Hid (IsV ((w4.setCell ⟨w.heap.size + 3, 0, none⟩ (.int .u64 (la : Int))).setCell ⟨w.heap.size + 3, 1, none⟩ (.slice q5 nl c5)) w.heap.size q3 c3 LL) := Lib.hid ((HV6.out.parted F4.out (by decide) _).parted (F4.out.set_ 0 _) (by decide) _)
      have hb3 : w.heap.size + 3 < ((w3.setCell ⟨w.heap.size + 2, 0, none⟩ (.int .u64 (la : Int))).setCell ⟨w.heap.size + 2, 1, none⟩ (.slice q3 nl c3)).heap.size := E4.out.lt
      have HV8 : Hid (VersP ((w4.setCell ⟨w.heap.size + 3, 0, none⟩ (.int .u64 (la : Int))).setCell ⟨w.heap.size + 3, 1, none⟩ (.slice q5 nl c5)) q5 LL) := Lib.hid ((HV5.out.box HV0.out HK5.out (by omega) hb3 _).box HV0.out HK5.out (by omega) hb3 _)
      have r0 : ((w4.setCell ⟨w.heap.size + 3, 0, none⟩ (.int .u64 (la : Int))).setCell ⟨w.heap.size + 3, 1, none⟩ (.slice q5 nl c5)).drew.cell? ⟨w.heap.size + 2, 0, none⟩ = _ := G3.out.drew.cell 0 _ rfl
      have r1 : ((w4.setCell ⟨w.heap.size + 3, 0, none⟩ (.int .u64 (la : Int))).setCell ⟨w.heap.size + 3, 1, none⟩ (.slice q5 nl c5)).drew.cell? ⟨w.heap.size + 2, 1, none⟩ = _ := G3.out.drew.cell 1 _ rfl
      have r2 : ((w4.setCell ⟨w.heap.size + 3, 0, none⟩ (.int .u64 (la : Int))).setCell ⟨w.heap.size + 3, 1, none⟩ (.slice q5 nl c5)).drew.cell? ⟨w.heap.size + 3, 0, none⟩ = _ := G4.out.drew.cell 0 _ rfl
      have r3 : ((w4.setCell ⟨w.heap.size + 3, 0, none⟩ (.int .u64 (la : Int))).setCell ⟨w.heap.size + 3, 1, none⟩ (.slice q5 nl c5)).drew.cell? ⟨w.heap.size + 3, 1, none⟩ = _ := G4.out.drew.cell 1 _ rfl
      have t0 : ((w4.setCell ⟨w.heap.size + 3, 0, none⟩ (.int .u64 (la : Int))).setCell ⟨w.heap.size + 3, 1, none⟩ (.slice q5 nl c5)).drew.frozen? ⟨w.heap.size + 2, 0, none⟩ = false := G3.out.drew.frozen 0
      have t1 : ((w4.setCell ⟨w.heap.size + 3, 0, none⟩ (.int .u64 (la : Int))).setCell ⟨w.heap.size + 3, 1, none⟩ (.slice q5 nl c5)).drew.frozen? ⟨w.heap.size + 2, 1, none⟩ = false := G3.out.drew.frozen 1
      have t2 : ((w4.setCell ⟨w.heap.size + 3, 0, none⟩ (.int .u64 (la : Int))).setCell ⟨w.heap.size + 3, 1, none⟩ (.slice q5 nl c5)).drew.frozen? ⟨w.heap.size + 3, 0, none⟩ = false := G4.out.drew.frozen 0
      have t3 : ((w4.setCell ⟨w.heap.size + 3, 0, none⟩ (.int .u64 (la : Int))).setCell ⟨w.heap.size + 3, 1, none⟩ (.slice q5 nl c5)).drew.frozen? ⟨w.heap.size + 3, 1, none⟩ = false := G4.out.drew.frozen 1
      clear hS0 hS1 hS2 hS3 hS4
      go_region
      all_goals
        go_wp2
        have G3b := Lib.hid (((((G3.out.set_ 0 (.int .u64 (la : Int))).set_ 1 (.slice q3 nl c3)).other (g := w.heap.size + 3) (by omega) 0 (.int .u64 (la : Int))).other (g := w.heap.size + 3) (by omega) 1 (.slice q5 nl c5)).drew)
        have G4a := Lib.hid ((G4.out.other (g := w.heap.size + 2) (by omega) 0 (.int .u64 (la : Int))).other (g := w.heap.size + 2) (by omega) 1 (.slice q3 nl c3))
        have G4b := Lib.hid (((G4a.out.set_ 0 (.int .u64 (la : Int))).set_ 1 (.slice q5 nl c5)).drew)
        have HV9 := Lib.hid ((((HV7.out.parted (o := 0) G3.out (by decide) (.int .u64 (la : Int))).parted (o := 1) (G3.out.set_ 0 _) (by decide) (.slice q3 nl c3)).parted (o := 0) G4a.out (by decide) (.int .u64 (la : Int))).parted (o := 1) (G4a.out.set_ 0 _) (by decide) (.slice q5 nl c5))
        have HVa := Lib.hid ((((HV8.out.box (o := 0) HV0.out HK5.out (b := w.heap.size + 2) (by omega) (by omega) (.int .u64 (la : Int))).box (o := 1) HV0.out HK5.out (b := w.heap.size + 2) (by omega) (by omega) (.slice q3 nl c3)).box (o := 0) HV0.out HK5.out (b := w.heap.size + 3) (by omega) hb3 (.int .u64 (la : Int))).box (o := 1) HV0.out HK5.out (b := w.heap.size + 3) (by omega) hb3 (.slice q5 nl c5))
        exact bodyPost_ret (results_four rfl _ _ (w.heap.size + 2) (w.heap.size + 3) (.agg #[.int .u64 (la : Int), .slice q3 nl c3]) (.agg #[.int .u64 (la : Int), .slice q5 nl c5]) rfl rfl (load_cell _ _ _ _ _ _ G3b.out) (load_cell _ _ _ _ _ _ G4b.out)) rfl ⟨q3, c3, q5, c5, rfl, HV9.out.vers.ext ((Ext.refl _).drew), HVa.out.ext ((Ext.refl _).drew), .inr (HV9.out.newP (Nat.le_refl _)), HK5.out.le HX4.out.size, ((((HX7.out.setCell (p := ⟨w.heap.size + 2, 0, none⟩) (by show w.heap.size ≤ w.heap.size + 2; omega) _).setCell (p := ⟨w.heap.size + 2, 1, none⟩) (by show w.heap.size ≤ w.heap.size + 2; omega) _).setCell (p := ⟨w.heap.size + 3, 0, none⟩) (by show w.heap.size ≤ w.heap.size + 3; omega) _).setCell (p := ⟨w.heap.size + 3, 1, none⟩) (by show w.heap.size ≤ w.heap.size + 3; omega) _).drew⟩
  · have hm3 : (dv : Int) % 3 = 1 := by omega
    have hm3t : (dv : Int).tmod 3 = 1 := by rw [Int.tmod_eq_emod_of_nonneg (by omega)]; exact hm3
    have hO2 : delL m L an wt = ⟨er, la, LL⟩ := by rw [← hO]; simp [actL, e]
    have HP : Hid (∀ u q c', VersP u q L → Calls Try.prog 22 #[.agg #[.int .u64 (m : Int), .slice q n c'], .bool an, .int .u64 (wt : Int)] u fun e w' => ∃ q c', e = .returned (.tuple #[.agg #[.int .u64 (la : Int), .slice q nl c'], .int .i64 (er : Int)]) ∧ IsV w' u.heap.size q c' LL ∧ Ext u w') := Lib.hid (fun u q c' v => by
      have := delV_any u m q c' L v hl hm an wt
      rw [hO2, hn] at this
      dsimp only at this
      rwa [hnl] at this)
    have HR : Hid (∀ u, Ext w u → Calls Try.prog 25 #[.agg #[.int .u64 (m : Int), .slice p n c], .bool an, .int .u64 (wt : Int)] u fun e w' => ∃ q, (∃ c', e = .returned (.tuple #[.agg #[.int .u64 (la : Int), .slice q nl c'], .int .i64 (er : Int)])) ∧ VersP w' q LL ∧ Kin u p L q LL ∧ Ext u w') := Lib.hid (fun u x => by
      have := rdel_any u m p c L (h.ext x) hl hm an wt
      rw [hO2, hn] at this
      dsimp only at this
      rwa [hnl] at this)
    clear h hn hO hO2 hnl e hq hm hl ht hdv
    go_enter Try.func9, Try.ntmps9
    go_wp2
    go_region_held3 (fun u => u.cell? ⟨w.heap.size, 0, none⟩ = some (.int .u64 (m : Int)) ∧ u.cell? ⟨w.heap.size, 1, none⟩ = some (.slice p n c) ∧ u.cell? ⟨w.heap.size + 1, 1, none⟩ = some (.bool an) ∧ u.cell? ⟨w.heap.size + 1, 2, none⟩ = some (.int .u64 (wt : Int)) ∧ u.cell? ⟨w.heap.size + 1, 3, none⟩ = some (.int .u64 (xn : Int)) ∧ u.cell? ⟨w.heap.size + 1, 4, none⟩ = some (.string tx) ∧ Ext w u) (first | exact hS1 | exact hS0 | exact hS2 | exact hS3 | exact hS4 | assumption | go_keep) (first | (go_at_call 11; refine HCp.out.mono ?_; rintro e w2 ⟨q2, c2, rfl, v2, x2⟩; have HV2 := Lib.hid v2; have HX2 := Lib.hid (HX0.out.drew.trans x2); have C1 := Lib.hid (B1.out.drew.ext x2); have C2 := Lib.hid (B2.out.drew.ext x2); have C3 := Lib.hid (B3.out.drew.ext x2); have C4 := Lib.hid (B4.out.drew.ext x2); have hS2 := HKeep.out _ C1.out C2.out HX2.out; clear v2 x2) | (go_at_call 22; refine (HP.out _ q2 c2 HV2.out.vers).mono ?_; rintro e w3 ⟨q3, c3, rfl, v3, x3⟩; have HX3 := Lib.hid (HX2.out.trans x3); have HV3 : Hid (IsV w3 w.heap.size q3 c3 LL) := Lib.hid (v3.base HX2.out.size); have D1 := Lib.hid (C1.out.ext x3); have D2 := Lib.hid (C2.out.ext x3); have D3 := Lib.hid (C3.out.ext x3); have D4 := Lib.hid (C4.out.ext x3); have x0 := D3.out.cell 0 _ rfl; have x1 := D3.out.cell 1 _ rfl; have xf0 := D3.out.frozen 0; have xf1 := D3.out.frozen 1; have HX4 : Hid (Ext w ((w3.setCell ⟨w.heap.size + 2, 0, none⟩ (.int .u64 (la : Int))).setCell ⟨w.heap.size + 2, 1, none⟩ (.slice q3 nl c3))) := Lib.hid ((HX3.out.setCell (p := ⟨w.heap.size + 2, 0, none⟩) (by show w.heap.size ≤ w.heap.size + 2; omega) _).setCell (p := ⟨w.heap.size + 2, 1, none⟩) (by show w.heap.size ≤ w.heap.size + 2; omega) _); have E1 : Hid (Blk ((w3.setCell ⟨w.heap.size + 2, 0, none⟩ (.int .u64 (la : Int))).setCell ⟨w.heap.size + 2, 1, none⟩ (.slice q3 nl c3)) w.heap.size 25 [.int .u64 (m : Int), .slice p n c]) := Lib.hid ((D1.out.other (by omega) 0 _).other (by omega) 1 _); have E2 : Hid (Blk ((w3.setCell ⟨w.heap.size + 2, 0, none⟩ (.int .u64 (la : Int))).setCell ⟨w.heap.size + 2, 1, none⟩ (.slice q3 nl c3)) (w.heap.size + 1) 27 [.int .u8 (dv : Int), .bool an, .int .u64 (wt : Int), .int .u64 (xn : Int), .string tx]) := Lib.hid ((D2.out.other (by omega) 0 _).other (by omega) 1 _); have E3 : Hid (Blk ((w3.setCell ⟨w.heap.size + 2, 0, none⟩ (.int .u64 (la : Int))).setCell ⟨w.heap.size + 2, 1, none⟩ (.slice q3 nl c3)) (w.heap.size + 2) 25 [.int .u64 (la : Int), .slice q3 nl c3]) := Lib.hid ((D3.out.set_ 0 _).set_ 1 _); have E4 : Hid (Blk ((w3.setCell ⟨w.heap.size + 2, 0, none⟩ (.int .u64 (la : Int))).setCell ⟨w.heap.size + 2, 1, none⟩ (.slice q3 nl c3)) (w.heap.size + 3) 25 [.int .u64 0, .slice none 0 0]) := Lib.hid ((D4.out.other (by omega) 0 _).other (by omega) 1 _); have HV4 : Hid (IsV ((w3.setCell ⟨w.heap.size + 2, 0, none⟩ (.int .u64 (la : Int))).setCell ⟨w.heap.size + 2, 1, none⟩ (.slice q3 nl c3)) w.heap.size q3 c3 LL) := Lib.hid ((HV3.out.parted D3.out (by decide) _).parted (D3.out.set_ 0 _) (by decide) _); have hS3 := HKeep.out _ D1.out D2.out HX3.out; have hS4 := HKeep.out _ E1.out E2.out HX4.out; clear v3 x3))
    all_goals
      have e0 := E1.out.cell 0 _ rfl
      have e1 := E1.out.cell 1 _ rfl
      have b1 := E2.out.cell 1 _ rfl
      have b2 := E2.out.cell 2 _ rfl
      have b3 := E2.out.cell 3 _ rfl
      have b4 := E2.out.cell 4 _ rfl
      go_wp2_with ((go_at_call 25; refine (HR.out _ HX4.out).mono ?_; rintro e w4 ⟨q5, ⟨c5, rfl⟩, v5, k5, x5⟩; have HV5 := Lib.hid v5; have HK5 := Lib.hid k5; have HX5 := Lib.hid (HX4.out.trans x5); have HV6 := Lib.hid (HV4.out.ext x5); have F3 := Lib.hid (E3.out.ext x5); have F4 := Lib.hid (E4.out.ext x5); have x0 := F3.out.cell 0 _ rfl; have x1 := F3.out.cell 1 _ rfl; have xf0 := F3.out.frozen 0; have xf1 := F3.out.frozen 1; have y0 := F4.out.cell 0 _ rfl; have y1 := F4.out.cell 1 _ rfl; have yf0 := F4.out.frozen 0; have yf1 := F4.out.frozen 1; clear v5 k5 x5))
      have G3 : Hid (Blk ((w4.setCell ⟨w.heap.size + 3, 0, none⟩ (.int .u64 (la : Int))).setCell ⟨w.heap.size + 3, 1, none⟩ (.slice q5 nl c5)) (w.heap.size + 2) 25 [.int .u64 (la : Int), .slice q3 nl c3]) := Lib.hid ((F3.out.other (by omega) 0 _).other (by omega) 1 _)
      have G4 : Hid (Blk ((w4.setCell ⟨w.heap.size + 3, 0, none⟩ (.int .u64 (la : Int))).setCell ⟨w.heap.size + 3, 1, none⟩ (.slice q5 nl c5)) (w.heap.size + 3) 25 [.int .u64 (la : Int), .slice q5 nl c5]) := Lib.hid ((F4.out.set_ 0 _).set_ 1 _)
      have HX7 : Hid (Ext w ((w4.setCell ⟨w.heap.size + 3, 0, none⟩ (.int .u64 (la : Int))).setCell ⟨w.heap.size + 3, 1, none⟩ (.slice q5 nl c5))) := Lib.hid ((HX5.out.setCell (p := ⟨w.heap.size + 3, 0, none⟩) (by show w.heap.size ≤ w.heap.size + 3; omega) _).setCell (p := ⟨w.heap.size + 3, 1, none⟩) (by show w.heap.size ≤ w.heap.size + 3; omega) _)
      have HV7 : Hid (IsV ((w4.setCell ⟨w.heap.size + 3, 0, none⟩ (.int .u64 (la : Int))).setCell ⟨w.heap.size + 3, 1, none⟩ (.slice q5 nl c5)) w.heap.size q3 c3 LL) := Lib.hid ((HV6.out.parted F4.out (by decide) _).parted (F4.out.set_ 0 _) (by decide) _)
      have hb3 : w.heap.size + 3 < ((w3.setCell ⟨w.heap.size + 2, 0, none⟩ (.int .u64 (la : Int))).setCell ⟨w.heap.size + 2, 1, none⟩ (.slice q3 nl c3)).heap.size := E4.out.lt
      have HV8 : Hid (VersP ((w4.setCell ⟨w.heap.size + 3, 0, none⟩ (.int .u64 (la : Int))).setCell ⟨w.heap.size + 3, 1, none⟩ (.slice q5 nl c5)) q5 LL) := Lib.hid ((HV5.out.box HV0.out HK5.out (by omega) hb3 _).box HV0.out HK5.out (by omega) hb3 _)
      have r0 : ((w4.setCell ⟨w.heap.size + 3, 0, none⟩ (.int .u64 (la : Int))).setCell ⟨w.heap.size + 3, 1, none⟩ (.slice q5 nl c5)).drew.cell? ⟨w.heap.size + 2, 0, none⟩ = _ := G3.out.drew.cell 0 _ rfl
      have r1 : ((w4.setCell ⟨w.heap.size + 3, 0, none⟩ (.int .u64 (la : Int))).setCell ⟨w.heap.size + 3, 1, none⟩ (.slice q5 nl c5)).drew.cell? ⟨w.heap.size + 2, 1, none⟩ = _ := G3.out.drew.cell 1 _ rfl
      have r2 : ((w4.setCell ⟨w.heap.size + 3, 0, none⟩ (.int .u64 (la : Int))).setCell ⟨w.heap.size + 3, 1, none⟩ (.slice q5 nl c5)).drew.cell? ⟨w.heap.size + 3, 0, none⟩ = _ := G4.out.drew.cell 0 _ rfl
      have r3 : ((w4.setCell ⟨w.heap.size + 3, 0, none⟩ (.int .u64 (la : Int))).setCell ⟨w.heap.size + 3, 1, none⟩ (.slice q5 nl c5)).drew.cell? ⟨w.heap.size + 3, 1, none⟩ = _ := G4.out.drew.cell 1 _ rfl
      have t0 : ((w4.setCell ⟨w.heap.size + 3, 0, none⟩ (.int .u64 (la : Int))).setCell ⟨w.heap.size + 3, 1, none⟩ (.slice q5 nl c5)).drew.frozen? ⟨w.heap.size + 2, 0, none⟩ = false := G3.out.drew.frozen 0
      have t1 : ((w4.setCell ⟨w.heap.size + 3, 0, none⟩ (.int .u64 (la : Int))).setCell ⟨w.heap.size + 3, 1, none⟩ (.slice q5 nl c5)).drew.frozen? ⟨w.heap.size + 2, 1, none⟩ = false := G3.out.drew.frozen 1
      have t2 : ((w4.setCell ⟨w.heap.size + 3, 0, none⟩ (.int .u64 (la : Int))).setCell ⟨w.heap.size + 3, 1, none⟩ (.slice q5 nl c5)).drew.frozen? ⟨w.heap.size + 3, 0, none⟩ = false := G4.out.drew.frozen 0
      have t3 : ((w4.setCell ⟨w.heap.size + 3, 0, none⟩ (.int .u64 (la : Int))).setCell ⟨w.heap.size + 3, 1, none⟩ (.slice q5 nl c5)).drew.frozen? ⟨w.heap.size + 3, 1, none⟩ = false := G4.out.drew.frozen 1
      clear hS0 hS1 hS2 hS3 hS4
      go_region
      all_goals
        go_wp2
        have G3b := Lib.hid (((((G3.out.set_ 0 (.int .u64 (la : Int))).set_ 1 (.slice q3 nl c3)).other (g := w.heap.size + 3) (by omega) 0 (.int .u64 (la : Int))).other (g := w.heap.size + 3) (by omega) 1 (.slice q5 nl c5)).drew)
        have G4a := Lib.hid ((G4.out.other (g := w.heap.size + 2) (by omega) 0 (.int .u64 (la : Int))).other (g := w.heap.size + 2) (by omega) 1 (.slice q3 nl c3))
        have G4b := Lib.hid (((G4a.out.set_ 0 (.int .u64 (la : Int))).set_ 1 (.slice q5 nl c5)).drew)
        have HV9 := Lib.hid ((((HV7.out.parted (o := 0) G3.out (by decide) (.int .u64 (la : Int))).parted (o := 1) (G3.out.set_ 0 _) (by decide) (.slice q3 nl c3)).parted (o := 0) G4a.out (by decide) (.int .u64 (la : Int))).parted (o := 1) (G4a.out.set_ 0 _) (by decide) (.slice q5 nl c5))
        have HVa := Lib.hid ((((HV8.out.box (o := 0) HV0.out HK5.out (b := w.heap.size + 2) (by omega) (by omega) (.int .u64 (la : Int))).box (o := 1) HV0.out HK5.out (b := w.heap.size + 2) (by omega) (by omega) (.slice q3 nl c3)).box (o := 0) HV0.out HK5.out (b := w.heap.size + 3) (by omega) hb3 (.int .u64 (la : Int))).box (o := 1) HV0.out HK5.out (b := w.heap.size + 3) (by omega) hb3 (.slice q5 nl c5))
        exact bodyPost_ret (results_four rfl _ _ (w.heap.size + 2) (w.heap.size + 3) (.agg #[.int .u64 (la : Int), .slice q3 nl c3]) (.agg #[.int .u64 (la : Int), .slice q5 nl c5]) rfl rfl (load_cell _ _ _ _ _ _ G3b.out) (load_cell _ _ _ _ _ _ G4b.out)) rfl ⟨q3, c3, q5, c5, rfl, HV9.out.vers.ext ((Ext.refl _).drew), HVa.out.ext ((Ext.refl _).drew), .inr (HV9.out.newP (Nat.le_refl _)), HK5.out.le HX4.out.size, ((((HX7.out.setCell (p := ⟨w.heap.size + 2, 0, none⟩) (by show w.heap.size ≤ w.heap.size + 2; omega) _).setCell (p := ⟨w.heap.size + 2, 1, none⟩) (by show w.heap.size ≤ w.heap.size + 2; omega) _).setCell (p := ⟨w.heap.size + 3, 0, none⟩) (by show w.heap.size ≤ w.heap.size + 3; omega) _).setCell (p := ⟨w.heap.size + 3, 1, none⟩) (by show w.heap.size ≤ w.heap.size + 3; omega) _).drew⟩
  · have hm3 : (dv : Int) % 3 = 2 := by omega
    have hm3t : (dv : Int).tmod 3 = 2 := by rw [Int.tmod_eq_emod_of_nonneg (by omega)]; exact hm3
    have hO2 : desL m L xn = ⟨er, la, LL⟩ := by rw [← hO]; simp [actL, e]
    have HP : Hid (∀ u q c', VersP u q L → Calls Try.prog 23 #[.agg #[.int .u64 (m : Int), .slice q n c'], .int .u64 (xn : Int)] u fun e w' => ∃ q c', e = .returned (.tuple #[.agg #[.int .u64 (la : Int), .slice q nl c'], .int .i64 (er : Int)]) ∧ IsV w' u.heap.size q c' LL ∧ Ext u w') := Lib.hid (fun u q c' v => by
      have := des_any u m q c' L v hl xn
      rw [hO2, hn] at this
      dsimp only at this
      rwa [hnl] at this)
    have HR : Hid (∀ u, Ext w u → Calls Try.prog 26 #[.agg #[.int .u64 (m : Int), .slice p n c], .int .u64 (xn : Int)] u fun e w' => ∃ q, (∃ c', e = .returned (.tuple #[.agg #[.int .u64 (la : Int), .slice q nl c'], .int .i64 (er : Int)])) ∧ VersP w' q LL ∧ Kin u p L q LL ∧ Ext u w') := Lib.hid (fun u x => by
      have := rdes_any u m p c L (h.ext x) hl xn
      rw [hO2, hn] at this
      dsimp only at this
      rwa [hnl] at this)
    clear h hn hO hO2 hnl e hq hm hl ht hdv
    go_enter Try.func9, Try.ntmps9
    go_wp2
    go_region_held3 (fun u => u.cell? ⟨w.heap.size, 0, none⟩ = some (.int .u64 (m : Int)) ∧ u.cell? ⟨w.heap.size, 1, none⟩ = some (.slice p n c) ∧ u.cell? ⟨w.heap.size + 1, 1, none⟩ = some (.bool an) ∧ u.cell? ⟨w.heap.size + 1, 2, none⟩ = some (.int .u64 (wt : Int)) ∧ u.cell? ⟨w.heap.size + 1, 3, none⟩ = some (.int .u64 (xn : Int)) ∧ u.cell? ⟨w.heap.size + 1, 4, none⟩ = some (.string tx) ∧ Ext w u) (first | exact hS1 | exact hS0 | exact hS2 | exact hS3 | exact hS4 | assumption | go_keep) (first | (go_at_call 11; refine HCp.out.mono ?_; rintro e w2 ⟨q2, c2, rfl, v2, x2⟩; have HV2 := Lib.hid v2; have HX2 := Lib.hid (HX0.out.drew.trans x2); have C1 := Lib.hid (B1.out.drew.ext x2); have C2 := Lib.hid (B2.out.drew.ext x2); have C3 := Lib.hid (B3.out.drew.ext x2); have C4 := Lib.hid (B4.out.drew.ext x2); have hS2 := HKeep.out _ C1.out C2.out HX2.out; clear v2 x2) | (go_at_call 23; refine (HP.out _ q2 c2 HV2.out.vers).mono ?_; rintro e w3 ⟨q3, c3, rfl, v3, x3⟩; have HX3 := Lib.hid (HX2.out.trans x3); have HV3 : Hid (IsV w3 w.heap.size q3 c3 LL) := Lib.hid (v3.base HX2.out.size); have D1 := Lib.hid (C1.out.ext x3); have D2 := Lib.hid (C2.out.ext x3); have D3 := Lib.hid (C3.out.ext x3); have D4 := Lib.hid (C4.out.ext x3); have x0 := D3.out.cell 0 _ rfl; have x1 := D3.out.cell 1 _ rfl; have xf0 := D3.out.frozen 0; have xf1 := D3.out.frozen 1; have HX4 : Hid (Ext w ((w3.setCell ⟨w.heap.size + 2, 0, none⟩ (.int .u64 (la : Int))).setCell ⟨w.heap.size + 2, 1, none⟩ (.slice q3 nl c3))) := Lib.hid ((HX3.out.setCell (p := ⟨w.heap.size + 2, 0, none⟩) (by show w.heap.size ≤ w.heap.size + 2; omega) _).setCell (p := ⟨w.heap.size + 2, 1, none⟩) (by show w.heap.size ≤ w.heap.size + 2; omega) _); have E1 : Hid (Blk ((w3.setCell ⟨w.heap.size + 2, 0, none⟩ (.int .u64 (la : Int))).setCell ⟨w.heap.size + 2, 1, none⟩ (.slice q3 nl c3)) w.heap.size 25 [.int .u64 (m : Int), .slice p n c]) := Lib.hid ((D1.out.other (by omega) 0 _).other (by omega) 1 _); have E2 : Hid (Blk ((w3.setCell ⟨w.heap.size + 2, 0, none⟩ (.int .u64 (la : Int))).setCell ⟨w.heap.size + 2, 1, none⟩ (.slice q3 nl c3)) (w.heap.size + 1) 27 [.int .u8 (dv : Int), .bool an, .int .u64 (wt : Int), .int .u64 (xn : Int), .string tx]) := Lib.hid ((D2.out.other (by omega) 0 _).other (by omega) 1 _); have E3 : Hid (Blk ((w3.setCell ⟨w.heap.size + 2, 0, none⟩ (.int .u64 (la : Int))).setCell ⟨w.heap.size + 2, 1, none⟩ (.slice q3 nl c3)) (w.heap.size + 2) 25 [.int .u64 (la : Int), .slice q3 nl c3]) := Lib.hid ((D3.out.set_ 0 _).set_ 1 _); have E4 : Hid (Blk ((w3.setCell ⟨w.heap.size + 2, 0, none⟩ (.int .u64 (la : Int))).setCell ⟨w.heap.size + 2, 1, none⟩ (.slice q3 nl c3)) (w.heap.size + 3) 25 [.int .u64 0, .slice none 0 0]) := Lib.hid ((D4.out.other (by omega) 0 _).other (by omega) 1 _); have HV4 : Hid (IsV ((w3.setCell ⟨w.heap.size + 2, 0, none⟩ (.int .u64 (la : Int))).setCell ⟨w.heap.size + 2, 1, none⟩ (.slice q3 nl c3)) w.heap.size q3 c3 LL) := Lib.hid ((HV3.out.parted D3.out (by decide) _).parted (D3.out.set_ 0 _) (by decide) _); have hS3 := HKeep.out _ D1.out D2.out HX3.out; have hS4 := HKeep.out _ E1.out E2.out HX4.out; clear v3 x3))
    all_goals
      have e0 := E1.out.cell 0 _ rfl
      have e1 := E1.out.cell 1 _ rfl
      have b1 := E2.out.cell 1 _ rfl
      have b2 := E2.out.cell 2 _ rfl
      have b3 := E2.out.cell 3 _ rfl
      have b4 := E2.out.cell 4 _ rfl
      go_wp2_with ((go_at_call 26; refine (HR.out _ HX4.out).mono ?_; rintro e w4 ⟨q5, ⟨c5, rfl⟩, v5, k5, x5⟩; have HV5 := Lib.hid v5; have HK5 := Lib.hid k5; have HX5 := Lib.hid (HX4.out.trans x5); have HV6 := Lib.hid (HV4.out.ext x5); have F3 := Lib.hid (E3.out.ext x5); have F4 := Lib.hid (E4.out.ext x5); have x0 := F3.out.cell 0 _ rfl; have x1 := F3.out.cell 1 _ rfl; have xf0 := F3.out.frozen 0; have xf1 := F3.out.frozen 1; have y0 := F4.out.cell 0 _ rfl; have y1 := F4.out.cell 1 _ rfl; have yf0 := F4.out.frozen 0; have yf1 := F4.out.frozen 1; clear v5 k5 x5))
      have G3 : Hid (Blk ((w4.setCell ⟨w.heap.size + 3, 0, none⟩ (.int .u64 (la : Int))).setCell ⟨w.heap.size + 3, 1, none⟩ (.slice q5 nl c5)) (w.heap.size + 2) 25 [.int .u64 (la : Int), .slice q3 nl c3]) := Lib.hid ((F3.out.other (by omega) 0 _).other (by omega) 1 _)
      have G4 : Hid (Blk ((w4.setCell ⟨w.heap.size + 3, 0, none⟩ (.int .u64 (la : Int))).setCell ⟨w.heap.size + 3, 1, none⟩ (.slice q5 nl c5)) (w.heap.size + 3) 25 [.int .u64 (la : Int), .slice q5 nl c5]) := Lib.hid ((F4.out.set_ 0 _).set_ 1 _)
      have HX7 : Hid (Ext w ((w4.setCell ⟨w.heap.size + 3, 0, none⟩ (.int .u64 (la : Int))).setCell ⟨w.heap.size + 3, 1, none⟩ (.slice q5 nl c5))) := Lib.hid ((HX5.out.setCell (p := ⟨w.heap.size + 3, 0, none⟩) (by show w.heap.size ≤ w.heap.size + 3; omega) _).setCell (p := ⟨w.heap.size + 3, 1, none⟩) (by show w.heap.size ≤ w.heap.size + 3; omega) _)
      have HV7 : Hid (IsV ((w4.setCell ⟨w.heap.size + 3, 0, none⟩ (.int .u64 (la : Int))).setCell ⟨w.heap.size + 3, 1, none⟩ (.slice q5 nl c5)) w.heap.size q3 c3 LL) := Lib.hid ((HV6.out.parted F4.out (by decide) _).parted (F4.out.set_ 0 _) (by decide) _)
      have hb3 : w.heap.size + 3 < ((w3.setCell ⟨w.heap.size + 2, 0, none⟩ (.int .u64 (la : Int))).setCell ⟨w.heap.size + 2, 1, none⟩ (.slice q3 nl c3)).heap.size := E4.out.lt
      have HV8 : Hid (VersP ((w4.setCell ⟨w.heap.size + 3, 0, none⟩ (.int .u64 (la : Int))).setCell ⟨w.heap.size + 3, 1, none⟩ (.slice q5 nl c5)) q5 LL) := Lib.hid ((HV5.out.box HV0.out HK5.out (by omega) hb3 _).box HV0.out HK5.out (by omega) hb3 _)
      have r0 : ((w4.setCell ⟨w.heap.size + 3, 0, none⟩ (.int .u64 (la : Int))).setCell ⟨w.heap.size + 3, 1, none⟩ (.slice q5 nl c5)).drew.cell? ⟨w.heap.size + 2, 0, none⟩ = _ := G3.out.drew.cell 0 _ rfl
      have r1 : ((w4.setCell ⟨w.heap.size + 3, 0, none⟩ (.int .u64 (la : Int))).setCell ⟨w.heap.size + 3, 1, none⟩ (.slice q5 nl c5)).drew.cell? ⟨w.heap.size + 2, 1, none⟩ = _ := G3.out.drew.cell 1 _ rfl
      have r2 : ((w4.setCell ⟨w.heap.size + 3, 0, none⟩ (.int .u64 (la : Int))).setCell ⟨w.heap.size + 3, 1, none⟩ (.slice q5 nl c5)).drew.cell? ⟨w.heap.size + 3, 0, none⟩ = _ := G4.out.drew.cell 0 _ rfl
      have r3 : ((w4.setCell ⟨w.heap.size + 3, 0, none⟩ (.int .u64 (la : Int))).setCell ⟨w.heap.size + 3, 1, none⟩ (.slice q5 nl c5)).drew.cell? ⟨w.heap.size + 3, 1, none⟩ = _ := G4.out.drew.cell 1 _ rfl
      have t0 : ((w4.setCell ⟨w.heap.size + 3, 0, none⟩ (.int .u64 (la : Int))).setCell ⟨w.heap.size + 3, 1, none⟩ (.slice q5 nl c5)).drew.frozen? ⟨w.heap.size + 2, 0, none⟩ = false := G3.out.drew.frozen 0
      have t1 : ((w4.setCell ⟨w.heap.size + 3, 0, none⟩ (.int .u64 (la : Int))).setCell ⟨w.heap.size + 3, 1, none⟩ (.slice q5 nl c5)).drew.frozen? ⟨w.heap.size + 2, 1, none⟩ = false := G3.out.drew.frozen 1
      have t2 : ((w4.setCell ⟨w.heap.size + 3, 0, none⟩ (.int .u64 (la : Int))).setCell ⟨w.heap.size + 3, 1, none⟩ (.slice q5 nl c5)).drew.frozen? ⟨w.heap.size + 3, 0, none⟩ = false := G4.out.drew.frozen 0
      have t3 : ((w4.setCell ⟨w.heap.size + 3, 0, none⟩ (.int .u64 (la : Int))).setCell ⟨w.heap.size + 3, 1, none⟩ (.slice q5 nl c5)).drew.frozen? ⟨w.heap.size + 3, 1, none⟩ = false := G4.out.drew.frozen 1
      clear hS0 hS1 hS2 hS3 hS4
      go_region
      all_goals
        go_wp2
        have G3b := Lib.hid (((((G3.out.set_ 0 (.int .u64 (la : Int))).set_ 1 (.slice q3 nl c3)).other (g := w.heap.size + 3) (by omega) 0 (.int .u64 (la : Int))).other (g := w.heap.size + 3) (by omega) 1 (.slice q5 nl c5)).drew)
        have G4a := Lib.hid ((G4.out.other (g := w.heap.size + 2) (by omega) 0 (.int .u64 (la : Int))).other (g := w.heap.size + 2) (by omega) 1 (.slice q3 nl c3))
        have G4b := Lib.hid (((G4a.out.set_ 0 (.int .u64 (la : Int))).set_ 1 (.slice q5 nl c5)).drew)
        have HV9 := Lib.hid ((((HV7.out.parted (o := 0) G3.out (by decide) (.int .u64 (la : Int))).parted (o := 1) (G3.out.set_ 0 _) (by decide) (.slice q3 nl c3)).parted (o := 0) G4a.out (by decide) (.int .u64 (la : Int))).parted (o := 1) (G4a.out.set_ 0 _) (by decide) (.slice q5 nl c5))
        have HVa := Lib.hid ((((HV8.out.box (o := 0) HV0.out HK5.out (b := w.heap.size + 2) (by omega) (by omega) (.int .u64 (la : Int))).box (o := 1) HV0.out HK5.out (b := w.heap.size + 2) (by omega) (by omega) (.slice q3 nl c3)).box (o := 0) HV0.out HK5.out (b := w.heap.size + 3) (by omega) hb3 (.int .u64 (la : Int))).box (o := 1) HV0.out HK5.out (b := w.heap.size + 3) (by omega) hb3 (.slice q5 nl c5))
        exact bodyPost_ret (results_four rfl _ _ (w.heap.size + 2) (w.heap.size + 3) (.agg #[.int .u64 (la : Int), .slice q3 nl c3]) (.agg #[.int .u64 (la : Int), .slice q5 nl c5]) rfl rfl (load_cell _ _ _ _ _ _ G3b.out) (load_cell _ _ _ _ _ _ G4b.out)) rfl ⟨q3, c3, q5, c5, rfl, HV9.out.vers.ext ((Ext.refl _).drew), HVa.out.ext ((Ext.refl _).drew), .inr (HV9.out.newP (Nat.le_refl _)), HK5.out.le HX4.out.size, ((((HX7.out.setCell (p := ⟨w.heap.size + 2, 0, none⟩) (by show w.heap.size ≤ w.heap.size + 2; omega) _).setCell (p := ⟨w.heap.size + 2, 1, none⟩) (by show w.heap.size ≤ w.heap.size + 2; omega) _).setCell (p := ⟨w.heap.size + 3, 0, none⟩) (by show w.heap.size ≤ w.heap.size + 3; omega) _).setCell (p := ⟨w.heap.size + 3, 1, none⟩) (by show w.heap.size ≤ w.heap.size + 3; omega) _).drew⟩
theorem does17_any (w : World) (m : Nat) (p : Option Addr) (c : Nat) (L : List Ver) (h : VersP w p L) (hl : L.length ≤ 1000000) (hm : m < 18446744073709551616) (dv : Nat) (an : Bool) (wt xn : Nat) (tx : ByteArray) (hdv : dv < 256) (ht : tx.size ≤ 140737488355328) :
    Calls Try.prog 9 #[.agg #[.int .u64 (m : Int), .slice p L.length c], .agg #[.int .u8 (dv : Int), .bool an, .int .u64 (wt : Int), .int .u64 (xn : Int), .string tx]] w fun e w' =>
      ∃ q3 c3 q5 c5, e = .returned (.tuple #[.agg #[.int .u64 ((actL m L dv an wt xn tx).last : Int), .slice q3 (actL m L dv an wt xn tx).L.length c3], .agg #[.int .u64 ((actL m L dv an wt xn tx).last : Int), .slice q5 (actL m L dv an wt xn tx).L.length c5], .int .i64 ((actL m L dv an wt xn tx).e : Int), .int .i64 ((actL m L dv an wt xn tx).e : Int)]) ∧
        VersP w' q3 (actL m L dv an wt xn tx).L ∧ VersP w' q5 (actL m L dv an wt xn tx).L ∧ Ext w w' :=
  (does17_more w m p c L h hl hm dv an wt xn tx hdv ht).mono fun _ _ ⟨q3, c3, q5, c5, he, v3, v5, _, _, x⟩ => ⟨q3, c3, q5, c5, he, v3, v5, x⟩
end Go.Proofs.Ytbobijgbemnmiaa
