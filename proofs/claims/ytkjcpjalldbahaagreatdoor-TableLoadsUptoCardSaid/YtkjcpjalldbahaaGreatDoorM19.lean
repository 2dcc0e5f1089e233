/- Contracts: an edit's outcome on a cell, by the program. Contracts: a path goes, a path comes, by the program. Contracts: a cell copied whole, by the program. -/
import Derived.Test.YtkjcpjalldbahaaGreatDoorM18
import Derived.Deep.RegionLaw
section
namespace Go.Proofs.YtkjcpjalldbahaaGreatDoor
open Go.RowKit

theorem size3T (w : World) (o o' o'' : Obj) : (((w.alloc o).alloc o').alloc o'').heap.size = w.heap.size + 3 := by simp
def editV (e : EditP) : Value := .agg #[.int .u8 (e.k : Int), .string e.p, .bool e.any, .int .u64 (e.want : Int), .int .u64 (e.n : Int), .string e.t]
set_option maxRecDepth 100000 in
set_option maxHeartbeats 4000000 in
theorem outcome_any (w : World) (m : Nat) (p : Option Addr) (c : Nat) (L : List Ver) (h : VersP w p L) (hl : L.length ≤ 1000000) (hm : m < 18446744073709551616) (k : Nat) (s : ByteArray) (any : Bool) (want n : Nat) (t : ByteArray) (hs : s.size ≤ 140737488351232) (ht : t.size ≤ 140737488355328) :
    Calls Tryz.prog 75 #[.agg #[.int .u64 (m : Int), .slice p L.length c], .agg #[.int .u8 (k : Int), .string s, .bool any, .int .u64 (want : Int), .int .u64 (n : Int), .string t]] w fun e w' => ∃ q c', e = .returned (.tuple #[.agg #[.int .u64 ((outR m L ⟨k, s, any, want, n, t⟩).last : Int), .slice q (outR m L ⟨k, s, any, want, n, t⟩).L.length c'], .int .i64 ((outR m L ⟨k, s, any, want, n, t⟩).e : Int)]) ∧ IsV w' w.heap.size q c' (outR m L ⟨k, s, any, want, n, t⟩).L ∧ Ext w w' := by
  obtain ⟨nn, hnn⟩ : ∃ nn, L.length = nn := ⟨_, rfl⟩
  have HX0 := Lib.hid ((((Ext.refl w).alloc (.cells #[.int .u64 (m : Int), .slice p nn c] 55)).alloc (.cells #[.int .u8 (k : Int), .string s, .bool any, .int .u64 (want : Int), .int .u64 (n : Int), .string t] 62)).alloc (.cells #[.int .u64 0, .slice none 0 0] 55))
  have HB1 := Lib.hid (((Blk.new w [.int .u64 (m : Int), .slice p nn c] 55).alloc (.cells #[.int .u8 (k : Int), .string s, .bool any, .int .u64 (want : Int), .int .u64 (n : Int), .string t] 62)).alloc (.cells #[.int .u64 0, .slice none 0 0] 55))
  have HB2 := Lib.hid ((Blk.new1V w (.cells #[.int .u64 (m : Int), .slice p nn c] 55) [.int .u8 (k : Int), .string s, .bool any, .int .u64 (want : Int), .int .u64 (n : Int), .string t] 62).alloc (.cells #[.int .u64 0, .slice none 0 0] 55))
  have HB3 := Lib.hid (Blk.new2V w (.cells #[.int .u64 (m : Int), .slice p nn c] 55) (.cells #[.int .u8 (k : Int), .string s, .bool any, .int .u64 (want : Int), .int .u64 (n : Int), .string t] 62) [.int .u64 0, .slice none 0 0] 55)
  have HP := Lib.hid (fun u => May_any s hs u)
  have HNN := Lib.hid hnn
  obtain ⟨⟨er, la, LL⟩, hO⟩ : ∃ O, outR m L ⟨k, s, any, want, n, t⟩ = O := ⟨_, rfl⟩
  obtain ⟨nl, hnl⟩ : ∃ nl, LL.length = nl := ⟨_, rfl⟩
  rw [hO, hnn]
  dsimp only
  rw [hnl]
  cases hp : mayB s.data.toList with
  | false =>
    have hO2 : (⟨2, 0, []⟩ : Out) = ⟨er, la, LL⟩ := by rw [← hO]; simp [outR, hp]
    simp only [Out.mk.injEq] at hO2
    obtain ⟨rfl, rfl, rfl⟩ := hO2
    simp only [List.length_nil] at hnl
    subst hnl
    rw [hp] at HP
    clear h hnn hO hp hs ht hm hl
    go_enter Tryz.func75, Tryz.ntmps75
    go_wp2_with (go_at_call 34; refine (HP.out _).mono ?_; rintro e w1 ⟨rfl, x1⟩; have HX1 := Lib.hid (HX0.out.trans x1); have A3 := Lib.hid (HB3.out.ext x1); have c0 := A3.out.cell 0 _ rfl; have c1 := A3.out.cell 1 _ rfl; have cf0 := A3.out.frozen 0; have cf1 := A3.out.frozen 1; clear x1)
    exact bodyPost_ret (resV_row_tmp rfl _ _ (w.heap.size + 2) #[.int .u64 0, .slice none 0 0] rfl (load_cell _ _ 0 _ _ _ ((A3.out.set_ 0 _).set_ 1 _))) rfl ⟨none, 0, rfl, IsV.nil _ _, (HX1.out.setCell (p := ⟨w.heap.size + 2, 0, none⟩) (by show w.heap.size ≤ w.heap.size + 2; omega) _).setCell (p := ⟨w.heap.size + 2, 1, none⟩) (by show w.heap.size ≤ w.heap.size + 2; omega) _⟩
  | true =>
    rw [hp] at HP
    by_cases hk1 : k = 1
    · subst hk1
      have hO2 : putL m L any want t = ⟨er, la, LL⟩ := by rw [← hO]; simp [outR, hp]
      have HC : Hid (∀ u, Ext w u → Calls Tryz.prog 94 #[.agg #[.int .u64 (m : Int), .slice p nn c], .bool any, .int .u64 (want : Int), .string t] u fun e w' => ∃ q c', e = .returned (.tuple #[.agg #[.int .u64 (la : Int), .slice q nl c'], .int .i64 (er : Int)]) ∧ IsV w' u.heap.size q c' LL ∧ Ext u w') := Lib.hid (fun u x => by
        have := put_any u m p c L (h.ext x) hl hm any want t ht
        rw [hO2, hnn] at this
        dsimp only at this
        rwa [hnl] at this)
      clear h hnn hO hO2 hp hs ht hm hl hnl
      go_enter Tryz.func75, Tryz.ntmps75
      go_wp2_with (first | (go_at_call 34; refine (HP.out _).mono ?_; rintro e w1 ⟨rfl, x1⟩; have HX1 := Lib.hid (HX0.out.trans x1); have A1 := Lib.hid (HB1.out.ext x1); have A2 := Lib.hid (HB2.out.ext x1); have A3 := Lib.hid (HB3.out.ext x1); have a0 := A1.out.cell 0 _ rfl; have a1 := A1.out.cell 1 _ rfl; have b0 := A2.out.cell 0 _ rfl; have b2 := A2.out.cell 2 _ rfl; have b3 := A2.out.cell 3 _ rfl; have b4 := A2.out.cell 4 _ rfl; have b5 := A2.out.cell 5 _ rfl; have c0 := A3.out.cell 0 _ rfl; have c1 := A3.out.cell 1 _ rfl; have cf0 := A3.out.frozen 0; have cf1 := A3.out.frozen 1; clear x1) | (go_at_call 94; refine (HC.out _ HX1.out).mono ?_; rintro e w2 ⟨q, c2, rfl, v2, x2⟩; have HX2 := Lib.hid (HX1.out.trans x2); have HV2 : Hid (IsV w2 w.heap.size q c2 LL) := Lib.hid (v2.base HX1.out.size); have D3 := Lib.hid (A3.out.ext x2); have c0 := D3.out.cell 0 _ rfl; have c1 := D3.out.cell 1 _ rfl; have cf0 := D3.out.frozen 0; have cf1 := D3.out.frozen 1; clear v2 x2))
      exact bodyPost_ret (resV_row_tmp rfl _ _ (w.heap.size + 2) #[.int .u64 (la : Int), .slice q nl c2] rfl (load_cell _ _ _ _ _ _ ((D3.out.set_ 0 _).set_ 1 _))) rfl ⟨q, c2, rfl, (HV2.out.parted D3.out (by decide) _).parted (D3.out.set_ 0 _) (by decide) _, (HX2.out.setCell (p := ⟨w.heap.size + 2, 0, none⟩) (by show w.heap.size ≤ w.heap.size + 2; omega) _).setCell (p := ⟨w.heap.size + 2, 1, none⟩) (by show w.heap.size ≤ w.heap.size + 2; omega) _⟩
    by_cases hk2 : k = 2
    · subst hk2
      have hO2 : delL m L any want = ⟨er, la, LL⟩ := by rw [← hO]; simp [outR, hp]
      have HC : Hid (∀ u, Ext w u → Calls Tryz.prog 95 #[.agg #[.int .u64 (m : Int), .slice p nn c], .bool any, .int .u64 (want : Int)] u fun e w' => ∃ q c', e = .returned (.tuple #[.agg #[.int .u64 (la : Int), .slice q nl c'], .int .i64 (er : Int)]) ∧ IsV w' u.heap.size q c' LL ∧ Ext u w') := Lib.hid (fun u x => by
        have := delV_any u m p c L (h.ext x) hl hm any want
        rw [hO2, hnn] at this
        dsimp only at this
        rwa [hnl] at this)
      clear h hnn hO hO2 hp hs ht hm hl hnl hk1
      go_enter Tryz.func75, Tryz.ntmps75
      go_wp2_with (first | (go_at_call 34; refine (HP.out _).mono ?_; rintro e w1 ⟨rfl, x1⟩; have HX1 := Lib.hid (HX0.out.trans x1); have A1 := Lib.hid (HB1.out.ext x1); have A2 := Lib.hid (HB2.out.ext x1); have A3 := Lib.hid (HB3.out.ext x1); have a0 := A1.out.cell 0 _ rfl; have a1 := A1.out.cell 1 _ rfl; have b0 := A2.out.cell 0 _ rfl; have b2 := A2.out.cell 2 _ rfl; have b3 := A2.out.cell 3 _ rfl; have b4 := A2.out.cell 4 _ rfl; have b5 := A2.out.cell 5 _ rfl; have c0 := A3.out.cell 0 _ rfl; have c1 := A3.out.cell 1 _ rfl; have cf0 := A3.out.frozen 0; have cf1 := A3.out.frozen 1; clear x1) | (go_at_call 95; refine (HC.out _ HX1.out).mono ?_; rintro e w2 ⟨q, c2, rfl, v2, x2⟩; have HX2 := Lib.hid (HX1.out.trans x2); have HV2 : Hid (IsV w2 w.heap.size q c2 LL) := Lib.hid (v2.base HX1.out.size); have D3 := Lib.hid (A3.out.ext x2); have c0 := D3.out.cell 0 _ rfl; have c1 := D3.out.cell 1 _ rfl; have cf0 := D3.out.frozen 0; have cf1 := D3.out.frozen 1; clear v2 x2))
      exact bodyPost_ret (resV_row_tmp rfl _ _ (w.heap.size + 2) #[.int .u64 (la : Int), .slice q nl c2] rfl (load_cell _ _ _ _ _ _ ((D3.out.set_ 0 _).set_ 1 _))) rfl ⟨q, c2, rfl, (HV2.out.parted D3.out (by decide) _).parted (D3.out.set_ 0 _) (by decide) _, (HX2.out.setCell (p := ⟨w.heap.size + 2, 0, none⟩) (by show w.heap.size ≤ w.heap.size + 2; omega) _).setCell (p := ⟨w.heap.size + 2, 1, none⟩) (by show w.heap.size ≤ w.heap.size + 2; omega) _⟩
    by_cases hk3 : k = 3
    · subst hk3
      have hO2 : desL m L n = ⟨er, la, LL⟩ := by rw [← hO]; simp [outR, hp]
      have HC : Hid (∀ u, Ext w u → Calls Tryz.prog 96 #[.agg #[.int .u64 (m : Int), .slice p nn c], .int .u64 (n : Int)] u fun e w' => ∃ q c', e = .returned (.tuple #[.agg #[.int .u64 (la : Int), .slice q nl c'], .int .i64 (er : Int)]) ∧ IsV w' u.heap.size q c' LL ∧ Ext u w') := Lib.hid (fun u x => by
        have := des_any u m p c L (h.ext x) hl n
        rw [hO2, hnn] at this
        dsimp only at this
        rwa [hnl] at this)
      clear h hnn hO hO2 hp hs ht hm hl hnl hk1 hk2
      go_enter Tryz.func75, Tryz.ntmps75
      go_wp2_with (first | (go_at_call 34; refine (HP.out _).mono ?_; rintro e w1 ⟨rfl, x1⟩; have HX1 := Lib.hid (HX0.out.trans x1); have A1 := Lib.hid (HB1.out.ext x1); have A2 := Lib.hid (HB2.out.ext x1); have A3 := Lib.hid (HB3.out.ext x1); have a0 := A1.out.cell 0 _ rfl; have a1 := A1.out.cell 1 _ rfl; have b0 := A2.out.cell 0 _ rfl; have b2 := A2.out.cell 2 _ rfl; have b3 := A2.out.cell 3 _ rfl; have b4 := A2.out.cell 4 _ rfl; have b5 := A2.out.cell 5 _ rfl; have c0 := A3.out.cell 0 _ rfl; have c1 := A3.out.cell 1 _ rfl; have cf0 := A3.out.frozen 0; have cf1 := A3.out.frozen 1; clear x1) | (go_at_call 96; refine (HC.out _ HX1.out).mono ?_; rintro e w2 ⟨q, c2, rfl, v2, x2⟩; have HX2 := Lib.hid (HX1.out.trans x2); have HV2 : Hid (IsV w2 w.heap.size q c2 LL) := Lib.hid (v2.base HX1.out.size); have D3 := Lib.hid (A3.out.ext x2); have c0 := D3.out.cell 0 _ rfl; have c1 := D3.out.cell 1 _ rfl; have cf0 := D3.out.frozen 0; have cf1 := D3.out.frozen 1; clear v2 x2))
      exact bodyPost_ret (resV_row_tmp rfl _ _ (w.heap.size + 2) #[.int .u64 (la : Int), .slice q nl c2] rfl (load_cell _ _ _ _ _ _ ((D3.out.set_ 0 _).set_ 1 _))) rfl ⟨q, c2, rfl, (HV2.out.parted D3.out (by decide) _).parted (D3.out.set_ 0 _) (by decide) _, (HX2.out.setCell (p := ⟨w.heap.size + 2, 0, none⟩) (by show w.heap.size ≤ w.heap.size + 2; omega) _).setCell (p := ⟨w.heap.size + 2, 1, none⟩) (by show w.heap.size ≤ w.heap.size + 2; omega) _⟩
    have hk1i : ((k : Int) == 1) = false := by have : ¬ (k : Int) = 1 := (by omega); simpa using this
    have hk2i : ((k : Int) == 2) = false := by have : ¬ (k : Int) = 2 := (by omega); simpa using this
    have hk3i : ((k : Int) == 3) = false := by have : ¬ (k : Int) = 3 := (by omega); simpa using this
    have hO2 : (⟨2, 0, []⟩ : Out) = ⟨er, la, LL⟩ := by rw [← hO]; simp [outR, hk1, hk2, hk3]
    simp only [Out.mk.injEq] at hO2
    obtain ⟨rfl, rfl, rfl⟩ := hO2
    simp only [List.length_nil] at hnl
    subst hnl
    clear h hnn hO hp hs ht hm hl hk1 hk2 hk3
    go_enter Tryz.func75, Tryz.ntmps75
    go_wp2_with ((go_at_call 34; refine (HP.out _).mono ?_; rintro e w1 ⟨rfl, x1⟩; have HX1 := Lib.hid (HX0.out.trans x1); have A1 := Lib.hid (HB1.out.ext x1); have A2 := Lib.hid (HB2.out.ext x1); have A3 := Lib.hid (HB3.out.ext x1); have a0 := A1.out.cell 0 _ rfl; have a1 := A1.out.cell 1 _ rfl; have b0 := A2.out.cell 0 _ rfl; have b2 := A2.out.cell 2 _ rfl; have b3 := A2.out.cell 3 _ rfl; have b4 := A2.out.cell 4 _ rfl; have b5 := A2.out.cell 5 _ rfl; have c0 := A3.out.cell 0 _ rfl; have c1 := A3.out.cell 1 _ rfl; have cf0 := A3.out.frozen 0; have cf1 := A3.out.frozen 1; clear x1))
    exact bodyPost_ret (resV_row_tmp rfl _ _ (w.heap.size + 2) #[.int .u64 0, .slice none 0 0] rfl (load_cell _ _ 0 _ _ _ ((A3.out.set_ 0 _).set_ 1 _))) rfl ⟨none, 0, rfl, IsV.nil _ _, (HX1.out.setCell (p := ⟨w.heap.size + 2, 0, none⟩) (by show w.heap.size ≤ w.heap.size + 2; omega) _).setCell (p := ⟨w.heap.size + 2, 1, none⟩) (by show w.heap.size ≤ w.heap.size + 2; omega) _⟩
end Go.Proofs.YtkjcpjalldbahaaGreatDoor
end

section
namespace Go.Proofs.YtkjcpjalldbahaaGreatDoor
open Go.RowKit Go.ChangeMaps Go.MapKept

section
variable {w w' : World} {lo t b : Nat} {qp qb : Int} {R : List RowP}
theorem IsT.small (h : IsT w lo t b qp qb R) (hl : R.length ≤ 1000000) : bytesR R ≤ 32896000000 := by
  have := GoodR.bytes h.good.each
  omega
/-- The number of bytes is written: the map is there. -/
theorem IsM.setT (h : IsM w lo b R) {cs : List Value} (hb : Blk w t 73 cs) (o : Nat) (u : Value) : IsM (w.setCell ⟨t, o, none⟩ u) lo b R := by
  have hT : Turn (fun g => g = t) w (w.setCell ⟨t, o, none⟩ u) := Turn.setCell (S := fun g => g = t) (p := ⟨t, o, none⟩) (Turn.refl _ w) (.inl rfl) u
  have hN : ∀ g, g = t → NoT w g := fun g e => by subst e; exact NoT.blk hb (by decide)
  refine h.turn hT (fun e => ?_) hN
  obtain ⟨M, hm⟩ := h
  obtain ⟨es, c, hbb⟩ := hm.map.is
  have h2 : w.heap[t]? = _ := hb
  rw [← e, hbb] at h2
  cases h2
/-- The map has turned: the table's block is there. -/
theorem Blk.mapT {cs : List Value} {T : TypeId} (hb : Blk w t T cs) (hm : w.mapTurned w' b) : Blk w' t T cs := by
  obtain ⟨es, clock, es', clock', hbb, rfl⟩ := hm
  refine (heap_setBlock_other hbb _ (fun e => ?_)).trans hb
  have h2 : w.heap[t]? = _ := hb
  rw [e, hbb] at h2
  cases h2
end
set_option maxRecDepth 100000 in
set_option maxHeartbeats 4000000 in
theorem tdrop_any (w : World) (lo t b : Nat) (qp qb : Int) (R : List RowP) (h : IsT w lo t b qp qb R) (hl : R.length ≤ 1000000) (p : ByteArray) (hp : p.size ≤ 140737488355328) :
    Calls Tryz.prog 53 #[.pointer (some ⟨t, 0, none⟩), .string p] w fun e w' => e = .returned (.tuple #[]) ∧ IsT w' lo t b qp qb (dropR p R) ∧ Turn (TB t b) w w' := by
  have HH := Lib.hid (thas_any w lo t b qp qb R h p hp)
  have HT := Lib.hid h
  cases hb : hasR R p with
  | false =>
    have hd : dropR p R = R := dropR_none (by unfold hasR at hb; cases e : lookR R p with | none => rfl | some r => rw [e] at hb; cases hb)
    rw [hd]
    rw [hb] at HH
    clear h hb hd
    go_enter Tryz.func53, Tryz.ntmps53
    go_wp2_with (go_at_call 48; refine HH.out.mono ?_; rintro e w1 ⟨rfl, x1⟩)
    go_end0
    exact ⟨rfl, HT.out.ext x1, Turn.ofExt _ x1⟩
  | true =>
    rw [hb] at HH
    obtain ⟨r, hr⟩ : ∃ r, lookR R p = some r := by
      unfold hasR at hb
      cases e : lookR R p with
      | none => rw [e] at hb; cases hb
      | some r => exact ⟨r, rfl⟩
    obtain ⟨hr1, hr2⟩ := lookR_mem hr
    have hok := h.good.each r hr1
    obtain ⟨a, c, hv, _, hrun⟩ := h.map.look p hp
    rw [cellR_some hr] at hv hrun
    have hps := may_size hok.path
    have hsz := mayL_size hok.cell
    have hlen := hok.len
    have HS := Lib.hid (fun u (x : Ext w u) => tsize_any u p (by rw [← hr2]; omega) r.m a c r.L (hv.ext x) (by omega) (by omega))
    rw [show szR ⟨p, r.m, r.L⟩ = szR r by unfold szR; rw [hr2]] at HS
    have hby := bytes_drop h.good.up p
    rw [show oldR R p = szR r by simp [oldR, hr]] at hby
    have hsm := h.small hl
    obtain ⟨z, hz⟩ : ∃ z, szR r = z := ⟨_, rfl⟩
    obtain ⟨y, hy⟩ : ∃ y, bytesR R = y := ⟨_, rfl⟩
    obtain ⟨y', hy'⟩ : ∃ y', bytesR (dropR p R) = y' := ⟨_, rfl⟩
    rw [hz, hy, hy'] at hby
    rw [hy] at hsm
    rw [hz] at HS
    have hw : IntKind.i64.wrap ((y : Int) - (z : Int)) = (y' : Int) := by rw [IntWalk.i64_in _ ⟨by omega, by omega⟩]; omega
    have HB : Hid (Blk w t 73 [.int .i64 qp, .int .i64 qb, .map (some b), .int .i64 (y : Int)]) := Lib.hid (by have := h.blk; rwa [hy] at this)
    have HY := Lib.hid hy'
    have HD := Lib.hid (fun u (hu : IsM u lo b R) => hu.drop p hp)
    have HRun := Lib.hid hrun
    generalize r.m = m at *
    generalize r.L.length = n at *
    clear h hb hr hr1 hr2 hok hv hrun hps hsz hlen hby hsm hz hy hy' hl
    go_enter Tryz.func53, Tryz.ntmps53
    go_wp2_with (go_at_call 48; refine HH.out.mono ?_; rintro e w1 ⟨rfl, x1⟩; have HX1 := Lib.hid x1; have B1 := Lib.hid (HB.out.ext x1); clear x1)
    have x0 : Ext w w1.drew := HX1.out.drew
    have d2 : w1.drew.cell? ⟨t, 2, none⟩ = _ := B1.out.drew.cell 2 _ rfl
    have d3 : w1.drew.cell? ⟨t, 3, none⟩ = _ := B1.out.drew.cell 3 _ rfl
    have hr0 := HRun.out _ x0 false
    simp only [Bool.false_eq_true, if_false] at hr0
    go_region_law (first
      | (go_simp; go_at_call 74; refine (HS.out _ x0).mono ?_; rintro e w2 ⟨rfl, x2⟩; have HX2 := Lib.hid (x0.trans x2); have B2 := Lib.hid (B1.out.drew.ext x2); have e3 := B2.out.cell 3 _ rfl; have f3 := B2.out.frozen 3; clear x2))
    all_goals
      have B5 := Lib.hid (B2.out.set_ 3 (.int .i64 (y' : Int)))
      have M5 := Lib.hid ((HT.out.map.ext HX2.out).setT B2.out 3 (.int .i64 (y' : Int)))
      have e2 := B5.out.cell 2 _ rfl
      obtain ⟨w6, hrun, hm6, ht6⟩ := HD.out _ M5.out
      have HM6 := Lib.hid hm6; have HT6 := Lib.hid ht6
      clear hm6 ht6
      go_wp2
      go_end0
      exact ⟨rfl, ⟨by rw [HY.out]; exact B5.out.mapT HT6.out, HM6.out, HT.out.good.drop p⟩, (((Turn.ofExt _ HX2.out).setCell (p := ⟨t, 3, none⟩) (.inl (.inl rfl)) _).map HT6.out (.inl (.inr rfl)))⟩
set_option maxRecDepth 100000 in
set_option maxHeartbeats 4000000 in
theorem tset_any (w : World) (lo t b : Nat) (qp qb : Int) (R : List RowP) (h : IsT w lo t b qp qb R) (hl : R.length ≤ 900000) (r : RowP) (hr : OkR r) (a : Option Addr) (c : Nat) (hv : VersT w a r.L) (hlo : ∀ x, a = some x → lo ≤ x.block) :
    Calls Tryz.prog 50 #[.pointer (some ⟨t, 0, none⟩), .string r.p, .agg #[.int .u64 (r.m : Int), .slice a r.L.length c]] w fun e w' => e = .returned (.tuple #[]) ∧ IsT w' lo t b qp qb (withR r R) ∧ Turn (TB t b) w w' := by
  have hps := may_size hr.path
  have hsz := mayL_size hr.cell
  have hlen := hr.len
  have HX0 := Lib.hid ((Ext.refl w).alloc (.cells #[.int .u64 (r.m : Int), .slice a r.L.length c] 55))
  have HB0 := Lib.hid (Blk.new w [.int .u64 (r.m : Int), .slice a r.L.length c] 55)
  have HD := Lib.hid (tdrop_any _ lo t b qp qb R (h.ext HX0.out) (by omega) r.p (by omega))
  have HC := Lib.hid (fun u => strcloneV_any r.p (by omega) u)
  have HV := Lib.hid (fun u (x : VersP u a r.L) => tsize_any u r.p (by omega) r.m a c r.L x (by omega) (by omega))
  have HVP := Lib.hid (h.ext HX0.out).noT
  have HV0 := Lib.hid (hv.ext HX0.out)
  have HLO := Lib.hid hlo
  have HS := Lib.hid (fun u (hu : IsM u lo b (dropR r.p R)) (hvu : VersT u a r.L) => hu.store (dropR_rises h.good.up) r (by omega) a c hvu hlo)
  rw [withR_drop h.good.up] at HS
  have hby := bytes_drop h.good.up r.p
  have hby2 := bytes_with h.good.up r
  have hsm := h.small (by omega)
  have hrs := hr.size
  obtain ⟨z, hz⟩ : ∃ z, szR r = z := ⟨_, rfl⟩
  obtain ⟨y, hy⟩ : ∃ y, bytesR (dropR r.p R) = y := ⟨_, rfl⟩
  obtain ⟨y', hy'⟩ : ∃ y', bytesR (withR r R) = y' := ⟨_, rfl⟩
  rw [hz] at hby2 hrs
  rw [hy] at hby
  rw [hy'] at hby2
  have hw : IntKind.i64.wrap ((y : Int) + (z : Int)) = (y' : Int) := by rw [IntWalk.i64_in _ ⟨by omega, by omega⟩]; omega
  have HY := Lib.hid hy
  have HY' := Lib.hid hy'
  have HZ : Hid (szR ⟨r.p, r.m, r.L⟩ = z) := Lib.hid hz
  have HG := Lib.hid (h.good.with_ hr)
  rw [HZ.out] at HV
  have HTB : Hid (t < w.heap.size ∧ b < w.heap.size) := Lib.hid ⟨h.blk.lt, h.map.lt⟩
  generalize r.m = m at *
  generalize hnn : r.L.length = n at *
  clear h hr hv hlo hps hsz hlen hby hby2 hsm hrs hz hy hy' hl hnn
  go_enter Tryz.func50, Tryz.ntmps50
  go_wp2_with (first | (go_at_call 53; refine HD.out.mono ?_; rintro e w1 ⟨rfl, t1, k1⟩; have HT1 := Lib.hid t1; have HK1 := Lib.hid k1; have B1 : Hid (Blk w1 w.heap.size 55 [.int .u64 (m : Int), .slice a n c]) := Lib.hid (k1.blk HB0.out (by intro q; rcases q with q | q <;> (have := HTB.out; omega))); have HV1 := Lib.hid (HV0.out.turn k1 HVP.out); clear t1 k1))
  have x0 : Ext w1 w1.drew := (Ext.refl w1).drew
  have d2 : w1.drew.cell? ⟨t, 2, none⟩ = _ := (HT1.out.ext x0).cell
  have b0 : w1.drew.cell? ⟨w.heap.size, 0, none⟩ = _ := B1.out.drew.cell 0 _ rfl
  have b1 : w1.drew.cell? ⟨w.heap.size, 1, none⟩ = _ := B1.out.drew.cell 1 _ rfl
  go_region_law (first
    | (go_simp; go_at_call 73; refine (HC.out _).mono ?_; rintro e w2 ⟨rfl, x2⟩; have HX2 := Lib.hid (x0.trans x2); have B2 := Lib.hid (B1.out.ext HX2.out); have b0 := B2.out.cell 0 _ rfl; have b1 := B2.out.cell 1 _ rfl; have d2 := (HT1.out.ext HX2.out).cell; obtain ⟨w3, hrun, hm3, ht3⟩ := HS.out _ (HT1.out.ext HX2.out).map (HV1.out.ext HX2.out); have HM3 := Lib.hid hm3; have HT3 := Lib.hid ht3; clear x2 hm3 ht3))
  all_goals
    have B3 := Lib.hid (B2.out.mapT HT3.out)
    have T3 := Lib.hid ((HT1.out.ext HX2.out).blk.mapT HT3.out)
    rw [HY.out] at T3
    have K3 : Hid (Turn (TB t b) w w3) := Lib.hid ((((Turn.ofExt _ HX0.out).trans HK1.out).ext HX2.out).map HT3.out (.inl (.inr rfl)))
    have HV3 := Lib.hid (HV0.out.turn (w' := w3) (((HK1.out.ext HX2.out).map HT3.out (.inl (.inr rfl)))) HVP.out)
    have y0 : Ext w3 w3.drew := (Ext.refl w3).drew
    have e3 : w3.drew.cell? ⟨t, 3, none⟩ = _ := T3.out.drew.cell 3 _ rfl
    have g0 : w3.drew.cell? ⟨w.heap.size, 0, none⟩ = _ := B3.out.drew.cell 0 _ rfl
    have g1 : w3.drew.cell? ⟨w.heap.size, 1, none⟩ = _ := B3.out.drew.cell 1 _ rfl
    clear d2 b0 b1 x0
    go_wp2
    go_region_law (first
      | (go_simp; go_at_call 74; refine (HV.out _ (HV3.out.ext y0).vers).mono ?_; rintro e w4 ⟨rfl, x4⟩; have HX4 := Lib.hid (y0.trans x4); have T4 := Lib.hid (T3.out.ext HX4.out); have h3 := T4.out.cell 3 _ rfl; have hf3 := T4.out.frozen 3; clear x4))
    all_goals
      go_end0
      exact ⟨rfl, ⟨by rw [HY'.out]; exact T4.out.set_ 3 _, (HM3.out.ext HX4.out).setT T4.out 3 _, HG.out⟩, (K3.out.ext HX4.out).setCell (p := ⟨t, 3, none⟩) (.inl (.inl rfl)) _⟩
end Go.Proofs.YtkjcpjalldbahaaGreatDoor
end

section
namespace Go.Proofs.YtkjcpjalldbahaaGreatDoor
open Go.RowKit Go.ChangeMaps Go.MapKept

/-- What is there already is written: nothing turns. -/
theorem setCell_same {w : World} {a : Addr} {v : Value} (h : w.cell? a = some v) : w.setCell a v = w := by
  have hm : (w.setCell a v).heap = w.heap := by
    apply Array.ext_getElem?
    intro j
    by_cases e : j = a.block
    · subst e
      unfold World.cell? at h
      cases hx : w.heap[a.block]? with
      | none => rw [hx] at h; cases h
      | some x =>
        rw [hx] at h
        cases x with
        | cells c ty f =>
          dsimp only at h
          cases hs : a.spot.isSome with
          | true => rw [hs] at h; cases h
          | false =>
            rw [hs] at h
            simp only [Bool.false_eq_true, if_false] at h
            have hc : c.setIfInBounds a.off v = c := by
              apply Array.ext_getElem?
              intro k
              rw [Array.getElem?_setIfInBounds]
              split
              · rename_i e
                subst e
                split
                · exact h.symm
                · rename_i q
                  rw [Array.getElem?_eq_none (by omega)]
              · rfl
            simp [World.setCell, Array.getElem?_modify, hx, hs, hc]
        | _ => cases h
    · exact Below.heap_setCell _ _ _ _ e
  have e : w.setCell a v = { w with heap := (w.setCell a v).heap } := rfl
  rw [e, hm]
set_option maxRecDepth 100000 in
set_option maxHeartbeats 4000000 in
theorem own_any (w : World) (m : Nat) (p : Option Addr) (c : Nat) (L : List Ver) (h : VersP w p L) (hl : L.length ≤ 1000000) (hz : ∀ v ∈ L, v.t.size ≤ 140737488355328) :
    Calls Tryz.prog 49 #[.agg #[.int .u64 (m : Int), .slice p L.length c]] w fun e w' => ∃ q c', e = .returned (.agg #[.int .u64 (m : Int), .slice q L.length c']) ∧ IsV w' w.heap.size q c' L ∧ Ext w w' := by
  obtain ⟨n, hn⟩ : ∃ n, L.length = n := ⟨_, rfl⟩
  have HX0 := Lib.hid (((Ext.refl w).alloc (.cells #[.int .u64 (m : Int), .slice p n c] 55)).alloc (.cells #[.int .u64 0, .slice none 0 0] 55))
  have HB1 := Lib.hid ((Blk.new w [.int .u64 (m : Int), .slice p n c] 55).alloc (.cells #[.int .u64 0, .slice none 0 0] 55))
  have HB2 := Lib.hid (Blk.new1V w (.cells #[.int .u64 (m : Int), .slice p n c] 55) [.int .u64 0, .slice none 0 0] 55)
  have HZ := Lib.hid (size2 w (.cells #[.int .u64 (m : Int), .slice p n c] 55) (.cells #[.int .u64 0, .slice none 0 0] 55))
  have HC := Lib.hid (cloneV_any _ p c L (h.ext HX0.out) hl)
  have HSC := Lib.hid (fun s hs u => strcloneV_any s hs u)
  have HN := Lib.hid hn
  have HTZ := Lib.hid hz
  rw [hn] at HC hl ⊢
  clear h hn hz
  go_enter Tryz.func49, Tryz.ntmps49
  go_wp2_with (go_at_call 46; refine HC.out.mono ?_; rintro e w1 ⟨q, c1, rfl, v1, x1⟩; have HX1 := Lib.hid (HX0.out.trans x1); have A1 := Lib.hid (HB1.out.ext x1); have A2 := Lib.hid (HB2.out.ext x1); have a0 := A1.out.cell 0 _ rfl; have a1 := A1.out.cell 1 _ rfl; have af0 := A1.out.frozen 0; have af1 := A1.out.frozen 1; have HV1 := Lib.hid v1; clear v1 x1)
  rw [HZ.out] at HV1
  have B1 := Lib.hid (A1.out.set_ 1 (.slice q n c1))
  have B2 := Lib.hid (A2.out.other (g := w.heap.size) (by omega) 1 (.slice q n c1))
  have HV2 := Lib.hid (HV1.out.setCell (a := ⟨w.heap.size, 1, none⟩) (by show w.heap.size < _; omega) (.slice q n c1))
  have HX2 := Lib.hid (HX1.out.setCell (p := ⟨w.heap.size, 1, none⟩) (Nat.le_refl _) (.slice q n c1))
  clear a0 a1 af0 af1
  generalize w1.setCell ⟨w.heap.size, 1, none⟩ (.slice q n c1) = W2 at *
  go_loopw [11] (fun iv wr => ∃ j : Nat, j ≤ n ∧ iv = .int .i64 (j : Int) ∧ Hid (Blk wr w.heap.size 55 [.int .u64 (m : Int), .slice q n c1]) ∧ Hid (Blk wr (w.heap.size + 1) 55 [.int .u64 0, .slice none 0 0]) ∧ Hid (IsV wr (w.heap.size + 2) q c1 L) ∧ Hid (Ext w wr)) (fun iv _ => n - (intOf iv).toNat)
  case atStart => exact ⟨0, Nat.zero_le _, rfl, B1, B2, HV2, HX2⟩
  case round =>
    obtain ⟨j, hj, rfl, D1, D2, HV, HX⟩ := hrel
    by_cases hlt : j < n
    · obtain ⟨x, hx⟩ : ∃ x, L[j]? = some x := ⟨_, List.getElem?_eq_getElem (by have := HN.out; omega)⟩
      have hxt := HTZ.out x (List.mem_of_getElem? hx)
      obtain ⟨a, rfl, _, _, _⟩ := HV.out.vers.three (Ext.refl _) hx
      obtain ⟨g, rfl, hlow⟩ := HV.out.block
      have x0 : Ext wr wr.drew := (Ext.refl wr).drew
      obtain ⟨⟨k0, k1, k2⟩, ⟨l0, l1, l2⟩, _⟩ := (HV.out.ext x0).lit (x := x) hx
      have d1 : wr.drew.cell? ⟨w.heap.size, 1, none⟩ = _ := D1.out.drew.cell 1 _ rfl
      have Hx := Lib.hid hx
      obtain ⟨xn, xs, xt⟩ := x
      dsimp only at k0 k1 k2 hxt
      clear hx
      go_wp2
      go_region_law (first
        | (go_simp; go_at_call 73; refine (HSC.out xt (Nat.le_trans hxt (by decide)) _).mono ?_; rintro e w3 ⟨rfl, x3⟩; have HX3 := Lib.hid (x0.trans x3); have d1 := (D1.out.ext HX3.out).cell 1 _ rfl; obtain ⟨⟨k0, k1, k2⟩, ⟨l0, l1, l2⟩, _⟩ := (HV.out.ext HX3.out).lit (x := ⟨xn, xs, xt⟩) Hx.out; have HK := Lib.hid (setCell_same k2); clear x3))
      all_goals
        rw [HK.out]
        go_wp2
        go_roundw
        case rel => exact ⟨j + 1, by omega, by go_num, Lib.hid (D1.out.ext HX3.out), Lib.hid (D2.out.ext HX3.out), Lib.hid (HV.out.ext HX3.out), Lib.hid (HX.out.trans HX3.out)⟩
        case measure => simp [intOf]; omega
    · obtain rfl : j = n := by omega
      have d0 := D1.out.cell 0 _ rfl
      have d1 := D1.out.cell 1 _ rfl
      have e0 := D2.out.cell 0 _ rfl
      have e1 := D2.out.cell 1 _ rfl
      have ef0 := D2.out.frozen 0
      have ef1 := D2.out.frozen 1
      go_wp2
      exact bodyPost_ret (results_oneT rfl _ (w.heap.size + 1) #[.int .u64 (m : Int), .slice q j c1] rfl (load_cell _ _ _ _ _ _ ((D2.out.set_ 0 _).set_ 1 _))) rfl ⟨q, c1, rfl, (((HV.out.setCell (a := ⟨w.heap.size + 1, 0, none⟩) (by show w.heap.size + 1 < _; omega) _).setCell (a := ⟨w.heap.size + 1, 1, none⟩) (by show w.heap.size + 1 < _; omega) _).base (by omega)), (HX.out.setCell (p := ⟨w.heap.size + 1, 0, none⟩) (Nat.le_succ _) _).setCell (p := ⟨w.heap.size + 1, 1, none⟩) (Nat.le_succ _) _⟩
end Go.Proofs.YtkjcpjalldbahaaGreatDoor
end
