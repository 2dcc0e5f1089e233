/- Contracts: the document's table: Last, Bytes. Contracts: Now, Last, Read and Drop of a table that is there, by the program. -/
import Derived.Test.YtkjcpjalldbahaaGreatDoorM25
import Derived.Lib.Walk
import Derived.Test.YtkjcpjalldbahaaGreatDoorM24
import Derived.Test.YtkjcpjalldbahaaGreatDoorM05
import Derived.Test.YtkjcpjalldbahaaGreatDoorM17
section
namespace Go.Proofs.YtkjcpjalldbahaaGreatDoor
open Go.RowKit Go.ChangeMaps Go.MapKept

set_option maxRecDepth 100000 in
theorem rtlast_any (w : World) (r : Nat) (qp qb : Int) (p : Option Addr) (c : Nat) (M : List Ent) (hB : Blk w r 33 [.int .i64 qp, .int .i64 qb, .slice p M.length c]) (hM : RowsP w p M) (hR : RisesR (M.map Ent.row)) (hn : M.length ≤ 140737488355328) (s : ByteArray) :
    Calls Tryz.prog 16 #[.pointer (some ⟨r, 0, none⟩), .string s] w fun e w' => e = .returned (.int .u64 ((cellR (M.map Ent.row) s).1 : Int)) ∧ Ext w w' := by
  have HA := Lib.hid (rtat_any w p c M hM hn s)
  have b2 := hB.cell 2 _ rfl
  have HP := Lib.hid hM
  have HR := Lib.hid hR
  obtain ⟨n, hnn⟩ : ∃ n, M.length = n := ⟨_, rfl⟩
  have HN := Lib.hid hnn
  rw [hnn] at b2 hn HA
  clear hM hR hB hnn
  go_enter Tryz.func16, Tryz.ntmps16
  go_upto_region 2 with (go_at_call 37; refine HA.out.mono ?_; rintro e w1 ⟨rfl, hq⟩; have HQ := Lib.hid hq; clear hq; obtain ⟨k, rfl, HK⟩ := at_split HQ.out)
  rcases HK with ⟨j, x, rfl, hx, rfl⟩ | ⟨rfl, hno⟩
  · obtain ⟨pa, rfl, c0, c1, c2⟩ := HP.out.three (Ext.refl w) hx
    have hm := List.mem_of_getElem? hx
    have hlk := lookR_of HR.out (List.mem_map.2 ⟨x, hm, rfl⟩)
    have HC := Lib.hid (cellR_some hlk)
    have hjn : j < n := by have := (List.getElem?_eq_some_iff.1 hx).1; have := HN.out; omega
    obtain ⟨xp, xm, xL, xa, xc⟩ := x
    dsimp only [Ent.row] at c0 c1 c2 HC
    clear hx hm hlk
    go_wp2
    go_ret
    exact ⟨by rw [HC.out]; rfl, Ext.refl w⟩
  · have HC := Lib.hid (cellR_none (R := M.map Ent.row) (p := s) (lookR_none.2 fun x hx => by
      obtain ⟨y, hy, rfl⟩ := List.mem_map.1 hx
      exact hno y hy))
    clear hno
    go_wp2
    go_ret
    exact ⟨by rw [HC.out]; rfl, Ext.refl w⟩
set_option maxRecDepth 100000 in
set_option maxHeartbeats 2000000 in
theorem rbytes_any (w : World) (p : Option Addr) (c : Nat) (M : List Ent) (hM : RowsP w p M) (hs : ∀ e ∈ M, OkR e.row) (hn : M.length ≤ 1000000) :
    Calls Tryz.prog 32 #[.slice p M.length c] w fun e w' => e = .returned (.int .i64 (bytesR (M.map Ent.row) : Int)) ∧ Ext w w' := by
  have HP := Lib.hid hM
  have HS := Lib.hid hs
  obtain ⟨n, hnn⟩ : ∃ n, M.length = n := ⟨_, rfl⟩
  have HN := Lib.hid hnn
  rw [hnn] at hn ⊢
  obtain ⟨B, hB⟩ : ∃ B, bytesR (M.map Ent.row) = B := ⟨_, rfl⟩
  have HB := Lib.hid hB
  rw [hB]
  clear hM hs hnn hB
  go_enter Tryz.func32, Tryz.ntmps32
  go_wp2
  go_loopw [3, 4] (fun nv iv wr => ∃ (i y : Nat), i ≤ n ∧ iv = .int .i64 (i : Int) ∧ nv = .int .i64 (y : Int) ∧ Hid (y = bytesR ((M.take i).map Ent.row)) ∧ Hid (Ext w wr)) (fun _ iv _ => n - (intOf iv).toNat)
  case atStart => exact ⟨0, 0, Nat.zero_le _, rfl, rfl, Lib.hid rfl, Lib.hid (Ext.refl w)⟩
  case round =>
    obtain ⟨i, y, hi, rfl, rfl, HY, HX⟩ := hrel
    by_cases hlt : i < n
    · obtain ⟨⟨xp, xm, xL, xa, xc⟩, hx⟩ : ∃ x, M[i]? = some x := ⟨_, List.getElem?_eq_getElem (by have := HN.out; omega)⟩
      have HT := Lib.hid (fun u (x : Ext w u) => HP.out.three x hx)
      obtain ⟨pa, rfl, c0, c1, c2⟩ := HT.out _ HX.out
      have hv := HP.out.2 _ (List.mem_of_getElem? hx)
      have hok := HS.out _ (List.mem_of_getElem? hx)
      have hps := may_size hok.path
      have hlen := hok.len
      have hsz := mayL_size hok.cell
      have hby : y ≤ 32896 * i := by
        have h1 := GoodR.bytes (R := (M.take i).map Ent.row) (fun r hr => by
          obtain ⟨e, he, rfl⟩ := List.mem_map.1 hr
          exact HS.out e (List.mem_of_mem_take he))
        rw [← HY.out, List.length_map, List.length_take] at h1
        have : min i M.length ≤ i := Nat.min_le_left _ _
        omega
      dsimp only [Ent.row] at c0 c1 c2 hv hps hlen hsz
      have HSz := Lib.hid (fun u (x : Ext w u) => rsize_any u xm xa xc xL (hv.ext x) (by omega) (by omega))
      have HY2 : Hid (y + xp.size + sizeL xL = bytesR ((M.take (i + 1)).map Ent.row)) := Lib.hid (by
        rw [List.take_add_one, hx, List.map_append, bytesR_app, ← HY.out]
        simp [bytesR, szR, Ent.row]
        omega)
      have HKp : Hid (∀ u, Ext w u → u.cell? (pa.add (i * 3)) = some (.string xp) ∧ u.cell? ⟨(pa.add (i * 3)).block, (pa.add (i * 3)).off + 1, none⟩ = some (.int .u64 (xm : Int)) ∧ u.cell? ⟨(pa.add (i * 3)).block, (pa.add (i * 3)).off + 2, none⟩ = some (.slice xa xL.length xc) ∧ Ext w u) := Lib.hid (fun u x => by
        obtain ⟨q, e, h0, h1, h2⟩ := HT.out u x
        cases e
        exact ⟨h0, h1, h2, x⟩)
      obtain ⟨z, hz⟩ : ∃ z, xp.size = z := ⟨_, rfl⟩
      obtain ⟨sl, hsl⟩ : ∃ sl, sizeL xL = sl := ⟨_, rfl⟩
      rw [hz, hsl] at HY2
      rw [hsl] at HSz
      have HWF : Hid (IntKind.i64.wrap (IntKind.i64.wrap ((y : Int) + (z : Int)) + (sl : Int)) = ((y + z + sl : Nat) : Int)) := Lib.hid (by
        rw [IntWalk.i64_in ((y : Int) + (z : Int)) ⟨by omega, by omega⟩, IntWalk.i64_in _ ⟨by omega, by omega⟩]
        omega)
      generalize xL.length = k at *
      have HX0 := Lib.hid (HX.out.drew)
      have hS0 := HKp.out _ HX.out
      have hS1 := HKp.out _ HX0.out
      clear hx hv hok hlen hsz HT
      go_wp2
      go_region_held3 (fun u => u.cell? (pa.add (i * 3)) = some (.string xp) ∧ u.cell? ⟨(pa.add (i * 3)).block, (pa.add (i * 3)).off + 1, none⟩ = some (.int .u64 (xm : Int)) ∧ u.cell? ⟨(pa.add (i * 3)).block, (pa.add (i * 3)).off + 2, none⟩ = some (.slice xa k xc) ∧ Ext w u) (first | exact hS1 | exact hS0 | exact hS2 | assumption | go_keep) (first | (go_at_call 57; refine (HSz.out _ HX0.out).mono ?_; rintro e w3 ⟨rfl, x3⟩; have HX3 := Lib.hid (HX0.out.trans x3); have hS2 := HKp.out _ HX3.out; clear x3))
      all_goals
        go_wp2
        go_roundw
        case rel => exact ⟨i + 1, y + z + sl, hlt, by go_num, congrArg (Value.int .i64) HWF.out, HY2, HX3⟩
        case measure => simp [intOf]; omega
    · obtain rfl : i = n := by omega
      have hy : y = B := by rw [HY.out, ← HB.out, List.take_of_length_le (by rw [HN.out]; exact Nat.le_refl _)]
      subst hy
      go_wp2
      go_ret
      exact ⟨rfl, HX.out⟩
end Go.Proofs.YtkjcpjalldbahaaGreatDoor
end

section
namespace Go.Proofs.YtkjcpjalldbahaaGreatDoor
open Go.RowKit Go.ChangeMaps Go.MapKept

theorem cellR_len {R : List RowP} (h : GoodR R) (p : ByteArray) : (cellR R p).2.length ≤ 8 := by
  cases e : lookR R p with
  | none => rw [cellR_none e]; simp
  | some r => rw [cellR_some e]; exact (h.each r (lookR_mem e).1).len
set_option maxRecDepth 100000 in
theorem tnow_any (w : World) (lo t b : Nat) (qp qb : Int) (R : List RowP) (h : IsT w lo t b qp qb R) (p : ByteArray) (hp : p.size ≤ 140737488355328) :
    Calls Tryz.prog 13 #[.pointer (some ⟨t, 0, none⟩), .string p] w fun e w' => e = .returned (.int .u64 (nowL (cellR R p).2 : Int)) ∧ Ext w w' := by
  have HC := Lib.hid (tcellOf_any w lo t b qp qb R h p hp)
  have hl := cellR_len h.good p
  have HN := Lib.hid (fun u a c (x : VersP u a (cellR R p).2) => now_any u (cellR R p).1 a c (cellR R p).2 x (by omega))
  generalize nowL (cellR R p).2 = z at *
  generalize (cellR R p).1 = m at *
  generalize hn : (cellR R p).2.length = n at *
  clear h hl hn
  go_enter Tryz.func13, Tryz.ntmps13
  go_wp2_with (first | (go_at_call 40; refine HC.out.mono ?_; rintro e w1 ⟨a, ⟨c, rfl⟩, v1, x1⟩) | (go_at_call 39; refine (HN.out _ _ _ v1).mono ?_; rintro e w2 ⟨rfl, x2⟩))
  go_ret
  exact ⟨rfl, x1.trans x2⟩
set_option maxRecDepth 100000 in
theorem tlast_any (w : World) (lo t b : Nat) (qp qb : Int) (R : List RowP) (h : IsT w lo t b qp qb R) (p : ByteArray) (hp : p.size ≤ 140737488355328) :
    Calls Tryz.prog 15 #[.pointer (some ⟨t, 0, none⟩), .string p] w fun e w' => e = .returned (.int .u64 ((cellR R p).1 : Int)) ∧ Ext w w' := by
  have hf := field_last
  have HC := Lib.hid (tcellOf_any w lo t b qp qb R h p hp)
  generalize (cellR R p).1 = m at *
  generalize (cellR R p).2.length = n at *
  clear h
  go_enter Tryz.func15, Tryz.ntmps15
  go_wp2_with (go_at_call 40; refine HC.out.mono ?_; rintro e w1 ⟨a, ⟨c, rfl⟩, v1, x1⟩)
  go_ret
  exact ⟨rfl, x1⟩
/-- What Read answers, by the program. -/
def treadR (R : List RowP) (p : ByteArray) (n : Nat) : Nat × Ver :=
  if mayB p.data.toList = true then readL (cellR R p).1 (cellR R p).2 n else (2, ⟨0, 0, ⟨#[]⟩⟩)
set_option maxRecDepth 100000 in
set_option maxHeartbeats 2000000 in
theorem tread_any (w : World) (lo t b : Nat) (qp qb : Int) (R : List RowP) (h : IsT w lo t b qp qb R) (p : ByteArray) (hp : p.size ≤ 140737488351232) (n : Nat) :
    Calls Tryz.prog 11 #[.pointer (some ⟨t, 0, none⟩), .string p, .int .u64 (n : Int)] w fun e w' => e = .returned (.tuple #[.agg #[.int .u64 ((treadR R p n).2.n : Int), .int .u8 ((treadR R p n).2.s : Int), .string (treadR R p n).2.t], .int .i64 ((treadR R p n).1 : Int)]) ∧ Ext w w' := by
  have HB0 := Lib.hid (Blk.new w [.int .u64 0, .int .u8 0, .string ⟨#[]⟩] 41)
  have HX0 := Lib.hid ((Ext.refl w).alloc (.cells #[.int .u64 0, .int .u8 0, .string ⟨#[]⟩] 41))
  have hc := (h.ext HX0.out).cell
  have HT := Lib.hid h
  have HP := Lib.hid (fun u => May_any p hp u)
  obtain ⟨a, c, hv, _, hrun⟩ := h.map.look p (by omega)
  have hl := cellR_len h.good p
  have HRun := Lib.hid (fun u (x : Ext w u) => hrun u x false)
  have HRd := Lib.hid (fun u (x : Ext w u) => read_any u (cellR R p).1 n a c (cellR R p).2 (hv.ext x) (by omega))
  unfold treadR
  generalize mayB p.data.toList = A at *
  obtain ⟨⟨er, vn, vs, vt⟩, hr⟩ : ∃ r, readL (cellR R p).1 (cellR R p).2 n = r := ⟨_, rfl⟩
  rw [hr] at HRd ⊢
  generalize (cellR R p).1 = m at *
  generalize (cellR R p).2.length = k at *
  clear h hv hl hrun hr
  dsimp only at HRd
  go_enter Tryz.func11, Tryz.ntmps11
  cases A with
  | false =>
    go_wp2_with (first
      | (go_at_call 33; refine (tthere_yes _ t b hc).mono ?_; rintro e w1 ⟨rfl, rfl⟩)
      | (go_at_call 34; refine (HP.out _).mono ?_; rintro e w1 ⟨rfl, x1⟩; have HX1 := Lib.hid (HX0.out.trans x1); have HB1 := Lib.hid (HB0.out.ext x1); have f0 := HB1.out.cell 0 _ rfl; have f1 := HB1.out.cell 1 _ rfl; have f2 := HB1.out.cell 2 _ rfl; have z0 := HB1.out.frozen 0; have z1 := HB1.out.frozen 1; have z2 := HB1.out.frozen 2; clear x1))
    exact bodyPost_ret (resV_row_tmp rfl _ _ w.heap.size #[.int .u64 0, .int .u8 0, .string ⟨#[]⟩] rfl (load_ver _ _ _ _ _ (((HB1.out.set_ 0 _).set_ 1 _).set_ 2 _))) rfl ⟨rfl, ((HX1.out.setCell (p := ⟨w.heap.size, 0, none⟩) (Nat.le_refl _) _).setCell (p := ⟨w.heap.size, 1, none⟩) (Nat.le_refl _) _).setCell (p := ⟨w.heap.size, 2, none⟩) (Nat.le_refl _) _⟩
  | true =>
    go_wp2_with (first
      | (go_at_call 33; refine (tthere_yes _ t b hc).mono ?_; rintro e w1 ⟨rfl, rfl⟩)
      | (go_at_call 34; refine (HP.out _).mono ?_; rintro e w1 ⟨rfl, x1⟩; have HX1 := Lib.hid (HX0.out.trans x1); have HB1 := Lib.hid (HB0.out.ext x1); have c2 := (HT.out.ext HX1.out).cell; have hlook := HRun.out _ HX1.out; simp only [Bool.false_eq_true, if_false] at hlook; clear x1)
      | (go_at_call 35; refine (HRd.out _ HX1.out).mono ?_; rintro e w2 ⟨rfl, x2⟩; have HX2 := Lib.hid (HX1.out.trans x2); have HB2 := Lib.hid (HB1.out.ext x2); have f0 := HB2.out.cell 0 _ rfl; have f1 := HB2.out.cell 1 _ rfl; have f2 := HB2.out.cell 2 _ rfl; have z0 := HB2.out.frozen 0; have z1 := HB2.out.frozen 1; have z2 := HB2.out.frozen 2; clear x2))
    exact bodyPost_ret (resV_row_tmp rfl _ _ w.heap.size #[.int .u64 (vn : Int), .int .u8 (vs : Int), .string vt] rfl (load_ver _ _ _ _ _ (((HB2.out.set_ 0 _).set_ 1 _).set_ 2 _))) rfl ⟨rfl, ((HX2.out.setCell (p := ⟨w.heap.size, 0, none⟩) (Nat.le_refl _) _).setCell (p := ⟨w.heap.size, 1, none⟩) (Nat.le_refl _) _).setCell (p := ⟨w.heap.size, 2, none⟩) (Nat.le_refl _) _⟩
/-- No text lies in the block. -/
def NoS (w : World) (g : Nat) : Prop := ∀ a : Addr, a.block = g → ∀ s, w.cell? a ≠ some (.string s)
theorem IsT.noS {w : World} {lo t b : Nat} {qp qb : Int} {R : List RowP} (h : IsT w lo t b qp qb R) : ∀ g, TB t b g → NoS w g := fun g q a ha s e => by
  subst ha
  rcases q with q | q
  · have h2 : w.heap[t]? = _ := h.blk
    unfold World.cell? at e
    rw [q, h2] at e
    dsimp only at e
    split at e
    · cases e
    · have : [Value.int .i64 qp, .int .i64 qb, .map (some b), .int .i64 (bytesR R : Int)][a.off]? = some (.string s) := by simpa using e
      have := List.mem_of_getElem? this
      simp at this
  · obtain ⟨M, hm⟩ := h.map
    obtain ⟨es, cl, hb⟩ := hm.map.is
    unfold World.cell? at e
    rw [q, hb] at e
    simp at e
theorem TextsP.turnS {S : Nat → Prop} {w w' : World} {p : Option Addr} {l : List ByteArray} (h : TextsP w p l) (f : Turn S w w') (hS : ∀ g, S g → NoS w g) : TextsP w' p l := fun i s hs => by
  obtain ⟨a, h1, h2, h3⟩ := h i s hs
  have hn : ¬ S a.block := fun q => hS _ q (a.add i) (add_block _ _) _ h3
  exact ⟨a, h1, Nat.lt_of_lt_of_le h2 f.size, by rw [World.cell?_of_block (w := w) (by rw [add_block]; exact f.other a.block h2 hn)]; exact h3⟩
set_option maxRecDepth 100000 in
set_option maxHeartbeats 2000000 in
theorem tdrops_any (w : World) (lo t b : Nat) (qp qb : Int) (R : List RowP) (h : IsT w lo t b qp qb R) (hl : R.length ≤ 1000000) (p : Option Addr) (c : Nat) (l : List ByteArray) (hp : TextsP w p l) (hs : ∀ s ∈ l, s.size ≤ 140737488351232) (hn : l.length ≤ 140737488355328) :
    Calls Tryz.prog 26 #[.pointer (some ⟨t, 0, none⟩), .slice p l.length c] w fun e w' => e = .returned (.int .i64 ((R.length : Int) - ((dropsR R l).length : Int))) ∧ IsT w' lo t b qp qb (dropsR R l) ∧ Turn (TB t b) w w' := by
  have hc := h.cell
  have HT := Lib.hid h
  have HP := Lib.hid hp
  have hlen := h.map.len h.good.up
  obtain ⟨r, hr⟩ : ∃ r, R.length = r := ⟨_, rfl⟩
  have HRl := Lib.hid hr
  obtain ⟨n, hnn⟩ : ∃ n, l.length = n := ⟨_, rfl⟩
  have HN := Lib.hid hnn
  have HS := Lib.hid hs
  rw [hr] at hlen hl ⊢
  rw [hnn] at hn ⊢
  obtain ⟨d, hd⟩ : ∃ d, (dropsR R l).length = d := ⟨_, rfl⟩
  have HDL := Lib.hid hd
  rw [hd]
  clear h hp hs hr hnn hd
  go_enter Tryz.func26, Tryz.ntmps26
  go_wp2_with (go_at_call 33; refine (tthere_yes _ t b hc).mono ?_; rintro e w1 ⟨rfl, rfl⟩)
  go_loopw [18] (fun iv wr => ∃ (i : Nat), i ≤ n ∧ iv = .int .i64 (i : Int) ∧ Hid (IsT wr lo t b qp qb (dropsR R (l.take i))) ∧ Hid (Turn (TB t b) w wr)) (fun iv _ => n - (intOf iv).toNat)
  case atStart => exact ⟨0, Nat.zero_le _, rfl, Lib.hid (by simpa [dropsR] using HT.out), Lib.hid (Turn.refl _ _)⟩
  case round =>
    obtain ⟨i, hi, rfl, HA, HK⟩ := hrel
    have hdl : (dropsR R (l.take i)).length ≤ r := by have := dropsR_len (l.take i) R; have := HRl.out; omega
    by_cases hlt : i < n
    · obtain ⟨s, hx⟩ : ∃ x, l[i]? = some x := ⟨_, List.getElem?_eq_getElem (by have := HN.out; omega)⟩
      obtain ⟨pa, rfl, hlt1, hcell⟩ := (HP.out.turnS HK.out HT.out.noS) i s hx
      have hsz := HS.out s (List.mem_of_getElem? hx)
      have HD := Lib.hid (tdrop_any wr lo t b qp qb _ HA.out (by omega) s (by omega))
      have HE : Hid (dropR s (dropsR R (l.take i)) = dropsR R (l.take (i + 1))) := Lib.hid (by
        rw [← dropsR_snoc, List.take_add_one, hx]; rfl)
      rw [HE.out] at HD
      clear hdl hx hsz
      go_wp2_with (go_at_call 53; refine HD.out.mono ?_; rintro e w2 ⟨rfl, t2, k2⟩; have HA2 := Lib.hid t2; have HK2 := Lib.hid (HK.out.trans k2); clear t2 k2)
      go_roundw
      case rel => exact ⟨i + 1, hlt, by go_num, HA2, HK2⟩
      case measure => simp [intOf]; omega
    · obtain rfl : i = n := by omega
      have hfull : l.take i = l := by rw [← HN.out]; exact List.take_length
      rw [hfull] at HA hdl
      have hlen2 := HA.out.map.len HA.out.good.up
      have hc2 := HA.out.cell
      rw [HDL.out] at hlen2 hdl
      have hw : IntKind.i64.wrap ((r : Int) - (d : Int)) = (r : Int) - (d : Int) := IntWalk.i64_in _ ⟨by omega, by omega⟩
      clear hfull
      go_wp2
      go_ret
      exact ⟨rfl, HA.out, HK.out⟩
end Go.Proofs.YtkjcpjalldbahaaGreatDoor
end
