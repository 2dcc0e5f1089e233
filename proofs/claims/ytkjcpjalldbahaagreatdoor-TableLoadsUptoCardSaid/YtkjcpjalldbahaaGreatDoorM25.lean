/- A slice of rows among a law's arguments, opened: what its walk asks of it. Acts of layer 18's law: edits, rows, paths. Contracts: the document's table: where a path stands, Now, Last. -/
import Derived.Test.YtkjcpjalldbahaaGreatDoorM22
import Derived.Test.YtkjcpjalldbahaaGreatDoorM24
import Derived.Test.YtkjcpjalldbahaaGreatDoorM21
import Derived.BigQuiet
import Derived.Deep.QuietTactic
import Derived.Test.YtkjcpjalldbahaaGreatDoorM05
section
namespace Go.Proofs.YtkjcpjalldbahaaGreatDoor
open Go.ChangeShapes Go.WideShapes Go.ChangeAt Go.RowKit
theorem cells_rowx : Tryz.prog.cellsOf 57 = 3 := by kernel_rfl
theorem bytes_rowx : Tryz.prog.bytesOf 57 = 48 := by kernel_rfl
/-- What a row among the arguments holds. -/
structure Ent.Fit (e : Ent) : Prop where
  p : e.p.size ≤ 140737488351232
  m : e.m < 18446744073709551616
  L : ∀ x ∈ e.L, x.Fit
  n : e.L.length * 32 ≤ 140737488351232
section
variable {H : Type} {enc : TypeId × Value → H} {W : World} {base : Nat} {v : Value} {d : DataW H} {p : List MemPlace}
theorem two_list {cs : List Value} {v0 v1 : Value} (hl : cs.length = 2) (e0 : cs[0]? = some v0) (e1 : cs[1]? = some v1) : cs = [v0, v1] := by
  apply List.ext_getElem?
  intro i
  rcases (show i = 0 ∨ i = 1 ∨ 2 ≤ i by omega) with rfl | rfl | h
  · exact e0
  · exact e1
  · rw [List.getElem?_eq_none (by omega), List.getElem?_eq_none (by simpa using h)]
theorem open_cellx {fuel : Nat} {cs : List Value} (htr : DataW.trod enc Tryz.prog W 0 (fun _ => true) true fuel 55 cs = some (d, p)) (hlt : ∀ x ∈ p, x.block < W.heap.size) (hw : ∀ w ∈ d.weights Tryz.prog 55, w ≤ reachBytes) :
    ∃ (m : Nat) (q : Option Addr) (c : Nat) (L : List Ver), cs = [.int .u64 (m : Int), .slice q L.length c] ∧ m < 18446744073709551616 ∧ VersP W q L ∧ (∀ x ∈ L, x.Fit) ∧ L.length * 32 ≤ 140737488351232 := by
  obtain ⟨xs, n', _, hD, hcl, hlen, hfl⟩ := DataW.trod_struct Tryz.underlying55 htr
  have hlenN : xs.length = 2 := hlen
  simp only [Prod.mk.injEq] at hD
  obtain ⟨rfl, rfl⟩ := hD
  rw [show Tryz.prog.cellsOf 55 = 2 by kernel_rfl] at hcl
  have g0 : DataW.trod enc Tryz.prog W 0 (fun _ => true) true n' 25 ((cs.drop 0).take (Tryz.prog.cellsOf 25)) = xs[0]? := hfl 0 _ rfl
  rw [show Tryz.prog.cellsOf 25 = 1 from by kernel_rfl] at g0
  have g1 : DataW.trod enc Tryz.prog W 0 (fun _ => true) true n' 53 ((cs.drop 1).take (Tryz.prog.cellsOf 53)) = xs[1]? := hfl 1 _ rfl
  rw [show Tryz.prog.cellsOf 53 = 1 from by kernel_rfl] at g1
  have hwe : ∀ w ∈ DataW.weightsEach Tryz.prog [25, 53] (xs.map (·.1)), w ≤ reachBytes := fun w hw1 => hw w (by
    simp only [DataW.weights, Tryz.underlying55]
    exact hw1)
  have hwb : (DataW.weightsEach Tryz.prog [25, 53] (xs.map (·.1))).all (· ≤ reachBytes) = true := List.all_eq_true.2 (fun w hw1 => by simpa using hwe w hw1)
  obtain ⟨d0, e0, w0⟩ := field_at (k := .u64) (by omega) Tryz.underlying25 g0
  obtain ⟨y1, hy1⟩ : ∃ y, xs[1]? = some y := ⟨_, List.getElem?_eq_getElem (by omega)⟩
  rw [hy1] at g1
  obtain ⟨a1, l1, c1, hc1⟩ := Go.Joins.slice_form Tryz.underlying53 g1
  have e1 := one_at hc1
  rw [hc1] at g1
  obtain ⟨q, c, L, hv, hP, hok, hl⟩ := open_verxs_f g1 (fun x hx => hlt x (List.mem_flatMap.2 ⟨y1, List.mem_of_getElem? hy1, hx⟩)) hwb (j := 1) rfl (by rw [List.getElem?_map, hy1]; rfl)
  simp [Lit.wf, IntKind.min, IntKind.max, IntKind.signed, IntKind.bits] at w0
  have n0 : ((d0.toNat : Nat) : Int) = d0 := Int.toNat_of_nonneg (by omega)
  refine ⟨d0.toNat, q, c, L.map VerX.ver, ?_, by omega, versX hP, fun x hx => ?_, by rw [List.length_map]; exact hl⟩
  · rw [n0, List.length_map, ← hv]
    exact two_list hcl e0 e1
  · obtain ⟨y, hy, rfl⟩ := List.mem_map.1 hx
    have := hok y hy
    exact ⟨this.N, this.State, this.Text⟩
theorem open_rowx {fuel : Nat} {cs : List Value} (htr : DataW.trod enc Tryz.prog W 0 (fun _ => true) true fuel 57 cs = some (d, p)) (hlt : ∀ x ∈ p, x.block < W.heap.size) (hw : ∀ w ∈ d.weights Tryz.prog 57, w ≤ reachBytes) :
    ∃ (e : Ent), cs = e.cells ∧ VersP W e.a e.L ∧ e.Fit := by
  obtain ⟨xs, n', _, hD, hcl, hlen, hfl⟩ := DataW.trod_struct Tryz.underlying57 htr
  have hlenN : xs.length = 2 := hlen
  simp only [Prod.mk.injEq] at hD
  obtain ⟨rfl, rfl⟩ := hD
  rw [cells_rowx] at hcl
  have g0 : DataW.trod enc Tryz.prog W 0 (fun _ => true) true n' 9 ((cs.drop 0).take (Tryz.prog.cellsOf 9)) = xs[0]? := hfl 0 _ rfl
  rw [show Tryz.prog.cellsOf 9 = 1 from by kernel_rfl] at g0
  have g1 : DataW.trod enc Tryz.prog W 0 (fun _ => true) true n' 55 ((cs.drop 1).take (Tryz.prog.cellsOf 55)) = xs[1]? := hfl 1 _ rfl
  rw [show Tryz.prog.cellsOf 55 = 2 from by kernel_rfl] at g1
  have hwe : ∀ w ∈ DataW.weightsEach Tryz.prog [9, 55] (xs.map (·.1)), w ≤ reachBytes := fun w hw1 => hw w (by
    simp only [DataW.weights, Tryz.underlying57]
    exact hw1)
  obtain ⟨s0, e0, x0⟩ := field_str (by omega) Tryz.underlying9 g0
  have hs0 := hwe s0.data.toList.length (DataW.weights_mem_each (P := Tryz.prog) (j := 0) (t := 9) rfl x0 _ (by simp [DataW.weights]))
  simp only [reachBytes, size_list] at hs0
  obtain ⟨y1, hy1⟩ : ∃ y, xs[1]? = some y := ⟨_, List.getElem?_eq_getElem (by omega)⟩
  rw [hy1] at g1
  obtain ⟨m, q, c, L, hcc, hm, hP, hF, hl⟩ := open_cellx (d := y1.1) (p := y1.2) g1 (fun x hx => hlt x (List.mem_flatMap.2 ⟨y1, List.mem_of_getElem? hy1, hx⟩)) (fun w hw1 => hwe w (DataW.weights_mem_each (P := Tryz.prog) (j := 1) (t := 55) rfl (by rw [List.getElem?_map, hy1]; rfl) w hw1))
  refine ⟨⟨s0, m, L, q, c⟩, ?_, hP, ⟨by show s0.size ≤ _; omega, hm, hF, hl⟩⟩
  have hd1 : ∀ i u, i < 2 → (cs.drop 1 |>.take 2)[i]? = u → cs[i + 1]? = u := fun i u hi h => by
    rw [List.getElem?_take, if_pos hi, List.getElem?_drop] at h
    rw [Nat.add_comm]
    exact h
  rw [hcc] at hd1
  exact verx_list hcl e0 (hd1 0 _ (by decide) rfl) (hd1 1 _ (by decide) rfl)
set_option maxRecDepth 100000 in
theorem open_rows_p (hval : Value.okWide Tryz.prog W .any base 31 v) (h : DataW.Trod enc Tryz.prog W 0 (fun _ => true) true 31 v d p) (hlt : ∀ x ∈ p, x.block < W.heap.size)
    {ts : List TypeId} {ds : List (DataW H)} {j : Nat} (hsz : (DataW.weightsEach Tryz.prog ts ds).all (· ≤ reachBytes) = true) (ht : ts[j]? = some 31) (hd : ds[j]? = some d) :
    ∃ (pa : Option Addr) (c : Nat) (L : List Ent), v = .slice pa L.length c ∧ RowsP W pa L ∧ (∀ x, x ∈ L → x.Fit) ∧ L.length ≤ 140737488355328 := by
  obtain ⟨a0, len, cap, rfl⟩ := okWide_slice Tryz.underlying31 hval
  obtain ⟨fuel, hf⟩ := h
  rcases Deep.open_slice Tryz.underlying31 hf with ⟨hcs, hx⟩ | ⟨a, len', cap', m, n, D, Pl, hcs, _, hl, hm, hmm, hx, hi⟩
  · simp [Value.cells] at hcs
    obtain ⟨rfl, rfl, rfl⟩ := hcs
    exact ⟨none, 0, [], rfl, ⟨fun k x hk => by simp at hk, fun x hx => by simp at hx⟩, fun x hx => by simp at hx, by simp⟩
  · simp [Value.cells] at hcs
    obtain ⟨rfl, rfl, rfl⟩ := hcs
    simp only [Prod.mk.injEq] at hx
    obtain ⟨rfl, rfl⟩ := hx
    simp only [if_true] at hmm
    subst hmm
    have hr := sized_slice hsz ht hd Tryz.underlying31
    rw [bytes_rowx] at hr
    simp only [List.length_map, List.length_range, reachBytes] at hr
    obtain ⟨L, hL, hP⟩ := list_of_all (α := Ent) (P := fun k x => (x.Fit ∧ VersP W x.a x.L) ∧ a.block < W.heap.size ∧ ∀ (i : Nat) (u : Value), (x.cells)[i]? = some u → W.cell? (a.add (k * 3 + i)) = some u) len (fun k hk => by
      obtain ⟨cs', hc, htr⟩ := hi k (by omega)
      rw [cells_rowx] at hc
      obtain ⟨_, hcl, hat⟩ := World.cells?_some hc
      obtain ⟨x, rfl, h2, h3⟩ := open_rowx htr (fun y hy => hlt y (List.mem_append_right _ (List.mem_flatMap.2 ⟨k, List.mem_range.2 (by omega), hy⟩))) (fun w hw => by
        have hw2 := DataW.weights_mem_each (P := Tryz.prog) ht hd w (by
          simp only [DataW.weights, Tryz.underlying31, List.mem_cons, List.mem_append]
          exact .inr (.inl (weightsAll_mem (x := D k) (List.mem_map.2 ⟨k, List.mem_range.2 hk, rfl⟩) hw)))
        have := List.all_eq_true.1 hsz _ hw2
        simpa using this)
      refine ⟨x, ⟨h3, h2⟩, hlt (.cell a.block (a.off + k * 3)) (List.mem_append_left _ (MemPlace.mem_row.2 ⟨k * 3, by rw [cells_rowx]; omega, rfl⟩)), fun i u hu => ?_⟩
      have hiN : i < 3 := (List.getElem?_eq_some_iff.1 hu).1
      have := hat i hiN
      rw [Deep.add_add] at this
      rw [this]
      exact hu)
    refine ⟨some a, m, L, by rw [hL], ⟨fun k x hk => ?_, fun x hx => ?_⟩, fun x hx => ?_, by rw [hL]; omega⟩
    · obtain ⟨_, h2, h4⟩ := hP k x hk
      exact ⟨a, rfl, h2, h4⟩
    · obtain ⟨k, hk⟩ := List.getElem?_of_mem hx
      exact (hP k x hk).1.2
    · obtain ⟨k, hk⟩ := List.getElem?_of_mem hx
      exact (hP k x hk).1.1
end
end Go.Proofs.YtkjcpjalldbahaaGreatDoor
end

section
namespace Go.Proofs.YtkjcpjalldbahaaGreatDoor
open Go.RowKit

structure ActR where
  dv : Nat
  E : List EditP
  ea : Option Addr
  ec : Nat
  R : List Ent
  ra : Option Addr
  rc : Nat
  P : List ByteArray
  pa : Option Addr
  pc : Nat
def ActR.cells (x : ActR) : List Value := [.int .u8 (x.dv : Int), .slice x.ea x.E.length x.ec, .slice x.ra x.R.length x.rc, .slice x.pa x.P.length x.pc]
def cntA (A : List ActR) : Nat := (A.map fun x => x.E.length + x.R.length + x.P.length).sum
theorem cntA_take {A : List ActR} {j : Nat} {x : ActR} (h : A[j]? = some x) : cntA (A.take (j + 1)) = cntA (A.take j) + (x.E.length + x.R.length + x.P.length) := by
  unfold cntA
  rw [List.take_add_one, h]
  simp
def ActsR (w : World) (p : Option Addr) (A : List ActR) : Prop := ∀ (k : Nat) (x : ActR), A[k]? = some x → (∃ a, p = some a ∧ a.block < w.heap.size ∧ ∀ (j : Nat) (v : Value), x.cells[j]? = some v → w.cell? (a.add (k * 4 + j)) = some v) ∧ EditsP w x.ea x.E ∧ RowsP w x.ra x.R ∧ TextsP w x.pa x.P
theorem actR_at {w : World} {a : Addr} {j k : Nat} {v : Option Value} (h : w.cell? (a.add (j * 4 + (k + 1))) = v) : w.cell? ⟨(a.add (j * 4)).block, (a.add (j * 4)).off + (k + 1), none⟩ = v := by
  rw [← Go.Deep.add_add] at h
  exact h
/-- How long what is in an act may be. -/
structure ActR.Sz (x : ActR) (ml t rl : Nat) : Prop where
  e : x.E.length ≤ ml
  r : x.R.length ≤ ml
  p : x.P.length ≤ ml
  et : ∀ e ∈ x.E, e.p.size ≤ t ∧ e.t.size ≤ t
  rt : ∀ e ∈ x.R, e.L.length ≤ rl ∧ ∀ v ∈ e.L, v.t.size ≤ t
def HeavyR18 (A : List ActR) (w : World) (e : Ending) (w' : World) : Prop := ∃ b : Bool, e = .returned (.bool b) ∧ (b = false → A.length ≤ 40 ∧ cntA A ≤ 1024) ∧ Ext w w'
end Go.Proofs.YtkjcpjalldbahaaGreatDoor
end

section
namespace Go.Proofs.YtkjcpjalldbahaaGreatDoor
open Go.RowKit Go.ChangeMaps Go.MapKept

theorem txtY_ne {x y : ByteArray} (h : ¬ x = y) : (x.toList == y.toList) = false := by
  rw [beq_eq_false_iff_ne]
  intro e
  rw [Lib.toList_data, Lib.toList_data] at e
  exact h (by rw [← toB_of x, e, toB_of])
set_option maxRecDepth 100000 in
theorem rtat_any (w : World) (p : Option Addr) (c : Nat) (M : List Ent) (hM : RowsP w p M) (hn : M.length ≤ 140737488355328) (s : ByteArray) :
    Calls Tryz.prog 37 #[.slice p M.length c, .string s] w fun e w' => w = w' ∧ ((∃ (j : Nat) (x : Ent), e = .returned (.int .i64 (j : Int)) ∧ M[j]? = some x ∧ x.p = s) ∨ (e = .returned (.int .i64 (-1)) ∧ ∀ y ∈ M, y.p ≠ s)) := by
  have HP := Lib.hid hM
  obtain ⟨n, hnn⟩ : ∃ n, M.length = n := ⟨_, rfl⟩
  have HN := Lib.hid hnn
  rw [hnn] at hn ⊢
  clear hM hnn
  go_enter Tryz.func37, Tryz.ntmps37
  go_wp2
  go_loopw [5] (fun iv wr => ∃ (i : Nat), i ≤ n ∧ iv = .int .i64 (i : Int) ∧ Hid (∀ y ∈ M.take i, y.p ≠ s) ∧ w = wr) (fun iv _ => n - (intOf iv).toNat)
  case atStart => exact ⟨0, Nat.zero_le _, rfl, Lib.hid (by simp), rfl⟩
  case round =>
    obtain ⟨i, hi, rfl, HNo, rfl⟩ := hrel
    by_cases hlt : i < n
    · obtain ⟨⟨xp, xm, xL, xa, xc⟩, hx⟩ : ∃ x, M[i]? = some x := ⟨_, List.getElem?_eq_getElem (by have := HN.out; omega)⟩
      obtain ⟨pa, rfl, c0, c1, c2⟩ := HP.out.three (Ext.refl w) hx
      have HXe := Lib.hid hx
      dsimp only at c0 c1 c2
      clear hx
      by_cases hxs : xp = s
      · subst hxs
        go_wp2
        go_ret
        exact ⟨rfl, .inl ⟨i, _, rfl, HXe.out, rfl⟩⟩
      · have hne := txtY_ne hxs
        have HQ := Lib.hid hxs
        clear hxs
        go_wp2
        go_roundw
        case rel => exact ⟨i + 1, hlt, by go_num, Lib.hid (fun y hy => by
            rw [List.take_add_one, HXe.out] at hy
            rcases List.mem_append.1 hy with h1 | h1
            · exact HNo.out y h1
            · simp at h1; subst h1; exact HQ.out), by trivial⟩
        case measure => simp [intOf]; omega
    · obtain rfl : i = n := by omega
      go_wp2
      go_ret
      exact ⟨rfl, .inr ⟨rfl, fun y hy => HNo.out y (by rw [List.take_of_length_le (by rw [HN.out]; exact Nat.le_refl _)]; exact hy)⟩⟩
theorem at_split {e : Ending} {M : List Ent} {s : ByteArray} (h : (∃ (j : Nat) (x : Ent), e = .returned (.int .i64 (j : Int)) ∧ M[j]? = some x ∧ x.p = s) ∨ (e = .returned (.int .i64 (-1)) ∧ ∀ y ∈ M, y.p ≠ s)) : ∃ k : Int, e = .returned (.int .i64 k) ∧ ((∃ (j : Nat) (x : Ent), k = j ∧ M[j]? = some x ∧ x.p = s) ∨ (k = -1 ∧ ∀ y ∈ M, y.p ≠ s)) := by
  rcases h with ⟨j, x, h1, h2, h3⟩ | ⟨h1, h2⟩
  · exact ⟨_, h1, .inl ⟨j, x, rfl, h2, h3⟩⟩
  · exact ⟨_, h1, .inr ⟨rfl, h2⟩⟩
theorem now_of (w : World) (x : Ent) (h : VersP w x.a x.L) (hl : x.L.length ≤ 140737488355328) :
    Calls Tryz.prog 41 #[.agg #[.int .u64 (x.m : Int), .slice x.a x.L.length x.c]] w fun e w' => e = .returned (.int .u64 (nowL x.L : Int)) ∧ Ext w w' := rnow_any w x.m x.a x.c x.L h hl
set_option maxRecDepth 100000 in
theorem rtnow_any (w : World) (r : Nat) (qp qb : Int) (p : Option Addr) (c : Nat) (M : List Ent) (hB : Blk w r 33 [.int .i64 qp, .int .i64 qb, .slice p M.length c]) (hM : RowsP w p M) (hR : RisesR (M.map Ent.row)) (hn : M.length ≤ 140737488355328) (hl : ∀ e ∈ M, e.L.length ≤ 140737488355328) (s : ByteArray) :
    Calls Tryz.prog 14 #[.pointer (some ⟨r, 0, none⟩), .string s] w fun e w' => e = .returned (.int .u64 (nowL (cellR (M.map Ent.row) s).2 : Int)) ∧ Ext w w' := by
  have HA := Lib.hid (rtat_any w p c M hM hn s)
  have b2 := hB.cell 2 _ rfl
  have HP := Lib.hid hM
  have HR := Lib.hid hR
  have HL := Lib.hid hl
  obtain ⟨n, hnn⟩ : ∃ n, M.length = n := ⟨_, rfl⟩
  have HN := Lib.hid hnn
  rw [hnn] at b2 hn HA
  clear hM hR hB hl hnn
  go_enter Tryz.func14, Tryz.ntmps14
  go_upto_region 2 with (go_at_call 37; refine HA.out.mono ?_; rintro e w1 ⟨rfl, hq⟩; have HQ := Lib.hid hq; clear hq; obtain ⟨k, rfl, HK⟩ := at_split HQ.out)
  rcases HK with ⟨j, x, rfl, hx, rfl⟩ | ⟨rfl, hno⟩
  · obtain ⟨pa, rfl, c0, c1, c2⟩ := HP.out.three (Ext.refl w) hx
    have hm := List.mem_of_getElem? hx
    have HNw := Lib.hid (now_of w x (HP.out.2 x hm) (HL.out x hm))
    have hlk := lookR_of HR.out (List.mem_map.2 ⟨x, hm, rfl⟩)
    have HC := Lib.hid (cellR_some hlk)
    have hjn : j < n := by have := (List.getElem?_eq_some_iff.1 hx).1; have := HN.out; omega
    obtain ⟨xp, xm, xL, xa, xc⟩ := x
    dsimp only [Ent.row] at c0 c1 c2 HC HNw
    clear hx hm hlk
    go_wp2_with (go_at_call 41; refine HNw.out.mono ?_; rintro e w2 ⟨rfl, x2⟩)
    go_ret
    exact ⟨by rw [HC.out]; rfl, x2⟩
  · have HC := Lib.hid (cellR_none (R := M.map Ent.row) (p := s) (lookR_none.2 fun x hx => by
      obtain ⟨y, hy, rfl⟩ := List.mem_map.1 hx
      exact hno y hy))
    clear hno
    go_wp2
    go_ret
    exact ⟨by rw [HC.out]; rfl, Ext.refl w⟩
end Go.Proofs.YtkjcpjalldbahaaGreatDoor
end
