/- A slice of acts among a law's arguments, opened, where what is read is of small bulk: the acts. -/
import Derived.Test.YtkjcpjalldbahaaGreatDoorOpenB18
import Derived.Test.YtkjcpjalldbahaaGreatDoorTablePlaysWalk
namespace Go.Proofs.YtkjcpjalldbahaaGreatDoor
open Go.ChangeShapes Go.WideShapes Go.ChangeAt Go.RowKit
theorem cells_actx : Tryz.prog.cellsOf 38 = 4 := by kernel_rfl
theorem four_list {cs : List Value} {v0 v1 v2 v3 : Value} (hl : cs.length = 4) (e0 : cs[0]? = some v0) (e1 : cs[1]? = some v1) (e2 : cs[2]? = some v2) (e3 : cs[3]? = some v3) : cs = [v0, v1, v2, v3] := by
  apply List.ext_getElem?
  intro i
  rcases (show i = 0 ∨ i = 1 ∨ i = 2 ∨ i = 3 ∨ 4 ≤ i by omega) with rfl | rfl | rfl | rfl | h
  · exact e0
  · exact e1
  · exact e2
  · exact e3
  · rw [List.getElem?_eq_none (by omega), List.getElem?_eq_none (by simpa using h)]
section
variable {H : Type} {enc : TypeId × Value → H} {W : World} {base : Nat} {v : Value} {d : DataW H} {p : List MemPlace}
theorem open_actx_B {fuel : Nat} {cs : List Value} (htr : DataW.trod enc Tryz.prog W 0 (fun _ => true) true fuel 38 cs = some (d, p)) (hlt : ∀ x ∈ p, x.block < W.heap.size) (hb : Rows.uptoBulk d ≤ 1048576) :
    ∃ (x : ActR), cs = x.cells ∧ (EditsP W x.ea x.E ∧ RowsP W x.ra x.R ∧ TextsP W x.pa x.P) ∧ x.Fine := by
  obtain ⟨xs, n', _, hD, hcl, hlen, hfl⟩ := DataW.trod_struct Tryz.underlying38 htr
  have hlenN : xs.length = 4 := hlen
  simp only [Prod.mk.injEq] at hD
  obtain ⟨rfl, rfl⟩ := hD
  rw [cells_actx] at hcl
  have g0 : DataW.trod enc Tryz.prog W 0 (fun _ => true) true n' 5 ((cs.drop 0).take (Tryz.prog.cellsOf 5)) = xs[0]? := hfl 0 _ rfl
  rw [show Tryz.prog.cellsOf 5 = 1 from by kernel_rfl] at g0
  have g1 : DataW.trod enc Tryz.prog W 0 (fun _ => true) true n' 35 ((cs.drop 1).take (Tryz.prog.cellsOf 35)) = xs[1]? := hfl 1 _ rfl
  rw [show Tryz.prog.cellsOf 35 = 1 from by kernel_rfl] at g1
  have g2 : DataW.trod enc Tryz.prog W 0 (fun _ => true) true n' 31 ((cs.drop 2).take (Tryz.prog.cellsOf 31)) = xs[2]? := hfl 2 _ rfl
  rw [show Tryz.prog.cellsOf 31 = 1 from by kernel_rfl] at g2
  have g3 : DataW.trod enc Tryz.prog W 0 (fun _ => true) true n' 36 ((cs.drop 3).take (Tryz.prog.cellsOf 36)) = xs[3]? := hfl 3 _ rfl
  rw [show Tryz.prog.cellsOf 36 = 1 from by kernel_rfl] at g3
  obtain ⟨d0, e0, w0⟩ := field_at (k := .u8) (by omega) Tryz.underlying5 g0
  obtain ⟨y1, hy1⟩ : ∃ y, xs[1]? = some y := ⟨_, List.getElem?_eq_getElem (by omega)⟩
  rw [hy1] at g1
  obtain ⟨a1, l1, c1, hc1⟩ := Go.Joins.slice_form Tryz.underlying35 g1
  have e1 := one_at hc1
  rw [hc1] at g1
  obtain ⟨q1, z1, L1, hv1, hP1, hok1, hl1⟩ := open_editos_B (d := y1.1) (p := y1.2) g1 (fun x hx => hlt x (List.mem_flatMap.2 ⟨y1, List.mem_of_getElem? hy1, hx⟩)) (Nat.le_trans (blk_agg (j := 1) (by rw [List.getElem?_map, hy1]; rfl)) hb)
  obtain ⟨y2, hy2⟩ : ∃ y, xs[2]? = some y := ⟨_, List.getElem?_eq_getElem (by omega)⟩
  rw [hy2] at g2
  obtain ⟨a2, l2, c2, hc2⟩ := Go.Joins.slice_form Tryz.underlying31 g2
  have e2 := one_at hc2
  rw [hc2] at g2
  obtain ⟨q2, z2, L2, hv2, hP2, hok2, hcap2, hl2⟩ := open_rows_B (d := y2.1) (p := y2.2) g2 (fun x hx => hlt x (List.mem_flatMap.2 ⟨y2, List.mem_of_getElem? hy2, hx⟩)) (Nat.le_trans (blk_agg (j := 2) (by rw [List.getElem?_map, hy2]; rfl)) hb)
  obtain ⟨y3, hy3⟩ : ∃ y, xs[3]? = some y := ⟨_, List.getElem?_eq_getElem (by omega)⟩
  rw [hy3] at g3
  obtain ⟨a3, l3, c3, hc3⟩ := Go.Joins.slice_form Tryz.underlying36 g3
  have e3 := one_at hc3
  rw [hc3] at g3
  obtain ⟨q3, z3, L3, hv3, hP3, hok3, hl3⟩ := open_texts_B (d := y3.1) (p := y3.2) g3 (fun x hx => hlt x (List.mem_flatMap.2 ⟨y3, List.mem_of_getElem? hy3, hx⟩)) (Nat.le_trans (blk_agg (j := 3) (by rw [List.getElem?_map, hy3]; rfl)) hb)
  simp [Lit.wf, IntKind.min, IntKind.max, IntKind.signed, IntKind.bits] at w0
  have n0 : ((d0.toNat : Nat) : Int) = d0 := Int.toNat_of_nonneg (by omega)
  refine ⟨⟨d0.toNat, L1.map EditO.toP, q1, z1, L2, q2, z2, L3, q3, z3⟩, ?_, ⟨hP1.edits, hP2, hP3⟩, ⟨⟨?_, hl2, hl3, fun e he => ?_, fun e he => ?_⟩, fun e he => (hok2 e he).1, hcap2, fun s hs => ?_⟩⟩
  · unfold ActR.cells
    dsimp only
    rw [n0, List.length_map, ← hv1, ← hv2, ← hv3]
    exact four_list hcl e0 e1 e2 e3
  · show (L1.map EditO.toP).length ≤ _
    rw [List.length_map]
    exact hl1
  · obtain ⟨x, hx, rfl⟩ := List.mem_map.1 he
    exact (hok1 x hx).2
  · exact (hok2 e he).2
  · have := hok3 s hs
    omega
set_option maxRecDepth 100000 in
theorem open_acts_B (hval : Value.okWide Tryz.prog W .any base 24 v) (h : DataW.Trod enc Tryz.prog W 0 (fun _ => true) true 24 v d p) (hlt : ∀ x ∈ p, x.block < W.heap.size) (hb : Rows.uptoBulk d ≤ 1048576) :
    ∃ (pa : Option Addr) (c : Nat) (L : List ActR), v = .slice pa L.length c ∧ ActsR W pa L ∧ (∀ x, x ∈ L → x.Fine) ∧ L.length ≤ 1048576 := by
  obtain ⟨a0, len, cap, rfl⟩ := okWide_slice Tryz.underlying24 hval
  obtain ⟨fuel, hf⟩ := h
  rcases Deep.open_slice Tryz.underlying24 hf with ⟨hcs, hx⟩ | ⟨a, len', cap', m, n, D, Pl, hcs, _, hl, hm, hmm, hx, hi⟩
  · simp [Value.cells] at hcs
    obtain ⟨rfl, rfl, rfl⟩ := hcs
    exact ⟨none, 0, [], rfl, fun k x hk => by simp at hk, fun x hx => by simp at hx, by simp⟩
  · simp [Value.cells] at hcs
    obtain ⟨rfl, rfl, rfl⟩ := hcs
    simp only [Prod.mk.injEq] at hx
    obtain ⟨rfl, rfl⟩ := hx
    simp only [if_true] at hmm
    subst hmm
    have hr := blk_slen ((List.range len).map D) ((List.range (m - len)).map fun j => D (len + j))
    simp only [List.length_map, List.length_range] at hr
    obtain ⟨L, hL, hP⟩ := list_of_all (α := ActR) (P := fun k x => (x.Fine ∧ EditsP W x.ea x.E ∧ RowsP W x.ra x.R ∧ TextsP W x.pa x.P) ∧ a.block < W.heap.size ∧ ∀ (i : Nat) (u : Value), (x.cells)[i]? = some u → W.cell? (a.add (k * 4 + i)) = some u) len (fun k hk => by
      obtain ⟨cs', hc, htr⟩ := hi k (by omega)
      rw [cells_actx] at hc
      obtain ⟨_, hcl, hat⟩ := World.cells?_some hc
      have hbe := blk_elem (s := (List.range (m - len)).map fun j => D (len + j)) (List.mem_map.2 ⟨k, List.mem_range.2 hk, rfl⟩ : D k ∈ (List.range len).map D)
      obtain ⟨x, rfl, h2, h3⟩ := open_actx_B htr (fun y hy => hlt y (List.mem_append_right _ (List.mem_flatMap.2 ⟨k, List.mem_range.2 (by omega), hy⟩))) (Nat.le_trans hbe hb)
      refine ⟨x, ⟨h3, h2⟩, hlt (.cell a.block (a.off + k * 4)) (List.mem_append_left _ (MemPlace.mem_row.2 ⟨k * 4, by rw [cells_actx]; omega, rfl⟩)), fun i u hu => ?_⟩
      have hiN : i < 4 := (List.getElem?_eq_some_iff.1 hu).1
      have := hat i hiN
      rw [Deep.add_add] at this
      rw [this]
      exact hu)
    refine ⟨some a, m, L, by rw [hL], fun k x hk => ?_, fun x hx => ?_, by rw [hL]; omega⟩
    · obtain ⟨h1, h2, h4⟩ := hP k x hk
      exact ⟨⟨a, rfl, h2, h4⟩, h1.2⟩
    · obtain ⟨k, hk⟩ := List.getElem?_of_mem hx
      exact (hP k x hk).1.1
end
end Go.Proofs.YtkjcpjalldbahaaGreatDoor
