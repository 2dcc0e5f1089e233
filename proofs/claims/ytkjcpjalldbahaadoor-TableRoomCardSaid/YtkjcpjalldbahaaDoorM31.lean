/- Contracts: the rows of a table, by the program. Contract: whether two lists of texts are the same, by layer 18's law. -/
import Derived.Test.YtkjcpjalldbahaaDoorM18
import Derived.Test.YtkjcpjalldbahaaDoorM30
import Derived.Test.YtkjcpjalldbahaaDoorM02
import Derived.Test.YtkjcpjalldbahaaDoorM09
import Derived.Lib.Strings
import Derived.Deep.QuietTactic
import Derived.BigQuiet
import Derived.Outline
section
namespace Go.Proofs.YtkjcpjalldbahaaDoor
open Go.RowKit Go.ChangeMaps Go.MapKept

def Ent.cells (e : Ent) : List Value := [.string e.p, .int .u64 (e.m : Int), .slice e.a e.L.length e.c]
def entCells (M : List Ent) : List Value := M.flatMap Ent.cells
theorem entCells_len (M : List Ent) : (entCells M).length = M.length * 3 := by
  induction M with
  | nil => rfl
  | cons a r ih => simp only [entCells, Ent.cells, List.flatMap_cons, List.length_append, List.length_cons, List.length_nil] at ih ⊢; omega
theorem entCells_app (M K : List Ent) : entCells (M ++ K) = entCells M ++ entCells K := by simp [entCells]
theorem entCells_one (M : List Ent) : ∀ u ∈ entCells M, u.oneCell' = true := fun u hu => by
  obtain ⟨x, _, hx⟩ := List.mem_flatMap.1 hu
  simp only [Ent.cells, List.mem_cons, List.not_mem_nil, or_false] at hx
  rcases hx with rfl | rfl | rfl <;> rfl
theorem entCells_get : ∀ (L : List Ent) (i : Nat) (x : Ent), L[i]? = some x → ∀ (k : Nat) (u : Value), x.cells[k]? = some u → (entCells L)[i * 3 + k]? = some u
  | [], i, x, h => by simp at h
  | a :: r, 0, x, h => by
    simp at h; subst h
    intro k u hu
    have : k < 3 := (List.getElem?_eq_some_iff.1 hu).1
    rw [entCells, List.flatMap_cons, List.getElem?_append_left (by simp [Ent.cells]; omega)]
    simpa using hu
  | a :: r, i + 1, x, h => by
    intro k u hu
    have ih := entCells_get r i x (by simpa using h) k u hu
    rw [entCells, List.flatMap_cons, List.getElem?_append_right (by simp [Ent.cells]; omega)]
    rw [show (i + 1) * 3 + k - (Ent.cells a).length = i * 3 + k by simp [Ent.cells]; omega]
    exact ih
theorem infoRow : (Tryd.prog.info? 56).map (fun i => (i.zero, i.size, i.bytes)) = some (some (.agg #[.string ⟨#[]⟩, .int .u64 0, .slice none 0 0]), 3, 48) := by kernel_rfl
theorem src_row (w : World) (g : Nat) (e : Ent) (h : Blk w g 56 e.cells) : Src Tryd.prog 3 24 (.slice (some ⟨g, 0, none⟩) 1 1) 1 (entCells [e]) w := by
  refine Src.ofSlice w Tryd.underlying24 ⟨g, 0, none⟩ 1 1 _ (by rw [entCells_len]; rfl) (fun j v hj => ?_) (entCells_one _)
  rw [Addr.add_mid, Nat.zero_add]
  exact h.cell j v (by simpa [entCells] using hj)
/-- The cells from the address on, if there are any, are these rows; their versions are there. -/
def RowsP (w : World) (p : Option Addr) (M : List Ent) : Prop := (∀ (k : Nat) (x : Ent), M[k]? = some x → ∃ a, p = some a ∧ a.block < w.heap.size ∧ ∀ (j : Nat) (v : Value), x.cells[j]? = some v → w.cell? (a.add (k * 3 + j)) = some v) ∧ ∀ e ∈ M, VersP w e.a e.L
/-- A slice of rows of its own, each with versions of its own; none of them lies below B. -/
structure IsRows (w : World) (B : Nat) (p : Option Addr) (c : Nat) (M : List Ent) : Prop where
  sl : Sl w (kp p) 1 3 56 p M.length c (entCells M)
  low : ∀ g, p = some ⟨g, 0, none⟩ → B ≤ g
  vers : ∀ e ∈ M, IsV w B e.a e.c e.L
section
variable {w w' : World} {B : Nat} {p : Option Addr} {c : Nat} {M : List Ent}
theorem RowsP.ext (h : RowsP w p M) (hx : Ext w w') : RowsP w' p M := ⟨fun k x hk => by
  obtain ⟨a, h1, h2, h4⟩ := h.1 k x hk
  exact ⟨a, h1, Nat.lt_of_lt_of_le h2 hx.size, fun j v hv => by rw [hx.below.cell (p := a.add (k * 3 + j)) (by rw [add_blockV]; omega)]; exact h4 j v hv⟩, fun e he => (h.2 e he).ext hx⟩
theorem RowsP.turn {S : Nat → Prop} (h : RowsP w p M) (f : Turn S w w') (hS : ∀ g, S g → NoV w g) : RowsP w' p M := ⟨fun k x hk => by
  obtain ⟨a, h1, h2, h3⟩ := h.1 k x hk
  have hn : ¬ S a.block := fun q => hS _ q (a.add (k * 3 + 1)) (add_blockV _ _) _ (h3 1 _ rfl)
  refine ⟨a, h1, Nat.lt_of_lt_of_le h2 f.size, fun j v hv => ?_⟩
  rw [← h3 j v hv]
  have hbl := f.other a.block h2 hn
  unfold World.cell?
  rw [add_blockV, hbl], fun e he => (h.2 e he).turn f hS⟩
theorem RowsP.three (h : RowsP w p M) (hx : Ext w w') {j : Nat} {x : Ent} (hj : M[j]? = some x) : ∃ a, p = some a ∧ w'.cell? (a.add (j * 3)) = some (.string x.p) ∧ w'.cell? ⟨(a.add (j * 3)).block, (a.add (j * 3)).off + 1, none⟩ = some (.int .u64 (x.m : Int)) ∧ w'.cell? ⟨(a.add (j * 3)).block, (a.add (j * 3)).off + 2, none⟩ = some (.slice x.a x.L.length x.c) := by
  obtain ⟨a, e, _, h⟩ := (h.ext hx).1 j x hj
  exact ⟨a, e, h 0 _ rfl, ver_at (h 1 _ rfl), ver_at (h 2 _ rfl)⟩
theorem IsRows.nil (w : World) (B : Nat) : IsRows w B none 0 [] := ⟨Sl.nil _ _ _ _ _, (fun _ h => by cases h), (fun _ h => by cases h)⟩
theorem IsRows.ext (h : IsRows w B p c M) (x : Ext w w') : IsRows w' B p c M := ⟨h.sl.ext x, h.low, fun e he => (h.vers e he).ext x⟩
theorem IsRows.base {A : Nat} (h : IsRows w B p c M) (hA : A ≤ B) : IsRows w A p c M := ⟨h.sl, fun g hg => Nat.le_trans hA (h.low g hg), fun e he => (h.vers e he).base hA⟩
theorem IsRows.rowsP (h : IsRows w B p c M) : RowsP w p M := ⟨fun k x hk => by
  obtain ⟨g, h1, h2, _, _, _⟩ := h.sl.cell (entCells_get M k x hk 0 _ rfl)
  refine ⟨_, h1, h2, fun j v hv => ?_⟩
  obtain ⟨g', e, _, _, h4, _⟩ := h.sl.cell (entCells_get M k x hk j v hv)
  rw [h1] at e
  cases e
  rw [Addr.add_mid, Nat.zero_add]
  exact h4, fun e he => (h.vers e he).vers⟩
theorem keepA_of_frZ {z : Nat} {T : TypeId} {vs : List Value} {κ' : Foot} {n : Nat} (hs : Sl w (kp p) 1 z T p n c vs) (hl : ∀ g, p = some ⟨g, 0, none⟩ → B ≤ g) (hB : B ≤ w.heap.size) (f : Fr (kp p) (fun j => j = 1) w w' κ') (hx : c = 0 → Ext w w') : KeepA T B w w' := by
  refine ⟨f.below (by decide) (fun g hg => ?_) hB, fun g o ho hn => ?_⟩
  · unfold kp
    rw [if_neg fun e => by have := hl g e; omega]
  · by_cases hc : c = 0
    · exact ((hx hc).block g (heap_lt ho)).trans ho
    · obtain ⟨g', cur, e1, _, h3, _⟩ := hs.2.2.2 (by omega)
      by_cases e : g = g'
      · subst e
        rw [h3] at ho
        cases ho
        exact absurd rfl (hn _ _)
      · refine (f.other g (heap_lt ho) fun q => ?_).trans ho
        have := kp_one q
        rw [e1] at this
        cases this
        exact e rfl
theorem isRows_grown {w4 : World} {n c4 g0 : Nat} {p4 : Option Addr} {κ4 : Foot} {e : Ent} (s : Sl w4 κ4 1 3 56 p4 (n + 1) c4 (entCells M ++ entCells [e])) (hl : M.length = n) (he : p4 = p ∨ p4 = some ⟨g0, 0, none⟩) (low : ∀ g, p = some ⟨g, 0, none⟩ → B ≤ g) (hB : B ≤ g0) (hv : ∀ x ∈ M, IsV w4 B x.a x.c x.L) (hv2 : IsV w4 B e.a e.c e.L) : IsRows w4 B p4 c4 (M ++ [e]) := by
  refine ⟨?_, fun g hg => ?_, fun x hx => by
    rcases List.mem_append.1 hx with hx | hx
    · exact hv x hx
    · rw [List.mem_singleton] at hx; subst hx; exact hv2⟩
  · rw [entCells_app, List.length_append, hl]
    exact s.kp
  · rcases he with q | q
    · rw [q] at hg; exact low g hg
    · rw [q] at hg; cases hg; exact hB
end
set_option maxRecDepth 100000 in
set_option maxHeartbeats 4000000 in
theorem trows_any (w : World) (lo t b : Nat) (qp qb : Int) (R : List RowP) (h : IsT w lo t b qp qb R) (hl : R.length ≤ 90000) :
    Calls Tryd.prog 9 #[.pointer (some ⟨t, 0, none⟩)] w fun e w' => ∃ pv, (∃ cv M, e = .returned (.slice pv R.length cv) ∧ M.map Ent.row = R ∧ IsRows w' w.heap.size pv cv M) ∧ Ext w w' := by
  have hc := h.cell
  have HIT := Lib.hid h
  have HKy := Lib.hid (fun u => keysC_any (some b) u)
  have HSo := Lib.hid (sorted_paths w lo b R h.map h.good.up (fun r hr => may_size (h.good.each r hr).path) (by omega))
  obtain ⟨n, hn⟩ : ∃ n, R.length = n := ⟨_, rfl⟩
  have HN := Lib.hid hn
  rw [hn] at hl ⊢
  clear h hn
  go_enter Tryd.func9, Tryd.ntmps9
  go_wp2_with (first
    | (go_at_call 20; refine (tthere_yes _ t b hc).mono ?_; rintro e w1 ⟨rfl, rfl⟩)
    | (go_at_call 22; refine (HKy.out _).mono ?_; rintro e w1 ⟨rfl, hw⟩; rw [hw])
    | (go_at_call 21; refine HSo.out.mono ?_; rintro e w2 ⟨v, rfl, hb, x2⟩; obtain ⟨pk, ck, rfl, tk, -⟩ := hb.texts; have HX2 := Lib.hid x2; have HTk := Lib.hid tk; rw [List.length_map, HN.out]; clear hb x2 tk))
  go_loopw [3, 17] (fun sv iv wr => ∃ (j : Nat) (M : List Ent) (pv : Option Addr) (cv : Nat), j ≤ n ∧ iv = .int .i64 (j : Int) ∧ sv = .slice pv j cv ∧ Hid (M.length = j ∧ M.map Ent.row = R.take j) ∧ Hid (IsRows wr w2.heap.size pv cv M) ∧ Hid (Ext w2 wr)) (fun _ iv _ => n - (intOf iv).toNat)
  case atStart => exact ⟨0, [], none, 0, Nat.zero_le _, rfl, rfl, Lib.hid ⟨rfl, rfl⟩, Lib.hid (IsRows.nil _ _), Lib.hid (Ext.refl _)⟩
  case round =>
    obtain ⟨j, M, pv, cv, hj, rfl, rfl, HM, HRo, HX⟩ := hrel
    by_cases hlt : j < n
    · obtain ⟨⟨rp, rm, rL⟩, hx⟩ : ∃ r, R[j]? = some r := ⟨_, List.getElem?_eq_getElem (by have := HN.out; omega)⟩
      have hxm := List.mem_of_getElem? hx
      have hok := HIT.out.good.each _ hxm
      obtain ⟨a0, rfl, _, c0⟩ := (HTk.out.ext HX.out) j rp (by rw [List.getElem?_map, hx]; rfl)
      have HXw := Lib.hid (HX2.out.trans HX.out)
      have hcr : cellR R rp = (rm, rL) := cellR_some (lookR_of HIT.out.good.up hxm)
      obtain ⟨ax, cx, hv, -, hrun⟩ := (HIT.out.ext HXw.out).map.look rp (by have := may_size hok.path; have h2 : rp.size ≤ 128 := this; omega)
      rw [hcr] at hv hrun
      dsimp only at hv hrun
      have hrl : rL.length ≤ 8 := hok.len
      obtain ⟨nl, hnl⟩ : ∃ nl, rL.length = nl := ⟨_, rfl⟩
      have HNL := Lib.hid hnl
      have hl2 := hrun wr (Ext.refl wr) false
      simp only [Bool.false_eq_true, if_false] at hl2
      rw [hnl] at hl2
      have hc2 := (HIT.out.ext HXw.out).cell
      have HCl := Lib.hid (cloneV_any (wr.alloc (.cells #[.int .u64 (rm : Int), .slice ax nl cx] 54)) ax cx rL (hv.ext ((Ext.refl wr).alloc _)) (by omega))
      rw [hnl] at HCl
      have HB1 := Lib.hid (Blk.new wr [.int .u64 (rm : Int), .slice ax nl cx] 54)
      have HX1 := Lib.hid ((Ext.refl wr).alloc (.cells #[.int .u64 (rm : Int), .slice ax nl cx] 54))
      have HTake : Hid (R.take (j + 1) = R.take j ++ [⟨rp, rm, rL⟩]) := Lib.hid (by rw [List.take_add_one, hx]; rfl)
      have hj1 : j + 1 ≤ 1000000000 := by omega
      have hMl := HM.out.1
      clear hx hxm hok hcr hv hrun hrl hnl hMl
      go_wp2_with (first
        | (go_at_call 23; refine HCl.out.mono ?_; rintro e w3 ⟨q, c1, rfl, v3, x3⟩; have HX3 := Lib.hid (HX1.out.trans x3); have B1 := Lib.hid (HB1.out.ext x3); have b0 := B1.out.cell 0 _ rfl; have b1 := B1.out.cell 1 _ rfl; have bf0 := B1.out.frozen 0; have bf1 := B1.out.frozen 1; have HV3 : Hid (IsV w3 w2.heap.size q c1 rL) := Lib.hid (v3.base (HX.out.trans HX1.out).size); have HV4 : Hid (IsV ((w3.setCell ⟨wr.heap.size, 1, none⟩ (.slice q nl c1)).alloc (.cells #[.string rp, .int .u64 (rm : Int), .slice q nl c1] 56)) w2.heap.size q c1 rL) := Lib.hid ((HV3.out.parted B1.out (by decide) _).ext ((Ext.refl _).alloc _)); have HXa : Hid (Ext wr (w3.setCell ⟨wr.heap.size, 1, none⟩ (.slice q nl c1))) := Lib.hid (HX3.out.setCell (p := ⟨wr.heap.size, 1, none⟩) (Nat.le_refl _) _); have HX4 : Hid (Ext wr ((w3.setCell ⟨wr.heap.size, 1, none⟩ (.slice q nl c1)).alloc (.cells #[.string rp, .int .u64 (rm : Int), .slice q nl c1] 56))) := Lib.hid (HXa.out.alloc _); have HR4 := Lib.hid (HRo.out.ext HX4.out); have HSLB : Hid (Sl ((w3.setCell ⟨wr.heap.size, 1, none⟩ (.slice q nl c1)).alloc (.cells #[.string rp, .int .u64 (rm : Int), .slice q nl c1] 56)) (kp pv) 1 3 56 pv j cv (entCells M)) := Lib.hid (by have := HR4.out.sl; rwa [HM.out.1] at this); have HSRC : Hid (Src Tryd.prog 3 24 (.slice (some ⟨w3.heap.size, 0, none⟩) 1 1) 1 (entCells [⟨rp, rm, rL, q, c1⟩]) ((w3.setCell ⟨wr.heap.size, 1, none⟩ (.slice q nl c1)).alloc (.cells #[.string rp, .int .u64 (rm : Int), .slice q nl c1] 56))) := Lib.hid (src_row _ _ ⟨rp, rm, rL, q, c1⟩ (by have := Blk.new (w3.setCell ⟨wr.heap.size, 1, none⟩ (.slice q nl c1)) [.string rp, .int .u64 (rm : Int), .slice q nl c1] 56; simp only [World.setCell, Array.size_modify] at this; unfold Ent.cells; dsimp only; rw [HNL.out]; exact this)); have HSZ : Hid (w2.heap.size ≤ ((w3.setCell ⟨wr.heap.size, 1, none⟩ (.slice q nl c1)).alloc (.cells #[.string rp, .int .u64 (rm : Int), .slice q nl c1] 56)).heap.size) := Lib.hid (HX.out.trans HX4.out).size; clear x3 v3)
        | (refine wpList_append_sl rfl (.tmp 31) (.tmp 35) 24 24 rfl Tryd.underlying24 infoRow rfl (by decide) rfl HSLB.out (entCells_one M) _ rfl 1 _ HSRC.out hj1 ?_; intro p4 c4 w5 κ4 s4 f4 e4 x4 o4; have HK := Lib.hid (keepA_of_frZ HSLB.out HR4.out.low HSZ.out f4 x4); have HR5 : Hid (IsRows w5 w2.heap.size p4 c4 (M ++ [⟨rp, rm, rL, q, c1⟩])) := Lib.hid (isRows_grown s4 HM.out.1 e4 HR4.out.low HSZ.out (fun x hx => (HR4.out.vers x hx).keepA HK.out (by decide)) (HV4.out.keepA HK.out (by decide))); clear s4 f4 e4 x4 o4))
      go_roundw
      case rel => exact ⟨j + 1, M ++ [⟨rp, rm, rL, q, c1⟩], p4, c4, hlt, by go_num, rfl, Lib.hid ⟨by rw [List.length_append, HM.out.1]; rfl, by rw [List.map_append, HM.out.2, HTake.out]; rfl⟩, HR5, Lib.hid ((HX.out.trans HX4.out).trans3 HK.out.below)⟩
      case measure => simp [intOf]; omega
    · obtain rfl : j = n := by omega
      go_wp2
      go_ret
      exact ⟨pv, ⟨cv, M, rfl, by rw [HM.out.2, List.take_of_length_le (by rw [HN.out]; exact Nat.le_refl _)], HRo.out.base HX2.out.size⟩, HX2.out.trans HX.out⟩
end Go.Proofs.YtkjcpjalldbahaaDoor
end

section
namespace Go.Proofs.YtkjcpjalldbahaaDoor
open Go.RowKit

theorem lists_eq {l m : List ByteArray} (hlm : l.length = m.length) (h : ∀ i, i < l.length → l[i]? = m[i]?) : l = m := by
  apply List.ext_getElem? 
  intro i
  by_cases hi : i < l.length
  · exact h i hi
  · rw [List.getElem?_eq_none (by omega), List.getElem?_eq_none (by omega)]
theorem txt_ne {x y : ByteArray} (h : ¬ x = y) : (x.toList == y.toList) = false := by
  rw [beq_eq_false_iff_ne]
  intro e
  rw [Lib.toList_data, Lib.toList_data] at e
  exact h (by rw [← toB_of x, e, toB_of])
set_option maxRecDepth 100000 in
set_option maxHeartbeats 2000000 in
theorem texts18_is (w : World) (p q : Option Addr) (c d n k : Nat) (l m : List ByteArray) (hn : l.length = n) (hk : m.length = k) (hl : TextsP w p l) (hm : TextsP w q m) (hn6 : n ≤ 1000000) (hk6 : k ≤ 1000000) (b : Bool) (hb : b = true ↔ l = m) :
    Calls Tryd.prog 16 #[.slice p n c, .slice q k d] w fun e w' => e = .returned (.bool b) ∧ Ext w w' := by
  have HL := Lib.hid (fun u (hu : Ext w u) => hl.ext hu)
  have HM := Lib.hid (fun u (hu : Ext w u) => hm.ext hu)
  have HB := Lib.hid hb
  by_cases hnk : n = k
  · subst hnk
    have HE := Lib.hid (fun h => lists_eq (l := l) (m := m) (by omega) h)
    have HN := Lib.hid hn; have HK := Lib.hid hk
    clear hl hm hb hn hk
    go_enter Tryd.func16, Tryd.ntmps16
    go_wp2
    go_loopw [5] (fun i wr => ∃ j : Nat, j ≤ n ∧ i = .int .i64 (j : Int) ∧ Hid (∀ i, i < j → l[i]? = m[i]?) ∧ Hid (Ext w wr)) (fun i _ => n - (intOf i).toNat)
    case atStart => exact ⟨0, Nat.zero_le _, rfl, Lib.hid (fun i hi => by omega), Lib.hid (Ext.refl _)⟩
    case round =>
      obtain ⟨j, hj, rfl, hs, hx⟩ := hrel
      by_cases hlt : j < n
      · obtain ⟨x, hxj⟩ : ∃ x, l[j]? = some x := ⟨_, List.getElem?_eq_getElem (by have := HN.out; omega)⟩
        obtain ⟨y, hyj⟩ : ∃ y, m[j]? = some y := ⟨_, List.getElem?_eq_getElem (by have := HK.out; omega)⟩
        obtain ⟨a, rfl, _, hc1⟩ := HL.out _ hx.out j x hxj
        obtain ⟨a2, rfl, _, hc2⟩ := HM.out _ hx.out j y hyj
        have HX := Lib.hid hxj; have HY := Lib.hid hyj
        clear hxj hyj
        by_cases hxy : x = y
        · subst hxy
          go_wp2
          go_quiet (fail)
          go_wp2
          go_roundw
          case rel => 
            refine ⟨j + 1, hlt, by go_num, Lib.hid fun i hi => ?_, Lib.hid (hx.out.drewN _)⟩
            by_cases hij : i = j
            · rw [hij, HX.out, HY.out]
            · exact hs.out i (by omega)
          case measure => simp [intOf]; omega
        · have hne := txt_ne hxy
          have hbf : b = false := by
            cases b with
            | false => rfl
            | true =>
              have := HB.out.1 rfl
              subst this
              have h1 := HX.out
              rw [HY.out] at h1
              exact absurd (Option.some.inj h1).symm hxy
          subst hbf
          go_wp2
          go_quiet (fail)
          go_wp2
          go_ret
          exact ⟨rfl, hx.out.drewN _⟩
      · obtain rfl : j = n := by omega
        have hbt : b = true := HB.out.2 (HE.out (by have := HN.out; intro i hi; exact hs.out i (by omega)))
        subst hbt
        go_wp2
        go_ret
        exact ⟨rfl, hx.out⟩
  · have hbf : b = false := by
      cases b with
      | false => rfl
      | true => exact absurd (congrArg List.length (hb.1 rfl)) (by omega)
    subst hbf
    have hnk2 : ((n : Int) != (k : Int)) = true := by rw [bne_iff_ne]; omega
    clear hl hm hb hn hk
    go_enter Tryd.func16, Tryd.ntmps16
    go_wp2
    go_ret
    exact ⟨rfl, Ext.refl _⟩
theorem texts18_dec (w : World) (p q : Option Addr) (c d n k : Nat) (l m : List ByteArray) (hn : l.length = n) (hk : m.length = k) (hl : TextsP w p l) (hm : TextsP w q m) (hn6 : n ≤ 1000000) (hk6 : k ≤ 1000000) :
    Calls Tryd.prog 16 #[.slice p n c, .slice q k d] w fun e w' => e = .returned (.bool (decide (l = m))) ∧ Ext w w' :=
  texts18_is w p q c d n k l m hn hk hl hm hn6 hk6 _ (by simp)
end Go.Proofs.YtkjcpjalldbahaaDoor
end
