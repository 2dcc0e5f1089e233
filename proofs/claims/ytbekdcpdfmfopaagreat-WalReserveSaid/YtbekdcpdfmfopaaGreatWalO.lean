/- Contract: the log of files, where one of them alone is a segment. -/
import Derived.Test.YtbekdcpdfmfopaaGreatOrdSl
import Derived.Test.YtbekdcpdfmfopaaGreatM15
import Derived.Test.YtbekdcpdfmfopaaGreatPParseW
import Derived.Test.YtbekdcpdfmfopaaGreatM01
import Derived.Test.YtbekdcpdfmfopaaGreatM06
import Derived.Deep.RegionHeld3
namespace Go.Proofs.YtbekdcpdfmfopaaGreat
open Go.RowKit

/-- A slice of one place. -/
def OneI (w : World) (v : Value) (f : Nat) : Prop := ∃ g c, v = .slice (some ⟨g, 0, none⟩) 1 c ∧ g < w.heap.size ∧ w.cell? ⟨g, 0, none⟩ = some (.int .i64 (f : Int))
def OneS (w : World) (v : Value) (x : Seg) : Prop := ∃ g c, v = .slice (some ⟨g, 0, none⟩) 1 c ∧ SegsP w (some ⟨g, 0, none⟩) [x]
theorem OneI.ext {w w' : World} {v : Value} {f : Nat} (h : OneI w v f) (hx : Ext w w') : OneI w' v f := by
  obtain ⟨g, c, e, hg, hc⟩ := h
  exact ⟨g, c, e, Nat.lt_of_lt_of_le hg hx.size, (hx.below.cell (p := ⟨g, 0, none⟩) hg).trans hc⟩
theorem OneS.ext {w w' : World} {v : Value} {x : Seg} (h : OneS w v x) (hx : Ext w w') : OneS w' v x := by
  obtain ⟨g, c, e, hs⟩ := h
  exact ⟨g, c, e, hs.ext hx⟩
theorem Fr.fresh {w w' : World} {κ' : Foot} {k : Nat} (h : Fr (fun _ => 0) (fun j => j = k) w w' κ') (hk : k ≠ 0) : Ext w w' := ⟨h.os, h.tape, h.output, h.size, fun g hg => h.other g hg (fun e => hk e.symm)⟩
section
variable {w : World} {ops : Array Oper} {rest : List Oper} {o : Oper} {a : Act} {Q : Exit → Act → World → Prop}
theorem first_seg (hgd : o.guard = none) (s x : Operand) (ho : o.op = .call { callee := .builtin .append, args := #[s, x], argTypes := #[91, 91] }) (hs : a.eval s = .slice none 0 0)
    (g : Nat) (hx : a.eval x = .slice (some ⟨g, 0, none⟩) 1 1) {y : Seg} {q : Option Addr} {c : Nat} (hb : Blk w g 119 (segC y (.slice q y.r.length c))) (hq : TextsP w q y.r)
    (hQ : ∀ v w', OneS w' v y → Ext w w' → wpList Tryz.prog ops Q rest (a.put o.dst v) w') : wpList Tryz.prog ops Q (o :: rest) a w := by
  refine push_seg hgd s x ho hs (SegSl.nil w w (fun _ => 0) 1) g hx hb hq (by simp) ?_
  intro p' c' w' κ' h1 h2
  have hx := h2.fresh (by decide)
  have h3 := h1.segs hx
  obtain ⟨a, _, _, e, _⟩ := h3 0 y rfl
  obtain ⟨p9, n9, c9, e9, _, h9⟩ := h1.lit
  obtain ⟨g9, hg9, _⟩ := h9 (by simp)
  injection e9 with e1 e2 e3
  subst e1
  rw [hg9] at h3 ⊢
  exact hQ _ w' ⟨g9, c', rfl, h3⟩ hx
theorem first_int (hgd : o.guard = none) (s x : Operand) (ho : o.op = .call { callee := .builtin .append, args := #[s, x], argTypes := #[66, 66] }) (hs : a.eval s = .slice none 0 0)
    (g : Nat) (hx : a.eval x = .slice (some ⟨g, 0, none⟩) 1 1) {f : Nat} (hb : Blk w g 3 [.int .i64 (f : Int)])
    (hQ : ∀ v w', OneI w' v f → Ext w w' → wpList Tryz.prog ops Q rest (a.put o.dst v) w') : wpList Tryz.prog ops Q (o :: rest) a w := by
  refine push_int hgd s x ho hs (IntSl.nil w (fun _ => 0) 1) g hx hb (by simp) ?_
  intro p' c' w' κ' h1 h2
  have hx := h2.fresh (by decide)
  obtain ⟨p9, c9, e9, h9⟩ := h1
  injection e9 with e1 e2 e3
  subst e1
  obtain ⟨g9, hg9, hl9, _, hc9, _⟩ := h9.cell (j := 0) (u := .int .i64 (f : Int)) rfl
  rw [hg9]
  exact hQ _ w' ⟨g9, c', rfl, hl9, hc9⟩ hx
end
section
variable {w : World} {ops : Array Oper} {o : Oper} {a : Act} {K : Act → World → Prop} {Q : Exit → Act → World → Prop} {E : Prop}
theorem step_first_seg (hgd : o.guard = none) (s x : Operand) (ho : o.op = .call { callee := .builtin .append, args := #[s, x], argTypes := #[91, 91] }) (hs : a.eval s = .slice none 0 0)
    (g : Nat) (hx : a.eval x = .slice (some ⟨g, 0, none⟩) 1 1) {y : Seg} {q : Option Addr} {c : Nat} (hb : Blk w g 119 (segC y (.slice q y.r.length c))) (hq : TextsP w q y.r)
    (hQ : ∀ v w', OneS w' v y → Ext w w' → K (a.put o.dst v) w') : if Region.wanted o (yielded ops a.tmps) = true then Oper.wp Tryz.prog o a w K Q else E := by
  have hsrc : Src Tryz.prog 7 91 (.slice (some ⟨g, 0, none⟩) 1 1) 1 (segC y (.slice q y.r.length c)) w := Src.ofSlice w Tryz.underlying91 ⟨g, 0, none⟩ 1 1 _ rfl (fun j u hj => by rw [add_zero_off]; exact hb.cell j u hj) segC_one
  refine step_append_sl hgd s x _ _ ho Tryz.underlying91 infoSeg rfl (by decide) hs (Sl.nil w (fun _ => 0) 1 7 119) (by simp) _ hx _ _ hsrc (by omega) ?_
  intro p' c' w' κ' h4 h5 _ _ _
  have hx := h5.fresh (by decide)
  have h1 : SegSl w w' κ' 1 (.slice p' (0 + 1) c') [y] := ⟨p', c', _, by simp, by simpa using h4, by have := (SegC.nil w).append (SegC.one c hq); simpa using this⟩
  have h3 := h1.segs hx
  obtain ⟨p9, n9, c9, e9, _, h9⟩ := h1.lit
  obtain ⟨g9, hg9, _⟩ := h9 (by simp)
  injection e9 with e1 e2 e3
  subst e1
  rw [hg9] at h3 ⊢
  exact hQ _ w' ⟨g9, c', rfl, h3⟩ hx
theorem step_first_int (hgd : o.guard = none) (s x : Operand) (ho : o.op = .call { callee := .builtin .append, args := #[s, x], argTypes := #[66, 66] }) (hs : a.eval s = .slice none 0 0)
    (g : Nat) (hx : a.eval x = .slice (some ⟨g, 0, none⟩) 1 1) {f : Nat} (hb : Blk w g 3 [.int .i64 (f : Int)])
    (hQ : ∀ v w', OneI w' v f → Ext w w' → K (a.put o.dst v) w') : if Region.wanted o (yielded ops a.tmps) = true then Oper.wp Tryz.prog o a w K Q else E := by
  have hsrc : Src Tryz.prog 1 66 (.slice (some ⟨g, 0, none⟩) 1 1) 1 [.int .i64 (f : Int)] w := Src.ofSlice w Tryz.underlying66 ⟨g, 0, none⟩ 1 1 _ rfl (fun j u hj => by rw [add_zero_off]; exact hb.cell j u hj) (fun u hu => by simp at hu; subst hu; rfl)
  refine step_append_sl hgd s x _ _ ho Tryz.underlying66 infoInt rfl (by decide) hs (Sl.nil w (fun _ => 0) 1 1 3) (by simp) _ hx _ _ hsrc (by omega) ?_
  intro p' c' w' κ' h4 h5 _ _ _
  have hx := h5.fresh (by decide)
  obtain ⟨g9, hg9, hl9, _, hc9, _⟩ := h4.cell (j := 0) (u := .int .i64 (f : Int)) rfl
  rw [hg9]
  exact hQ _ w' ⟨g9, c', rfl, hl9, hc9⟩ hx
end
theorem Blk.new1 (w : World) (o : Obj) (cs : List Value) (T : TypeId) : Blk ((w.alloc o).alloc (.cells cs.toArray T)) (w.heap.size + 1) T cs := by
  have := Blk.new (w.alloc o) cs T
  simpa using this
theorem segsP_one {w : World} {g : Nat} {x : Seg} (h : SegsP w (some ⟨g, 0, none⟩) [x]) : ∃ q c, g < w.heap.size ∧ TextsP w q x.r ∧ ∀ (j : Nat) (v : Value), (segC x (.slice q x.r.length c))[j]? = some v → w.cell? ⟨g, j, none⟩ = some v := by
  obtain ⟨a, q, c, e, hl, ht, hv⟩ := h 0 x rfl
  injection e with e
  subst e
  refine ⟨q, c, hl, ht, fun j v hj => ?_⟩
  have := hv j v hj
  rwa [add_zero_off, Nat.zero_mul, Nat.zero_add] at this
set_option maxRecDepth 100000 in
set_option maxHeartbeats 4000000 in
theorem logOf_one (w : World) (p : Option Addr) (c : Nat) (l : List ByteArray) (h : TextsP w p l) (hl : l.length ≤ 1000) (hs : ∀ y ∈ l, y.size ≤ 1000000) (f : Nat) (t : ByteArray) (hf : l[f]? = some t) (x : Seg) (hx : parseF t = (x, 0)) (hoth : ∀ i y, l[i]? = some y → i ≠ f → (parseF y).2 ≠ 0) (hrow : rowS [x] = ([0], 0)) (hxf : x.f < 18446744073709551616 ∧ x.r.length ≤ 140737488355328) :
    Calls Tryz.prog 45 #[.slice p l.length c] w fun e w' => ∃ v1 v2, e = .returned (.tuple #[v1, v2, .int .i64 0]) ∧ OneS w' v1 x ∧ OneI w' v2 f ∧ Ext w w' := by
  have HH := Lib.hid (fun u (hu : Ext w u) => h.ext hu)
  have HX := Lib.hid (Ext.refl w)
  have HS := Lib.hid hs; have HO := Lib.hid hoth; have HF := Lib.hid hf; have HPx := Lib.hid hx; have HXf := Lib.hid hxf
  have hfl : f < l.length := (List.getElem?_eq_some_iff.1 hf).1
  have HRow := Lib.hid (fun u q c (hq : SegsP u q [x]) => row_any u q c [x] hq (by simp) (by intro y hy; rw [List.mem_singleton.1 hy]; exact hxf))
  rw [hrow] at HRow
  clear h hs hoth hf hx hxf hrow
  go_enter Tryz.func45, Tryz.ntmps45
  go_wp2
  go_loopw [5, 6, 17] (fun av fv iv wr => ∃ j : Nat, j ≤ l.length ∧ iv = .int .i64 (j : Int) ∧ Ext w wr ∧ (if f < j then OneS wr av x ∧ OneI wr fv f else av = .slice none 0 0 ∧ fv = .slice none 0 0)) (fun _ _ iv _ => l.length - (intOf iv).toNat)
  case atStart => exact ⟨0, Nat.zero_le _, rfl, HX.out, by rw [if_neg (by omega)]; exact ⟨rfl, rfl⟩⟩
  case round =>
    obtain ⟨j, hj, rfl, hx, hav⟩ := hrel
    have HX1 := Lib.hid hx
    clear hx
    by_cases hlt : j < l.length
    · obtain ⟨y, hy⟩ : ∃ y, l[j]? = some y := ⟨_, List.getElem?_eq_getElem hlt⟩
      obtain ⟨a, e, _, hc⟩ := HH.out wr HX1.out j y hy
      subst e
      have HPa := Lib.hid (fun u => Parse_any y (HS.out y (List.mem_of_getElem? hy)) u)
      by_cases hjf : j = f
      · subst hjf
        have hyt : y = t := by have := HF.out; rw [hy] at this; injection this
        subst hyt
        rw [if_neg (by omega)] at hav
        obtain ⟨rfl, rfl⟩ := hav
        rw [HPx.out] at HPa
        unfold segV at HPa
        clear hy
        go_wp2_with (first
          | (go_at_call 68; refine (HPa.out _).mono ?_; rintro e w1 ⟨pp, pc, rfl, x1, ht1⟩; have X1 := Lib.hid (HX1.out.trans x1); have HT1 := Lib.hid ht1; clear x1 ht1)
          | (at_builtin; refine first_seg rfl (.tmp 29) (.tmp 31) rfl rfl (w1.heap.size + 1) rfl (y := x) (q := pp) (c := pc) (by have := Blk.new (w1.alloc (.cells #[.int .u8 (x.k : Int), .int .u64 (x.g : Int), .int .u64 (x.f : Int), .string x.t, .slice pp x.r.length pc, .int .i64 x.u, .bool x.w] 119)) (segC x (.slice pp x.r.length pc)) 119; simpa [segC] using this) (HT1.out.ext (((Ext.refl w1).alloc _).alloc _)) ?_; intro v2 w2 h2 x2; have H2 := Lib.hid h2; have X2 := Lib.hid ((X1.out.alloc _ |>.alloc _).trans x2); clear h2 x2)
          | (at_builtin; refine first_int rfl (.tmp 33) (.tmp 35) rfl rfl w2.heap.size rfl (Blk.new w2 _ _) ?_; intro v3 w3 h3 x3; have H3 := Lib.hid h3; have X23 := Lib.hid (((Ext.refl w2).alloc _).trans x3); clear h3 x3))
        go_roundw
        case rel => exact ⟨j + 1, hlt, by go_num, X2.out.trans X23.out, by rw [if_pos (by omega)]; exact ⟨H2.out.ext X23.out, H3.out⟩⟩
        case measure => simp [intOf]; omega
      · have hne := HO.out j y hy hjf
        obtain ⟨sy, ey, hpy⟩ : ∃ sy ey, parseF y = (sy, ey) := ⟨_, _, rfl⟩
        rw [hpy] at HPa hne
        unfold segV at HPa
        dsimp only at HPa hne
        have hne2 : ((ey : Int) == 0) = false := by rw [beq_eq_false_iff_ne]; omega
        have HAv : Hid (if f < j + 1 then OneS wr u5 x ∧ OneI wr u6 f else u5 = .slice none 0 0 ∧ u6 = .slice none 0 0) := Lib.hid (by
          by_cases hfj : f < j
          · rw [if_pos hfj] at hav; rw [if_pos (by omega)]; exact hav
          · rw [if_neg hfj] at hav; rw [if_neg (by omega)]; exact hav)
        clear hy hav hne hpy
        go_wp2_with (first
          | (go_at_call 68; refine (HPa.out _).mono ?_; rintro e w1 ⟨pp, pc, rfl, x1, ht1⟩; have X1 := Lib.hid x1; clear x1 ht1))
        go_roundw
        case rel => exact ⟨j + 1, hlt, by go_num, (HX1.out.trans X1.out).alloc _, by
          have h1 := HAv.out
          have h2 := X1.out.alloc (.cells #[.int .u8 (sy.k : Int), .int .u64 (sy.g : Int), .int .u64 (sy.f : Int), .string sy.t, .slice pp sy.r.length pc, .int .i64 sy.u, .bool sy.w] 119)
          split at h1
          · rw [if_pos (by omega)]; exact ⟨h1.1.ext h2, h1.2.ext h2⟩
          · rw [if_neg (by omega)]; exact h1⟩
        case measure => simp [intOf]; omega
    · obtain rfl : j = l.length := by omega
      rw [if_pos (by omega)] at hav
      obtain ⟨⟨g1, c1, rfl, hs1⟩, hi1⟩ := hav
      have HS1 := Lib.hid hs1; have HI1 := Lib.hid hi1
      have HRw := Lib.hid (HRow.out wr _ c1 hs1)
      clear hs1 hi1
      go_wp2_with (first
        | (go_at_call 69; refine (HRw.out).mono ?_; rintro e w5 ⟨q5, c5, rfl, hv5, x5⟩; have HV5 := Lib.hid hv5; have X5 := Lib.hid x5; clear hv5 x5))
      obtain ⟨g2, c2, rfl, hg2, hc2⟩ := HI1.out
      have HS5 := Lib.hid (HS1.out.ext X5.out)
      have HC2 := Lib.hid ((X5.out.below.cell (p := ⟨g2, 0, none⟩) hg2).trans hc2)
      have HX5 := Lib.hid (HX1.out.trans X5.out)
      have HG2 := Lib.hid (Nat.lt_of_lt_of_le hg2 X5.out.size)
      clear hg2 hc2
      go_loopw [2, 3, 47] (fun av fv iv wr2 => ∃ j : Nat, j ≤ 1 ∧ iv = .int .i64 (j : Int) ∧ Ext w5 wr2 ∧ (if 0 < j then OneS wr2 av x ∧ OneI wr2 fv f else av = .slice none 0 0 ∧ fv = .slice none 0 0)) (fun _ _ iv _ => 1 - (intOf iv).toNat)
      case atStart => exact ⟨0, Nat.zero_le _, rfl, Ext.refl _, by rw [if_neg (by omega)]; exact ⟨rfl, rfl⟩⟩
      case round =>
        obtain ⟨j2, hj2, rfl, hx2, hav2⟩ := hrel
        have HX2 := Lib.hid (HX5.out.trans hx2)
        by_cases hlt2 : j2 < 1
        · obtain rfl : j2 = 0 := by omega
          rw [if_neg (by omega)] at hav2
          have HA2 := Lib.hid hav2.1; have HA3 := Lib.hid hav2.2
          clear hav2
          obtain ⟨a5, e5, hl5, k5⟩ := HV5.out 0 _ rfl
          subst e5
          rw [add_zeroA] at k5
          have k5r := (hx2.below.cell (p := a5) hl5).trans k5
          dsimp only at k5r
          obtain ⟨pq, pc, hg1, ht1, hcs⟩ := segsP_one (HS5.out.ext hx2)
          have HC6 := Lib.hid (fun u (hu : Ext wr u) => (⟨(hu.below.cell (p := ⟨g1, 0, none⟩) hg1).trans (hcs 0 _ rfl), (hu.below.cell (p := ⟨g1, 1, none⟩) hg1).trans (hcs 1 _ rfl), (hu.below.cell (p := ⟨g1, 2, none⟩) hg1).trans (hcs 2 _ rfl), (hu.below.cell (p := ⟨g1, 3, none⟩) hg1).trans (hcs 3 _ rfl), (hu.below.cell (p := ⟨g1, 4, none⟩) hg1).trans (hcs 4 _ rfl), (hu.below.cell (p := ⟨g1, 5, none⟩) hg1).trans (hcs 5 _ rfl), (hu.below.cell (p := ⟨g1, 6, none⟩) hg1).trans (hcs 6 _ rfl), (((hx2.trans hu).below.cell (p := ⟨g2, 0, none⟩) HG2.out).trans HC2.out), hu⟩ : u.cell? ⟨g1, 0, none⟩ = some (.int .u8 (x.k : Int)) ∧ u.cell? ⟨g1, 1, none⟩ = some (.int .u64 (x.g : Int)) ∧ u.cell? ⟨g1, 2, none⟩ = some (.int .u64 (x.f : Int)) ∧ u.cell? ⟨g1, 3, none⟩ = some (.string x.t) ∧ u.cell? ⟨g1, 4, none⟩ = some (.slice pq x.r.length pc) ∧ u.cell? ⟨g1, 5, none⟩ = some (.int .i64 x.u) ∧ u.cell? ⟨g1, 6, none⟩ = some (.bool x.w) ∧ u.cell? ⟨g2, 0, none⟩ = some (.int .i64 (f : Int)) ∧ Ext wr u))
          have HT6 := Lib.hid ht1
          clear hcs ht1 hg1 k5 hl5
          go_upto_region 16 with (fail)
          have x0 : Ext wr wr.drew := (Ext.refl wr).drew
          have hS := HC6.out _ x0
          clear k5r
          go_region_held3 (fun u => u.cell? ⟨g1, 0, none⟩ = some (.int .u8 (x.k : Int)) ∧ u.cell? ⟨g1, 1, none⟩ = some (.int .u64 (x.g : Int)) ∧ u.cell? ⟨g1, 2, none⟩ = some (.int .u64 (x.f : Int)) ∧ u.cell? ⟨g1, 3, none⟩ = some (.string x.t) ∧ u.cell? ⟨g1, 4, none⟩ = some (.slice pq x.r.length pc) ∧ u.cell? ⟨g1, 5, none⟩ = some (.int .i64 x.u) ∧ u.cell? ⟨g1, 6, none⟩ = some (.bool x.w) ∧ u.cell? ⟨g2, 0, none⟩ = some (.int .i64 (f : Int)) ∧ Ext wr u) (first | exact hS | exact hS1 | exact hS2 | assumption | exact HC6.out _ (by repeat' (first | assumption | exact Ext.refl _ | refine Ext.drew ?_ | refine Ext.alloc ?_ _)) | go_keep) (first
            | (refine step_first_seg rfl (.tmp 51) (.tmp 56) rfl (by simpa [Act.eval] using HA2.out) _ (by rfl) (y := x) (q := pq) (c := pc) (by first | exact (Blk.new _ _ _).ext (by repeat' (first | assumption | exact Ext.refl _ | exact (Ext.drew (Ext.refl _)).trans x7 | exact (Ext.drew (Ext.refl _)).trans x8 | exact (Ext.drew (Ext.alloc (Ext.refl _) _)).trans x7 | exact (Ext.drew (Ext.alloc (Ext.refl _) _)).trans x8 | refine Ext.drew ?_ | refine Ext.alloc ?_ _)) | exact (Blk.new1 _ _ _ _).ext (by repeat' (first | assumption | exact Ext.refl _ | exact (Ext.drew (Ext.refl _)).trans x7 | exact (Ext.drew (Ext.refl _)).trans x8 | exact (Ext.drew (Ext.alloc (Ext.refl _) _)).trans x7 | exact (Ext.drew (Ext.alloc (Ext.refl _) _)).trans x8 | refine Ext.drew ?_ | refine Ext.alloc ?_ _))) (HT6.out.ext (by repeat' (first | assumption | exact Ext.refl _ | refine Ext.drew ?_ | refine Ext.alloc ?_ _))) ?_; intro v7 w7 h7 x7; have hS1 := HC6.out _ (Ext.trans (a := wr) (by repeat' (first | assumption | exact Ext.refl _ | refine Ext.drew ?_ | refine Ext.alloc ?_ _)) x7); have y7 := hS1.2.2.2.2.2.2.2.2)
            | (refine step_first_int rfl (.tmp 58) (.tmp 63) rfl (by simpa [Act.eval] using HA3.out) _ (by rfl) (f := f) (by first | exact (Blk.new _ _ _).ext (by repeat' (first | assumption | exact Ext.refl _ | exact (Ext.drew (Ext.refl _)).trans x7 | exact (Ext.drew (Ext.refl _)).trans x8 | exact (Ext.drew (Ext.alloc (Ext.refl _) _)).trans x7 | exact (Ext.drew (Ext.alloc (Ext.refl _) _)).trans x8 | refine Ext.drew ?_ | refine Ext.alloc ?_ _)) | exact (Blk.new1 _ _ _ _).ext (by repeat' (first | assumption | exact Ext.refl _ | exact (Ext.drew (Ext.refl _)).trans x7 | exact (Ext.drew (Ext.refl _)).trans x8 | exact (Ext.drew (Ext.alloc (Ext.refl _) _)).trans x7 | exact (Ext.drew (Ext.alloc (Ext.refl _) _)).trans x8 | refine Ext.drew ?_ | refine Ext.alloc ?_ _))) ?_; intro v8 w8 h8 x8; have hS2 := HC6.out _ (Ext.trans (a := wr) (by repeat' (first | assumption | exact Ext.refl _ | refine Ext.drew ?_ | refine Ext.alloc ?_ _)) x8); have y8 := hS2.2.2.2.2.2.2.2.2))
          all_goals
            clear hS hS1 hS2
            have H7 := Lib.hid h7; have H8 := Lib.hid h8
            clear h7 h8
            go_wp2
            go_roundw
            case rel => exact ⟨1, by omega, rfl, hx2.trans (by assumption), by rw [if_pos (by omega)]; exact ⟨by first | exact H7.out | exact H7.out.ext (by repeat' (first | assumption | exact Ext.refl _ | exact (Ext.drew (Ext.refl _)).trans x8 | exact (Ext.alloc (Ext.refl _) _).trans x8 | exact (Ext.drew (Ext.alloc (Ext.refl _) _)).trans x8 | refine Ext.drew ?_ | refine Ext.alloc ?_ _) ), by first | exact H8.out | exact H8.out.ext (by repeat' (first | assumption | exact Ext.refl _ | exact (Ext.drew (Ext.refl _)).trans x7 | exact (Ext.alloc (Ext.refl _) _).trans x7 | exact (Ext.drew (Ext.alloc (Ext.refl _) _)).trans x7 | refine Ext.drew ?_ | refine Ext.alloc ?_ _))⟩⟩
            case measure => simp [intOf]
        · obtain rfl : j2 = 1 := by omega
          rw [if_pos (by omega)] at hav2
          have HA2 := Lib.hid hav2.1; have HA3 := Lib.hid hav2.2
          clear hav2
          go_wp2
          go_ret3
          exact ⟨_, _, rfl, HA2.out, HA3.out, HX2.out⟩
end Go.Proofs.YtbekdcpdfmfopaaGreat
