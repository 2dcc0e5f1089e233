/- Contracts: no record is too long; the pieces that records are written as, handed out, where they all go to the last file. Contracts: a place among one; calls with a sync behind them; what is mended where the log is one segment. -/
import Derived.Test.YtbekdcpdfmfopaaGreatWalN
import Derived.Test.YtbekdcpdfmfopaaGreatM21
import Derived.Test.YtbekdcpdfmfopaaGreatWalT
section
namespace Go.Proofs.YtbekdcpdfmfopaaGreat
open Go.RowKit Go.Shelf
attribute [local go_sem] Oper.semAt_some

theorem field_part (f n : Int) (u : World) : (Instr.field 75 (.agg #[.int .i64 f, .int .i64 n]) 1).run Tryz.prog u = .ok (.int .i64 n) u := by kernel_rfl
theorem field_part0 (f n : Int) (u : World) : (Instr.field 75 (.agg #[.int .i64 f, .int .i64 n]) 0).run Tryz.prog u = .ok (.int .i64 f) u := by kernel_rfl
theorem isLong_no (t : ByteArray) (ht : t.size ≤ 65536) (w : World) : Calls Tryz.prog 37 #[.string t] w fun e w' => e = .returned (.bool false) ∧ w = w' := by
  have h1 : ¬ (65536 : Int) < (t.size : Int) := by omega
  go_enter Tryz.func37, Tryz.ntmps37
  go_wp2
  go_ret
  exact ⟨rfl, rfl⟩
theorem longs_no (w : World) (p : Option Addr) (c : Nat) (l : List ByteArray) (h : TextsP w p l) (hl : l.length ≤ 1000000) (hs : ∀ x ∈ l, x.size ≤ 65536) : Calls Tryz.prog 60 #[.slice p l.length c, .func (.func 37) #[] #[]] w fun e w' => e = .returned (.int .i64 (-1)) ∧ w = w' := by
  have HT := Lib.hid h; have HS := Lib.hid hs
  clear h hs
  go_enter Tryz.func60, Tryz.ntmps60
  go_wp2
  go_loopw [8] (fun iv wr => ∃ i : Nat, i ≤ l.length ∧ iv = .int .i64 (i : Int) ∧ w = wr) (fun iv _ => l.length - (intOf iv).toNat)
  case atStart => exact ⟨0, Nat.zero_le _, rfl, rfl⟩
  case round =>
    obtain ⟨i, hi, rfl, rfl⟩ := hrel
    by_cases hlt : i < l.length
    · obtain ⟨x, hx⟩ : ∃ x, l[i]? = some x := ⟨_, List.getElem?_eq_getElem hlt⟩
      obtain ⟨a, e, _, hc⟩ := HT.out i x hx
      subst e
      have HL := Lib.hid (fun u => isLong_no x (HS.out x (List.mem_of_getElem? hx)) u)
      clear hx
      go_wp2_with (go_at_call 37; refine (HL.out _).mono ?_; rintro e w1 ⟨rfl, rfl⟩)
      go_roundw
      case rel => exact ⟨i + 1, by omega, by go_num, trivial⟩
      case measure => simp [intOf]; omega
    · obtain rfl : i = l.length := by omega
      go_wp2
      go_ret
      exact ⟨rfl, rfl⟩
theorem wlongs_no (w : World) (p : Option Addr) (c : Nat) (l : List ByteArray) (h : TextsP w p l) (hl : l.length ≤ 1000000) (hs : ∀ x ∈ l, x.size ≤ 65536) : Calls Tryz.prog 36 #[.slice p l.length c, .func (.func 37) #[] #[]] w fun e w' => e = .returned (.bool false) ∧ w = w' := by
  have HI := Lib.hid (longs_no w p c l h hl hs)
  clear h hs
  go_enter Tryz.func36, Tryz.ntmps36
  go_wp2_with (go_at_call 60; refine (HI.out).mono ?_; rintro e w1 ⟨rfl, rfl⟩)
  go_ret
  exact ⟨rfl, rfl⟩
theorem IsW.under {w w' : World} {b bd n₀ : Nat} {κ : Foot} {s : WS} (h : IsW w b bd κ s) (hx : Below n₀ w w') (hk : ∀ g, κ g ≠ 0 → g < n₀) : IsW w' b bd κ s := by
  obtain ⟨p, c, h1, h2⟩ := h.lay
  have hb : b < n₀ := hk b (by rw [h.kind]; decide)
  exact ⟨⟨p, c, h1.below hx hb, h2.same (fun g _ e => hx.block g (hk g (by rw [e]; decide))) (fun _ _ e => e)⟩, h.kind, fun g hg => Nat.lt_of_lt_of_le (h.ins g hg) hx.size⟩
theorem LS.under {w w' : World} {b bd n₀ : Nat} {κ μ : Foot} {s : WS} {d : DS} (h : LS w b bd κ μ s d) (hx : Below n₀ w w') (hk : ∀ g, κ g ≠ 0 ∨ μ g ≠ 0 → g < n₀) : LS w' b bd κ μ s d :=
  ⟨h.wal.under hx (fun g hg => hk g (.inl hg)), h.disk.keep (fun g _ hm => hx.block g (hk g (.inr hm))) hx.size, h.apart, h.low⟩
/-- A piece without a head: its number, its text. -/
abbrev Pc := { x : Nat × ByteArray // x.2.size ≤ 65536 }
def pcV (x : Pc) : Value := .agg #[.string ⟨#[]⟩, .int .u64 (x.1.1 : Int), .string x.1.2]
def pcO (n : Nat) (t : ByteArray) : Pc := if h : t.size ≤ 65536 then ⟨(n, t), h⟩ else ⟨(n, ⟨#[]⟩), Nat.zero_le _⟩
theorem pcO_yes (n : Nat) (t : ByteArray) (h : t.size ≤ 65536) : pcO n t = ⟨(n, t), h⟩ := by unfold pcO; rw [dif_pos h]
def pcs (n : Nat) (l : List ByteArray) : List Pc := l.zipIdx.map fun x => pcO (n + x.2) x.1
theorem pcs_length (n : Nat) (l : List ByteArray) : (pcs n l).length = l.length := by simp [pcs]
theorem pcs_at (n : Nat) (l : List ByteArray) (i : Nat) (t : ByteArray) (h : l[i]? = some t) : (pcs n l)[i]? = some (pcO (n + i) t) := by simp [pcs, h]
theorem pcs_take (n : Nat) (l : List ByteArray) (i : Nat) (t : ByteArray) (h : l[i]? = some t) : (pcs n l).take (i + 1) = (pcs n l).take i ++ [pcO (n + i) t] := by
  rw [List.take_add_one, pcs_at n l i t h]
  rfl
/-- Texts that lie below a bound. -/
def TextsN (n₀ : Nat) (w : World) (p : Option Addr) (l : List ByteArray) : Prop := ∀ i s, l[i]? = some s → ∃ a, p = some a ∧ a.block < n₀ ∧ w.cell? (a.add i) = some (.string s)
theorem TextsP.low {w w' : World} {p : Option Addr} {l : List ByteArray} (h : TextsP w p l) (hx : Ext w w') : TextsN w.heap.size w' p l := fun i s hi => by
  obtain ⟨a, e, hl, hc⟩ := h i s hi
  exact ⟨a, e, hl, (hx.below.cell (p := a.add i) (by rw [add_block]; exact hl)).trans hc⟩
/-- How many bytes the last file has, behind so many pieces. -/
def lenP (l : List ByteArray) (i : Nat) : Nat := 16 * i + sumT (l.take i)
theorem lenP_succ (l : List ByteArray) (i : Nat) (t : ByteArray) (h : l[i]? = some t) : lenP l (i + 1) = lenP l i + (16 + t.size) := by
  unfold lenP
  rw [sumT_take l i t h]
  omega
theorem pieces_any (w : World) (b : Nat) (p : Option Addr) (n c : Nat) : Calls Tryz.prog 61 #[.pointer (some ⟨b, 0, none⟩), .slice p n c] w fun e w' => e = .returned (.func (.func 83) #[] #[.pointer (some ⟨w.heap.size, 0, none⟩), .pointer (some ⟨w.heap.size + 1, 0, none⟩)]) ∧ w' = (w.alloc (.cells #[.pointer (some ⟨b, 0, none⟩)] 27)).alloc (.cells #[.slice p n c] 33) := by
  go_enter Tryz.func61, Tryz.ntmps61
  go_wp2
  go_ret
  exact ⟨rfl, rfl⟩
set_option maxRecDepth 100000 in
set_option maxHeartbeats 2000000 in
theorem pieces_stops (n : Nat) (hn : 1 ≤ n) (y lb n₀ : Nat) (p : Option Addr) (c : Nat) (l : List ByteArray) (w : World) (b bd : Nat) (κ μ : Foot) (s : WS) (d : DS) (h : LS w b bd κ μ s d) (k : s.Ok) (hw : n₀ ≤ w.heap.size) (q : Nat × Nat) (hq : s.P[s.P.length - 1]? = some q)
    (hy : Blk w y 27 [.pointer (some ⟨b, 0, none⟩)]) (hlb : Blk w lb 33 [.slice p l.length c]) (hyw : y < w.heap.size) (hin : ∀ g, κ g ≠ 0 ∨ μ g ≠ 0 → g < n₀) (ht : TextsN n₀ w p l) (hll : l.length ≤ 1000000) (hs : ∀ x ∈ l, x.size ≤ 65536)
    (hfit : ∀ i, i < l.length → q.2 + lenP l i < s.sz) :
    SeqStopsK Fence.wide n Tryz.prog 83 #[.pointer (some ⟨y, 0, none⟩), .pointer (some ⟨lb, 0, none⟩)] (fun x : Pc => #[pcV x]) (KpL n₀ [y])
      (fun xs => xs = pcs s.n l) (fun pre => ∃ t, pre ++ t = pcs s.n l) (pcs s.n l).length w := fun Y J Jx W hW hJ hJx hY h0 => by
  have HY := Lib.hid hY; have HJ := Lib.hid hJ
  have HL := Lib.hid (h.ext hW)
  have hyW := hy.ext hW
  have hlW := hlb.ext hW
  have c1 := hyW.cell 0 _ rfl
  have c2 := hlW.cell 0 _ rfl
  have hsum := sumT_le l 65536 hs
  have HU := Lib.hid (fun u (hu : KpL n₀ [y] W u) => HL.out.under hu.1 hin)
  have HLa := Lib.hid (wlast_any W b bd κ s HL.out.wal k q hq)
  have HKn := Lib.hid k.n
  have HKq := Lib.hid (k.b q (List.mem_of_getElem? hq)).2
  have HC1 := Lib.hid (fun u (hu : KpL n₀ [y] W u) => (World.cell?_of_block (a := ⟨y, 0, none⟩) (hu.2 y (by simp))).trans c1)
  have HTx : Hid (∀ u, KpL n₀ [y] W u → TextsN n₀ u p l) := Lib.hid (fun u hu i t hi => by
    obtain ⟨a, e, hl, hc⟩ := ht i t hi
    exact ⟨a, e, hl, ((hu.1.cell (p := a.add i) (by rw [add_block]; exact hl)).trans (hW.cell (p := a.add i) (by rw [add_block]; omega))).trans hc⟩)
  have hyW2 : y < W.heap.size := Nat.lt_of_lt_of_le hyw hW.size
  have HlW := Lib.hid hlW.lt
  have HN := Lib.hid (show n₀ ≤ W.heap.size from by have := hW.size; omega)
  have HSs := Lib.hid hs
  have HFit := Lib.hid hfit
  have HSum : Hid (∀ i, sumT (l.take i) ≤ 1000000 * 65536) := Lib.hid (fun i => by
    have h1 := sumT_le (l.take i) 65536 (fun x hx => hs x (List.take_subset i l hx))
    have h2 : (l.take i).length ≤ 1000000 := by rw [List.length_take]; omega
    exact Nat.le_trans h1 (Nat.mul_le_mul_right _ h2))
  clear hW hY hJ hJx h hyW hlW ht hy hlb hq hin hsum hs hfit
  refine callsIn_of_wp Tryz.func83 rfl trivial ?_ rfl
  simp only [Tryz.ntmps83, List.size_toArray, List.length_cons, List.length_nil, Nat.reduceAdd, Nat.reduceSub, Array.replicate_succ, Array.replicate_zero, List.push_toArray, List.append_toArray, List.nil_append, List.cons_append]
  have hfd := fun u => field_part (q.1 : Int) (q.2 : Int) u
  gi_wp2
  refine ⟨trivial, ?_⟩
  gi_at_call 63
  refine (callsIn_wide.2 (HLa.out)).mono ?_
  rintro e w1 ⟨rfl, x1⟩
  have c3 := (x1.below.cell (p := ⟨lb, 0, none⟩) (show lb < W.heap.size from HlW.out)).trans c2
  have X1 := Lib.hid x1
  clear x1
  gi_wp2
  gi_loopw [4, 13] (fun av iv wr => ∃ i : Nat, i ≤ l.length ∧ iv = .int .i64 (i : Int) ∧ av = .int .i64 ((q.2 + lenP l i : Nat) : Int) ∧ J ((pcs s.n l).take i) wr ∧ KpL n₀ [y] W wr) (fun _ iv _ => l.length - (intOf iv).toNat)
  case atStart => exact ⟨0, Nat.zero_le _, rfl, by simp [lenP, sumT], HJ.out _ _ _ none h0 (grown_of_ext X1.out) (fun r e => by cases e), KpL.of_ext X1.out HN.out (by intro g hg; simp at hg; subst hg; exact hyW2)⟩
  case round =>
    obtain ⟨i, hi, rfl, rfl, hJr, hbr⟩ := hrel
    have HJr := Lib.hid hJr; have HBr := Lib.hid hbr
    clear hJr h0
    by_cases hlt : i < l.length
    · obtain ⟨t, ht⟩ : ∃ t, l[i]? = some t := ⟨_, List.getElem?_eq_getElem hlt⟩
      obtain ⟨a, e, hta, hc⟩ := HTx.out wr hbr i t ht
      subst e
      have hts := HSs.out t (List.mem_of_getElem? ht)
      have hpo := pcO_yes (s.n + i) t hts
      have HTk := Lib.hid (pcs_take s.n l i t ht)
      rw [hpo] at HTk
      have HSz := Lib.hid (fun u => psize_any ⟨#[]⟩ (s.n + i) t (by decide) (by omega) u)
      have HLp := Lib.hid (lenP_succ l i t ht)
      have hft := HFit.out i hlt
      have cy := HC1.out wr hbr
      have hLr := HU.out wr hbr
      obtain ⟨_, _, k2, _, _, _, k6, _, _⟩ := hLr.wal.cells
      have HY2 := Lib.hid (fun W1 (h : J ((pcs s.n l).take i) W1) => HY.out ((pcs s.n l).take i) ⟨(s.n + i, t), hts⟩ W1 h (by rw [List.length_take, pcs_length]; omega))
      unfold pcV at HY2
      dsimp only at HY2
      have hsm := HSum.out i
      have hsm2 := HSum.out (i + 1)
      have hkq := HKq.out
      have hkn := HKn.out
      have hlpb : lenP l i ≤ 16 * i + 1000000 * 65536 := by unfold lenP; omega
      have hwi : IntKind.u64.wrap (i : Int) = (i : Int) := u64_nat (x := i) (by omega)
      have hwn : IntKind.u64.wrap ((s.n : Int) + (i : Int)) = ((s.n + i : Nat) : Int) := by
        have := u64_nat (x := s.n + i) (by omega)
        rw [show ((s.n : Int) + (i : Int)) = ((s.n + i : Nat) : Int) by omega]
        exact this
      have hge : ¬ (s.sz : Int) ≤ ((q.2 + lenP l i : Nat) : Int) := by omega
      obtain ⟨sz1, hsz1⟩ : ∃ z, z = (⟨#[]⟩ : ByteArray).size + (16 + t.size) := ⟨_, rfl⟩
      rw [← hsz1] at HSz
      have hsz2 : sz1 = 16 + t.size := by rw [hsz1, show (⟨#[]⟩ : ByteArray).size = 0 from rfl, Nat.zero_add]
      rw [← hsz2] at HLp
      obtain ⟨z1, hz1⟩ : ∃ z, z = q.2 + lenP l (i + 1) := ⟨_, rfl⟩
      have hwl : IntKind.i64.wrap (((q.2 + lenP l i : Nat) : Int) + (sz1 : Int)) = (z1 : Int) := by rw [IntWalk.i64_in _ ⟨by omega, by omega⟩, hz1, HLp.out]; omega
      have hyb : y ≠ wr.heap.size := by have := hbr.1.size; omega
      have hbb : b ≠ wr.heap.size := Nat.ne_of_lt hLr.wal.lt
      have hbl := hLr.wal.lt
      have hyl : y < wr.heap.size := by have := hbr.1.size; omega
      have hnw : n₀ ≤ wr.heap.size := Nat.le_trans HN.out hbr.1.size
      have HNw := Lib.hid hnw
      have HBn : Hid (∀ u : World, Blk (u.alloc (.cells #[.string ⟨#[]⟩, .int .u64 ((s.n + i : Nat) : Int), .string t] 113)) u.heap.size 113 [.string ⟨#[]⟩, .int .u64 ((s.n + i : Nat) : Int), .string t]) := Lib.hid (fun u => Blk.new u _ _)
      have HZ := Lib.hid hz1
      generalize ((q.2 + lenP l i : Nat) : Int) = lst at *
      generalize ((s.n + i : Nat) : Int) = num at *
      clear ht hbr hLr hsm hsm2 hkq hkn hlpb hsz1 hsz2 hz1 hnw hpo
      gi_wp2_with (refine ⟨trivial, ?_⟩; gi_at_call 62; refine (callsIn_wide.2 (HSz.out _)).mono ?_; rintro e w2 ⟨rfl, x2⟩; have b2 := (HBn.out wr).ext x2; have m0 := b2.cell 0 _ rfl; have m1 := b2.cell 1 _ rfl; have m2 := b2.cell 2 _ rfl; have x3 := Ext.trans ((Ext.refl wr).alloc _) x2; have X3 := Lib.hid x3; obtain ⟨fn, tmps, assign, body, hy, hR⟩ := HY2.out _ (HJ.out _ _ _ none HJr.out (grown_of_ext x3) (fun r e => by cases e)); clear x2 x3 b2)
      refine hR.mono ?_
      rintro e W3 (⟨rfl, hJ3, hk3⟩ | ⟨rfl, hJx3⟩)
      · gi_wp2
        go_roundw
        case rel => exact ⟨i + 1, by omega, by go_num, by rw [HZ.out], by rw [HTk.out]; exact hJ3, (HBr.out.trans (KpL.of_ext X3.out HNw.out (by intro g hg; simp at hg; subst hg; exact hyl))).trans hk3⟩
        case measure => simp [intOf]; omega
      · gi_wp2
        refine bodyPost_ret (results_none rfl _ _ _) rfl ?_
        exact ⟨⟨_, rfl⟩, .inr ⟨_, ⟨(pcs s.n l).drop (i + 1), by rw [← HTk.out]; exact List.take_append_drop _ _⟩, hJx3⟩⟩
    · obtain rfl : i = l.length := by omega
      have HEnd := Lib.hid (HJr.out)
      rw [List.take_of_length_le (by rw [pcs_length]; omega)] at HEnd
      clear hbr
      gi_wp2
      go_end0
      exact ⟨⟨_, rfl⟩, .inl ⟨_, rfl, HEnd.out⟩⟩
end Go.Proofs.YtbekdcpdfmfopaaGreat
end

section
namespace Go.Proofs.YtbekdcpdfmfopaaGreat
open Go.RowKit

theorem index_one (w : World) (v : Value) (f : Nat) (h : OneI w v f) : Calls Tryz.prog 92 #[v, .int .i64 (f : Int)] w fun e w' => e = .returned (.int .i64 0) ∧ w = w' := by
  obtain ⟨g, c, rfl, hg, hc⟩ := h
  have HC := Lib.hid hc
  clear hc
  go_enter Tryz.func92, Tryz.ntmps92
  go_wp2
  go_loopw [8] (fun iv wr => iv = .int .i64 0 ∧ w = wr) (fun _ _ => 0)
  case atStart => exact ⟨rfl, rfl⟩
  case round =>
    obtain ⟨rfl, rfl⟩ := hrel
    have hc := HC.out
    go_wp2
    go_ret
    exact ⟨rfl, rfl⟩
theorem contains_one (w : World) (v : Value) (f : Nat) (h : OneI w v f) : Calls Tryz.prog 71 #[v, .int .i64 (f : Int)] w fun e w' => e = .returned (.bool true) ∧ w = w' := by
  have HI := Lib.hid (index_one w v f h)
  obtain ⟨g, c, rfl, hg, hc⟩ := h
  go_enter Tryz.func71, Tryz.ntmps71
  go_wp2_with (go_at_call 92; refine (HI.out).mono ?_; rintro e w1 ⟨rfl, rfl⟩)
  go_ret
  exact ⟨rfl, rfl⟩
section
variable {w : World} {b bd : Nat} {κ μ : Foot} {s : WS} {d : DS}
/-- Calls, and a sync behind them. -/
theorem synced_one (h : LR w b bd κ μ s d) (p : Option Addr) (cap : Nat) (c : WC) (hr : RowS w b bd κ μ p cap [c]) : Calls Tryz.prog 67 #[.pointer (some ⟨b, 0, none⟩), .slice p 1 cap] w fun e w' => ∃ p' cap' κ', e = .returned (.slice p' 2 cap') ∧ RowS w' b bd κ' μ p' cap' [c, .sync] ∧ LR w' b bd κ' μ s d ∧ Fr κ (fun j => j = 4) w w' κ' := by
  have c0 := h.wal.cells.1
  have HL := Lib.hid h; have HR := Lib.hid hr
  clear h hr
  go_enter Tryz.func67, Tryz.ntmps67
  go_wp2_with (refine append_calls rfl (.tmp 8) (.tmp 14) rfl (HL.out.ext ((Ext.refl _).alloc _)) rfl rfl (HR.out.ext ((Ext.refl _).alloc _)) w.heap.size 1 [.func (.func 30) #[.pointer (some ⟨bd, 0, none⟩)] #[]] [.sync] rfl rfl rfl (Blk.new _ _ _) (by intro u hu; simp at hu; subst hu; rfl) (by
            intro i u c hu hc
            have h0 : i < 1 := (List.getElem?_eq_some_iff.1 hc).1
            obtain rfl : i = 0 := by omega
            simp at hu hc; subst hc; exact hu.symm) (by simp) ?_; intro p11 c11 w11 κ11 hr11 hl11 hf11; have HR11 := Lib.hid hr11; have HL11 := Lib.hid hl11; have HF11 := Lib.hid hf11; clear hr11 hl11 hf11)
  go_ret
  exact ⟨_, _, κ11, rfl, HR11.out, HL11.out, (((Ext.refl w).alloc _).fr κ _).trans HF11.out⟩
theorem step_first_call {ops : Array Oper} {o : Oper} {a : Act} {K : Act → World → Prop} {Q : Exit → Act → World → Prop} {E : Prop} (hgd : o.guard = none) (sl x : Operand) (ho : o.op = .call { callee := .builtin .append, args := #[sl, x], argTypes := #[71, 71] })
    (hl : LR w b bd κ μ s d) (hs : a.eval sl = .slice none 0 0) (g : Nat) (hx : a.eval x = .slice (some ⟨g, 0, none⟩) 1 1) {v : Value} {c : WC} (hb : Blk w g 69 [v]) (hv : v.oneCell' = true) (hc : IsC w b bd κ μ v c)
    (hQ : ∀ p' c' w' κ', RowS w' b bd κ' μ p' c' [c] → LR w' b bd κ' μ s d → Fr κ (fun j => j = 4) w w' κ' → Ext w w' → K (a.put o.dst (.slice p' 1 c')) w') : if Region.wanted o (yielded ops a.tmps) = true then Oper.wp Tryz.prog o a w K Q else E := by
  have hsrc : Src Tryz.prog 1 71 (.slice (some ⟨g, 0, none⟩) 1 1) 1 [v] w := Src.ofSlice w Tryz.underlying71 ⟨g, 0, none⟩ 1 1 _ rfl (fun j u hj => by rw [add_zero_off]; exact hb.cell j u hj) (fun u hu => by simp at hu; subst hu; exact hv)
  refine step_append_sl hgd sl x _ _ ho Tryz.underlying71 infoCall rfl (by decide) hs (Sl.nil w κ 4 1 69) (by simp) _ hx _ _ hsrc (by omega) ?_
  intro p' c' w' κ' h4 h5 _ hext _
  refine hQ p' c' w' κ' ⟨[v], by simpa using h4, by intro u hu; simp at hu; subst hu; exact hv, fun i v' c1 h1 h2 => ?_⟩ (hl.f4 h5) h5 (hext rfl)
  have h0 : i < 1 := (List.getElem?_eq_some_iff.1 h2).1
  obtain rfl : i = 0 := by omega
  simp at h1 h2
  subst h1 h2
  exact hc.f4 h5
end
end Go.Proofs.YtbekdcpdfmfopaaGreat
end
