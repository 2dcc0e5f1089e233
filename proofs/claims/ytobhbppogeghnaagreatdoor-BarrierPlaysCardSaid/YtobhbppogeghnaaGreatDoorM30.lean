/- Contracts: a share that comes to the document's barrier, and the secret: its Gather is a field of the barrier. (Printed by mkgot.py out of RGather, RAdd, RSecret.) -/
import Derived.Test.YtobhbppogeghnaaGreatDoorM29
section
namespace Go.Proofs.YtobhbppogeghnaaGreatDoor
open Go.RowKit
attribute [local irreducible] xorL xorAll

/-- Block r is the document's barrier; its fifth cell is the slice of shares that came. -/
structure IsGF (w : World) (r : Nat) (st : Int) (hh rr : ByteArray) (rg v : Value) (n m : Nat) (L : List (Nat × ByteArray)) : Prop where
  blk : Blk w r 34 [.int .u8 st, .string hh, .string rr, rg, v]
  buf : BufH w (r + 1) v n L
  alike : Alike n m L
/-- Only shares' blocks and barriers of the document's were written. -/
structure KeepQ (w w' : World) : Prop where
  keep : ∀ (g : Nat) (o : Obj), w.heap[g]? = some o → (∀ cur fr, o ≠ .cells cur 34 fr) → (∀ cur fr, o ≠ .cells cur 100 fr) → w'.heap[g]? = some o
theorem KeepQ.ofExt {w w' : World} (h : Ext w w') : KeepQ w w' := ⟨fun g _ hg _ _ => (h.block g (heap_lt hg)).trans hg⟩
theorem KeepQ.trans {a b c : World} (h : KeepQ a b) (k : KeepQ b c) : KeepQ a c := ⟨fun g o hg h1 h2 => k.keep g o (h.keep g o hg h1 h2) h1 h2⟩
theorem KeepQ.set {w w' : World} {b i : Nat} {cs : List Value} (h : KeepQ w w') (hb : Blk w' b 34 cs) (u : Value) : KeepQ w (w'.setCell ⟨b, i, none⟩ u) := by
  refine ⟨fun g o hg h1 h2 => ?_⟩
  have hq := h.keep g o hg h1 h2
  by_cases e : g = b
  · subst e
    rw [hb] at hq
    cases hq
    exact absurd rfl (h1 _ _)
  · exact (Below.heap_setCell _ _ _ _ e).trans hq
/-- append(g.L, x), as a step of a region that draws its order; what it keeps. -/
theorem step_append_shareQ {w : World} {ops : Array Oper} {o : Oper} {a : Act} {K : Act → World → Prop} {Q : Exit → Act → World → Prop} {E : Prop} (hg : o.guard = none) (s x : Operand)
    (ho : o.op = .call { callee := .builtin .append, args := #[s, x], argTypes := #[30, 30] })
    (B : Nat) (v : Value) (n : Nat) (L : List (Nat × ByteArray)) (hs : a.eval s = v) (hbuf : BufH w B v n L) (g : Nat) (i : Nat) (t : ByteArray) (hx : a.eval x = .slice (some ⟨g, 0, none⟩) 1 1) (hrow : Blk w g 100 [.int .i64 (i : Int), .int .i64 (n : Int), .string t])
    (hlen : L.length ≤ 1000000) (hB : B ≤ w.heap.size)
    (h : ∀ v' w', BufH w' B v' n (L ++ [(i, t)]) → Below B w w' → KeepQ w w' → K (a.put o.dst v') w') : if Region.wanted o (yielded ops a.tmps) = true then Oper.wp Tryz.prog o a w K Q else E := by
  have hw : Region.wanted o (yielded ops a.tmps) = true := by simp [Region.wanted, hg]
  rw [if_pos hw]
  obtain ⟨i0, hi, hz0, hz1, hz2⟩ := info_parts infoH
  refine wp_append_own w s x 30 ho B 100 i0 (.agg #[.int .i64 0, .int .i64 0, .string ⟨#[]⟩]) 3 32 Tryz.underlying30 hi hz0 hz1 hz2 rfl (by decide) v L.length (shCells n L) hs hbuf ⟨g, 0, none⟩ 1 1 [.int .i64 (i : Int), .int .i64 (n : Int), .string t] hx rfl ?_ ?_ (by unfold maxLen; omega) (by omega) hB ?_
  · intro j u hj
    have e : ((⟨g, 0, none⟩ : Addr).add j) = ⟨g, j, none⟩ := by unfold Addr.add; split <;> simp_all
    rw [e]
    exact hrow.cell j u hj
  · intro u hu
    simp only [List.mem_cons, List.not_mem_nil, or_false] at hu
    rcases hu with rfl | rfl | rfl <;> rfl
  · intro v' w' h1 h2 _
    refine h v' w' ?_ (Below.grown (Below.refl _ _) h2 hB fun k hk => (World.ownsRow.lt hbuf k hk).1) ⟨fun q ob hq hn1 hn2 => ?_⟩
    · unfold BufH
      rw [shCells_snoc]
      simpa using h1
    · refine (h2.block q (heap_lt hq) fun e => ?_).trans hq
      rcases hbuf.2 with ⟨h0, _⟩ | ⟨g1, cap, cur, e1, e2, e3, e4⟩
      · rw [h0] at e; simp [Value.ownBlock] at e
      · rw [e1] at e
        simp [Value.ownBlock] at e
        subst e
        rw [e3] at hq
        cases hq
        exact absurd rfl (hn2 _ _)
theorem IsGF.ext {w w' : World} {r : Nat} {st : Int} {hh rr : ByteArray} {rg v : Value} {n m : Nat} {L : List (Nat × ByteArray)} (h : IsGF w r st hh rr rg v n m L) (hx : Ext w w') : IsGF w' r st hh rr rg v n m L := ⟨h.blk.ext hx, h.buf.ext hx, h.alike⟩
theorem fadd_form (w : World) (r : Nat) (s : ByteArray) (hs : NoShare s) :
    Calls Tryz.prog 61 #[.pointer (some ⟨r, 4, none⟩), .string s] w fun e w' => e = .returned (.int .i64 7) ∧ Ext w w' := by
  have HR := Lib.hid (fun u => rshare_no s hs u)
  clear hs
  go_enter Tryz.func61, Tryz.ntmps61
  go_wp2_with (go_at_call 99; refine (HR.out _).mono ?_; rintro e w1 ⟨rfl, x1⟩)
  go_ret
  exact ⟨rfl, x1.alloc _⟩
set_option maxRecDepth 100000 in
set_option maxHeartbeats 4000000 in
theorem fadd_other (w : World) (r : Nat) (st : Int) (hh rr : ByteArray) (rg v : Value) (n m : Nat) (L : List (Nat × ByteArray)) (s : ByteArray) (i n' : Nat) (h : IsGF w r st hh rr rg v n m L) (hs : ShareOf s i n') (hL : L ≠ []) (hno : ¬ (n' = n ∧ s.size - 2 = m)) :
    Calls Tryz.prog 61 #[.pointer (some ⟨r, 4, none⟩), .string s] w fun e w' => e = .returned (.int .i64 60) ∧ Ext w w' := by
  obtain ⟨p, c, rfl, hcl⟩ := h.buf.cells
  obtain ⟨x, hx⟩ : ∃ x, L[0]? = some x := ⟨_, List.getElem?_eq_getElem (List.length_pos_iff.2 hL)⟩
  obtain ⟨q, rfl, hq1, hq2, hc0, hc1, hc2⟩ := hcl 0 x hx
  have hxs := (h.alike.each x (List.mem_of_getElem? hx)).2.2
  have hpos : 0 < L.length := List.length_pos_iff.2 hL
  have HR := Lib.hid (fun u => rshare_yes s i n' hs u)
  have hS : (s.extract 2 s.size).size = s.size - 2 := by simp
  have HB := Lib.hid h.blk
  have hcase : ¬ n' = n ∨ (n' = n ∧ ¬ (s.extract 2 s.size).size = x.2.size) := by omega
  have HC1 := Lib.hid (fun u (hu : Ext w u) => (hu.below.cell (p := ⟨q, 1, none⟩) hq2).trans (by simpa using hc1))
  have HC2 := Lib.hid (fun u (hu : Ext w u) => (hu.below.cell (p := ⟨q, 2, none⟩) hq2).trans (by simpa using hc2))
  have hposi : (0 : Int) < (L.length : Int) := by omega
  generalize s.extract 2 s.size = S2 at *
  generalize x.2 = t at *
  generalize L.length = len at *
  clear h hs hL hno hS hcl hx hxs hq1 hq2 hc0 hc1 hc2
  have HCa := Lib.hid hcase
  clear hcase
  go_enter Tryz.func61, Tryz.ntmps61
  go_wp2_with (go_at_call 99; refine (HR.out _).mono ?_; rintro e w1 ⟨rfl, x1⟩; have kb := ((HB.out.ext x1).alloc (.cells #[.int .i64 (i : Int), .int .i64 (n' : Int), .string S2] 100)).cell 4 _ rfl; have HX := Lib.hid (x1.alloc (.cells #[.int .i64 (i : Int), .int .i64 (n' : Int), .string S2] 100)))
  have HBX := Lib.hid (Blk.new w1 [.int .i64 (i : Int), .int .i64 (n' : Int), .string S2] 100)
  generalize w1.heap.size = X at *
  clear kb x1
  go_loopw [7] (fun iv wr => iv = .int .i64 0 ∧ Blk wr X 100 [.int .i64 (i : Int), .int .i64 (n' : Int), .string S2] ∧ Ext w wr) (fun _ _ => 0)
  case atStart => exact ⟨rfl, HBX.out, HX.out⟩
  case round =>
    obtain ⟨rfl, hbx, hext⟩ := hrel
    have HE := Lib.hid hext
    have cr := (HB.out.ext hext).cell 4 _ rfl
    have x1 := hbx.cell 1 _ rfl
    have x2 := hbx.cell 2 _ rfl
    have c1 := HC1.out _ hext
    have c2 := HC2.out _ hext
    clear hbx hext
    rcases HCa.out with hn | ⟨rfl, hn⟩
    · have hne : ((n : Int) != (n' : Int)) = true := by
        have q : ¬ (n : Int) = (n' : Int) := by omega
        simpa using q
      clear hn
      go_wp2
      go_quiet (fail)
      go_wp2
      go_ret
      exact ⟨rfl, HE.out.drewN _⟩
    · have hne : ((t.size : Int) != (S2.size : Int)) = true := by
        have q : ¬ (t.size : Int) = (S2.size : Int) := by omega
        simpa using q
      clear hn
      go_wp2
      go_quiet (fail)
      go_wp2
      go_ret
      exact ⟨rfl, HE.out.drewN _⟩
set_option maxRecDepth 100000 in
set_option maxHeartbeats 4000000 in
theorem fadd_have (w : World) (r : Nat) (st : Int) (hh rr : ByteArray) (rg v : Value) (n m : Nat) (L : List (Nat × ByteArray)) (s : ByteArray) (i : Nat) (h : IsGF w r st hh rr rg v n m L) (hs : ShareOf s i n) (hm : s.size - 2 = m) (hL16 : L.length ≤ 1000) (t0 : ByteArray) (hin : (i, t0) ∈ L) :
    Calls Tryz.prog 61 #[.pointer (some ⟨r, 4, none⟩), .string s] w fun e w' => e = .returned (.int .i64 8) ∧ Ext w w' := by
  obtain ⟨p, c, rfl, hcl⟩ := h.buf.cells
  have HR := Lib.hid (fun u => rshare_yes s i n hs u)
  have hS : (s.extract 2 s.size).size = s.size - 2 := by simp
  have HB := Lib.hid h.blk
  have HCl := Lib.hid hcl
  have HSz := Lib.hid (fun (x : Nat × ByteArray) (hx : x ∈ L) => (show (x.2.size : Int) = ((s.extract 2 s.size).size : Int) by have := (h.alike.each x hx).2.2; omega))
  obtain ⟨k, hk⟩ := List.getElem?_of_mem hin
  have hkl : k < L.length := (List.getElem?_eq_some_iff.1 hk).1
  have HOnce := Lib.hid (fun (j : Nat) (x : Nat × ByteArray) (hj : L[j]? = some x) (hjk : j < k) => (show ¬ (x.1 : Int) = (i : Int) by have := once_at h.alike hj hk hjk; simp only at this; omega))
  have HK := Lib.hid hk
  clear hk hin
  clear h hs hm hS hcl
  generalize s.extract 2 s.size = S2 at *
  go_enter Tryz.func61, Tryz.ntmps61
  go_wp2_with (go_at_call 99; refine (HR.out _).mono ?_; rintro e w1 ⟨rfl, x1⟩; have HX := Lib.hid (x1.alloc (.cells #[.int .i64 (i : Int), .int .i64 (n : Int), .string S2] 100)))
  have HBX := Lib.hid (Blk.new w1 [.int .i64 (i : Int), .int .i64 (n : Int), .string S2] 100)
  have hXw : w.heap.size ≤ w1.heap.size := x1.size
  generalize w1.heap.size = X at *
  clear x1
  go_loopw [7] (fun iv wr => ∃ j : Nat, j ≤ L.length ∧ iv = .int .i64 (j : Int) ∧ Blk wr X 100 [.int .i64 (i : Int), .int .i64 (n : Int), .string S2] ∧ Ext w wr) (fun iv _ => L.length - (intOf iv).toNat)
  case atStart => exact ⟨0, Nat.zero_le _, rfl, HBX.out, HX.out⟩
  case round =>
    obtain ⟨j, hj, rfl, hbx, hext⟩ := hrel
    have HE := Lib.hid hext; have HBx := Lib.hid hbx
    have cr := (HB.out.ext hext).cell 4 _ rfl
    clear hbx hext
    by_cases hlt : j < L.length
    · obtain ⟨x, hx⟩ : ∃ x, L[j]? = some x := ⟨_, List.getElem?_eq_getElem hlt⟩
      obtain ⟨q, rfl, hq1, hq2, hc0, hc1, hc2⟩ := HCl.out j x hx
      have x1 := HBx.out.cell 1 _ rfl
      have x2 := HBx.out.cell 2 _ rfl
      have c1 := (HE.out.below.cell (p := ⟨q, j * 3 + 1, none⟩) hq2).trans hc1
      have c2 := (HE.out.below.cell (p := ⟨q, j * 3 + 2, none⟩) hq2).trans hc2
      have hne : ((x.2.size : Int) != (S2.size : Int)) = false := by
        have q := HSz.out x (List.mem_of_getElem? hx)
        simpa using q
      clear hx hc0 hc1 hc2 hq1 hq2
      generalize x.2 = t at *
      go_wp2
      go_quiet (fail)
      go_wp2
      go_roundw
      case rel => exact ⟨j + 1, by omega, by go_num, HBx.out.drewN _, HE.out.drewN _⟩
      case measure => simp [intOf]; omega
    · obtain rfl : j = L.length := by omega
      go_wp2
      go_loopw [8] (fun iv wr => ∃ j : Nat, j ≤ k ∧ iv = .int .i64 (j : Int) ∧ Blk wr X 100 [.int .i64 (i : Int), .int .i64 (n : Int), .string S2] ∧ Ext w wr) (fun iv _ => L.length - (intOf iv).toNat)
      case atStart => exact ⟨0, Nat.zero_le _, rfl, HBx.out, HE.out⟩
      case round =>
        clear cr
        have HE0 := HE; have HB0 := HBx
        obtain ⟨j, hj, rfl, hbx, hext⟩ := hrel
        have HE := Lib.hid hext; have HBx := Lib.hid hbx
        have cr := (HB.out.ext hext).cell 4 _ rfl
        clear hbx hext HE0 HB0
        have hlt : j < L.length := by omega
        have x0 := HBx.out.cell 0 _ rfl
        by_cases hjk : j < k
        · obtain ⟨x, hx⟩ : ∃ x, L[j]? = some x := ⟨_, List.getElem?_eq_getElem hlt⟩
          obtain ⟨q, rfl, hq1, hq2, hc0, hc1, hc2⟩ := HCl.out j x hx
          have c0 := (HE.out.below.cell (p := ⟨q, j * 3, none⟩) hq2).trans hc0
          have hne : ((x.1 : Int) == (i : Int)) = false := by
            have q := HOnce.out j x hx hjk
            simpa using q
          clear hx hc0 hc1 hc2 hq1 hq2
          generalize x.1 = t at *
          go_wp2
          go_quiet (fail)
          go_wp2
          go_roundw
          case rel => exact ⟨j + 1, by omega, by go_num, HBx.out.drewN _, HE.out.drewN _⟩
          case measure => simp [intOf]; omega
        · obtain rfl : j = k := by omega
          obtain ⟨q, rfl, hq1, hq2, hc0, hc1, hc2⟩ := HCl.out j _ HK.out
          have c0 := (HE.out.below.cell (p := ⟨q, j * 3, none⟩) hq2).trans hc0
          clear hc0 hc1 hc2 hq1 hq2
          go_wp2
          go_quiet (fail)
          go_wp2
          go_ret
          exact ⟨rfl, HE.out.drewN _⟩
set_option maxRecDepth 100000 in
set_option maxHeartbeats 4000000 in
theorem fadd_ok (w : World) (r : Nat) (st : Int) (hh rr : ByteArray) (rg v : Value) (n m : Nat) (L : List (Nat × ByteArray)) (s : ByteArray) (i : Nat) (h : IsGF w r st hh rr rg v n m L) (hs : ShareOf s i n) (hm : s.size - 2 = m) (hL16 : L.length ≤ 1000) (hnin : ∀ x ∈ L, x.1 ≠ i) :
    Calls Tryz.prog 61 #[.pointer (some ⟨r, 4, none⟩), .string s] w fun e w' => ∃ v', e = .returned (.int .i64 0) ∧ IsGF w' r st hh rr rg v' n m (L ++ [(i, s.extract 2 s.size)]) ∧ Below r w w' ∧ KeepQ w w' := by
  obtain ⟨p, c, rfl, hcl⟩ := h.buf.cells
  have HR := Lib.hid (fun u => rshare_yes s i n hs u)
  have hS : (s.extract 2 s.size).size = s.size - 2 := by simp
  have HB := Lib.hid h.blk
  have HCl := Lib.hid hcl
  have HSz := Lib.hid (fun (x : Nat × ByteArray) (hx : x ∈ L) => (show (x.2.size : Int) = ((s.extract 2 s.size).size : Int) by have := (h.alike.each x hx).2.2; omega))
  have HOnce := Lib.hid (fun (j : Nat) (x : Nat × ByteArray) (hj : L[j]? = some x) => (show ¬ (x.1 : Int) = (i : Int) by have := hnin x (List.mem_of_getElem? hj); omega))
  have HBuf := Lib.hid h.buf
  have HA : Hid (Alike n m (L ++ [(i, s.extract 2 s.size)])) := Lib.hid (by
    obtain ⟨_, _, _, _, q1, q2, _⟩ := hs
    exact h.alike.snoc q1 q2 (by omega) hnin)
  have hrw : r < w.heap.size := h.blk.lt
  clear hnin
  clear h hs hm hS hcl
  generalize s.extract 2 s.size = S2 at *
  go_enter Tryz.func61, Tryz.ntmps61
  go_wp2_with (go_at_call 99; refine (HR.out _).mono ?_; rintro e w1 ⟨rfl, x1⟩; have HX := Lib.hid (x1.alloc (.cells #[.int .i64 (i : Int), .int .i64 (n : Int), .string S2] 100)))
  have HBX := Lib.hid (Blk.new w1 [.int .i64 (i : Int), .int .i64 (n : Int), .string S2] 100)
  have hXw : w.heap.size ≤ w1.heap.size := x1.size
  generalize w1.heap.size = X at *
  clear x1
  go_loopw [7] (fun iv wr => ∃ j : Nat, j ≤ L.length ∧ iv = .int .i64 (j : Int) ∧ Blk wr X 100 [.int .i64 (i : Int), .int .i64 (n : Int), .string S2] ∧ Ext w wr) (fun iv _ => L.length - (intOf iv).toNat)
  case atStart => exact ⟨0, Nat.zero_le _, rfl, HBX.out, HX.out⟩
  case round =>
    obtain ⟨j, hj, rfl, hbx, hext⟩ := hrel
    have HE := Lib.hid hext; have HBx := Lib.hid hbx
    have cr := (HB.out.ext hext).cell 4 _ rfl
    clear hbx hext
    by_cases hlt : j < L.length
    · obtain ⟨x, hx⟩ : ∃ x, L[j]? = some x := ⟨_, List.getElem?_eq_getElem hlt⟩
      obtain ⟨q, rfl, hq1, hq2, hc0, hc1, hc2⟩ := HCl.out j x hx
      have x1 := HBx.out.cell 1 _ rfl
      have x2 := HBx.out.cell 2 _ rfl
      have c1 := (HE.out.below.cell (p := ⟨q, j * 3 + 1, none⟩) hq2).trans hc1
      have c2 := (HE.out.below.cell (p := ⟨q, j * 3 + 2, none⟩) hq2).trans hc2
      have hne : ((x.2.size : Int) != (S2.size : Int)) = false := by
        have q := HSz.out x (List.mem_of_getElem? hx)
        simpa using q
      clear hx hc0 hc1 hc2 hq1 hq2
      generalize x.2 = t at *
      go_wp2
      go_quiet (fail)
      go_wp2
      go_roundw
      case rel => exact ⟨j + 1, by omega, by go_num, HBx.out.drewN _, HE.out.drewN _⟩
      case measure => simp [intOf]; omega
    · obtain rfl : j = L.length := by omega
      go_wp2
      go_loopw [8] (fun iv wr => ∃ j : Nat, j ≤ L.length ∧ iv = .int .i64 (j : Int) ∧ Blk wr X 100 [.int .i64 (i : Int), .int .i64 (n : Int), .string S2] ∧ Ext w wr) (fun iv _ => L.length - (intOf iv).toNat)
      case atStart => exact ⟨0, Nat.zero_le _, rfl, HBx.out, HE.out⟩
      case round =>
        clear cr
        have HE0 := HE; have HB0 := HBx
        obtain ⟨j, hj, rfl, hbx, hext⟩ := hrel
        have HE := Lib.hid hext; have HBx := Lib.hid hbx
        have cr := (HB.out.ext hext).cell 4 _ rfl
        clear hbx hext HE0 HB0
        have x0 := HBx.out.cell 0 _ rfl
        by_cases hlt : j < L.length
        · obtain ⟨x, hx⟩ : ∃ x, L[j]? = some x := ⟨_, List.getElem?_eq_getElem hlt⟩
          obtain ⟨q, rfl, hq1, hq2, hc0, hc1, hc2⟩ := HCl.out j x hx
          have c0 := (HE.out.below.cell (p := ⟨q, j * 3, none⟩) hq2).trans hc0
          have hne : ((x.1 : Int) == (i : Int)) = false := by
            have q := HOnce.out j x hx
            simpa using q
          clear hx hc0 hc1 hc2 hq1 hq2
          generalize x.1 = t at *
          go_wp2
          go_quiet (fail)
          go_wp2
          go_roundw
          case rel => exact ⟨j + 1, by omega, by go_num, HBx.out.drewN _, HE.out.drewN _⟩
          case measure => simp [intOf]; omega
        · obtain rfl : j = L.length := by omega
          have cr2 := ((HB.out.ext HE.out).alloc (.cells #[.int .i64 (i : Int), .int .i64 (n : Int), .string S2] 100)).cell 4 _ rfl
          have y1 := HBx.out.cell 1 _ rfl
          have y2 := HBx.out.cell 2 _ rfl
          have HX3 := Lib.hid ((HE.out.alloc (.cells #[.int .i64 (i : Int), .int .i64 (n : Int), .string S2] 100)).drew)
          have HN3 : Hid (Blk ((wr.alloc (.cells #[.int .i64 (i : Int), .int .i64 (n : Int), .string S2] 100)).drew) wr.heap.size 100 [.int .i64 (i : Int), .int .i64 (n : Int), .string S2]) := Lib.hid ((Blk.new wr _ _).drew)
          go_wp2
          go_region_law (refine step_append_shareQ rfl (.tmp 76) (.tmp 78) rfl (r + 1) _ n L (by simp [Act.eval]) (HBuf.out.ext HX3.out) wr.heap.size i S2 (by simp [Act.eval]) HN3.out (by omega) (Nat.le_trans hrw HX3.out.size) ?_; intro v1 w3 hb1 hx4 hk4; obtain ⟨p1, c1, rfl, _⟩ := hb1.cells; have HB1 := Lib.hid hb1; have HX4 := Lib.hid hx4; have HK4 := Lib.hid hk4; have HB3 : Hid (Blk w3 r 34 _) := Lib.hid ((HB.out.ext HX3.out).below hx4 (by omega)); have cr3 := HB3.out.cell 4 _ rfl; have fr3 := HB3.out.frozen 4; clear hb1 hx4 hk4)
          all_goals
            go_wp2
            go_ret
            refine ⟨_, rfl, ⟨HB3.out.set_ 4 _, ?_, HA.out⟩, ((Below.mono HX3.out (Nat.le_of_lt hrw)).trans (Below.mono HX4.out (Nat.le_succ r))).setCell (Nat.le_refl r) _, ((KeepQ.ofExt HX3.out).trans HK4.out).set HB3.out _⟩
            have q := HB1.out
            unfold BufH at q ⊢
            rw [List.length_append] at q ⊢
            exact (ownsRow_setCell_below q (a := ⟨r, 4, none⟩) (Nat.lt_succ_self r) _)
set_option maxRecDepth 100000 in
set_option maxHeartbeats 4000000 in
theorem fsecret_no (w : World) (r : Nat) (st : Int) (hh rr : ByteArray) (rg v : Value) (n m : Nat) (L : List (Nat × ByteArray)) (h : IsGF w r st hh rr rg v n m L) (hl : L.length < n) :
    Calls Tryz.prog 62 #[.pointer (some ⟨r, 4, none⟩)] w fun e w' => e = .returned (.string ⟨#[]⟩) ∧ Ext w w' := by
  obtain ⟨p, c, rfl, hcl⟩ := h.buf.cells
  have cr := h.blk.cell 4 _ rfl
  by_cases h0 : L = []
  · subst h0
    clear h hcl
    go_enter Tryz.func62, Tryz.ntmps62
    go_wp2
    go_quiet (fail)
    go_wp2
    go_ret
    exact ⟨rfl, (Ext.refl w).drewN _⟩
  · obtain ⟨x, hx⟩ : ∃ x, L[0]? = some x := ⟨_, List.getElem?_eq_getElem (List.length_pos_iff.2 h0)⟩
    obtain ⟨q, rfl, hq1, hq2, hc0, hc1, hc2⟩ := hcl 0 x hx
    have hpos : 0 < L.length := List.length_pos_iff.2 h0
    have hposi : (0 : Int) < (L.length : Int) := by omega
    have c1 : w.cell? ⟨q, 1, none⟩ = some (.int .i64 (n : Int)) := by simpa using hc1
    have e1 : ((L.length : Int) == 0) = false := by rw [beq_eq_false_iff_ne]; omega
    have e2 : (L.length : Int) < (n : Int) := by omega
    clear h hcl h0 hx hq1 hq2 hc0 hc1 hc2
    generalize L.length = len at *
    go_enter Tryz.func62, Tryz.ntmps62
    go_wp2
    go_quiet (fail)
    go_wp2
    go_ret
    exact ⟨rfl, (Ext.refl w).drewN _⟩
set_option maxRecDepth 100000 in
set_option maxHeartbeats 4000000 in
theorem fsecret_yes (w : World) (r : Nat) (st : Int) (hh rr : ByteArray) (rg v : Value) (n m : Nat) (x : Nat × ByteArray) (L : List (Nat × ByteArray)) (h : IsGF w r st hh rr rg v n m (x :: L)) (hl : L.length + 1 = n) :
    Calls Tryz.prog 62 #[.pointer (some ⟨r, 4, none⟩)] w fun e w' => e = .returned (.string ⟨(xorAll x.2.data.toList (txtsOf L)).toArray⟩) ∧ Ext w w' := by
  obtain ⟨p, c, rfl, hcl⟩ := h.buf.cells
  have HB := Lib.hid h.blk
  have cr := h.blk.cell 4 _ rfl
  obtain ⟨q, rfl, hq1, hq2, hc0, hc1, hc2⟩ := hcl 0 x rfl
  have n16 := h.alike.n16
  have HCl := Lib.hid (fun (j : Nat) (y : Nat × ByteArray) (hy : L[j]? = some y) => (show w.cell? ⟨q, (j + 1) * 3 + 2, none⟩ = some (.string y.2) by
    obtain ⟨q', e, _, _, _, _, hc⟩ := hcl (j + 1) y (by simpa using hy)
    cases e
    exact hc))
  have c1 : w.cell? ⟨q, 1, none⟩ = some (.int .i64 (n : Int)) := by simpa using hc1
  have c2 : w.cell? ⟨q, 2, none⟩ = some (.string x.2) := by simpa using hc2
  have hsz : ∀ j, xorAll x.2.data.toList ((txtsOf L).take j) = xorAll x.2.data.toList ((txtsOf L).take j) := fun j => rfl
  have m64 := h.alike.m64
  have hx0 := (h.alike.each x (by simp)).2.2
  have HXr := Lib.hid (fun (j : Nat) (y : Nat × ByteArray) (hy : L[j]? = some y) u => (show Calls Tryz.prog 100 #[.string ⟨(xorAll x.2.data.toList ((txtsOf L).take j)).toArray⟩, .string y.2] u fun e w' => e = .returned (.string ⟨(xorAll x.2.data.toList ((txtsOf L).take (j + 1))).toArray⟩) ∧ Ext u w' by
    have hlen : (xorAll x.2.data.toList ((txtsOf L).take j)).length = m := xorAll_length _ _ (by rw [size_list, hx0]) (fun b hb => by
      obtain ⟨z, hz, rfl⟩ := List.mem_map.1 (List.mem_of_mem_take hb)
      exact (h.alike.each z (by simp [hz])).2.2)
    have hy2 := (h.alike.each y (by simp [List.mem_of_getElem? hy])).2.2
    have hr := rXor_yes ⟨(xorAll x.2.data.toList ((txtsOf L).take j)).toArray⟩ y.2 (by rw [txt_size, hlen, hy2]) (by rw [txt_size, hlen]; omega) u
    have exd : (⟨(xorAll x.2.data.toList ((txtsOf L).take j)).toArray⟩ : ByteArray).data.toList = xorAll x.2.data.toList ((txtsOf L).take j) := by simp
    rw [exd, ← xorAll_step _ _ _ _ (by unfold txtsOf; rw [List.getElem?_map, hy]; rfl)] at hr
    exact hr))
  have hX0 : xorAll x.2.data.toList ((txtsOf L).take 0) = x.2.data.toList := by rw [List.take_zero]; unfold xorAll; rfl
  have HX0 := Lib.hid hX0
  have HTL : Hid ((txtsOf L).length = L.length) := Lib.hid (by simp [txtsOf])
  have hlen : (x :: L).length = n := by simpa using hl
  rw [hlen] at cr HB
  have hposi : (0 : Int) < (n : Int) := by omega
  have hpos : 0 < n := by omega
  have e1 : ((n : Int) == 0) = false := by rw [beq_eq_false_iff_ne]; omega
  have HXS := Lib.hid (fun u (hu : Ext w u) j (y : Nat × ByteArray) (hy : L[j]? = some y) => (hu.below.cell (p := ⟨q, (j + 1) * 3 + 2, none⟩) hq2).trans (HCl.out j y hy))
  have hl1 : L.length + 1 ≤ n := by omega
  have hl2 : n ≤ L.length + 1 := by omega
  clear h hcl hsz hx0 hX0 hlen hq1 hq2 hc0 hc1 hc2 HCl hl
  go_enter Tryz.func62, Tryz.ntmps62
  go_wp2
  go_quiet (fail)
  go_wp2
  clear c1 c2 cr
  go_loopw [3, 4] (fun last iv wr => ∃ j : Nat, j ≤ L.length ∧ iv = .int .i64 ((j : Int) + 1) ∧ last = .string ⟨(xorAll x.2.data.toList ((txtsOf L).take j)).toArray⟩ ∧ Ext w wr) (fun _ iv _ => n - (intOf iv).toNat)
  case atStart => exact ⟨0, Nat.zero_le _, rfl, by rw [HX0.out], (Ext.refl w).drewN _⟩
  case round =>
    obtain ⟨j, hj, rfl, rfl, hext⟩ := hrel
    have HE := Lib.hid hext
    have cr := (HB.out.ext hext).cell 4 _ rfl
    clear hext
    by_cases hlt : j < L.length
    · obtain ⟨y, hy⟩ : ∃ y, L[j]? = some y := ⟨_, List.getElem?_eq_getElem hlt⟩
      have cy := HXS.out _ HE.out j y hy
      have HXj := Lib.hid (fun u => HXr.out j y hy u)
      clear hy
      generalize y.2 = t at *
      generalize (⟨(xorAll x.2.data.toList ((txtsOf L).take j)).toArray⟩ : ByteArray) = L0 at *
      go_wp2_with (go_at_call 100; refine (HXj.out _).mono ?_; rintro e w2 ⟨rfl, x2⟩)
      go_roundw
      case rel => exact ⟨j + 1, hlt, by go_num, rfl, HE.out.trans x2⟩
      case measure => simp [intOf]; omega
    · obtain rfl : j = L.length := by omega
      have ht := List.take_of_length_le (show (txtsOf L).length ≤ L.length by rw [HTL.out]; exact Nat.le_refl _)
      rw [ht]
      clear ht
      go_wp2
      go_ret
      exact ⟨rfl, HE.out⟩
end Go.Proofs.YtobhbppogeghnaaGreatDoor
end
