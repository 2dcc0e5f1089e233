/- Contracts: a share that comes, by the document's answer: where there is one of its place, or it is taken. -/
import Derived.Test.YtadincbeimfakaaRGather
import Derived.Deep.RegionLaw
namespace Go.Proofs.Ytadincbeimfakaa
open Go.RowKit

theorem once_at {n m : Nat} {L : List (Nat × ByteArray)} (h : Alike n m L) {j k : Nat} {x y : Nat × ByteArray} (hj : L[j]? = some x) (hk : L[k]? = some y) (hjk : j < k) : x.1 ≠ y.1 := by
  have hj' := List.getElem?_eq_some_iff.1 hj
  have hk' := List.getElem?_eq_some_iff.1 hk
  obtain ⟨a, rfl⟩ := hj'
  obtain ⟨b, rfl⟩ := hk'
  exact List.pairwise_iff_getElem.1 h.once j k a b hjk
theorem Blk.drewN {w : World} {b : Nat} {T : TypeId} {cs : List Value} (h : Blk w b T cs) (n : Nat) : Blk (w.drewN n) b T cs := h
/-- append(g.L, x), as a step of a region that draws its order. -/
theorem step_append_share {w : World} {ops : Array Oper} {o : Oper} {a : Act} {K : Act → World → Prop} {Q : Exit → Act → World → Prop} {E : Prop} (hg : o.guard = none) (s x : Operand)
    (ho : o.op = .call { callee := .builtin .append, args := #[s, x], argTypes := #[41, 41] })
    (B : Nat) (v : Value) (n : Nat) (L : List (Nat × ByteArray)) (hs : a.eval s = v) (hbuf : BufH w B v n L) (g : Nat) (i : Nat) (t : ByteArray) (hx : a.eval x = .slice (some ⟨g, 0, none⟩) 1 1) (hrow : Blk w g 33 [.int .i64 (i : Int), .int .i64 (n : Int), .string t])
    (hlen : L.length ≤ 1000000) (hB : B ≤ w.heap.size)
    (h : ∀ v' w', BufH w' B v' n (L ++ [(i, t)]) → Below B w w' → K (a.put o.dst v') w') : if Region.wanted o (yielded ops a.tmps) = true then Oper.wp Try.prog o a w K Q else E := by
  have hw : Region.wanted o (yielded ops a.tmps) = true := by simp [Region.wanted, hg]
  rw [if_pos hw]
  obtain ⟨i0, hi, hz0, hz1, hz2⟩ := info_parts infoH
  refine wp_append_own w s x 41 ho B 33 i0 (.agg #[.int .i64 0, .int .i64 0, .string ⟨#[]⟩]) 3 32 Try.underlying41 hi hz0 hz1 hz2 rfl (by decide) v L.length (shCells n L) hs hbuf ⟨g, 0, none⟩ 1 1 [.int .i64 (i : Int), .int .i64 (n : Int), .string t] hx rfl ?_ ?_ (by unfold maxLen; omega) (by omega) hB ?_
  · intro j u hj
    have e : ((⟨g, 0, none⟩ : Addr).add j) = ⟨g, j, none⟩ := by unfold Addr.add; split <;> simp_all
    rw [e]
    exact hrow.cell j u hj
  · intro u hu
    simp only [List.mem_cons, List.not_mem_nil, or_false] at hu
    rcases hu with rfl | rfl | rfl <;> rfl
  · intro v' w' h1 h2 _
    refine h v' w' ?_ (Below.grown (Below.refl _ _) h2 hB fun k hk => (World.ownsRow.lt hbuf k hk).1)
    unfold BufH
    rw [shCells_snoc]
    simpa using h1
set_option maxRecDepth 100000 in
set_option maxHeartbeats 4000000 in
theorem radd_have (w : World) (r : Nat) (v : Value) (n m : Nat) (L : List (Nat × ByteArray)) (s : ByteArray) (i : Nat) (h : IsR w r v n m L) (hs : ShareOf s i n) (hm : s.size - 2 = m) (hL16 : L.length ≤ 1000) (t0 : ByteArray) (hin : (i, t0) ∈ L) :
    Calls Try.prog 16 #[.pointer (some ⟨r, 0, none⟩), .string s] w fun e w' => e = .returned (.int .i64 8) ∧ Ext w w' := by
  obtain ⟨p, c, rfl, hcl⟩ := h.buf.cells
  have HR := Lib.hid (fun u => rread_yes s i n hs u)
  have hS : (s.extract 2 s.size).size = s.size - 2 := by simp
  have HB := Lib.hid h.blk
  have HCl := Lib.hid hcl
  have HSz := Lib.hid (fun (x : Nat × ByteArray) (hx : x ∈ L) => (show (x.2.size : Int) = ((s.extract 2 s.size).size : Int) by have := (h.alike.each x hx).2.2; omega))
  obtain ⟨k, hk⟩ := List.getElem?_of_mem hin
  have hkl : k < L.length := (List.getElem?_eq_some_iff.1 hk).1
  have HOnce := Lib.hid (fun (j : Nat) (x : Nat × ByteArray) (hj : L[j]? = some x) (hjk : j < k) => (show ¬ (x.1 : Int) = (i : Int) by have := once_at h.alike hj hk hjk; simp only at this; omega))
  have HK := Lib.hid hk
  clear hk hin
  clear h hs hm hS hcl
  generalize s.extract 2 s.size = S2 at *
  go_enter Try.func16, Try.ntmps16
  go_wp2_with (go_at_call 13; refine (HR.out _).mono ?_; rintro e w1 ⟨rfl, x1⟩; have HX := Lib.hid (x1.alloc (.cells #[.int .i64 (i : Int), .int .i64 (n : Int), .string S2] 33)))
  have HBX := Lib.hid (Blk.new w1 [.int .i64 (i : Int), .int .i64 (n : Int), .string S2] 33)
  have hXw : w.heap.size ≤ w1.heap.size := x1.size
  generalize w1.heap.size = X at *
  clear x1
  go_loopw [7] (fun iv wr => ∃ j : Nat, j ≤ L.length ∧ iv = .int .i64 (j : Int) ∧ Blk wr X 33 [.int .i64 (i : Int), .int .i64 (n : Int), .string S2] ∧ Ext w wr) (fun iv _ => L.length - (intOf iv).toNat)
  case atStart => exact ⟨0, Nat.zero_le _, rfl, HBX.out, HX.out⟩
  case round =>
    obtain ⟨j, hj, rfl, hbx, hext⟩ := hrel
    have HE := Lib.hid hext; have HBx := Lib.hid hbx
    have cr := (HB.out.ext hext).cell 0 _ rfl
    clear hbx hext
    by_cases hlt : j < L.length
    · obtain ⟨x, hx⟩ : ∃ x, L[j]? = some x := ⟨_, List.getElem?_eq_getElem hlt⟩
      obtain ⟨q, rfl, hq1, hq2, hc0, hc1, hc2⟩ := HCl.out j x hx
      have x1 := HBx.out.cell 1 _ rfl
      have x2 := HBx.out.cell 2 _ rfl
      have c1 := (HE.out.below.cell (p := ⟨q, j * 3 + 1, none⟩) hq2).trans hc1
      have c2 := (HE.out.below.cell (p := ⟨q, j * 3 + 2, none⟩) hq2).trans hc2
      have hne : ((x.2.size : Int) != (S2.size : Int)) = false := by
        have q := HSz.out x (List.mem_of_getElem? hx)
        simpa using q
      clear hx hc0 hc1 hc2 hq1 hq2
      generalize x.2 = t at *
      go_wp2
      go_quiet (fail)
      go_wp2
      go_roundw
      case rel => exact ⟨j + 1, by omega, by go_num, HBx.out.drewN _, HE.out.drewN _⟩
      case measure => simp [intOf]; omega
    · obtain rfl : j = L.length := by omega
      go_wp2
      go_loopw [8] (fun iv wr => ∃ j : Nat, j ≤ k ∧ iv = .int .i64 (j : Int) ∧ Blk wr X 33 [.int .i64 (i : Int), .int .i64 (n : Int), .string S2] ∧ Ext w wr) (fun iv _ => L.length - (intOf iv).toNat)
      case atStart => exact ⟨0, Nat.zero_le _, rfl, HBx.out, HE.out⟩
      case round =>
        clear cr
        have HE0 := HE; have HB0 := HBx
        obtain ⟨j, hj, rfl, hbx, hext⟩ := hrel
        have HE := Lib.hid hext; have HBx := Lib.hid hbx
        have cr := (HB.out.ext hext).cell 0 _ rfl
        clear hbx hext HE0 HB0
        have hlt : j < L.length := by omega
        have x0 := HBx.out.cell 0 _ rfl
        by_cases hjk : j < k
        · obtain ⟨x, hx⟩ : ∃ x, L[j]? = some x := ⟨_, List.getElem?_eq_getElem hlt⟩
          obtain ⟨q, rfl, hq1, hq2, hc0, hc1, hc2⟩ := HCl.out j x hx
          have c0 := (HE.out.below.cell (p := ⟨q, j * 3, none⟩) hq2).trans hc0
          have hne : ((x.1 : Int) == (i : Int)) = false := by
            have q := HOnce.out j x hx hjk
            simpa using q
          clear hx hc0 hc1 hc2 hq1 hq2
          generalize x.1 = t at *
          go_wp2
          go_quiet (fail)
          go_wp2
          go_roundw
          case rel => exact ⟨j + 1, by omega, by go_num, HBx.out.drewN _, HE.out.drewN _⟩
          case measure => simp [intOf]; omega
        · obtain rfl : j = k := by omega
          obtain ⟨q, rfl, hq1, hq2, hc0, hc1, hc2⟩ := HCl.out j _ HK.out
          have c0 := (HE.out.below.cell (p := ⟨q, j * 3, none⟩) hq2).trans hc0
          clear hc0 hc1 hc2 hq1 hq2
          go_wp2
          go_quiet (fail)
          go_wp2
          go_ret
          exact ⟨rfl, HE.out.drewN _⟩
set_option maxRecDepth 100000 in
set_option maxHeartbeats 4000000 in
theorem radd_ok (w : World) (r : Nat) (v : Value) (n m : Nat) (L : List (Nat × ByteArray)) (s : ByteArray) (i : Nat) (h : IsR w r v n m L) (hs : ShareOf s i n) (hm : s.size - 2 = m) (hL16 : L.length ≤ 1000) (hnin : ∀ x ∈ L, x.1 ≠ i) :
    Calls Try.prog 16 #[.pointer (some ⟨r, 0, none⟩), .string s] w fun e w' => ∃ v', e = .returned (.int .i64 0) ∧ IsR w' r v' n m (L ++ [(i, s.extract 2 s.size)]) ∧ Below r w w' := by
  obtain ⟨p, c, rfl, hcl⟩ := h.buf.cells
  have HR := Lib.hid (fun u => rread_yes s i n hs u)
  have hS : (s.extract 2 s.size).size = s.size - 2 := by simp
  have HB := Lib.hid h.blk
  have HCl := Lib.hid hcl
  have HSz := Lib.hid (fun (x : Nat × ByteArray) (hx : x ∈ L) => (show (x.2.size : Int) = ((s.extract 2 s.size).size : Int) by have := (h.alike.each x hx).2.2; omega))
  have HOnce := Lib.hid (fun (j : Nat) (x : Nat × ByteArray) (hj : L[j]? = some x) => (show ¬ (x.1 : Int) = (i : Int) by have := hnin x (List.mem_of_getElem? hj); omega))
  have HBuf := Lib.hid h.buf
  have HA : Hid (Alike n m (L ++ [(i, s.extract 2 s.size)])) := Lib.hid (by
    obtain ⟨_, _, _, _, q1, q2, _⟩ := hs
    exact h.alike.snoc q1 q2 (by omega) hnin)
  have hrw : r < w.heap.size := h.blk.lt
  clear hnin
  clear h hs hm hS hcl
  generalize s.extract 2 s.size = S2 at *
  go_enter Try.func16, Try.ntmps16
  go_wp2_with (go_at_call 13; refine (HR.out _).mono ?_; rintro e w1 ⟨rfl, x1⟩; have HX := Lib.hid (x1.alloc (.cells #[.int .i64 (i : Int), .int .i64 (n : Int), .string S2] 33)))
  have HBX := Lib.hid (Blk.new w1 [.int .i64 (i : Int), .int .i64 (n : Int), .string S2] 33)
  have hXw : w.heap.size ≤ w1.heap.size := x1.size
  generalize w1.heap.size = X at *
  clear x1
  go_loopw [7] (fun iv wr => ∃ j : Nat, j ≤ L.length ∧ iv = .int .i64 (j : Int) ∧ Blk wr X 33 [.int .i64 (i : Int), .int .i64 (n : Int), .string S2] ∧ Ext w wr) (fun iv _ => L.length - (intOf iv).toNat)
  case atStart => exact ⟨0, Nat.zero_le _, rfl, HBX.out, HX.out⟩
  case round =>
    obtain ⟨j, hj, rfl, hbx, hext⟩ := hrel
    have HE := Lib.hid hext; have HBx := Lib.hid hbx
    have cr := (HB.out.ext hext).cell 0 _ rfl
    clear hbx hext
    by_cases hlt : j < L.length
    · obtain ⟨x, hx⟩ : ∃ x, L[j]? = some x := ⟨_, List.getElem?_eq_getElem hlt⟩
      obtain ⟨q, rfl, hq1, hq2, hc0, hc1, hc2⟩ := HCl.out j x hx
      have x1 := HBx.out.cell 1 _ rfl
      have x2 := HBx.out.cell 2 _ rfl
      have c1 := (HE.out.below.cell (p := ⟨q, j * 3 + 1, none⟩) hq2).trans hc1
      have c2 := (HE.out.below.cell (p := ⟨q, j * 3 + 2, none⟩) hq2).trans hc2
      have hne : ((x.2.size : Int) != (S2.size : Int)) = false := by
        have q := HSz.out x (List.mem_of_getElem? hx)
        simpa using q
      clear hx hc0 hc1 hc2 hq1 hq2
      generalize x.2 = t at *
      go_wp2
      go_quiet (fail)
      go_wp2
      go_roundw
      case rel => exact ⟨j + 1, by omega, by go_num, HBx.out.drewN _, HE.out.drewN _⟩
      case measure => simp [intOf]; omega
    · obtain rfl : j = L.length := by omega
      go_wp2
      go_loopw [8] (fun iv wr => ∃ j : Nat, j ≤ L.length ∧ iv = .int .i64 (j : Int) ∧ Blk wr X 33 [.int .i64 (i : Int), .int .i64 (n : Int), .string S2] ∧ Ext w wr) (fun iv _ => L.length - (intOf iv).toNat)
      case atStart => exact ⟨0, Nat.zero_le _, rfl, HBx.out, HE.out⟩
      case round =>
        clear cr
        have HE0 := HE; have HB0 := HBx
        obtain ⟨j, hj, rfl, hbx, hext⟩ := hrel
        have HE := Lib.hid hext; have HBx := Lib.hid hbx
        have cr := (HB.out.ext hext).cell 0 _ rfl
        clear hbx hext HE0 HB0
        have x0 := HBx.out.cell 0 _ rfl
        by_cases hlt : j < L.length
        · obtain ⟨x, hx⟩ : ∃ x, L[j]? = some x := ⟨_, List.getElem?_eq_getElem hlt⟩
          obtain ⟨q, rfl, hq1, hq2, hc0, hc1, hc2⟩ := HCl.out j x hx
          have c0 := (HE.out.below.cell (p := ⟨q, j * 3, none⟩) hq2).trans hc0
          have hne : ((x.1 : Int) == (i : Int)) = false := by
            have q := HOnce.out j x hx
            simpa using q
          clear hx hc0 hc1 hc2 hq1 hq2
          generalize x.1 = t at *
          go_wp2
          go_quiet (fail)
          go_wp2
          go_roundw
          case rel => exact ⟨j + 1, by omega, by go_num, HBx.out.drewN _, HE.out.drewN _⟩
          case measure => simp [intOf]; omega
        · obtain rfl : j = L.length := by omega
          have cr2 := ((HB.out.ext HE.out).alloc (.cells #[.int .i64 (i : Int), .int .i64 (n : Int), .string S2] 33)).cell 0 _ rfl
          have y1 := HBx.out.cell 1 _ rfl
          have y2 := HBx.out.cell 2 _ rfl
          have HX3 := Lib.hid ((HE.out.alloc (.cells #[.int .i64 (i : Int), .int .i64 (n : Int), .string S2] 33)).drew)
          have HN3 : Hid (Blk ((wr.alloc (.cells #[.int .i64 (i : Int), .int .i64 (n : Int), .string S2] 33)).drew) wr.heap.size 33 [.int .i64 (i : Int), .int .i64 (n : Int), .string S2]) := Lib.hid ((Blk.new wr _ _).drew)
          go_wp2
          go_region_law (refine step_append_share rfl (.tmp 76) (.tmp 78) rfl (r + 1) _ n L (by simp [Act.eval]) (HBuf.out.ext HX3.out) wr.heap.size i S2 (by simp [Act.eval]) HN3.out (by omega) (Nat.le_trans hrw HX3.out.size) ?_; intro v1 w3 hb1 hx4; obtain ⟨p1, c1, rfl, _⟩ := hb1.cells; have HB1 := Lib.hid hb1; have HX4 := Lib.hid hx4; have HB3 : Hid (Blk w3 r 43 _) := Lib.hid ((HB.out.ext HX3.out).below hx4 (by omega)); have cr3 := HB3.out.cell 0 _ rfl; have fr3 := HB3.out.frozen 0; clear hb1 hx4)
          all_goals
            go_wp2
            go_ret
            refine ⟨_, rfl, ⟨HB3.out.set_ 0 _, ?_, HA.out⟩, ((Below.mono HX3.out (Nat.le_of_lt hrw)).trans (Below.mono HX4.out (Nat.le_succ r))).setCell (Nat.le_refl r) _⟩
            have q := HB1.out
            unfold BufH at q ⊢
            rw [List.length_append] at q ⊢
            exact (ownsRow_setCell_below q (a := ⟨r, 0, none⟩) (Nat.lt_succ_self r) _)
end Go.Proofs.Ytadincbeimfakaa
