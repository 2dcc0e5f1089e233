/- Contracts: a block's columns mixed, and back, by the program. -/
import Derived.Test.YthglecfbcdikaaaBlkTurn
import Derived.Test.YthglecfbcdikaaaDbl
namespace Go.Proofs.Ythglecfbcdikaaa
open Go.RowKit

theorem tm_two : ∀ x, x < 256 → tm 2 x = xt x := by decide +kernel
theorem mul_two (x : UInt8) : (mulB 2 x).toNat = xt x.toNat := by rw [mulB_nat]; exact tm_two _ x.toNat_lt
theorem mul_three (x : UInt8) : mulB 3 x = mulB 2 x ^^^ x := by
  have e : (3 : UInt8) = 2 ^^^ 1 := by decide
  rw [e, mulB_left, mulB_comm 1, mulB_one]
theorem one_mul8 (x : UInt8) : mulB 1 x = x := by rw [mulB_comm, mulB_one]
section
variable (a b c d : UInt8)
theorem col0 : dot 2 3 1 1 a b c d = mulB 2 (a ^^^ b) ^^^ b ^^^ c ^^^ d := by unfold dot; rw [mul_three, one_mul8, one_mul8, mulB_right]; simp only [UInt8.xor_assoc]
theorem col1 : dot 1 2 3 1 a b c d = mulB 2 (b ^^^ c) ^^^ c ^^^ d ^^^ a := by
  unfold dot; rw [mul_three, one_mul8, one_mul8, mulB_right]
  rw [UInt8.xor_comm (mulB 2 b ^^^ mulB 2 c ^^^ c ^^^ d) a]
  simp only [UInt8.xor_assoc]
theorem col2 : dot 1 1 2 3 a b c d = mulB 2 (c ^^^ d) ^^^ d ^^^ a ^^^ b := by
  unfold dot; rw [mul_three, one_mul8, one_mul8, mulB_right]
  rw [UInt8.xor_assoc (mulB 2 c ^^^ mulB 2 d ^^^ d) a b, UInt8.xor_comm (mulB 2 c ^^^ mulB 2 d ^^^ d) (a ^^^ b)]
  simp only [UInt8.xor_assoc]
theorem col3 : dot 3 1 1 2 a b c d = mulB 2 (d ^^^ a) ^^^ a ^^^ b ^^^ c := by
  unfold dot; rw [mul_three, one_mul8, one_mul8, mulB_right]
  rw [UInt8.xor_comm (mulB 2 a ^^^ a ^^^ b ^^^ c) (mulB 2 d)]
  simp only [UInt8.xor_assoc]
/-- What the walk reckons for one byte of a column. -/
theorem col_int (x y z : UInt8) (D : UInt8) (hD : D = mulB 2 (x ^^^ y) ^^^ y ^^^ z ^^^ a) :
    bits BinOp.xor IntKind.u8 (x.toNat : Int) (y.toNat : Int) = ((x ^^^ y).toNat : Int) ∧
    bits BinOp.xor IntKind.u8 ((xt (x ^^^ y).toNat : Nat) : Int) (y.toNat : Int) = ((mulB 2 (x ^^^ y) ^^^ y).toNat : Int) ∧
    bits BinOp.xor IntKind.u8 ((mulB 2 (x ^^^ y) ^^^ y).toNat : Int) (z.toNat : Int) = ((mulB 2 (x ^^^ y) ^^^ y ^^^ z).toNat : Int) ∧
    bits BinOp.xor IntKind.u8 ((mulB 2 (x ^^^ y) ^^^ y ^^^ z).toNat : Int) (a.toNat : Int) = (D.toNat : Int) := by
  subst hD
  refine ⟨xor_nat8 _ _, ?_, xor_nat8 _ _, xor_nat8 _ _⟩
  rw [← mul_two]
  exact xor_nat8 _ _
end
theorem mixC_at (l : List UInt8) (h : l.length = 16) (i : Nat) (hi : i < 4) :
    (mixC l)[4 * i]? = some (dot 2 3 1 1 (l.getD (4 * i) 0) (l.getD (4 * i + 1) 0) (l.getD (4 * i + 2) 0) (l.getD (4 * i + 3) 0)) ∧
    (mixC l)[4 * i + 1]? = some (dot 1 2 3 1 (l.getD (4 * i) 0) (l.getD (4 * i + 1) 0) (l.getD (4 * i + 2) 0) (l.getD (4 * i + 3) 0)) ∧
    (mixC l)[4 * i + 2]? = some (dot 1 1 2 3 (l.getD (4 * i) 0) (l.getD (4 * i + 1) 0) (l.getD (4 * i + 2) 0) (l.getD (4 * i + 3) 0)) ∧
    (mixC l)[4 * i + 3]? = some (dot 3 1 1 2 (l.getD (4 * i) 0) (l.getD (4 * i + 1) 0) (l.getD (4 * i + 2) 0) (l.getD (4 * i + 3) 0)) := by
  obtain ⟨a0, a1, a2, a3, a4, a5, a6, a7, a8, a9, a10, a11, a12, a13, a14, a15, rfl⟩ := sixteen h
  rw [mixC_eq]
  rcases (show i = 0 ∨ i = 1 ∨ i = 2 ∨ i = 3 by omega) with rfl | rfl | rfl | rfl
  all_goals exact ⟨rfl, rfl, rfl, rfl⟩
theorem at_getD {l : List UInt8} {i : Nat} (h : i < l.length) : l[i]? = some (l.getD i 0) := by
  rw [List.getD_eq_getElem?_getD, List.getElem?_eq_getElem h]; rfl
theorem len16 : Try.prog.arrayLen 54 = 16 := by kernel_rfl
theorem elem16 : Try.prog.elem 54 = 5 := by kernel_rfl
theorem info8s : (Try.prog.info? 5).map (·.size) = some 1 := by kernel_rfl
theorem size8_run (w : World) : (sizeOf 5).run Try.prog w = .ok 1 w := by
  cases hq : Try.prog.info? 5 with
  | none => have := info8s; simp [hq] at this
  | some d =>
    have hs : d.size = 1 := by have := info8s; simpa [hq] using this
    simp [sizeOf, typeInfo, hq, hs]
/-- Four bytes of a block. -/
theorem slice_four (g m : Nat) (hm : m + 4 ≤ 16) (w : World) : (Instr.sliceAt 54 (.pointer (some ⟨g, 0, none⟩)) (some (.int .i64 (m : Int))) (some (.int .i64 ((m : Int) + 4))) none).run Try.prog w = .ok (.slice (some ⟨g, m, none⟩) 4 (16 - m)) w := by
  have hu : Try.prog.underlying 54 = some (.array (Try.prog.arrayLen 54) (Try.prog.elem 54)) := by rw [len16, elem16]; exact Try.underlying54
  rw [run_sliceAt_array_lh (P := Try.prog) w 54 ⟨g, 0, none⟩ hu .i64 .i64 (m : Int) ((m : Int) + 4) (by omega) (by omega) (by rw [len16]; omega), elem16, size8_run, len16]
  have e1 : ((m : Int) + 4).toNat = m + 4 := by omega
  simp only [Result.andThen, slicedAt, Int.toNat_natCast, e1, Nat.mul_one]
  rw [if_neg (by omega), Addr.add_mid, Nat.zero_add, Nat.add_sub_cancel_left]
set_option maxRecDepth 100000 in
set_option maxHeartbeats 2000000 in
theorem mix_any (w : World) (g : Nat) (t : TypeId) (l : List UInt8) (hr : Row w g t l) (hl : l.length = 16) :
    Calls Try.prog 42 #[.pointer (some ⟨g, 0, none⟩)] w fun e w' => e = .returned (.tuple #[]) ∧ Below g w w' ∧ Row w' g t (mixC l) := by
  have HL := Lib.hid hl; have HA := Lib.hid (mixC_length l)
  have HM := Lib.hid (mixC_at l hl)
  clear hl
  go_enter Try.func42, Try.ntmps42
  go_wp2
  go_loopw [8] (fun i wr => ∃ j : Nat, j ≤ 4 ∧ i = .int .i64 j ∧ Row wr g t (mixd (mixC l) l (4 * j)) ∧ Below g w wr) (fun i _ => 4 - (intOf i).toNat)
  case atStart => exact ⟨0, Nat.zero_le _, rfl, by rw [Nat.mul_zero, mixd_zero]; exact hr, Below.refl _ _⟩
  case round =>
    obtain ⟨j, hj, rfl, hrow, hb⟩ := hrel
    by_cases hlt : j < 4
    · obtain ⟨n0, n1, n2, n3⟩ := HM.out j hlt
      obtain ⟨m, hm⟩ : ∃ m : Nat, 4 * (j : Int) = (m : Int) := ⟨4 * j, by omega⟩
      have hm2 : 4 * j = m := by omega
      have hm3 : m + 4 ≤ 16 := by omega
      have hm4 : 4 * (j + 1) = m + 4 := by omega
      have hm5 : 4 * ((j : Int) + 1) = (m : Int) + 4 := by omega
      rw [hm2] at n0 n1 n2 n3 hrow
      have q0 := at_getD (l := l) (i := m) (by rw [HL.out]; omega)
      have q1 := at_getD (l := l) (i := m + 1) (by rw [HL.out]; omega)
      have q2 := at_getD (l := l) (i := m + 2) (by rw [HL.out]; omega)
      have q3 := at_getD (l := l) (i := m + 3) (by rw [HL.out]; omega)
      have Q0 := Lib.hid q0; have Q1 := Lib.hid q1; have Q2 := Lib.hid q2; have Q3 := Lib.hid q3
      clear q0 q1 q2 q3
      generalize l.getD m 0 = a at *
      generalize l.getD (m + 1) 0 = b at *
      generalize l.getD (m + 2) 0 = c at *
      generalize l.getD (m + 3) 0 = d at *
      have N0 := Lib.hid n0; have N1 := Lib.hid n1; have N2 := Lib.hid n2; have N3 := Lib.hid n3
      have mo : ∀ k j : Nat, k ≤ 16 → k ≤ j → (mixd (mixC l) l k)[j]? = l[j]? := fun k j hk hj => mixd_at HA.out k j hk hj
      have c0 := hrow.cell m a (by rw [mo m m (by omega) (by omega)]; exact Q0.out)
      have c1 := hrow.cell (m + 1) b (by rw [mo m (m + 1) (by omega) (by omega)]; exact Q1.out)
      have c2 := hrow.cell (m + 2) c (by rw [mo m (m + 2) (by omega) (by omega)]; exact Q2.out)
      have c3 := hrow.cell (m + 3) d (by rw [mo m (m + 3) (by omega) (by omega)]; exact Q3.out)
      clear n0 n1 n2 n3
      have HRow := Lib.hid hrow; have HB := Lib.hid hb; have HM2 := Lib.hid hm2; have HM4 := Lib.hid hm4
      clear hrow hb hm2 hm4 mo
      have hsl := fun u => slice_four g m hm3 u
      obtain ⟨x0, y0, z0, v0⟩ := col_int d a b c _ (col0 a b c d)
      obtain ⟨x1, y1, z1, v1⟩ := col_int a b c d _ (col1 a b c d)
      obtain ⟨x2, y2, z2, v2⟩ := col_int b c d a _ (col2 a b c d)
      obtain ⟨x3, y3, z3, v3⟩ := col_int c d a b _ (col3 a b c d)
      have p0 := (a ^^^ b).toNat_lt; have p1 := (b ^^^ c).toNat_lt; have p2 := (c ^^^ d).toNat_lt; have p3 := (d ^^^ a).toNat_lt
      generalize (mulB 2 (a ^^^ b) ^^^ b ^^^ c).toNat = e0 at *
      generalize (mulB 2 (b ^^^ c) ^^^ c ^^^ d).toNat = e1 at *
      generalize (mulB 2 (c ^^^ d) ^^^ d ^^^ a).toNat = e2 at *
      generalize (mulB 2 (d ^^^ a) ^^^ a ^^^ b).toNat = e3 at *
      generalize (mulB 2 (a ^^^ b) ^^^ b).toNat = r0 at *
      generalize (mulB 2 (b ^^^ c) ^^^ c).toNat = r1 at *
      generalize (mulB 2 (c ^^^ d) ^^^ d).toNat = r2 at *
      generalize (mulB 2 (d ^^^ a) ^^^ a).toNat = r3 at *
      generalize (a ^^^ b).toNat = k0 at *
      generalize (b ^^^ c).toNat = k1 at *
      generalize (c ^^^ d).toNat = k2 at *
      generalize (d ^^^ a).toNat = k3 at *
      generalize dot 2 3 1 1 a b c d = D0 at *
      generalize dot 1 2 3 1 a b c d = D1 at *
      generalize dot 1 1 2 3 a b c d = D2 at *
      generalize dot 3 1 1 2 a b c d = D3 at *
      have T0 := Lib.hid (fun u => double_any k0 p0 u); have T1 := Lib.hid (fun u => double_any k1 p1 u); have T2 := Lib.hid (fun u => double_any k2 p2 u); have T3 := Lib.hid (fun u => double_any k3 p3 u)
      have mo : ∀ k j : Nat, k ≤ 16 → k ≤ j → (mixd (mixC l) l k)[j]? = l[j]? := fun k j hk hj => mixd_at HA.out k j hk hj
      have MO := Lib.hid mo
      clear mo
      go_wp2
      go_quiet (fail)
      have w0 := HRow.out.drewN nq
      clear c0 c1 c2 c3
      have w1 := row_mixd HA.out HL.out m (by omega) w0 _ N0.out _ rfl
      have w2 := row_mixd HA.out HL.out (m + 1) (by omega) w1 _ N1.out _ rfl
      have w3 := row_mixd HA.out HL.out (m + 2) (by omega) w2 _ N2.out _ rfl
      have w4 := row_mixd HA.out HL.out (m + 3) (by omega) w3 _ N3.out _ rfl
      have f0 := w0.frozen m; have f1 := w1.frozen (m + 1); have f2 := w2.frozen (m + 2); have f3 := w3.frozen (m + 3)
      have g0 := w0.cell m a (by rw [MO.out m m (by omega) (by omega)]; exact Q0.out)
      have g1 := w1.cell (m + 1) b (by rw [MO.out (m + 1) (m + 1) (by omega) (by omega)]; exact Q1.out)
      have g2 := w2.cell (m + 2) c (by rw [MO.out (m + 2) (m + 2) (by omega) (by omega)]; exact Q2.out)
      have g3 := w3.cell (m + 3) d (by rw [MO.out (m + 3) (m + 3) (by omega) (by omega)]; exact Q3.out)
      have W4 := Lib.hid w4
      clear w0 w1 w2 w3 w4
      generalize a.toNat = a at *
      generalize b.toNat = b at *
      generalize c.toNat = c at *
      generalize d.toNat = d at *
      go_wp2_with (first
        | (go_at_call 46; with_reducible refine (T0.out _).mono ?_; rintro e w1 ⟨rfl, rfl⟩)
        | (go_at_call 46; with_reducible refine (T1.out _).mono ?_; rintro e w1 ⟨rfl, rfl⟩)
        | (go_at_call 46; with_reducible refine (T2.out _).mono ?_; rintro e w1 ⟨rfl, rfl⟩)
        | (go_at_call 46; with_reducible refine (T3.out _).mono ?_; rintro e w1 ⟨rfl, rfl⟩))
      go_roundw
      case rel => exact ⟨j + 1, by omega, by go_num, by rw [HM4.out]; exact W4.out, ((((below_drewN HB.out nq).setCell (p := ⟨g, _, none⟩) (Nat.le_refl _) _).setCell (p := ⟨g, _, none⟩) (Nat.le_refl _) _).setCell (p := ⟨g, _, none⟩) (Nat.le_refl _) _).setCell (p := ⟨g, _, none⟩) (Nat.le_refl _) _⟩
      case measure => simp [intOf]; omega
    · obtain rfl : j = 4 := by omega
      rw [show 4 * 4 = 16 from rfl, mixd_all HA.out HL.out] at hrow
      have e4 : ((4 : Nat) : Int) = 4 := rfl
      rw [e4]
      clear e4
      go_wp2
      go_end0
      exact ⟨rfl, hb, hrow⟩
end Go.Proofs.Ythglecfbcdikaaa
