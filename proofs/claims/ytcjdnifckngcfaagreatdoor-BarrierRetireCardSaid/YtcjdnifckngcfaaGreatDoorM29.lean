/- Contracts: a block's bytes through a table; its rows turned; by the program. Contracts: a block's columns mixed, and back, by the program. A cipher in memory; what a block becomes, round by round. -/
import Derived.Test.YtcjdnifckngcfaaGreatDoorM28
import Derived.Test.YtcjdnifckngcfaaGreatDoorM26
import Derived.Test.YtcjdnifckngcfaaGreatDoorM10
section
namespace Go.Proofs.YtcjdnifckngcfaaGreatDoor
open Go.RowKit

theorem below_drewN {B : Nat} {a b : World} (h : Below B a b) (n : Nat) : Below B a (b.drewN n) := ⟨h.os, h.tape, h.output, h.size, h.block⟩
set_option maxRecDepth 100000 in
set_option maxHeartbeats 1000000 in
theorem put_any (w : World) (g k o : Nat) (t : TypeId) (l T : List UInt8) (f : UInt8 → UInt8) (hr : Row w g t l) (hl : l.length = 16) (hT : ∀ b : UInt8, T[b.toNat]? = some (f b)) (hkb : Bytes w k o T) (hkg : k < g) :
    Calls Tryz.prog 192 #[.pointer (some ⟨g, 0, none⟩), .pointer (some ⟨k, o, none⟩)] w fun e w' => e = .returned (.tuple #[]) ∧ Below g w w' ∧ Row w' g t (l.map f) := by
  have HL := Lib.hid hl; have HT := Lib.hid hT; have HKB := Lib.hid hkb
  have HA : Hid ((l.map f).length = 16) := Lib.hid (by rw [List.length_map]; exact hl)
  clear hl hT hkb
  go_enter Tryz.func192, Tryz.ntmps192
  go_wp2
  go_loopw [7] (fun i wr => ∃ j : Nat, j ≤ 16 ∧ i = .int .i64 j ∧ Row wr g t (mixd (l.map f) l j) ∧ Below g w wr) (fun i _ => 16 - (intOf i).toNat)
  case atStart => exact ⟨0, Nat.zero_le _, rfl, by rw [mixd_zero]; exact hr, Below.refl _ _⟩
  case round =>
    obtain ⟨j, hj, rfl, hrow, hb⟩ := hrel
    by_cases hlt : j < 16
    · obtain ⟨x, hx⟩ : ∃ x, l[j]? = some x := ⟨_, List.getElem?_eq_getElem (by rw [HL.out]; exact hlt)⟩
      have hn : (l.map f)[j]? = some (f x) := by rw [List.getElem?_map, hx]; rfl
      have c1 := hrow.cell j x (by rw [mixd_at HA.out j j (by omega) (Nat.le_refl _)]; exact hx)
      have c2 := (HKB.out.below hb hkg) x.toNat _ (HT.out x)
      have f1 := hrow.frozen j
      have HS := Lib.hid (fun n => fun v hv => row_mixd HA.out HL.out j hlt (hrow.drewN n) _ hn v hv)
      have HB := Lib.hid hb
      have hxl := x.toNat_lt
      clear hx hn hrow hb
      generalize x.toNat = xn at *
      generalize f x = y at *
      go_wp2
      go_quiet (fail)
      go_wp2
      go_region
      go_wp2
      go_roundw
      case rel => exact ⟨j + 1, by omega, by go_num, HS.out _ _ rfl, (below_drewN HB.out _).setCell (p := ⟨g, _, none⟩) (Nat.le_refl _) _⟩
      case measure => simp [intOf]; omega
    · obtain rfl : j = 16 := by omega
      rw [mixd_all HA.out HL.out] at hrow
      have e16 : ((16 : Nat) : Int) = 16 := rfl
      rw [e16]
      clear e16
      go_wp2
      go_end0
      exact ⟨rfl, hb, hrow⟩
/-- Row i turned by i places to the left. -/
def shL (l : List UInt8) : List UInt8 := (List.range 16).map fun i => l.getD ((i + 4 * (i % 4)) % 16) 0
theorem shL_length (l : List UInt8) : (shL l).length = 16 := by simp [shL]
theorem shL_sub {l : List UInt8} (h : l.length = 16) : shL (l.map boxB) = subShift l := by
  obtain ⟨a0, a1, a2, a3, a4, a5, a6, a7, a8, a9, a10, a11, a12, a13, a14, a15, rfl⟩ := sixteen h
  rfl
set_option maxRecDepth 100000 in
set_option maxHeartbeats 1000000 in
theorem turnLeft_any (w : World) (g : Nat) (l : List UInt8) (hr : Row w g 209 l) (hl : l.length = 16) :
    Calls Tryz.prog 193 #[.pointer (some ⟨g, 0, none⟩)] w fun e w' => e = .returned (.tuple #[]) ∧ Below g w w' ∧ Row w' g 209 (shL l) := by
  have hz := zero_run zero16
  have HL := Lib.hid hl; have HA := Lib.hid (shL_length l)
  have hgl := hr.lt
  have hr0 : Row ((w.alloc (.cells (zc 16) 209)).setRow w.heap.size (l.map cellOf).toArray) g 209 l := (setRow_other _ _ _ _ (by omega)).trans (hr.alloc _)
  have hw0 : Row ((w.alloc (.cells (zc 16) 209)).setRow w.heap.size (l.map cellOf).toArray) w.heap.size 209 l := setRow_heap _ _ _ _ _ _ (Row.zero w _ 16)
  have hb0 : Below g w ((w.alloc (.cells (zc 16) 209)).setRow w.heap.size (l.map cellOf).toArray) := below_setRow ((Below.refl g w).alloc (by omega) _) (by omega) _
  have HR0 := Lib.hid hr0; have HW0 := Lib.hid hw0; have HB0 := Lib.hid hb0
  clear hr0 hw0 hb0 hl
  go_enter Tryz.func193, Tryz.ntmps193
  go_wp2_with (first
    | (refine wpList_load_row rfl 209 (.tmp 5) rfl _ rfl 209 _ (0, 0) _ hr Tryz.underlying209 rfl (sized size16 HL.out) ?_)
    | (refine wpList_store_row rfl 209 (.tmp 2) (.tmp 6) rfl w.heap.size _ rfl rfl 209 _ (Row.zero w _ 16) (sized size16 HL.out) (by simp [HL.out]) (cells8_one _) ?_))
  go_loopw [7] (fun i wr => ∃ j : Nat, j ≤ 16 ∧ i = .int .i64 j ∧ Row wr g 209 (mixd (shL l) l j) ∧ Row wr w.heap.size 209 l ∧ Below g w wr) (fun i _ => 16 - (intOf i).toNat)
  case atStart => exact ⟨0, Nat.zero_le _, rfl, by rw [mixd_zero]; exact HR0.out, HW0.out, HB0.out⟩
  case round =>
    obtain ⟨j, hj, rfl, hrow, hwas, hb⟩ := hrel
    by_cases hlt : j < 16
    · obtain ⟨q, hq⟩ : ∃ q : Nat, ((j : Int) + 4 * ((j : Int) % 4)) % 16 = (q : Int) := ⟨(j + 4 * (j % 4)) % 16, by omega⟩
      have hq2 : (j + 4 * (j % 4)) % 16 = q := by omega
      have hq3 : q < 16 := by omega
      obtain ⟨x, hx⟩ : ∃ x, l[q]? = some x := ⟨_, List.getElem?_eq_getElem (by rw [HL.out]; exact hq3)⟩
      obtain ⟨y, hy⟩ : ∃ y, l[j]? = some y := ⟨_, List.getElem?_eq_getElem (by rw [HL.out]; exact hlt)⟩
      have hn : (shL l)[j]? = some x := by unfold shL; simp [hlt, hq2, hx]
      have c1 := hrow.cell j y (by rw [mixd_at HA.out j j (by omega) (Nat.le_refl _)]; exact hy)
      have c2 := hwas.cell q x hx
      have f1 := hrow.frozen j
      have HS := Lib.hid (fun v hv => row_mixd HA.out HL.out j hlt hrow _ hn v hv)
      have HB := Lib.hid hb; have HW := Lib.hid hwas
      have HG := Lib.hid hgl
      clear hx hy hn hrow hb hq2 hwas hgl
      generalize x.toNat = xn at *
      go_wp2
      go_region
      go_wp2
      go_roundw
      case rel => exact ⟨j + 1, by omega, by go_num, HS.out _ rfl, (HW.out.other (by have := HG.out; omega) _ _).drew, (HB.out.setCell (p := ⟨g, _, none⟩) (Nat.le_refl _) _).drew⟩
      case measure => simp [intOf]; omega
    · obtain rfl : j = 16 := by omega
      rw [mixd_all HA.out HL.out] at hrow
      have e16 : ((16 : Nat) : Int) = 16 := rfl
      rw [e16]
      clear e16
      go_wp2
      go_end0
      exact ⟨rfl, hb, hrow⟩
end Go.Proofs.YtcjdnifckngcfaaGreatDoor
end

section
namespace Go.Proofs.YtcjdnifckngcfaaGreatDoor
open Go.RowKit

theorem tm_two : ∀ x, x < 256 → tm 2 x = xt x := by decide +kernel
theorem mul_two (x : UInt8) : (mulB 2 x).toNat = xt x.toNat := by rw [mulB_nat]; exact tm_two _ x.toNat_lt
theorem mul_three (x : UInt8) : mulB 3 x = mulB 2 x ^^^ x := by
  have e : (3 : UInt8) = 2 ^^^ 1 := by decide
  rw [e, mulB_left, mulB_comm 1, mulB_one]
theorem one_mul8 (x : UInt8) : mulB 1 x = x := by rw [mulB_comm, mulB_one]
section
variable (a b c d : UInt8)
theorem col0 : dot 2 3 1 1 a b c d = mulB 2 (a ^^^ b) ^^^ b ^^^ c ^^^ d := by unfold dot; rw [mul_three, one_mul8, one_mul8, mulB_right]; simp only [UInt8.xor_assoc]
theorem col1 : dot 1 2 3 1 a b c d = mulB 2 (b ^^^ c) ^^^ c ^^^ d ^^^ a := by
  unfold dot; rw [mul_three, one_mul8, one_mul8, mulB_right]
  rw [UInt8.xor_comm (mulB 2 b ^^^ mulB 2 c ^^^ c ^^^ d) a]
  simp only [UInt8.xor_assoc]
theorem col2 : dot 1 1 2 3 a b c d = mulB 2 (c ^^^ d) ^^^ d ^^^ a ^^^ b := by
  unfold dot; rw [mul_three, one_mul8, one_mul8, mulB_right]
  rw [UInt8.xor_assoc (mulB 2 c ^^^ mulB 2 d ^^^ d) a b, UInt8.xor_comm (mulB 2 c ^^^ mulB 2 d ^^^ d) (a ^^^ b)]
  simp only [UInt8.xor_assoc]
theorem col3 : dot 3 1 1 2 a b c d = mulB 2 (d ^^^ a) ^^^ a ^^^ b ^^^ c := by
  unfold dot; rw [mul_three, one_mul8, one_mul8, mulB_right]
  rw [UInt8.xor_comm (mulB 2 a ^^^ a ^^^ b ^^^ c) (mulB 2 d)]
  simp only [UInt8.xor_assoc]
/-- What the walk reckons for one byte of a column. -/
theorem col_int (x y z : UInt8) (D : UInt8) (hD : D = mulB 2 (x ^^^ y) ^^^ y ^^^ z ^^^ a) :
    bits BinOp.xor IntKind.u8 (x.toNat : Int) (y.toNat : Int) = ((x ^^^ y).toNat : Int) ∧
    bits BinOp.xor IntKind.u8 ((xt (x ^^^ y).toNat : Nat) : Int) (y.toNat : Int) = ((mulB 2 (x ^^^ y) ^^^ y).toNat : Int) ∧
    bits BinOp.xor IntKind.u8 ((mulB 2 (x ^^^ y) ^^^ y).toNat : Int) (z.toNat : Int) = ((mulB 2 (x ^^^ y) ^^^ y ^^^ z).toNat : Int) ∧
    bits BinOp.xor IntKind.u8 ((mulB 2 (x ^^^ y) ^^^ y ^^^ z).toNat : Int) (a.toNat : Int) = (D.toNat : Int) := by
  subst hD
  refine ⟨xor_nat8 _ _, ?_, xor_nat8 _ _, xor_nat8 _ _⟩
  rw [← mul_two]
  exact xor_nat8 _ _
end
theorem mixC_at (l : List UInt8) (h : l.length = 16) (i : Nat) (hi : i < 4) :
    (mixC l)[4 * i]? = some (dot 2 3 1 1 (l.getD (4 * i) 0) (l.getD (4 * i + 1) 0) (l.getD (4 * i + 2) 0) (l.getD (4 * i + 3) 0)) ∧
    (mixC l)[4 * i + 1]? = some (dot 1 2 3 1 (l.getD (4 * i) 0) (l.getD (4 * i + 1) 0) (l.getD (4 * i + 2) 0) (l.getD (4 * i + 3) 0)) ∧
    (mixC l)[4 * i + 2]? = some (dot 1 1 2 3 (l.getD (4 * i) 0) (l.getD (4 * i + 1) 0) (l.getD (4 * i + 2) 0) (l.getD (4 * i + 3) 0)) ∧
    (mixC l)[4 * i + 3]? = some (dot 3 1 1 2 (l.getD (4 * i) 0) (l.getD (4 * i + 1) 0) (l.getD (4 * i + 2) 0) (l.getD (4 * i + 3) 0)) := by
  obtain ⟨a0, a1, a2, a3, a4, a5, a6, a7, a8, a9, a10, a11, a12, a13, a14, a15, rfl⟩ := sixteen h
  rw [mixC_eq]
  rcases (show i = 0 ∨ i = 1 ∨ i = 2 ∨ i = 3 by omega) with rfl | rfl | rfl | rfl
  all_goals exact ⟨rfl, rfl, rfl, rfl⟩
theorem at_getD {l : List UInt8} {i : Nat} (h : i < l.length) : l[i]? = some (l.getD i 0) := by
  rw [List.getD_eq_getElem?_getD, List.getElem?_eq_getElem h]; rfl
theorem len16 : Tryz.prog.arrayLen 209 = 16 := by kernel_rfl
theorem elem16 : Tryz.prog.elem 209 = 5 := by kernel_rfl
theorem info8s : (Tryz.prog.info? 5).map (·.size) = some 1 := by kernel_rfl
theorem size8_run (w : World) : (sizeOf 5).run Tryz.prog w = .ok 1 w := by
  cases hq : Tryz.prog.info? 5 with
  | none => have := info8s; simp [hq] at this
  | some d =>
    have hs : d.size = 1 := by have := info8s; simpa [hq] using this
    simp [sizeOf, typeInfo, hq, hs]
/-- Four bytes of a block. -/
theorem slice_four (g m : Nat) (hm : m + 4 ≤ 16) (w : World) : (Instr.sliceAt 209 (.pointer (some ⟨g, 0, none⟩)) (some (.int .i64 (m : Int))) (some (.int .i64 ((m : Int) + 4))) none).run Tryz.prog w = .ok (.slice (some ⟨g, m, none⟩) 4 (16 - m)) w := by
  have hu : Tryz.prog.underlying 209 = some (.array (Tryz.prog.arrayLen 209) (Tryz.prog.elem 209)) := by rw [len16, elem16]; exact Tryz.underlying209
  rw [run_sliceAt_array_lh (P := Tryz.prog) w 209 ⟨g, 0, none⟩ hu .i64 .i64 (m : Int) ((m : Int) + 4) (by omega) (by omega) (by rw [len16]; omega), elem16, size8_run, len16]
  have e1 : ((m : Int) + 4).toNat = m + 4 := by omega
  simp only [Result.andThen, slicedAt, Int.toNat_natCast, e1, Nat.mul_one]
  rw [if_neg (by omega), Addr.add_mid, Nat.zero_add, Nat.add_sub_cancel_left]
set_option maxRecDepth 100000 in
set_option maxHeartbeats 2000000 in
theorem mix_any (w : World) (g : Nat) (t : TypeId) (l : List UInt8) (hr : Row w g t l) (hl : l.length = 16) :
    Calls Tryz.prog 194 #[.pointer (some ⟨g, 0, none⟩)] w fun e w' => e = .returned (.tuple #[]) ∧ Below g w w' ∧ Row w' g t (mixC l) := by
  have HL := Lib.hid hl; have HA := Lib.hid (mixC_length l)
  have HM := Lib.hid (mixC_at l hl)
  clear hl
  go_enter Tryz.func194, Tryz.ntmps194
  go_wp2
  go_loopw [8] (fun i wr => ∃ j : Nat, j ≤ 4 ∧ i = .int .i64 j ∧ Row wr g t (mixd (mixC l) l (4 * j)) ∧ Below g w wr) (fun i _ => 4 - (intOf i).toNat)
  case atStart => exact ⟨0, Nat.zero_le _, rfl, by rw [Nat.mul_zero, mixd_zero]; exact hr, Below.refl _ _⟩
  case round =>
    obtain ⟨j, hj, rfl, hrow, hb⟩ := hrel
    by_cases hlt : j < 4
    · obtain ⟨n0, n1, n2, n3⟩ := HM.out j hlt
      obtain ⟨m, hm⟩ : ∃ m : Nat, 4 * (j : Int) = (m : Int) := ⟨4 * j, by omega⟩
      have hm2 : 4 * j = m := by omega
      have hm3 : m + 4 ≤ 16 := by omega
      have hm4 : 4 * (j + 1) = m + 4 := by omega
      have hm5 : 4 * ((j : Int) + 1) = (m : Int) + 4 := by omega
      rw [hm2] at n0 n1 n2 n3 hrow
      have q0 := at_getD (l := l) (i := m) (by rw [HL.out]; omega)
      have q1 := at_getD (l := l) (i := m + 1) (by rw [HL.out]; omega)
      have q2 := at_getD (l := l) (i := m + 2) (by rw [HL.out]; omega)
      have q3 := at_getD (l := l) (i := m + 3) (by rw [HL.out]; omega)
      have Q0 := Lib.hid q0; have Q1 := Lib.hid q1; have Q2 := Lib.hid q2; have Q3 := Lib.hid q3
      clear q0 q1 q2 q3
      generalize l.getD m 0 = a at *
      generalize l.getD (m + 1) 0 = b at *
      generalize l.getD (m + 2) 0 = c at *
      generalize l.getD (m + 3) 0 = d at *
      have N0 := Lib.hid n0; have N1 := Lib.hid n1; have N2 := Lib.hid n2; have N3 := Lib.hid n3
      have mo : ∀ k j : Nat, k ≤ 16 → k ≤ j → (mixd (mixC l) l k)[j]? = l[j]? := fun k j hk hj => mixd_at HA.out k j hk hj
      have c0 := hrow.cell m a (by rw [mo m m (by omega) (by omega)]; exact Q0.out)
      have c1 := hrow.cell (m + 1) b (by rw [mo m (m + 1) (by omega) (by omega)]; exact Q1.out)
      have c2 := hrow.cell (m + 2) c (by rw [mo m (m + 2) (by omega) (by omega)]; exact Q2.out)
      have c3 := hrow.cell (m + 3) d (by rw [mo m (m + 3) (by omega) (by omega)]; exact Q3.out)
      clear n0 n1 n2 n3
      have HRow := Lib.hid hrow; have HB := Lib.hid hb; have HM2 := Lib.hid hm2; have HM4 := Lib.hid hm4
      clear hrow hb hm2 hm4 mo
      have hsl := fun u => slice_four g m hm3 u
      obtain ⟨x0, y0, z0, v0⟩ := col_int d a b c _ (col0 a b c d)
      obtain ⟨x1, y1, z1, v1⟩ := col_int a b c d _ (col1 a b c d)
      obtain ⟨x2, y2, z2, v2⟩ := col_int b c d a _ (col2 a b c d)
      obtain ⟨x3, y3, z3, v3⟩ := col_int c d a b _ (col3 a b c d)
      have p0 := (a ^^^ b).toNat_lt; have p1 := (b ^^^ c).toNat_lt; have p2 := (c ^^^ d).toNat_lt; have p3 := (d ^^^ a).toNat_lt
      generalize (mulB 2 (a ^^^ b) ^^^ b ^^^ c).toNat = e0 at *
      generalize (mulB 2 (b ^^^ c) ^^^ c ^^^ d).toNat = e1 at *
      generalize (mulB 2 (c ^^^ d) ^^^ d ^^^ a).toNat = e2 at *
      generalize (mulB 2 (d ^^^ a) ^^^ a ^^^ b).toNat = e3 at *
      generalize (mulB 2 (a ^^^ b) ^^^ b).toNat = r0 at *
      generalize (mulB 2 (b ^^^ c) ^^^ c).toNat = r1 at *
      generalize (mulB 2 (c ^^^ d) ^^^ d).toNat = r2 at *
      generalize (mulB 2 (d ^^^ a) ^^^ a).toNat = r3 at *
      generalize (a ^^^ b).toNat = k0 at *
      generalize (b ^^^ c).toNat = k1 at *
      generalize (c ^^^ d).toNat = k2 at *
      generalize (d ^^^ a).toNat = k3 at *
      generalize dot 2 3 1 1 a b c d = D0 at *
      generalize dot 1 2 3 1 a b c d = D1 at *
      generalize dot 1 1 2 3 a b c d = D2 at *
      generalize dot 3 1 1 2 a b c d = D3 at *
      have T0 := Lib.hid (fun u => double_any k0 p0 u); have T1 := Lib.hid (fun u => double_any k1 p1 u); have T2 := Lib.hid (fun u => double_any k2 p2 u); have T3 := Lib.hid (fun u => double_any k3 p3 u)
      have mo : ∀ k j : Nat, k ≤ 16 → k ≤ j → (mixd (mixC l) l k)[j]? = l[j]? := fun k j hk hj => mixd_at HA.out k j hk hj
      have MO := Lib.hid mo
      clear mo
      go_wp2
      go_quiet (fail)
      have w0 := HRow.out.drewN nq
      clear c0 c1 c2 c3
      have w1 := row_mixd HA.out HL.out m (by omega) w0 _ N0.out _ rfl
      have w2 := row_mixd HA.out HL.out (m + 1) (by omega) w1 _ N1.out _ rfl
      have w3 := row_mixd HA.out HL.out (m + 2) (by omega) w2 _ N2.out _ rfl
      have w4 := row_mixd HA.out HL.out (m + 3) (by omega) w3 _ N3.out _ rfl
      have f0 := w0.frozen m; have f1 := w1.frozen (m + 1); have f2 := w2.frozen (m + 2); have f3 := w3.frozen (m + 3)
      have g0 := w0.cell m a (by rw [MO.out m m (by omega) (by omega)]; exact Q0.out)
      have g1 := w1.cell (m + 1) b (by rw [MO.out (m + 1) (m + 1) (by omega) (by omega)]; exact Q1.out)
      have g2 := w2.cell (m + 2) c (by rw [MO.out (m + 2) (m + 2) (by omega) (by omega)]; exact Q2.out)
      have g3 := w3.cell (m + 3) d (by rw [MO.out (m + 3) (m + 3) (by omega) (by omega)]; exact Q3.out)
      have W4 := Lib.hid w4
      clear w0 w1 w2 w3 w4
      generalize a.toNat = a at *
      generalize b.toNat = b at *
      generalize c.toNat = c at *
      generalize d.toNat = d at *
      go_wp2_with (first
        | (go_at_call 211; with_reducible refine (T0.out _).mono ?_; rintro e w1 ⟨rfl, rfl⟩)
        | (go_at_call 211; with_reducible refine (T1.out _).mono ?_; rintro e w1 ⟨rfl, rfl⟩)
        | (go_at_call 211; with_reducible refine (T2.out _).mono ?_; rintro e w1 ⟨rfl, rfl⟩)
        | (go_at_call 211; with_reducible refine (T3.out _).mono ?_; rintro e w1 ⟨rfl, rfl⟩))
      go_roundw
      case rel => exact ⟨j + 1, by omega, by go_num, by rw [HM4.out]; exact W4.out, ((((below_drewN HB.out nq).setCell (p := ⟨g, _, none⟩) (Nat.le_refl _) _).setCell (p := ⟨g, _, none⟩) (Nat.le_refl _) _).setCell (p := ⟨g, _, none⟩) (Nat.le_refl _) _).setCell (p := ⟨g, _, none⟩) (Nat.le_refl _) _⟩
      case measure => simp [intOf]; omega
    · obtain rfl : j = 4 := by omega
      rw [show 4 * 4 = 16 from rfl, mixd_all HA.out HL.out] at hrow
      have e4 : ((4 : Nat) : Int) = 4 := rfl
      rw [e4]
      clear e4
      go_wp2
      go_end0
      exact ⟨rfl, hb, hrow⟩
end Go.Proofs.YtcjdnifckngcfaaGreatDoor
end

section
namespace Go.Proofs.YtcjdnifckngcfaaGreatDoor
open Go.RowKit

def cipherL (key : List UInt8) : List UInt8 := boxesL ++ expand key 40
/-- Block c is the cipher of a key. -/
structure IsCipher (w : World) (c : Nat) (key : List UInt8) : Prop where
  size : key.length = 16
  blk : Blk w c 212 ([.bool true] ++ (cipherL key).map cellOf)
section
variable {w w' : World} {c : Nat} {key : List UInt8}
theorem IsCipher.lt (h : IsCipher w c key) : c < w.heap.size := h.blk.lt
theorem IsCipher.below {B : Nat} (h : IsCipher w c key) (hb : Below B w w') (hc : c < B) : IsCipher w' c key := ⟨h.size, h.blk.below hb hc⟩
theorem IsCipher.ext (h : IsCipher w c key) (hb : Ext w w') : IsCipher w' c key := h.below hb h.lt
theorem IsCipher.made (h : IsCipher w c key) : w.cell? ⟨c, 0, none⟩ = some (.bool true) := h.blk.cell 0 _ rfl
theorem IsCipher.at_ (h : IsCipher w c key) (i : Nat) (b : UInt8) (hb : (cipherL key)[i]? = some b) : w.cell? ⟨c, 1 + i, none⟩ = some (.int .u8 (b.toNat : Int)) := by
  apply h.blk.cell
  rw [List.getElem?_append_right (by simp)]
  simp [hb, cellOf]
theorem IsCipher.box (h : IsCipher w c key) : Bytes w c 1 boxT := fun i b hi => by
  have hl : i < boxT.length := (List.getElem?_eq_some_iff.1 hi).1
  rw [boxT_length] at hl
  have e := boxesL_at i hl
  rw [boxT_at i hl] at hi
  apply h.at_
  unfold cipherL
  rw [List.getElem?_append_left (by rw [boxesL_length]; omega), e, hi]
theorem IsCipher.unbox (h : IsCipher w c key) : Bytes w c 257 unboxT := fun i b hi => by
  have hl : i < unboxT.length := (List.getElem?_eq_some_iff.1 hi).1
  rw [unboxT_length] at hl
  have e := boxesL_un i hl
  rw [unboxT_at i hl] at hi
  have := h.at_ (256 + i) b (by unfold cipherL; rw [List.getElem?_append_left (by rw [boxesL_length]; omega), e, hi])
  rw [show 257 + i = 1 + (256 + i) by omega]
  exact this
theorem IsCipher.rk (h : IsCipher w c key) (n : Nat) (hn : n ≤ 10) : Bytes w c (513 + 16 * n) (rkey key n) := fun i b hi => by
  have hl : i < (rkey key n).length := (List.getElem?_eq_some_iff.1 hi).1
  rw [rkey_length h.size n hn] at hl
  unfold rkey at hi
  rw [List.getElem?_take, if_pos hl, List.getElem?_drop] at hi
  have := h.at_ (512 + (16 * n + i)) b (by unfold cipherL; rw [List.getElem?_append_right (by rw [boxesL_length]; omega), boxesL_length, Nat.add_sub_cancel_left, hi])
  rw [show 513 + 16 * n + i = 1 + (512 + (16 * n + i)) by omega]
  exact this
end
theorem boxT_byte (b : UInt8) : boxT[b.toNat]? = some (boxB b) := by rw [boxT_at _ b.toNat_lt, UInt8.ofNat_toNat]
theorem unboxT_byte (b : UInt8) : unboxT[b.toNat]? = some (unboxB b) := by rw [unboxT_at _ b.toNat_lt, UInt8.ofNat_toNat]
theorem sub_all (b : List UInt8) (h : b.length = 16) : shL (b.map boxB) = subShift b := shL_sub h
section
variable (K : Nat → List UInt8)
/-- A block behind i rounds. -/
def encS (l : List UInt8) : Nat → List UInt8
  | 0 => addK (K 0) l
  | i + 1 => addK (K (i + 1)) (if i + 1 < 10 then mixC (subShift (encS l i)) else subShift (encS l i))
theorem encS_lt (l : List UInt8) : ∀ i, i < 10 → encS K l i = encN K l i
  | 0, _ => rfl
  | i + 1, h => by rw [encS, if_pos h, encS_lt l i (by omega), encN]
theorem encS_all (l : List UInt8) : encS K l 10 = enc K l := by
  rw [show 10 = 9 + 1 from rfl, encS, if_neg (by omega), encS_lt K l 9 (by omega)]; rfl
/-- Back, i rounds. -/
def decS (x : List UInt8) : Nat → List UInt8
  | 0 => x
  | i + 1 => unSubShift (if i = 0 then addK (K 10) x else unmixC (addK (K (10 - i)) (decS x i)))
theorem decS_all (x : List UInt8) : addK (K 0) (decS K x 10) = dec K x := by
  have h1 : decS K x 1 = unSubShift (addK (K 10) x) := rfl
  have hs : ∀ i, decS K x (i + 2) = unSubShift (unmixC (addK (K (10 - (i + 1))) (decS K x (i + 1)))) := fun _ => rfl
  have key : ∀ n i, n + i = 9 → decN K (decS K x (i + 1)) n = addK (K 0) (decS K x 10) := by
    intro n
    induction n with
    | zero => intro i hi; obtain rfl : i = 9 := by omega
              rfl
    | succ n ih =>
      intro i hi
      rw [decN, ← ih (i + 1) (by omega), hs, show 10 - (i + 1) = n + 1 by omega]
  unfold dec
  rw [← h1, key 9 0 rfl]
variable {K}
theorem encS_length (hK : ∀ n, n ≤ 10 → (K n).length = 16) {l : List UInt8} (h : l.length = 16) : ∀ i, i ≤ 10 → (encS K l i).length = 16
  | 0, _ => addK_length (hK 0 (by omega)) h
  | i + 1, hi => addK_length (hK _ hi) (by split; exact mixC_length _; exact subShift_length _)
theorem decS_length {x : List UInt8} (h : x.length = 16) : ∀ i, (decS K x i).length = 16
  | 0 => h
  | _ + 1 => unSubShift_length _
end
theorem encS_zero (K : Nat → List UInt8) (l : List UInt8) : encS K l 0 = addK (K 0) l := rfl
theorem encS_mid (K : Nat → List UInt8) (l : List UInt8) (i : Nat) (h : i + 1 < 10) : encS K l (i + 1) = addK (K (i + 1)) (mixC (subShift (encS K l i))) := by rw [encS, if_pos h]
theorem encS_last (K : Nat → List UInt8) (l : List UInt8) : encS K l 10 = addK (K 10) (subShift (encS K l 9)) := by rw [show 10 = 9 + 1 from rfl, encS, if_neg (by omega)]
theorem decS_zero (K : Nat → List UInt8) (x : List UInt8) : decS K x 0 = x := rfl
theorem decS_one (K : Nat → List UInt8) (x : List UInt8) : decS K x 1 = unSubShift (addK (K 10) (decS K x 0)) := rfl
theorem decS_more (K : Nat → List UInt8) (x : List UInt8) (i : Nat) (h : 0 < i) : decS K x (i + 1) = unSubShift (unmixC (addK (K (10 - i)) (decS K x i))) := by rw [decS, if_neg (by omega)]
attribute [irreducible] encS decS cipherL
theorem cthere_any (w : World) (c : Nat) (key : List UInt8) (h : IsCipher w c key) :
    Calls Tryz.prog 190 #[.pointer (some ⟨c, 0, none⟩)] w fun e w' => e = .returned (.bool true) ∧ w = w' := by
  have hm := h.made
  clear h
  go_enter Tryz.func190, Tryz.ntmps190
  go_wp2
  go_ret
  exact ⟨rfl, rfl⟩
theorem cthere_none (w : World) :
    Calls Tryz.prog 190 #[.pointer none] w fun e w' => e = .returned (.bool false) ∧ w = w' := by
  go_enter Tryz.func190, Tryz.ntmps190
  go_wp2
  go_ret
  exact ⟨rfl, rfl⟩
end Go.Proofs.YtcjdnifckngcfaaGreatDoor
end
