/- Contract: where segments stand that go on in a generation, by the program: a map of slices that grow. -/
import Derived.Test.YtbekdcpdfmfopaaGreatM06
import Derived.Test.YtbekdcpdfmfopaaGreatM09
import Derived.Test.YtbekdcpdfmfopaaGreatM07
import Derived.Test.YtbekdcpdfmfopaaGreatM08
import Derived.Test.YtbekdcpdfmfopaaGreatWz
import Derived.Deep.DeepCutAuto
import Derived.Outline
import Derived.Carry
namespace Go.Proofs.YtbekdcpdfmfopaaGreat
open Go.RowKit
open Go.Maps (Keyed keyOf_int_mk int_keyed)

theorem infoInt : (Tryz.prog.info? 3).map (fun i => (i.zero, i.size, i.bytes)) = some (some (.int .i64 0), 1, 8) := by kernel_rfl
theorem keyU : Keyed Tryz.prog 38 := int_keyed Tryz.underlying38
theorem keyU_at (n : Nat) (h : n < 18446744073709551616) : keyOf Tryz.prog 38 (.int .u64 (n : Int)) = some (.int .u64 (n : Int)) := keyOf_int_mk Tryz.underlying38 (by simp [Lit.wf, IntKind.min, IntKind.max, IntKind.signed, IntKind.bits]; omega)
/-- Places as values. -/
def vN (l : List Nat) : List Value := l.map fun (i : Nat) => Value.int .i64 (i : Int)
theorem vN_one (l : List Nat) : ∀ u ∈ vN l, u.oneCell' = true := by
  intro u hu
  obtain ⟨n, _, rfl⟩ := List.mem_map.1 hu
  rfl
theorem vN_length (l : List Nat) : (vN l).length = l.length := by simp [vN]
theorem vN_snoc (l : List Nat) (j : Nat) : vN (l ++ [j]) = vN l ++ [.int .i64 (j : Int)] := by simp [vN]
theorem zero_ints (w : World) : (zeroValue 66).run Tryz.prog w = .ok (.slice none 0 0) w := Tryz.zeroValue66 w
/-- The map's elements, each in blocks of its own. -/
def LatM (w : World) (b : Nat) (κ : Foot) (G : Nat → List Nat) : Prop := ∃ l, MapL w Tryz.prog 38 b l ∧
  ∀ m, m < 18446744073709551616 → (G m = [] ∧ ∀ p ∈ l, p.1 ≠ .int .u64 (m : Int)) ∨ (G m ≠ [] ∧ ∃ q c, (.int .u64 (m : Int), .slice q (G m).length c) ∈ l ∧ Sl w κ (m + 1) 1 3 q (G m).length c (vN (G m)))
/-- Places that wait, by numbers: a map. -/
def WaitM (w : World) (b : Nat) (G : Nat → List Nat) : Prop := ∃ l, MapL w Tryz.prog 38 b l ∧
  ∀ m, m < 18446744073709551616 → (G m = [] ∧ ∀ p ∈ l, p.1 ≠ .int .u64 (m : Int)) ∨ (G m ≠ [] ∧ ∃ q c, (.int .u64 (m : Int), .slice q (G m).length c) ∈ l ∧ (G m).length ≤ c ∧ ValsP w q (vN (G m)))
theorem LatM.wait {w : World} {b : Nat} {κ : Foot} {G : Nat → List Nat} (h : LatM w b κ G) : WaitM w b G := by
  obtain ⟨l, hm, hl⟩ := h
  refine ⟨l, hm, fun m hm64 => ?_⟩
  rcases hl m hm64 with h | ⟨h1, q, c, h2, h3⟩
  · exact .inl h
  · refine .inr ⟨h1, q, c, h2, h3.2.1, fun i v hv => ?_⟩
    obtain ⟨g, h4, h5, _, h6, _⟩ := h3.cell hv
    exact ⟨⟨g, 0, none⟩, h4, h5, by rw [add_zero_off]; exact h6⟩
/-- What is known behind the append, and behind the store, of the region that appends a place. -/
def MidL (W1 : World) (κ : Foot) (num n : Nat) (vs : List Value) (v : Value) (u : World) : Prop := ∃ p2 c2 κ5, v = .slice p2 n c2 ∧ Sl u κ5 (num + 1) 1 3 p2 n c2 vs ∧ Fr κ (fun j => j = num + 1) W1 u κ5
def FinL (W1 : World) (κ : Foot) (b num n : Nat) (lm : List (Value × Value)) (vs : List Value) (v : Value) (u : World) : Prop := ∃ p2 c2 κ5 u0 l6, v = .slice p2 n c2 ∧ Sl u0 κ5 (num + 1) 1 3 p2 n c2 vs ∧ Fr κ (fun j => j = num + 1) W1 u0 κ5 ∧
  MapL u Tryz.prog 38 b l6 ∧ (∀ p, p ∈ l6 ↔ (p ∈ lm ∧ p.1 ≠ .int .u64 (num : Int)) ∨ p = (.int .u64 (num : Int), .slice p2 n c2)) ∧ u0.mapTurned u b
/-- What each operation of that region leaves in its slot. -/
def LtF (b X num j n : Nat) (q : Option Addr) (c g0 : Nat) (i : Nat) (v : Value) : Prop := match i with
  | 0 => v = .map (some b)
  | 1 => v = .pointer (some ⟨X, 2, none⟩)
  | 2 => v = .int .u64 (num : Int)
  | 3 => v = .map (some b)
  | 4 => v = .pointer (some ⟨X, 2, none⟩)
  | 5 => v = .int .u64 (num : Int)
  | 6 => v = .slice q n c
  | 7 => v = .int .i64 (j : Int)
  | 8 => v = .slice (some ⟨g0, 0, none⟩) 1 1
  | _ => True
theorem ext_grown' {w a b : World} (h : Ext w a) {i : Nat} (hg : a.grownBy b (some i)) (hi : w.heap.size ≤ i) : Ext w b :=
  ⟨hg.os.trans h.os, hg.tape.trans h.tape, hg.output.trans h.output, Nat.le_trans h.size hg.size, fun k hk => (hg.block k (Nat.lt_of_lt_of_le hk h.size) (by intro e; cases e; omega)).trans (h.block k hk)⟩
set_option maxRecDepth 100000 in
set_option maxHeartbeats 8000000 in
theorem later_any (w : World) (p : Option Addr) (c0 : Nat) (L : List Seg) (h : SegsP w p L) (hl : L.length ≤ 1000000) (hok : ∀ x ∈ L, x.f < 18446744073709551616) (gen : Nat) :
    Calls Tryz.prog 90 #[.slice p L.length c0, .int .u64 (gen : Int)] w fun e w' => ∃ b, e = .returned (.map (some b)) ∧ w.heap.size ≤ b ∧ WaitM w' b (fun m => waitF L gen [] m) ∧ Ext w w' := by
  have HH := Lib.hid (fun u (hu : Ext w u) => h.ext hu)
  have HOk := Lib.hid hok
  have hmm := @run_makeMap Tryz.prog
  clear h hok
  go_enter Tryz.func90, Tryz.ntmps90
  go_wp2
  obtain ⟨b, hbd⟩ : ∃ b, b = w.heap.size := ⟨_, rfl⟩
  have HBd := Lib.hid hbd
  rw [← hbd]
  clear hbd
  go_loopw [11] (fun i wr => ∃ (j : Nat) (κ : Foot), j ≤ L.length ∧ i = .int .i64 (j : Int) ∧ Hid (LatM wr b κ (fun m => waitJ L gen m j)) ∧ Hid ((κ b = 0 ∧ ∀ g, g < w.heap.size → κ g = 0) ∧ ∀ g, κ g ≠ 0 → g < wr.heap.size) ∧ Hid (Ext w wr)) (fun i _ => L.length - (intOf i).toNat)
  case atStart => exact ⟨0, fun _ => 0, Nat.zero_le _, rfl, Lib.hid ⟨[], by rw [HBd.out]; exact MapL.made w _ _, fun m _ => .inl ⟨rfl, by simp⟩⟩, Lib.hid ⟨⟨rfl, fun _ _ => rfl⟩, fun g hg => absurd rfl hg⟩, Lib.hid ((Ext.refl w).alloc _)⟩
  case round =>
    obtain ⟨j, κ, hj, rfl, hm, hκ, hx⟩ := hrel
    by_cases hlt : j < L.length
    · obtain ⟨x, hxj⟩ : ∃ x, L[j]? = some x := ⟨_, List.getElem?_eq_getElem hlt⟩
      obtain ⟨ad, q0, c2, rfl, ha, _, hc⟩ := HH.out _ hx.out j x hxj
      have k0 : wr.cell? (ad.add (j * 7)) = some (.int .u8 (x.k : Int)) := hc 0 _ rfl
      have k1 := seven_at (k := 0) (hc 1 _ rfl)
      have k2 := seven_at (k := 1) (hc 2 _ rfl)
      have k3 := seven_at (k := 2) (hc 3 _ rfl)
      have k4 := seven_at (k := 3) (hc 4 _ rfl)
      have k5 := seven_at (k := 4) (hc 5 _ rfl)
      have k6 := seven_at (k := 5) (hc 6 _ rfl)
      have hbx := Blk.new wr [.int .u8 (x.k : Int), .int .u64 (x.g : Int), .int .u64 (x.f : Int), .string x.t, .slice q0 x.r.length c2, .int .i64 x.u, .bool x.w] 119
      have b0 := hbx.cell 0 _ rfl
      have b1 := hbx.cell 1 _ rfl
      have HBx := Lib.hid hbx
      have HW := Lib.hid (fun m => waitJ_succ L gen m j)
      have HIs := Lib.hid (show ∀ m, isW L gen m j = (x.k == 0 && x.g == gen && x.f == m) from fun m => by unfold isW; rw [hxj])
      have hf64 := HOk.out x (List.mem_of_getElem? hxj)
      have HX1 := Lib.hid (hx.out.alloc (.cells #[.int .u8 (x.k : Int), .int .u64 (x.g : Int), .int .u64 (x.f : Int), .string x.t, .slice q0 x.r.length c2, .int .i64 x.u, .bool x.w] 119))
      have HE1 := Lib.hid ((Ext.refl wr).alloc (.cells #[.int .u8 (x.k : Int), .int .u64 (x.g : Int), .int .u64 (x.f : Int), .string x.t, .slice q0 x.r.length c2, .int .i64 x.u, .bool x.w] 119))
      clear hxj hc hbx ha
      by_cases hyes : x.k = 0 ∧ x.g = gen
      · have hki : ((x.k : Int) == 0) = true := by rw [beq_iff_eq]; omega
        have hgi : ((x.g : Int) == (gen : Int)) = true := by rw [beq_iff_eq]; omega
        have HIs2 : Hid (∀ m, waitJ L gen m (j + 1) = if m = x.f then waitJ L gen m j ++ [j] else waitJ L gen m j) := Lib.hid (fun m => by
          rw [HW.out m, HIs.out m]
          by_cases hmf : m = x.f
          · rw [if_pos hmf, if_pos (by simp [hyes.1, hyes.2, hmf])]
          · rw [if_neg hmf, if_neg (by simp [hyes.1, hyes.2]; omega), List.append_nil])
        clear hyes
        go_upto_region 6 with (fail)
        clear k0 k1 k2 k3 k4 k5 k6 hki hgi
        generalize hWd : (wr.alloc (.cells #[.int .u8 (x.k : Int), .int .u64 (x.g : Int), .int .u64 (x.f : Int), .string x.t, .slice q0 x.r.length c2, .int .i64 x.u, .bool x.w] 119)) = Wb at *
        clear hWd
        obtain ⟨lm, hml, hel⟩ := hm.out
        generalize x.f = num at *
        obtain ⟨q, c, hq⟩ : ∃ q c, Sl wr κ (num + 1) 1 3 q (waitJ L gen num j).length c (vN (waitJ L gen num j)) ∧ ∀ u, MapL u Tryz.prog 38 b lm → (Instr.lookup 144 (.map (some b)) (.int .u64 (num : Int)) false).run Tryz.prog u = .ok (.slice q (waitJ L gen num j).length c) u := by
          rcases hel num hf64 with ⟨h1, h2⟩ | ⟨h1, q, c, h2, h3⟩
          · refine ⟨none, 0, ?_, fun u hu => ?_⟩
            · show Sl wr κ (num + 1) 1 3 none (waitJ L gen num j).length 0 (vN (waitJ L gen num j))
              rw [show waitJ L gen num j = [] from h1]
              exact Sl.nil _ _ _ _ _
            · have := hu.look_none keyU Tryz.underlying144 false (zero_ints u) (keyU_at num hf64) h2
              rw [show (waitJ L gen num j).length = 0 from by rw [show waitJ L gen num j = [] from h1]; rfl]
              simpa using this
          · refine ⟨q, c, h3, fun u hu => ?_⟩
            have := hu.look keyU Tryz.underlying144 false (keyU_at num hf64) h2
            simpa using this
        have hnl : (waitJ L gen num j).length ≤ j := by
          unfold waitJ
          have := List.length_filter_le (isW L gen num) (List.range j)
          simpa using this
        have hvone := vN_one (waitJ L gen num j)
        generalize hvs : vN (waitJ L gen num j) = vs at *
        generalize hnn : (waitJ L gen num j).length = n at *
        have HN6 := Lib.hid (show n ≤ 1000000 by omega)
        have HN64 := Lib.hid hf64
        have HE := Lib.hid (show Ext wr (Wb.drew.alloc (.cells #[.int .i64 (j : Int)] 3)) from (HE1.out.drew).alloc _)
        have HSl := Lib.hid (hq.1.ext HE.out)
        have HM0 := Lib.hid (hml.ext HE1.out)
        have HM1 := Lib.hid (hml.ext HE.out)
        have HEl := Lib.hid hel
        have HLk := Lib.hid hq.2
        have HBb := Lib.hid (HBx.out)
        have HK0 : Hid (κ b = 0) := Lib.hid hκ.out.1.1
        have HKX : Hid (κ wr.heap.size = 0) := Lib.hid (by
          rcases Nat.eq_zero_or_pos (κ wr.heap.size) with e | e
          · exact e
          · have := hκ.out.2 wr.heap.size (by omega); omega)
        have HSrc : Hid (Src Tryz.prog 1 66 (.slice (some ⟨Wb.heap.size, 0, none⟩) 1 1) 1 [.int .i64 (j : Int)] (Wb.drew.alloc (.cells #[.int .i64 (j : Int)] 3))) := Lib.hid (Src.ofSlice _ Tryz.underlying66 ⟨Wb.heap.size, 0, none⟩ 1 1 [.int .i64 (j : Int)] rfl (fun i u hi => by
          rw [Addr.add_mid, Nat.zero_add]
          exact Blk.cell (Blk.new Wb.drew [.int .i64 (j : Int)] 3) i u hi) (fun u hu => by simp at hu; subst hu; rfl))
        have HCell : Hid (∀ (b7 b8 : Bool) (v : Value) (u : World), MkI Wb.drew (.cells #[.int .i64 (j : Int)] 3) (MidL (Wb.drew.alloc (.cells #[.int .i64 (j : Int)] 3)) κ num (n + 1) (vs ++ [.int .i64 (j : Int)])) (FinL (Wb.drew.alloc (.cells #[.int .i64 (j : Int)] 3)) κ b num (n + 1) lm (vs ++ [.int .i64 (j : Int)])) b7 b8 false v u →
            u.cell? ⟨wr.heap.size, 2, none⟩ = some (.int .u64 (num : Int)) ∧ (Instr.lookup 144 (.map (some b)) (.int .u64 (num : Int)) false).run Tryz.prog u = .ok (.slice q n c) u) := Lib.hid (fun b7 b8 v u h => by
          refine h.cell (C := fun u => u.cell? ⟨wr.heap.size, 2, none⟩ = some (.int .u64 (num : Int)) ∧ (Instr.lookup 144 (.map (some b)) (.int .u64 (num : Int)) false).run Tryz.prog u = .ok (.slice q n c) u) ⟨HBx.out.drew.cell 2 _ rfl, HLk.out _ HM0.out.drew⟩ ⟨(HBx.out.drew.alloc _).cell 2 _ rfl, HLk.out _ HM1.out⟩ ?_
          rintro v u ⟨p2, c2, κ5, _, _, hf5⟩
          exact ⟨Blk.cell (hf5.blk (HBx.out.drew.alloc _) (by rw [HKX.out]; omega)) 2 _ rfl, HLk.out _ (HM1.out.same (hf5.other b HM1.out.lt (by rw [HK0.out]; omega)))⟩)
        clear hq hml hel b0 b1 hm
        have hbase : ∀ q : Nat × Value, q ∈ [(5, .map (some b)), (6, .int .i64 (j : Int)), (7, .pointer (some ⟨wr.heap.size, 0, none⟩))] → q.1 < 25 := by
          intro q hq
          simp only [List.mem_cons, List.not_mem_nil, or_false] at hq
          rcases hq with rfl | rfl | rfl <;> simp
        refine wp_region_any (by kernel_rfl) ?_
        refine wpAny_inv (Wz _ 11 37 25 8 9 [(5, .map (some b)), (6, .int .i64 (j : Int)), (7, .pointer (some ⟨wr.heap.size, 0, none⟩))] (LtF b wr.heap.size num j n q c Wb.heap.size) (MkI Wb.drew (.cells #[.int .i64 (j : Int)] 3) (MidL (Wb.drew.alloc (.cells #[.int .i64 (j : Int)] 3)) κ num (n + 1) (vs ++ [.int .i64 (j : Int)])) (FinL (Wb.drew.alloc (.cells #[.int .i64 (j : Int)] 3)) κ b num (n + 1) lm (vs ++ [.int .i64 (j : Int)])))) ?hsize ?step ?last _ _ _ _ (by decide) (Wz.start rfl ?size ?base (by decide) (by decide) (fun v => rfl))
        case hsize => exact fun L a w h => h.size
        case size => rfl
        case base =>
          intro q hq
          simp only [List.mem_cons, List.not_mem_nil, or_false] at hq
          rcases hq with rfl | rfl | rfl
          · rfl
          · rfl
          · rfl
        case step =>
          intro L' a' w' i h hi
          have hlt' : i < 11 := (ready_spec hi).1
          obtain ⟨Y, D⟩ := a'
          obtain rfl : D = [] := h.defers
          have b5 : Y[5]?.getD undef = .map (some b) := h.ahead (5, _) (by simp)
          have b6 : Y[6]?.getD undef = .int .i64 (j : Int) := h.ahead (6, _) (by simp)
          have b7 : Y[7]?.getD undef = .pointer (some ⟨wr.heap.size, 0, none⟩) := h.ahead (7, _) (by simp)
          have hinv := Lib.hid h.inv
          rcases (show i = 0 ∨ i = 1 ∨ i = 2 ∨ i = 3 ∨ i = 4 ∨ i = 5 ∨ i = 6 ∨ i = 7 ∨ i = 8 ∨ i = 9 ∨ i = 10 by omega) with rfl | rfl | rfl | rfl | rfl | rfl | rfl | rfl | rfl | rfl | rfl
          · refine wpOp_step rfl (fun K hK => ?_)
            go_simp
            exact hK _ _ (h.put (by decide) hbase 0 25 (by decide) (by decide) (by decide) rfl (ready_spec hi).2.1 _ rfl)
          · refine wpOp_step rfl (fun K hK => ?_)
            go_simp
            exact hK _ _ (h.put (by decide) hbase 1 26 (by decide) (by decide) (by decide) rfl (ready_spec hi).2.1 _ rfl)
          · have d1 := ready_after hi _ rfl 0 _ rfl rfl
            have f1 : Y[26]?.getD undef = .pointer (some ⟨wr.heap.size, 2, none⟩) := h.at 1 26 (by decide) (by decide) rfl d1
            have hnb := h.not (i := 2) (by decide) (ready_spec hi).2.1
            have hci := hinv.out
            rw [hnb] at hci
            have cb := (HCell.out _ _ _ _ hci).1
            refine wpOp_step rfl (fun K hK => ?_)
            go_simp
            exact hK _ _ (h.put (by decide) hbase 2 27 (by decide) (by decide) (by decide) rfl (ready_spec hi).2.1 _ rfl)
          · refine wpOp_step rfl (fun K hK => ?_)
            go_simp
            exact hK _ _ (h.put (by decide) hbase 3 28 (by decide) (by decide) (by decide) rfl (ready_spec hi).2.1 _ rfl)
          · refine wpOp_step rfl (fun K hK => ?_)
            go_simp
            exact hK _ _ (h.put (by decide) hbase 4 29 (by decide) (by decide) (by decide) rfl (ready_spec hi).2.1 _ rfl)
          · have d4 := ready_after hi _ rfl 0 _ rfl rfl
            have f4 : Y[29]?.getD undef = .pointer (some ⟨wr.heap.size, 2, none⟩) := h.at 4 29 (by decide) (by decide) rfl d4
            have hnb := h.not (i := 5) (by decide) (ready_spec hi).2.1
            have hci := hinv.out
            rw [hnb] at hci
            have cb := (HCell.out _ _ _ _ hci).1
            refine wpOp_step rfl (fun K hK => ?_)
            go_simp
            exact hK _ _ (h.put (by decide) hbase 5 30 (by decide) (by decide) (by decide) rfl (ready_spec hi).2.1 _ rfl)
          · have d3 := ready_after hi _ rfl 0 _ rfl rfl
            have f3 : Y[28]?.getD undef = .map (some b) := h.at 3 28 (by decide) (by decide) rfl d3
            have d5 := ready_after hi _ rfl 1 _ rfl rfl
            have f5 : Y[30]?.getD undef = .int .u64 (num : Int) := h.at 5 30 (by decide) (by decide) rfl d5
            have hnb := h.not (i := 6) (by decide) (ready_spec hi).2.1
            have hci := hinv.out
            rw [hnb] at hci
            have clk := (HCell.out _ _ _ _ hci).2
            refine wpOp_step rfl (fun K hK => ?_)
            go_simp
            exact hK _ _ (h.put (by decide) hbase 6 31 (by decide) (by decide) (by decide) rfl (ready_spec hi).2.1 _ rfl)
          · refine wpOp_step rfl (fun K hK => ?_)
            go_simp
            exact hK _ _ (h.put (by decide) hbase 7 32 (by decide) (by decide) (by decide) rfl (ready_spec hi).2.1 _ rfl)
          · have d7 := ready_after hi _ rfl 0 _ rfl rfl
            have f7 : Y[32]?.getD undef = .int .i64 (j : Int) := h.at 7 32 (by decide) (by decide) rfl d7
            have hx8 : L'.getD 8 true = false := (ready_spec hi).2.1
            have hnb := h.not (i := 8) (by decide) hx8
            have h1 := hinv.out
            rw [hx8, hnb] at h1
            rcases hb9 : L'.getD 9 true with _ | _
            · rw [hb9] at h1
              obtain rfl : w' = Wb.drew := h1
              refine wpOp_step rfl (fun K hK => ?_)
              go_simp
              exact hK _ _ (h.make (by decide) hbase 33 (by decide) (by decide) rfl hx8 _ rfl (by rw [hb9]; exact rfl))
            · rw [hb9] at h1
              exact absurd h1 (fun x => x)
          · have d6 := ready_after hi _ rfl 0 _ rfl rfl
            have f6 : Y[31]?.getD undef = .slice q n c := h.at 6 31 (by decide) (by decide) rfl d6
            have d8 := ready_after hi _ rfl 1 _ rfl rfl
            have f8 : Y[33]?.getD undef = .slice (some ⟨Wb.heap.size, 0, none⟩) 1 1 := h.at 8 33 (by decide) (by decide) rfl d8
            have q8 : L'.getD 8 true = true := bit_of d8
            have hx9 : L'.getD 9 true = false := (ready_spec hi).2.1
            have hnb := h.not (i := 9) (by decide) hx9
            have h1 := hinv.out
            rw [q8, hx9, hnb] at h1
            obtain rfl : w' = Wb.drew.alloc (.cells #[.int .i64 (j : Int)] 3) := h1
            refine wpOp_step rfl (fun K hK => ?_)
            refine step_append_sl rfl (.tmp 31) (.tmp 33) 66 66 rfl Tryz.underlying66 infoInt rfl (by decide) (by simpa [Act.eval] using f6) HSl.out hvone _ (by simpa [Act.eval] using f8) 1 [.int .i64 (j : Int)] HSrc.out (by have := HN6.out; omega) ?_
            intro p2 c2 w5 κ5 hs5 hf5 _ _ _
            exact hK _ _ (h.law (by decide) hbase 34 (by decide) (by decide) rfl hx9 _ (by rw [q8]; exact ⟨p2, c2, κ5, rfl, hs5, hf5⟩))
          · have d0 := ready_after hi _ rfl 0 _ rfl rfl
            have f0 : Y[25]?.getD undef = .map (some b) := h.at 0 25 (by decide) (by decide) rfl d0
            have d2 := ready_after hi _ rfl 1 _ rfl rfl
            have f2 : Y[27]?.getD undef = .int .u64 (num : Int) := h.at 2 27 (by decide) (by decide) rfl d2
            have d9 := ready_after hi _ rfl 2 _ rfl rfl
            have q9 : L'.getD 9 true = true := bit_of d9
            have hall := ready_all hi _ rfl 10 (by kernel_rfl)
            have q8 := hall 8 (by decide)
            have hx10 : L'.getD (11 - 1) true = false := (ready_spec hi).2.1
            have h1 := hinv.out
            rw [q8, q9, hx10] at h1
            obtain ⟨p2, c2, κ5, hv9, hs5, hf5⟩ := h1
            have hm5 : MapL w' Tryz.prog 38 b lm := HM1.out.same (hf5.other b HM1.out.lt (by rw [HK0.out]; omega))
            obtain ⟨w6, l6, hrun, hm6, hmem, hturn⟩ := hm5.store (val := .slice p2 (n + 1) c2) keyU Tryz.underlying144 (keyU_at num HN64.out)
            have f9 : Y[34]?.getD undef = .slice p2 (n + 1) c2 := by rw [← Array.getD_eq_getD_getElem?]; exact hv9
            have HS5 := Lib.hid hs5; have HF5 := Lib.hid hf5; have HM6 := Lib.hid hm6; have HMem := Lib.hid hmem; have HTu := Lib.hid hturn; have HV9 := Lib.hid hv9
            clear hs5 hf5 hm5 hm6 hmem hturn hv9
            refine wpOp_step rfl (fun K hK => ?_)
            go_simp
            exact hK _ _ (h.store (by decide) (by decide) hall ⟨p2, c2, κ5, w', l6, HV9.out, HS5.out, HF5.out, HM6.out, HMem.out, HTu.out⟩ undef)
        case last =>
          intro L' a' w6 h hr'
          have q10 : L'.getD (11 - 1) true = true := all_done h.size (by kernel_rfl) hr' 10 (by decide)
          have q9 : L'.getD 9 true = true := all_done h.size (by kernel_rfl) hr' 9 (by decide)
          have q8 : L'.getD 8 true = true := all_done h.size (by kernel_rfl) hr' 8 (by decide)
          have hv := h.inv
          rw [q10, q9, q8] at hv
          obtain ⟨p2, c2, κ5, u0, l6, hv9, hs5, hf5, hm6, hmem, hturn⟩ := hv
          obtain ⟨Z, D⟩ := a'
          obtain rfl : D = [] := h.defers
          have hfr := h.frame (by rfl) (by decide) (by decide) [.map (some b), .pointer (some ⟨wr.heap.size, 2, none⟩), .int .u64 (num : Int), .map (some b), .pointer (some ⟨wr.heap.size, 2, none⟩), .int .u64 (num : Int), .slice q n c, .int .i64 (j : Int), .slice (some ⟨Wb.heap.size, 0, none⟩) 1 1, .slice p2 (n + 1) c2] rfl (by
            intro t v ht
            have ht10 : t < 10 := (List.getElem?_eq_some_iff.1 ht).1
            rcases (show t = 0 ∨ t = 1 ∨ t = 2 ∨ t = 3 ∨ t = 4 ∨ t = 5 ∨ t = 6 ∨ t = 7 ∨ t = 8 ∨ t = 9 by omega) with rfl | rfl | rfl | rfl | rfl | rfl | rfl | rfl | rfl | rfl
            · cases ht; exact h.facts 0 (by decide) (by decide) (all_done h.size (by kernel_rfl) hr' 0 (by decide))
            · cases ht; exact h.facts 1 (by decide) (by decide) (all_done h.size (by kernel_rfl) hr' 1 (by decide))
            · cases ht; exact h.facts 2 (by decide) (by decide) (all_done h.size (by kernel_rfl) hr' 2 (by decide))
            · cases ht; exact h.facts 3 (by decide) (by decide) (all_done h.size (by kernel_rfl) hr' 3 (by decide))
            · cases ht; exact h.facts 4 (by decide) (by decide) (all_done h.size (by kernel_rfl) hr' 4 (by decide))
            · cases ht; exact h.facts 5 (by decide) (by decide) (all_done h.size (by kernel_rfl) hr' 5 (by decide))
            · cases ht; exact h.facts 6 (by decide) (by decide) (all_done h.size (by kernel_rfl) hr' 6 (by decide))
            · cases ht; exact h.facts 7 (by decide) (by decide) (all_done h.size (by kernel_rfl) hr' 7 (by decide))
            · cases ht; exact h.facts 8 (by decide) (by decide) (all_done h.size (by kernel_rfl) hr' 8 (by decide))
            · cases ht; exact hv9)
          clear h hr'
          rw [hfr]
          clear hfr q10 q9 q8 hv9 hbase
          have hgr := hturn.grown
          have hkb : κ5 b = 0 := (hf5.foot b HM1.out.lt).trans HK0.out
          have hsz6 : u0.heap.size ≤ w6.heap.size := hgr.size
          have HF : Hid (LatM w6 b κ5 (fun m => waitJ L gen m (j + 1))) := Lib.hid (by
            refine ⟨l6, hm6, fun m hm64 => ?_⟩
            have hsame : ∀ {q' : Option Addr} {n' c' m' : Nat} {vs' : List Value}, Sl u0 κ5 (m' + 1) 1 3 q' n' c' vs' → Sl w6 κ5 (m' + 1) 1 3 q' n' c' vs' := fun h => h.same (fun g hg e => hgr.block g hg (by intro e2; cases e2; rw [hkb] at e; omega)) (fun _ _ e => e)
            show (waitJ L gen m (j + 1) = [] ∧ ∀ p ∈ l6, p.1 ≠ .int .u64 (m : Int)) ∨ (waitJ L gen m (j + 1) ≠ [] ∧ ∃ q c, (.int .u64 (m : Int), .slice q (waitJ L gen m (j + 1)).length c) ∈ l6 ∧ Sl w6 κ5 (m + 1) 1 3 q (waitJ L gen m (j + 1)).length c (vN (waitJ L gen m (j + 1))))
            by_cases hmn : m = num
            · right
              rw [HIs2.out m, if_pos hmn, hmn]
              refine ⟨by simp, p2, c2, ?_, ?_⟩
              · rw [List.length_append, hnn]
                exact (hmem _).2 (.inr rfl)
              · rw [List.length_append, hnn, vN_snoc, hvs]
                exact hsame hs5
            · have hkey : (Value.int .u64 (m : Int)) ≠ .int .u64 (num : Int) := fun e => by injection e with _ e2; exact hmn (by omega)
              rw [HIs2.out m, if_neg hmn]
              rcases HEl.out m hm64 with ⟨h1, h2⟩ | ⟨h1, q', c', h2, h3⟩
              · left
                refine ⟨h1, fun p hp => ?_⟩
                rcases (hmem p).1 hp with hp | rfl
                · exact h2 p hp.1
                · exact fun e => hkey e.symm
              · right
                exact ⟨h1, q', c', (hmem _).2 (.inl ⟨h2, hkey⟩), hsame ((h3.ext HE.out).fr hf5 (by omega))⟩)
          have HK5 : Hid ((κ5 b = 0 ∧ ∀ g, g < w.heap.size → κ5 g = 0) ∧ ∀ g, κ5 g ≠ 0 → g < w6.heap.size) := Lib.hid ⟨⟨hkb, fun g hg => (hf5.foot g (Nat.lt_of_lt_of_le hg ((hx.out.trans HE.out).size))).trans (hκ.out.1.2 g hg)⟩,
            fun g hg => Nat.lt_of_lt_of_le (hf5.ins (fun g hg => Nat.lt_of_lt_of_le (hκ.out.2 g hg) HE.out.size) g hg) hsz6⟩
          have HX6 : Hid (Ext w w6) := Lib.hid (ext_grown' ((hx.out.trans HE.out).trans3 (hf5.below (by omega) hκ.out.1.2 (hx.out.trans HE.out).size)) hgr (by rw [HBd.out]; exact Nat.le_refl _))
          clear hs5 hf5 hm6 hmem hturn hgr hkb hsz6
          simp only [putAll]
          go_wp2
          go_roundw
          case rel => exact ⟨j + 1, κ5, hlt, by go_num, HF, HK5, HX6⟩
          case measure => simp [intOf]; omega
      · have HIs2 : Hid (∀ m, waitJ L gen m (j + 1) = waitJ L gen m j) := Lib.hid (fun m => by
          rw [HW.out m, HIs.out m, if_neg (by
            intro e
            simp at e
            exact hyes ⟨e.1.1, e.1.2⟩), List.append_nil])
        have HF : Hid (LatM (wr.alloc (.cells #[.int .u8 (x.k : Int), .int .u64 (x.g : Int), .int .u64 (x.f : Int), .string x.t, .slice q0 x.r.length c2, .int .i64 x.u, .bool x.w] 119)) b κ (fun m => waitJ L gen m (j + 1))) := Lib.hid (by
          obtain ⟨lm, hml, hel⟩ := hm.out
          refine ⟨lm, hml.ext HE1.out, fun m hm64 => ?_⟩
          show (waitJ L gen m (j + 1) = [] ∧ ∀ p ∈ lm, p.1 ≠ .int .u64 (m : Int)) ∨ (waitJ L gen m (j + 1) ≠ [] ∧ ∃ q c, (.int .u64 (m : Int), .slice q (waitJ L gen m (j + 1)).length c) ∈ lm ∧ Sl _ κ (m + 1) 1 3 q (waitJ L gen m (j + 1)).length c (vN (waitJ L gen m (j + 1))))
          rw [HIs2.out m]
          rcases hel m hm64 with h | ⟨h1, q', c', h2, h3⟩
          · exact .inl h
          · exact .inr ⟨h1, q', c', h2, h3.ext HE1.out⟩)
        have HK5 := Lib.hid (show (κ b = 0 ∧ ∀ g, g < w.heap.size → κ g = 0) ∧ ∀ g, κ g ≠ 0 → g < (wr.alloc (.cells #[.int .u8 (x.k : Int), .int .u64 (x.g : Int), .int .u64 (x.f : Int), .string x.t, .slice q0 x.r.length c2, .int .i64 x.u, .bool x.w] 119)).heap.size from ⟨hκ.out.1, fun g hg => Nat.lt_of_lt_of_le (hκ.out.2 g hg) HE1.out.size⟩)
        clear hm hκ
        by_cases h0 : x.k = 0
        · have hki : ((x.k : Int) == 0) = true := by rw [beq_iff_eq]; omega
          have hgi : ((x.g : Int) == (gen : Int)) = false := by rw [beq_eq_false_iff_ne]; intro e; exact hyes ⟨h0, by omega⟩
          clear hyes h0
          go_wp2
          go_roundw
          case rel => exact ⟨j + 1, κ, hlt, by go_num, HF, HK5, HX1⟩
          case measure => simp [intOf]; omega
        · have hki : ((x.k : Int) == 0) = false := by rw [beq_eq_false_iff_ne]; omega
          clear hyes h0
          go_wp2
          go_roundw
          case rel => exact ⟨j + 1, κ, hlt, by go_num, HF, HK5, HX1⟩
          case measure => simp [intOf]; omega
    · obtain rfl : j = L.length := by omega
      have HWt : Hid (WaitM wr b (fun m => waitF L gen [] m)) := Lib.hid (by
        have := hm.out.wait
        have e : (fun m => waitF L gen [] m) = (fun m => waitJ L gen m L.length) := by funext m; exact waitF_none L gen m
        rw [e]; exact this)
      clear hm
      go_wp2
      go_ret
      exact ⟨b, rfl, by rw [HBd.out]; exact Nat.le_refl _, HWt.out, hx.out⟩
end Go.Proofs.YtbekdcpdfmfopaaGreat
