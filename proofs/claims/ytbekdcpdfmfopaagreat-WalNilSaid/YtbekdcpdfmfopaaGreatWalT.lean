/- Contract: a log taken from one segment. -/
import Derived.Test.YtbekdcpdfmfopaaGreatWalO
import Derived.Test.YtbekdcpdfmfopaaGreatWalN
import Derived.Test.YtbekdcpdfmfopaaGreatM15
import Derived.BigRegion
namespace Go.Proofs.YtbekdcpdfmfopaaGreat
open Go.RowKit

theorem OneS.cells {w : World} {v : Value} {x : Seg} (h : OneS w v x) : ∃ g c q qc, v = .slice (some ⟨g, 0, none⟩) 1 c ∧ g < w.heap.size ∧ TextsP w q x.r ∧ ∀ u, Ext w u → (u.cell? ⟨g, 0, none⟩ = some (.int .u8 (x.k : Int)) ∧ u.cell? ⟨g, 1, none⟩ = some (.int .u64 (x.g : Int)) ∧ u.cell? ⟨g, 2, none⟩ = some (.int .u64 (x.f : Int)) ∧ u.cell? ⟨g, 3, none⟩ = some (.string x.t) ∧ u.cell? ⟨g, 4, none⟩ = some (.slice q x.r.length qc) ∧ u.cell? ⟨g, 5, none⟩ = some (.int .i64 x.u) ∧ u.cell? ⟨g, 6, none⟩ = some (.bool x.w)) := by
  obtain ⟨g, c, e, hs⟩ := h
  obtain ⟨q, qc, hg, ht, hc⟩ := segsP_one hs
  exact ⟨g, c, q, qc, e, hg, ht, fun u hu => ⟨(hu.below.cell (p := ⟨g, 0, none⟩) hg).trans (hc 0 _ rfl), (hu.below.cell (p := ⟨g, 1, none⟩) hg).trans (hc 1 _ rfl), (hu.below.cell (p := ⟨g, 2, none⟩) hg).trans (hc 2 _ rfl), (hu.below.cell (p := ⟨g, 3, none⟩) hg).trans (hc 3 _ rfl), (hu.below.cell (p := ⟨g, 4, none⟩) hg).trans (hc 4 _ rfl), (hu.below.cell (p := ⟨g, 5, none⟩) hg).trans (hc 5 _ rfl), (hu.below.cell (p := ⟨g, 6, none⟩) hg).trans (hc 6 _ rfl)⟩⟩
theorem sizeKept : (Tryz.prog.info? 50).map (·.size) = some 3 := by kernel_rfl
theorem load_kept (w : World) (g : Nat) (t : TypeId) (a b c : Value) (fr : Nat × Nat) (hg : w.heap[g]? = some (.cells #[a, b, c] t fr)) : (loadVar 50 ⟨g, 0, none⟩).run Tryz.prog w = .ok (.agg #[a, b, c]) w :=
  run_loadVar_row w g t 50 #[a, b, c] fr _ hg Tryz.underlying50 rfl sizeKept
theorem results_kept {fn : Func} {p : Tmp} (h : fn.results = #[.cell p 50]) (tmps : Array Value) (w : World) (g : Nat) (t : TypeId) (a b c : Value) (fr : Nat × Nat)
    (hp : tmps.getD p undef = .pointer (some ⟨g, 0, none⟩)) (hg : w.heap[g]? = some (.cells #[a, b, c] t fr)) :
    (results fn tmps).run Tryz.prog w = .ok (.agg #[a, b, c]) w := by
  have hp' : tmps[p]?.getD undef = .pointer (some ⟨g, 0, none⟩) := by simpa using hp
  simp [results, h, hp', asAddr, load_kept w g t a b c fr hg]
/-- The log that a segment is. -/
def takenS (s : WS) (x : Seg) (f u : Nat) : WS := { s with g := x.g, f := x.f, n := nextN x, P := [(f, u)] }
set_option maxRecDepth 100000 in
set_option maxHeartbeats 4000000 in
theorem take_one (W1 w : World) (hx : Ext W1 w) (b bd : Nat) (hb1 : W1.heap.size ≤ b) (nf sz ck : Nat) (hb : Blk w b 61 (wcells bd (newS nf sz ck) (.slice none 0 0))) (x : Seg) (f u : Nat) (v1 v2 : Value) (h1 : OneS W1 v1 x) (h2 : OneI W1 v2 f) (hxu : x.u = (u : Int)) (hxr : x.r.length ≤ 1000000) (hxne : x.r ≠ []) :
    Calls Tryz.prog 46 #[.pointer (some ⟨b, 0, none⟩), v1, v2] w fun e w' => ∃ p c q qc κ, e = .returned (.agg #[.string x.t, .int .u64 (x.f : Int), .slice p x.r.length c]) ∧ TextsP w' p x.r ∧ (∀ a : Addr, p = some a → b < a.block ∧ κ a.block = 0) ∧ Ext W1 w' ∧ Blk w' b 61 (wcells bd (takenS (newS nf sz ck) x f u) (.slice q 1 qc)) ∧ Sl w' κ 3 2 75 q 1 qc (pcells [(f, u)]) ∧ (∀ g, κ g ≠ 0 → κ g = 3 ∧ b < g ∧ g < w'.heap.size) := by
  obtain ⟨g1, c1, tq, tc, rfl, hg1, ht, hcs⟩ := h1.cells
  obtain ⟨g2, c2, rfl, hg2, hc2⟩ := h2
  have HCs := Lib.hid hcs; have HTx := Lib.hid ht
  have HC2 := Lib.hid (fun u (hu : Ext W1 u) => (hu.below.cell (p := ⟨g2, 0, none⟩) hg2).trans hc2)
  have hn1 : g1 ≠ b := by omega
  have hn2 : g2 ≠ b := by omega
  have HX0 := Lib.hid hx
  have HB0 := Lib.hid hb
  have HNx := Lib.hid (fun u => Next_any x tq tc (by omega) u)
  unfold segV at HNx
  rw [hxu] at HNx
  have hbl := hb.lt
  have hx2 : Ext W1 (w.alloc (.cells #[.string ⟨#[]⟩, .int .u64 0, .slice none 0 0] 50)) := hx.alloc _
  have HB2 := Lib.hid (hb.alloc (.cells #[.string ⟨#[]⟩, .int .u64 0, .slice none 0 0] 50))
  have HR2 := Lib.hid (Blk.new w [.string ⟨#[]⟩, .int .u64 0, .slice none 0 0] 50)
  obtain ⟨k0, k1, k2, k3, k4, k5, k6⟩ := hcs _ hx2
  have HX2 := Lib.hid hx2
  clear hcs ht hc2 h1 hx hb hx2
  go_enter Tryz.func46, Tryz.ntmps46
  go_upto_region 1 with (fail)
  have hg1W : g1 < (w.alloc (.cells #[.string ⟨#[]⟩, .int .u64 0, .slice none 0 0] 50)).heap.size := Nat.lt_of_lt_of_le hg1 HX2.out.size
  generalize hW2 : w.alloc (.cells #[.string ⟨#[]⟩, .int .u64 0, .slice none 0 0] 50) = W2 at *
  have hg1N : g1 ≠ W2.heap.size := Nat.ne_of_lt hg1W
  go_region
  clear k0 k1 k2 k3 k4 k5 k6 hg1W hg1N
  obtain ⟨kp, hkp⟩ : ∃ kp, kp = W2.heap.size := ⟨_, rfl⟩
  obtain ⟨rc, hrc⟩ : ∃ rc, rc = w.heap.size := ⟨_, rfl⟩
  have HKP := Lib.hid hkp; have HRC := Lib.hid hrc
  have HX3 := Lib.hid ((HX2.out.alloc (.cells #[.string x.t, .int .u64 (x.f : Int), .slice none 0 0] 50)).drew)
  have HB3 := Lib.hid ((HB2.out.alloc (.cells #[.string x.t, .int .u64 (x.f : Int), .slice none 0 0] 50)).drew)
  have HR3 := Lib.hid ((HR2.out.alloc (.cells #[.string x.t, .int .u64 (x.f : Int), .slice none 0 0] 50)).drew)
  have HK3 := Lib.hid ((Blk.new W2 [.string x.t, .int .u64 (x.f : Int), .slice none 0 0] 50).drew)
  have HKb : Hid (b < rc ∧ rc < kp) := Lib.hid (by
    refine ⟨by rw [hrc]; exact hbl, ?_⟩
    rw [hkp, hrc]
    exact HR2.out.lt)
  rw [← hkp] at HK3 ⊢
  rw [← hrc] at HR3 ⊢
  clear hkp hrc
  simp only [List.toArray] at HK3
  go_upto_region 2 with (fail)
  generalize (W2.alloc (.cells #[.string x.t, .int .u64 (x.f : Int), .slice none 0 0] 50)).drew = W3 at *
  obtain ⟨k0, k1, k2, k3, k4, k5, k6⟩ := HCs.out _ HX3.out
  have b4 := HB3.out.cell 4 _ rfl
  have b5 := HB3.out.cell 5 _ rfl
  have f4 := HB3.out.frozen 4
  have f5 := HB3.out.frozen 5
  go_region
  clear k0 k1 k2 k3 k4 k5 k6 b4 b5 f4 f5
  have HB4 := Lib.hid (((HB3.out.set_ 4 (.int .u64 (x.g : Int))).set_ 5 (.int .u64 (x.f : Int))).drew)
  have HR4 := Lib.hid (((HR3.out.other (g := b) (by have := HKb.out; omega) 4 (.int .u64 (x.g : Int))).other (g := b) (by have := HKb.out; omega) 5 (.int .u64 (x.f : Int))).drew)
  have HK4 := Lib.hid (((HK3.out.other (g := b) (by have := HKb.out; omega) 4 (.int .u64 (x.g : Int))).other (g := b) (by have := HKb.out; omega) 5 (.int .u64 (x.f : Int))).drew)
  have HX4 := Lib.hid (((HX3.out.setCell (p := ⟨b, 4, none⟩) hb1 (.int .u64 (x.g : Int))).setCell (p := ⟨b, 5, none⟩) hb1 (.int .u64 (x.f : Int))).drew)
  generalize ((W3.setCell ⟨b, 4, none⟩ (.int .u64 (x.g : Int))).setCell ⟨b, 5, none⟩ (.int .u64 (x.f : Int))).drew = W4 at *
  clear HX3 HB3 HR3 HK3
  have HFin : Hid (∀ W9, W9 = W4 → W9 = W4) := Lib.hid (fun _ h => h)
  go_wp2
  go_loopw [35] (fun iv wr => ∃ j : Nat, j ≤ 1 ∧ iv = .int .i64 (j : Int) ∧ if 0 < j then (∃ p c q qc κ, TextsP wr p x.r ∧ (∀ a : Addr, p = some a → kp < a.block ∧ κ a.block = 0) ∧ Ext W1 wr ∧ Blk wr b 61 (wcells bd (takenS (newS nf sz ck) x f u) (.slice q 1 qc)) ∧ Sl wr κ 3 2 75 q 1 qc (pcells [(f, u)]) ∧ (∀ g, κ g ≠ 0 → κ g = 3 ∧ kp < g ∧ g < wr.heap.size) ∧ Blk wr rc 50 [.string ⟨#[]⟩, .int .u64 0, .slice none 0 0] ∧ Blk wr kp 50 [.string x.t, .int .u64 (x.f : Int), .slice p x.r.length c]) else wr = W4) (fun iv _ => 1 - (intOf iv).toNat)
  case atStart => exact ⟨0, Nat.zero_le _, rfl, by rw [if_neg (by omega)]⟩
  case round =>
    obtain ⟨j, hj, rfl, hw⟩ := hrel
    by_cases hlt : j < 1
    · obtain rfl : j = 0 := by omega
      rw [if_neg (by omega)] at hw
      subst hw
      obtain ⟨k0, k1, k2, k3, k4, k5, k6⟩ := HCs.out _ HX4.out
      go_upto_region 6 with (fail)
      have HX5 := Lib.hid (HX4.out.alloc (.cells #[.int .u8 (x.k : Int), .int .u64 (x.g : Int), .int .u64 (x.f : Int), .string x.t, .slice tq x.r.length tc, .int .i64 (u : Int), .bool x.w] 119))
      have HB5 := Lib.hid (HB4.out.alloc (.cells #[.int .u8 (x.k : Int), .int .u64 (x.g : Int), .int .u64 (x.f : Int), .string x.t, .slice tq x.r.length tc, .int .i64 (u : Int), .bool x.w] 119))
      have HR5 := Lib.hid (HR4.out.alloc (.cells #[.int .u8 (x.k : Int), .int .u64 (x.g : Int), .int .u64 (x.f : Int), .string x.t, .slice tq x.r.length tc, .int .i64 (u : Int), .bool x.w] 119))
      have HK5 := Lib.hid (HK4.out.alloc (.cells #[.int .u8 (x.k : Int), .int .u64 (x.g : Int), .int .u64 (x.f : Int), .string x.t, .slice tq x.r.length tc, .int .i64 (u : Int), .bool x.w] 119))
      have HQ5 := Lib.hid (Blk.new wr [.int .u8 (x.k : Int), .int .u64 (x.g : Int), .int .u64 (x.f : Int), .string x.t, .slice tq x.r.length tc, .int .i64 (u : Int), .bool x.w] 119)
      simp only [List.toArray] at HQ5
      have HKl : Hid (kp < wr.heap.size) := Lib.hid HK4.out.lt
      obtain ⟨bx, hbx⟩ : ∃ bx, bx = wr.heap.size := ⟨_, rfl⟩
      rw [← hbx] at HQ5 HKl ⊢
      clear hbx
      generalize wr.alloc (.cells #[.int .u8 (x.k : Int), .int .u64 (x.g : Int), .int .u64 (x.f : Int), .string x.t, .slice tq x.r.length tc, .int .i64 (u : Int), .bool x.w] 119) = W5 at *
      clear k0 k1 k2 k3 k4 k5 k6 HX4 HB4 HR4 HK4
      have b7 := HB5.out.cell 7 _ rfl
      have f7 := HB5.out.frozen 7
      have l7 := HB5.out.lt
      have n7 := Nat.ne_of_lt l7
      have q5 := HQ5.out.cell 5 _ rfl
      have lq := HQ5.out.lt
      have nq := Nat.ne_of_lt lq
      have c5 := HC2.out _ HX5.out
      have l2 := Nat.lt_of_lt_of_le hg2 HX5.out.size
      have n2 := Nat.ne_of_lt l2
      have hcap : ¬ (281474976710656 < Builtin.nextslicecap 1 0 * Tryz.t75.bytes) := by decide
      go_region
      obtain ⟨cap, hce, hcge⟩ : ∃ cap, cap = (Question.appendCap 1 0 75).cut (W5.tape (W5.drawn + 1) (Question.appendCap 1 0 75)) ∧ 1 ≤ cap := ⟨_, rfl, grownCap_ge W5.drew 1 0 _⟩
      rw [← hce]
      have hzs := size_zeroCells #[Value.int .i64 0, Value.int .i64 0] (cap - 1)
      generalize Builtin.zeroCells #[Value.int .i64 0, Value.int .i64 0] (cap - 1) = zs at *
      have hzs2 : zs.size = (cap - 1) * 2 := hzs
      clear hce hzs b7 f7 n7 q5 nq c5 n2 hcap
      have HX6 := Lib.hid ((((HX5.out.setCell (p := ⟨b, 7, none⟩) hb1 (.slice (some ⟨W5.heap.size + 1, 0, none⟩) 1 cap)).alloc (.cells #[.int .i64 (f : Int), .int .i64 (u : Int)] 75)).alloc (.cells (#[.int .i64 (f : Int), .int .i64 (u : Int)] ++ zs) 75)).drew.drew)
      have HB6 := Lib.hid ((((HB5.out.set_ 7 (.slice (some ⟨W5.heap.size + 1, 0, none⟩) 1 cap)).alloc (.cells #[.int .i64 (f : Int), .int .i64 (u : Int)] 75)).alloc (.cells (#[.int .i64 (f : Int), .int .i64 (u : Int)] ++ zs) 75)).drew.drew)
      have HR6 := Lib.hid ((((HR5.out.other (g := b) (by have := HKb.out; omega) 7 (.slice (some ⟨W5.heap.size + 1, 0, none⟩) 1 cap)).alloc (.cells #[.int .i64 (f : Int), .int .i64 (u : Int)] 75)).alloc (.cells (#[.int .i64 (f : Int), .int .i64 (u : Int)] ++ zs) 75)).drew.drew)
      have HK6 := Lib.hid ((((HK5.out.other (g := b) (by have := HKb.out; omega) 7 (.slice (some ⟨W5.heap.size + 1, 0, none⟩) 1 cap)).alloc (.cells #[.int .i64 (f : Int), .int .i64 (u : Int)] 75)).alloc (.cells (#[.int .i64 (f : Int), .int .i64 (u : Int)] ++ zs) 75)).drew.drew)
      have HQ6 := Lib.hid ((((HQ5.out.other (g := b) (by have := HKb.out; have := HKl.out; omega) 7 (.slice (some ⟨W5.heap.size + 1, 0, none⟩) 1 cap)).alloc (.cells #[.int .i64 (f : Int), .int .i64 (u : Int)] 75)).alloc (.cells (#[.int .i64 (f : Int), .int .i64 (u : Int)] ++ zs) 75)).drew.drew)
      have HH6 : Hid (((((W5.setCell ⟨b, 7, none⟩ (.slice (some ⟨W5.heap.size + 1, 0, none⟩) 1 cap)).alloc (.cells #[.int .i64 (f : Int), .int .i64 (u : Int)] 75)).alloc (.cells (#[.int .i64 (f : Int), .int .i64 (u : Int)] ++ zs) 75)).drew.drew).heap[W5.heap.size + 1]? = some (.cells (#[.int .i64 (f : Int), .int .i64 (u : Int)] ++ zs) 75 (0, 0))) := Lib.hid (by
        have := heap_alloc_new ((W5.setCell ⟨b, 7, none⟩ (.slice (some ⟨W5.heap.size + 1, 0, none⟩) 1 cap)).alloc (.cells #[.int .i64 (f : Int), .int .i64 (u : Int)] 75)) (.cells (#[.int .i64 (f : Int), .int .i64 (u : Int)] ++ zs) 75)
        rw [show ((W5.setCell ⟨b, 7, none⟩ (.slice (some ⟨W5.heap.size + 1, 0, none⟩) 1 cap)).alloc (.cells #[.int .i64 (f : Int), .int .i64 (u : Int)] 75)).heap.size = W5.heap.size + 1 by simp [World.setCell]] at this
        exact this)
      obtain ⟨gp, hgp⟩ : ∃ gp, gp = W5.heap.size + 1 := ⟨_, rfl⟩
      rw [← hgp] at HX6 HB6 HR6 HK6 HQ6 HH6 ⊢
      have hbgp : b < gp := by omega
      generalize (((W5.setCell ⟨b, 7, none⟩ (.slice (some ⟨gp, 0, none⟩) 1 cap)).alloc (.cells #[.int .i64 (f : Int), .int .i64 (u : Int)] 75)).alloc (.cells (#[.int .i64 (f : Int), .int .i64 (u : Int)] ++ zs) 75)).drew.drew = W6 at *
      have HS6 : Hid (Sl W6 (setK (fun _ => 0) gp 3) 3 2 75 (some ⟨gp, 0, none⟩) 1 cap (pcells [(f, u)])) := Lib.hid ⟨rfl, hcge, .inr ⟨gp, rfl⟩, fun _ => ⟨gp, _, rfl, setK_same _ _ _, HH6.out, by simp [hzs2]; omega, fun j v hj => by
        rcases j with _ | _ | j
        · simp [pcells] at hj; subst hj; rw [Array.getElem?_append_left (by simp)]; rfl
        · simp [pcells] at hj; subst hj; rw [Array.getElem?_append_left (by simp)]; rfl
        · simp [pcells] at hj⟩⟩
      have HGm : Hid (gp < W6.heap.size) := Lib.hid (heap_lt HH6.out)
      have HKg : Hid (kp < gp) := Lib.hid (by have := HK5.out.lt; omega)
      clear HX5 HB5 HR5 HK5 HQ5 hgp l7 lq l2 hzs2 HH6
      obtain ⟨a0, rfl⟩ : ∃ a0, tq = some a0 := by
        rcases hq : x.r with _ | ⟨y0, r0⟩
        · exact absurd hq hxne
        · obtain ⟨a0, e0, _⟩ := HTx.out 0 y0 (by rw [hq]; rfl)
          exact ⟨a0, e0⟩
      have m0 := HQ6.out.cell 0 _ rfl
      have m1 := HQ6.out.cell 1 _ rfl
      have m2 := HQ6.out.cell 2 _ rfl
      have m3 := HQ6.out.cell 3 _ rfl
      have m4 := HQ6.out.cell 4 _ rfl
      have m5 := HQ6.out.cell 5 _ rfl
      have m6 := HQ6.out.cell 6 _ rfl
      go_upto_region 8 with (go_at_call 70; refine (HNx.out _).mono ?_; rintro e W7 ⟨rfl, x7⟩; have X7 := Lib.hid x7; have p6 := (HB6.out.ext x7).cell 6 _ rfl; have q6 := (HB6.out.ext x7).frozen 6; clear x7)
      clear m0 m1 m2 m3 m4 m5 m6 p6 q6
      have HX8 := Lib.hid ((HX6.out.trans X7.out).setCell (p := ⟨b, 6, none⟩) hb1 (.int .u64 (nextN x : Int)))
      have HB8 := Lib.hid ((HB6.out.ext X7.out).set_ 6 (.int .u64 (nextN x : Int)))
      have HR8 := Lib.hid ((HR6.out.ext X7.out).other (g := b) (by have := HKb.out; omega) 6 (.int .u64 (nextN x : Int)))
      have HK8 := Lib.hid ((HK6.out.ext X7.out).other (g := b) (by have := HKb.out; omega) 6 (.int .u64 (nextN x : Int)))
      have HQ8 := Lib.hid ((HQ6.out.ext X7.out).other (g := b) (by have := HKb.out; have := HKl.out; omega) 6 (.int .u64 (nextN x : Int)))
      have HS8 := Lib.hid ((HS6.out.ext X7.out).same (w' := W7.setCell ⟨b, 6, none⟩ (.int .u64 (nextN x : Int))) (κ' := setK (fun _ => 0) gp 3) (fun g _ hk => Below.heap_setCell _ _ _ _ (fun e => by rw [e, setK_other (fun _ => 0) 3 (show b ≠ gp by omega)] at hk; cases hk)) (fun _ _ e => e))
      have HT8 := Lib.hid (HTx.out.ext (HX8.out))
      have HGl : Hid (gp < (W7.setCell ⟨b, 6, none⟩ (.int .u64 (nextN x : Int))).heap.size) := Lib.hid (by have h1 := X7.out.size; have h2 := HGm.out; simp [World.setCell]; omega)
      generalize W7.setCell ⟨b, 6, none⟩ (.int .u64 (nextN x : Int)) = W8 at *
      clear HX6 HB6 HR6 HK6 HQ6 HS6 X7
      have kc := HK8.out.cell 2 _ rfl
      have qc := HQ8.out.cell 4 _ rfl
      have HSrc : Hid (Src Tryz.prog 1 33 (.slice (some a0) x.r.length tc) x.r.length (x.r.map Value.string) W8) := Lib.hid (Src.ofSlice W8 Tryz.underlying33 a0 x.r.length tc _ (by simp) (fun j v hj => by
        rw [List.getElem?_map] at hj
        rcases hy : x.r[j]? with _ | y
        · rw [hy] at hj; cases hj
        · rw [hy] at hj
          simp at hj
          subst hj
          obtain ⟨a1, e1, _, hc1⟩ := HT8.out j y hy
          injection e1 with e1
          subst e1
          exact hc1) (fun v hv => by obtain ⟨y, _, rfl⟩ := List.mem_map.1 hv; rfl))
      go_wp2_with (at_builtin; refine wpList_append_sl rfl (.tmp 62) (.tmp 64) _ _ rfl Tryz.underlying33 infoS rfl (by decide) rfl (Sl.nil W8 (fun _ => 0) 1 1 9) (by simp) _ rfl _ _ HSrc.out (by omega) ?_; intro p9 c9 w9 κ9 h9 f9 _ _ _; have X9 := Lib.hid (f9.fresh (by decide)); have kc9 := (HK8.out.ext X9.out).cell 2 _ rfl; have kf9 := (HK8.out.ext X9.out).frozen 2; have H9 := Lib.hid h9; have HF9 := Lib.hid (fun g (hk : κ9 g = 1) => show W8.heap.size ≤ g from Classical.byContradiction fun e => by have := f9.foot g (by omega); rw [this] at hk; cases hk); clear h9 f9)
      go_roundw
      case rel =>
        have hkl : kp < W8.heap.size := HK8.out.lt
        have hkb := HKb.out
        refine ⟨1, Nat.le_refl _, rfl, ?_⟩
        rw [if_pos (by omega)]
        refine ⟨p9, c9, some ⟨gp, 0, none⟩, cap, setK (fun _ => 0) gp 3, fun j y hj => ?_, fun a ea => ?_, (HX8.out.trans X9.out).setCell (p := ⟨kp, 2, none⟩) (show W1.heap.size ≤ kp by omega) _, (HB8.out.ext X9.out).other (g := kp) (by omega) 2 _, (HS8.out.ext X9.out).same (fun g _ hk => Below.heap_setCell _ _ _ _ (fun e => by rw [e, setK_other (fun _ => 0) 3 (show kp ≠ gp by have := HKg.out; omega)] at hk; cases hk)) (fun _ _ e => e), fun g hg => ?_, (HR8.out.ext X9.out).other (g := kp) (by omega) 2 _, (HK8.out.ext X9.out).set_ 2 _⟩
        · obtain ⟨g, e, hgl, hk, hc, _⟩ := H9.out.cell (j := j) (u := .string y) (by simp [hj])
          exact ⟨⟨g, 0, none⟩, e, by simpa [World.setCell] using hgl, by
            rw [add_zero_off, World.cell?_of_block (w := w9) (a := ⟨g, j, none⟩) (Below.heap_setCell _ _ _ _ (show g ≠ kp by have := HF9.out g hk; omega))]
            exact hc⟩
        · obtain ⟨y, hy⟩ : ∃ y, x.r[0]? = some y := by
            rcases hq : x.r with _ | ⟨y0, r0⟩
            · exact absurd hq hxne
            · exact ⟨y0, rfl⟩
          obtain ⟨g, e, _, hk, _⟩ := H9.out.cell (j := 0) (u := .string y) (by simp [hy])
          rw [e] at ea
          injection ea with ea
          subst ea
          exact ⟨Nat.lt_of_lt_of_le hkl (HF9.out g hk), setK_other (fun _ => 0) 3 (show g ≠ gp by have := HF9.out g hk; have := HGl.out; omega)⟩
        · by_cases e : g = gp
          · subst e
            exact ⟨setK_same _ _ _, HKg.out, by have := HGl.out; have := X9.out.size; simp [World.setCell]; omega⟩
          · rw [setK_other _ _ e] at hg; exact absurd rfl hg
      case measure => simp [intOf]
    · obtain rfl : j = 1 := by omega
      rw [if_pos (by omega)] at hw
      obtain ⟨p9, c9, q9, qc9, κ9, t9, u9, x9, b9, s9, z9, r9, k9⟩ := hw
      have e0 := k9.cell 0 _ rfl
      have e1 := k9.cell 1 _ rfl
      have e2 := k9.cell 2 _ rfl
      have r0 := r9.cell 0 _ rfl
      have g0 := r9.frozen 0
      have g1 := r9.frozen 1
      have g2 := r9.frozen 2
      have r1 := r9.cell 1 _ rfl
      have r2 := r9.cell 2 _ rfl
      have T9 := Lib.hid t9; have U9 := Lib.hid u9; have X9 := Lib.hid x9; have B9 := Lib.hid b9; have S9 := Lib.hid s9; have Z9 := Lib.hid z9; have R9 := Lib.hid r9
      clear t9 u9 x9 b9 s9 z9 r9 k9
      go_wp2
      refine bodyPost_ret (results_kept rfl _ _ rc 50 (.string x.t) (.int .u64 (x.f : Int)) (.slice p9 x.r.length c9) (0, 0) rfl (((R9.out.set_ 0 (.string x.t)).set_ 1 (.int .u64 (x.f : Int))).set_ 2 (.slice p9 x.r.length c9))) rfl ?_
      have hkb := HKb.out
      have hW : ∀ g, g ≠ rc → (((wr.setCell ⟨rc, 0, none⟩ (.string x.t)).setCell ⟨rc, 1, none⟩ (.int .u64 (x.f : Int))).setCell ⟨rc, 2, none⟩ (.slice p9 x.r.length c9)).heap[g]? = wr.heap[g]? := fun g hg => (Below.heap_setCell _ _ _ _ hg).trans ((Below.heap_setCell _ _ _ _ hg).trans (Below.heap_setCell _ _ _ _ hg))
      have hWs : (((wr.setCell ⟨rc, 0, none⟩ (.string x.t)).setCell ⟨rc, 1, none⟩ (.int .u64 (x.f : Int))).setCell ⟨rc, 2, none⟩ (.slice p9 x.r.length c9)).heap.size = wr.heap.size := by simp [World.setCell]
      refine ⟨p9, c9, q9, qc9, κ9, rfl, fun j y hj => ?_, fun a ea => ⟨by have := (U9.out a ea).1; omega, (U9.out a ea).2⟩, ((X9.out.setCell (p := ⟨rc, 0, none⟩) (show W1.heap.size ≤ rc by omega) _).setCell (p := ⟨rc, 1, none⟩) (show W1.heap.size ≤ rc by omega) _).setCell (p := ⟨rc, 2, none⟩) (show W1.heap.size ≤ rc by omega) _, (hW b (by omega)).trans B9.out, S9.out.same (fun g _ hk => hW g (by have := Z9.out g (by omega); omega)) (fun _ _ e => e), fun g hg => ?_⟩
      · obtain ⟨a, e, hl, hc⟩ := T9.out j y hj
        have ha := (U9.out a e).1
        exact ⟨a, e, by rw [hWs]; exact hl, by
          rw [World.cell?_of_block (w := wr) (a := a.add j) (hW _ (by rw [add_block]; omega))]
          exact hc⟩
      · obtain ⟨z1, z2, z3⟩ := Z9.out g hg
        exact ⟨z1, by omega, by rw [hWs]; exact z3⟩
end Go.Proofs.YtbekdcpdfmfopaaGreat
