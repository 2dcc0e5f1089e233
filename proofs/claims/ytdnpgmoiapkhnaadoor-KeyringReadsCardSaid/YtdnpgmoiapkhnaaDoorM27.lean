/- Contracts of the library's sort at numbers of 32 bits: less, the insertion sort. Contracts of the library's sort at numbers of 32 bits: a range turned about; the pivot, chosen. Contracts of the library's sort at numbers of 32 bits: how many bits; a greater power of two; numbers that scatter. Contract of the library's sort at numbers of 32 bits: the pivot, chosen. -/
import Derived.Test.YtdnpgmoiapkhnaaDoorM26
import Derived.Test.YtdnpgmoiapkhnaaDoorProg
import Derived.WalkKit
import Derived.BigRegion
import Derived.BigQuiet
import Derived.Deep.QuietTactic
import Derived.Deep.Draws
import Derived.Deep.DeepCutAuto
import Derived.Deep.MidRow
import Derived.Outline
import Derived.Sort.LotD1
section
namespace Go.Proofs.YtdnpgmoiapkhnaaDoor
open Go.RowKit

theorem less_any (x y : Nat) (w : World) : Calls Tryd.prog 108 #[.int .u32 (x : Int), .int .u32 (y : Int)] w fun e w' => e = .returned (.bool (ltN x y)) ∧ w' = w := by
  have e : decide ((x : Int) < (y : Int)) = ltN x y := by simp [ltN]
  go_enter Tryd.func108, Tryd.ntmps108
  go_wp2
  go_ret
  exact ⟨by simp [ltN], rfl⟩

theorem less_of {x y : Nat} {b : Bool} (h : ltN x y = b) (w : World) : Calls Tryd.prog 108 #[.int .u32 (x : Int), .int .u32 (y : Int)] w fun e w' => e = .returned (.bool b) ∧ w' = w := h ▸ less_any x y w
/-- A quiet callee, met behind two quiet regions: the draws add up. -/
theorem quiet_of_same2 {P : Program} {f : FuncId} {args : Array Value} {w : World} {k n : Nat} {v : Value}
    (h : Calls P f args (w.drewN (k + n)) fun e w' => e = .returned v ∧ w' = w.drewN (k + n)) : Calls P f args (w.drewN (k + n)) fun e w'' => e = .returned v ∧ ∃ m, w'' = w.drewN (k + m) :=
  h.mono fun _ _ ⟨he, hm⟩ => ⟨he, n, hm⟩
theorem insOuter_go {lt : Nat → Nat → Bool} (a b i : Nat) (d : Array Nat) (h : i < b) : Sort.insOuter lt a b i d = Sort.insOuter lt a b (i + 1) (Sort.insInner lt a i d) := by
  conv => lhs; rw [Sort.insOuter]
  rw [if_pos h]
theorem insOuter_end {lt : Nat → Nat → Bool} (a b i : Nat) (d : Array Nat) (h : ¬ i < b) : Sort.insOuter lt a b i d = d := by
  rw [Sort.insOuter, if_neg h]
theorem insInner_go {lt : Nat → Nat → Bool} (a k : Nat) (d : Array Nat) (h : a < k + 1) (hl : lt d[k + 1]! d[k]! = true) : Sort.insInner lt a (k + 1) d = Sort.insInner lt a k (Sort.swp d (k + 1) k) := by
  rw [Sort.insInner, if_pos (by simp [hl]; omega)]
theorem insInner_end {lt : Nat → Nat → Bool} (a k : Nat) (d : Array Nat) (hl : lt d[k + 1]! d[k]! = false) : Sort.insInner lt a (k + 1) d = d := by
  rw [Sort.insInner, if_neg (by simp [hl])]
theorem insInner_low {lt : Nat → Nat → Bool} (a j : Nat) (d : Array Nat) (h : ¬ a < j) : Sort.insInner lt a j d = d := by
  cases j with
  | zero => rfl
  | succ k => rw [Sort.insInner, if_neg (by simp; omega)]

set_option maxRecDepth 100000 in
set_option maxHeartbeats 4000000 in
theorem ins_any (g : Nat) (T : TypeId) (pos : List Value) (d : Array Nat) (a b cap : Nat) (w : World) (h : Blk w g T (d.toList.map cN ++ pos)) (hab : a ≤ b) (hb : b ≤ d.size) (hs : d.size ≤ 1000000) :
    Calls Tryd.prog 102 #[.slice (some ⟨g, 0, none⟩) d.size cap, .int .i64 (a : Int), .int .i64 (b : Int)] w fun e w' => e = .returned (.tuple #[]) ∧ RowN w w' g T pos (Sort.insertionSort ltN d a b) := by
  have HL := Lib.hid less_any
  have HR := Lib.hid (RowN.refl h)
  clear h
  go_enter Tryd.func102, Tryd.ntmps102
  go_wp2
  go_loopw [6, 7] (fun iv _ wr => ∃ (i : Nat) (dk : Array Nat), iv = .int .i64 (i : Int) ∧ a < i ∧ i ≤ b + 1 ∧ dk.size = d.size ∧ Hid (RowN w wr g T pos dk) ∧ Hid (Sort.insOuter ltN a b i dk = Sort.insertionSort ltN d a b)) (fun iv _ _ => b + 1 - (intOf iv).toNat)
  case atStart => exact ⟨a + 1, d, by go_num, by omega, by omega, rfl, HR, Lib.hid rfl⟩
  case round =>
    obtain ⟨i, dk, rfl, hai, hi1, hds, hR, hO⟩ := hrel
    by_cases hib : i < b
    · have hibi : (i : Int) < (b : Int) := by omega
      have HO1 : Hid (Sort.insOuter ltN a b (i + 1) (Sort.insInner ltN a i dk) = Sort.insertionSort ltN d a b) := Lib.hid (by rw [← hO.out, insOuter_go _ _ _ _ hib])
      clear hO
      go_wp2
      go_loopw [7] (fun jv wr => ∃ (j : Nat) (dj : Array Nat), jv = .int .i64 (j : Int) ∧ a ≤ j ∧ j ≤ i ∧ dj.size = d.size ∧ Hid (RowN w wr g T pos dj) ∧ Hid (Sort.insInner ltN a j dj = Sort.insInner ltN a i dk)) (fun jv _ => (intOf jv).toNat)
      case atStart => exact ⟨i, dk, rfl, by omega, Nat.le_refl _, hds, hR, Lib.hid rfl⟩
      case round =>
        obtain ⟨j, dj, rfl, haj, hji, hdj, hRj, hI⟩ := hrel
        by_cases hja : a < j
        · obtain ⟨k, rfl⟩ : ∃ k, j = k + 1 := ⟨j - 1, by omega⟩
          have hjai : (a : Int) < (k : Int) + 1 := by omega
          have c1 := hRj.out.cell (k + 1) (by omega)
          have c0 := hRj.out.cell k (by omega)
          have f1 := hRj.out.frozen (k + 1)
          have f0 := hRj.out.frozen k
          have b1 : k + 1 < d.size := by omega
          have b0 : k < d.size := by omega
          obtain ⟨x, hx⟩ : ∃ x, dj[k + 1]! = x := ⟨_, rfl⟩
          obtain ⟨y, hy⟩ : ∃ y, dj[k]! = y := ⟨_, rfl⟩
          have HS := Lib.hid (fun n => (hRj.out.drewN n).swap (k + 1) k (by omega) (by omega) hx hy)
          have HX := Lib.hid hx
          have HY := Lib.hid hy
          rw [hx] at c1
          rw [hy] at c0
          clear hx hy
          rcases hl : ltN x y with _ | _
          · go_upto_region 4 with (fail)
            go_quiet ((go_at_call 108; exact Calls.quiet_of_same (HL.out _ _ _)))
            go_wp2
            go_roundw
            case rel => exact ⟨i + 1, dj, by go_num, by omega, by omega, hdj, Lib.hid (hRj.out.drewN _), Lib.hid (by rw [← HO1.out, ← hI.out, insInner_end _ _ _ (by rw [HX.out, HY.out]; exact hl)])⟩
            case measure => first | (simp [intOf]; omega) | simp [intOf]
          · go_upto_region 4 with (fail)
            go_quiet ((go_at_call 108; exact Calls.quiet_of_same (HL.out _ _ _)))
            go_upto_region 6 with (fail)
            go_region
            go_wp2
            go_roundw
            case rel => exact ⟨k, Sort.swp dj (k + 1) k, rfl, by omega, by omega, by rw [Sort.size_swp]; exact hdj, Lib.hid (HS.out _), Lib.hid (by rw [← hI.out, insInner_go _ _ _ hja (by rw [HX.out, HY.out]; exact hl)])⟩
            case measure => first | (simp [intOf]; omega) | simp [intOf]
        · have hjai : ¬ (a : Int) < (j : Int) := by omega
          go_upto_region 4 with (fail)
          go_quiet (fail)
          go_wp2
          go_roundw
          case rel => exact ⟨i + 1, dj, by go_num, by omega, by omega, hdj, Lib.hid (hRj.out.drewN _), Lib.hid (by rw [← HO1.out, ← hI.out, insInner_low _ _ _ hja])⟩
          case measure => simp [intOf]; omega
    · have hibi : ¬ (i : Int) < (b : Int) := by omega
      go_wp2
      go_end0
      exact ⟨rfl, by rw [← hO.out, insOuter_end _ _ _ _ hib]; exact hR.out⟩
end Go.Proofs.YtdnpgmoiapkhnaaDoor
end

section
namespace Go.Proofs.YtdnpgmoiapkhnaaDoor
open Go.RowKit

set_option maxRecDepth 100000 in
set_option maxHeartbeats 4000000 in
theorem rev_any (g : Nat) (T : TypeId) (pos : List Value) (d : Array Nat) (a b cap : Nat) (w : World) (h : Blk w g T (d.toList.map cN ++ pos)) (hab : a < b) (hb : b ≤ d.size) (hs : d.size ≤ 1000000) :
    Calls Tryd.prog 106 #[.slice (some ⟨g, 0, none⟩) d.size cap, .int .i64 (a : Int), .int .i64 (b : Int)] w fun e w' => e = .returned (.tuple #[]) ∧ ∃ d', RowN w w' g T pos d' ∧ Sort.PermIn a b d d' := by
  have HR := Lib.hid (RowN.refl h)
  clear h
  obtain ⟨b0, rfl⟩ : ∃ k, b = k + 1 := ⟨b - 1, by omega⟩
  go_enter Tryd.func106, Tryd.ntmps106
  go_wp2
  go_loopw [6, 7] (fun iv jv wr => ∃ (i j : Nat) (dk : Array Nat), iv = .int .i64 (i : Int) ∧ jv = .int .i64 ((j : Int) - 1) ∧ a ≤ i ∧ j ≤ b0 + 1 ∧ i ≤ b0 + 1 ∧ dk.size = d.size ∧ Hid (RowN w wr g T pos dk) ∧ Hid (Sort.PermIn a (b0 + 1) d dk)) (fun iv jv _ => (intOf jv).toNat + 1 - (intOf iv).toNat)
  case atStart => exact ⟨a, b0 + 1, d, rfl, by go_num, Nat.le_refl _, Nat.le_refl _, by omega, rfl, HR, Lib.hid (Sort.permIn_refl _ _ _)⟩
  case round =>
    obtain ⟨i, j, dk, rfl, rfl, hai, hjb, hib, hdk, hR, hP⟩ := hrel
    by_cases hij : i + 1 < j
    · obtain ⟨k, rfl⟩ : ∃ k, j = k + 1 := ⟨j - 1, by omega⟩
      have hiji : (i : Int) < (k : Int) := by omega
      have c1 := hR.out.cell i (by omega)
      have c0 := hR.out.cell k (by omega)
      have f1 := hR.out.frozen i
      have f0 := hR.out.frozen k
      have b1 : i < d.size := by omega
      have b0' : k < d.size := by omega
      obtain ⟨x, hx⟩ : ∃ x, dk[i]! = x := ⟨_, rfl⟩
      obtain ⟨y, hy⟩ : ∃ y, dk[k]! = y := ⟨_, rfl⟩
      have HS := Lib.hid (fun n => (hR.out.drewN n).swap i k (by omega) (by omega) hx hy)
      rw [hx] at c1
      rw [hy] at c0
      clear hx hy
      have hjs : IntKind.i64.wrap ((k : Int) - 1) = (k : Int) - 1 := IntWalk.i64_in _ ⟨by omega, by omega⟩
      go_upto_region 3 with (fail)
      go_region
      go_wp2
      go_roundw
      case rel => exact ⟨i + 1, k, Sort.swp dk i k, by go_num, by first | rfl | go_num, by omega, by omega, by omega, by rw [Sort.size_swp]; exact hdk, Lib.hid (HS.out _), Lib.hid (Sort.permIn_trans _ _ _ _ _ hP.out (Sort.swp_permIn _ _ _ _ _ hai (by omega) (by omega) (by omega) (by omega)))⟩
      case measure => first | (simp [intOf]; omega) | simp [intOf]
    · have hiji : ¬ (i : Int) < (j : Int) - 1 := by omega
      go_wp2
      go_end0
      exact ⟨rfl, dk, hR.out, hP.out⟩
end Go.Proofs.YtdnpgmoiapkhnaaDoor
end

section
namespace Go.Proofs.YtdnpgmoiapkhnaaDoor
open Go.RowKit

set_option maxRecDepth 100000 in
set_option maxHeartbeats 4000000 in
theorem order2_any (g : Nat) (T : TypeId) (pos : List Value) (d : Array Nat) (a b cap s k : Nat) (w : World) (h : Blk w g T (d.toList.map cN ++ pos)) (ha : a < d.size) (hb : b < d.size) (_ : d.size ≤ 1000000) (hk : Blk w s 3 [.int .i64 (k : Int)]) (hk1 : k ≤ 1000000) :
    Calls Tryd.prog 139 #[.slice (some ⟨g, 0, none⟩) d.size cap, .int .i64 (a : Int), .int .i64 (b : Int), .pointer (some ⟨s, 0, none⟩)] w fun e w' => ∃ x y k' : Nat, e = .returned (.tuple #[.int .i64 (x : Int), .int .i64 (y : Int)]) ∧ (x = a ∧ y = b ∨ x = b ∧ y = a) ∧ k' ≤ k + 1 ∧ Cnt w w' s 3 (.int .i64 (k' : Int)) := by
  have HR := RowN.refl h
  have c1 := HR.cell a ha
  have c0 := HR.cell b hb
  obtain ⟨x, hx⟩ : ∃ x, d[a]! = x := ⟨_, rfl⟩
  obtain ⟨y, hy⟩ : ∃ y, d[b]! = y := ⟨_, rfl⟩
  rw [hx] at c1
  rw [hy] at c0
  have c2 := hk.cell 0 _ rfl
  have f2 := hk.frozen 0
  have HK := Lib.hid hk
  clear h HR hx hy hk
  go_enter Tryd.func139, Tryd.ntmps139
  rcases hl : ltN y x with _ | _
  · go_upto_region 1 with (fail)
    go_quiet ((go_at_call 108; exact Calls.quiet_of_same (less_of hl _)))
    go_wp2
    go_ret2
    exact ⟨a, b, k, rfl, .inl ⟨rfl, rfl⟩, by omega, (Cnt.refl HK.out).drewN _⟩
  · go_upto_region 1 with (fail)
    go_quiet ((go_at_call 108; exact Calls.quiet_of_same (less_of hl _)))
    go_wp2
    go_ret2
    exact ⟨b, a, k + 1, rfl, .inr ⟨rfl, rfl⟩, by omega, ((Cnt.refl HK.out).drewN _).set_ _⟩
set_option maxRecDepth 100000 in
set_option maxHeartbeats 4000000 in
theorem median_any (g : Nat) (T : TypeId) (pos : List Value) (d : Array Nat) (a b c cap s k : Nat) (w : World) (h : Blk w g T (d.toList.map cN ++ pos)) (ha : a < d.size) (hb : b < d.size) (hc : c < d.size) (hs : d.size ≤ 1000000) (hk : Blk w s 3 [.int .i64 (k : Int)]) (hk1 : k ≤ 900000) (hn : g ≠ s) :
    Calls Tryd.prog 132 #[.slice (some ⟨g, 0, none⟩) d.size cap, .int .i64 (a : Int), .int .i64 (b : Int), .int .i64 (c : Int), .pointer (some ⟨s, 0, none⟩)] w fun e w' => ∃ x k' : Nat, e = .returned (.int .i64 (x : Int)) ∧ (x = a ∨ x = b ∨ x = c) ∧ k' ≤ k + 3 ∧ Cnt w w' s 3 (.int .i64 (k' : Int)) := by
  have HO := Lib.hid (fun (u : World) (x y k0 : Nat) (hx : x < d.size) (hy : y < d.size) (h0 : k0 ≤ 1000000) (hu : Cnt w u s 3 (.int .i64 (k0 : Int))) => order2_any g T pos d x y cap s k0 u (hu.other h hn) hx hy hs hu.blk h0)
  have H0 := Lib.hid (Cnt.refl hk)
  clear h hk
  go_enter Tryd.func132, Tryd.ntmps132
  go_upto_region 2 with (go_at_call 139; refine (HO.out _ a b k ha hb (by omega) H0.out).mono ?_; rintro e w1 ⟨x1, y1, k1, rfl, m1, l1, i1⟩; have H1 := Lib.hid i1; clear i1)
  have hx1 : x1 < d.size := by omega
  have hy1 : y1 < d.size := by omega
  go_upto_region 3 with (go_at_call 139; refine (HO.out _ y1 c k1 hy1 hc (by omega) H1.out).mono ?_; rintro e w2 ⟨x2, y2, k2, rfl, m2, l2, i2⟩; have H2 := Lib.hid (H1.out.trans i2); clear i2)
  have hx2 : x2 < d.size := by omega
  go_wp2_with (go_at_call 139; refine (HO.out _ x1 x2 k2 hx1 hx2 (by omega) H2.out).mono ?_; rintro e w3 ⟨x3, y3, k3, rfl, m3, l3, i3⟩; have H3 := Lib.hid (H2.out.trans i3); clear i3)
  go_ret
  exact ⟨y3, k3, rfl, by omega, by omega, H3.out⟩
theorem medianAdj_any (g : Nat) (T : TypeId) (pos : List Value) (d : Array Nat) (a cap s k : Nat) (w : World) (h : Blk w g T (d.toList.map cN ++ pos)) (ha : 1 ≤ a) (hb : a + 1 < d.size) (hs : d.size ≤ 1000000) (hk : Blk w s 3 [.int .i64 (k : Int)]) (hk1 : k ≤ 900000) (hn : g ≠ s) :
    Calls Tryd.prog 131 #[.slice (some ⟨g, 0, none⟩) d.size cap, .int .i64 (a : Int), .pointer (some ⟨s, 0, none⟩)] w fun e w' => ∃ x k' : Nat, e = .returned (.int .i64 (x : Int)) ∧ (a - 1 ≤ x ∧ x ≤ a + 1) ∧ k' ≤ k + 3 ∧ Cnt w w' s 3 (.int .i64 (k' : Int)) := by
  obtain ⟨m, rfl⟩ : ∃ m, a = m + 1 := ⟨a - 1, by omega⟩
  have HM := Lib.hid (median_any g T pos d m (m + 1) (m + 1 + 1) cap s k w h (by omega) (by omega) (by omega) hs hk hk1 hn)
  simp only [Int.natCast_add, Int.cast_ofNat_Int] at HM
  clear h hk
  go_enter Tryd.func131, Tryd.ntmps131
  go_wp2_with (go_at_call 132; refine (HM.out).mono ?_; rintro e w1 ⟨x1, k1, rfl, m1, l1, i1⟩; have H1 := Lib.hid i1; clear i1)
  go_ret
  exact ⟨x1, k1, rfl, by omega, by omega, H1.out⟩
end Go.Proofs.YtdnpgmoiapkhnaaDoor
end

section
namespace Go.Proofs.YtdnpgmoiapkhnaaDoor
open Go.RowKit

set_option maxRecDepth 100000 in
set_option maxHeartbeats 4000000 in
theorem pivot_any (g : Nat) (T : TypeId) (pos : List Value) (d : Array Nat) (a l cap : Nat) (w : World) (h : Blk w g T (d.toList.map cN ++ pos)) (hl : 12 < l) (hb : a + l ≤ d.size) (hs : d.size ≤ 1000000) :
    Calls Tryd.prog 105 #[.slice (some ⟨g, 0, none⟩) d.size cap, .int .i64 (a : Int), .int .i64 ((a + l : Nat) : Int)] w fun e w' => ∃ x hint : Nat, e = .returned (.tuple #[.int .i64 (x : Int), .int .i64 (hint : Int)]) ∧ (a ≤ x ∧ x < a + l) ∧ (hint = 0 ∨ hint = 1 ∨ hint = 2) ∧ Ext w w' := by
  have hgs : g ≠ w.heap.size := by have := h.lt; omega
  have HO := Lib.hid (fun (u : World) (x y z k0 : Nat) (hx : x < d.size) (hy : y < d.size) (hz : z < d.size) (h0 : k0 ≤ 900000) (hg : Blk u g T (d.toList.map cN ++ pos)) (hu : Blk u w.heap.size 3 [.int .i64 (k0 : Int)]) => median_any g T pos d x y z cap w.heap.size k0 u hg hx hy hz hs hu h0 hgs)
  have HA := Lib.hid (fun (u : World) (x k0 : Nat) (hx : 1 ≤ x) (hy : x + 1 < d.size) (h0 : k0 ≤ 900000) (hg : Blk u g T (d.toList.map cN ++ pos)) (hu : Blk u w.heap.size 3 [.int .i64 (k0 : Int)]) => medianAdj_any g T pos d x cap w.heap.size k0 u hg hx hy hs hu h0 hgs)
  have HN := Lib.hid (Blk.new w [.int .i64 0] 3)
  have HG := Lib.hid (h.alloc (.cells #[.int .i64 0] 3))
  have HX := Lib.hid ((Ext.refl w).alloc (.cells #[.int .i64 0] 3))
  clear h
  obtain ⟨q, hq⟩ : ∃ q, l / 4 = q := ⟨_, rfl⟩
  have hq2 : (l : Int).tdiv 4 = (q : Int) := by rw [Int.tdiv_eq_ediv_of_nonneg (by omega)]; omega
  have hqd : (l : Int) / 4 = (q : Int) := by omega
  go_enter Tryd.func105, Tryd.ntmps105
  go_upto_region 7 with (fail)
  have e0 : (a : Int) + (l : Int) - (a : Int) = (l : Int) := by omega
  obtain ⟨i, hi⟩ : ∃ i, a + q = i := ⟨_, rfl⟩
  obtain ⟨j, hj⟩ : ∃ j, a + q * 2 = j := ⟨_, rfl⟩
  obtain ⟨k, hk⟩ : ∃ k, a + q * 3 = k := ⟨_, rfl⟩
  have hi1 : (a : Int) + (q : Int) = (i : Int) := by omega
  have hj1 : (a : Int) + (q : Int) * 2 = (j : Int) := by omega
  have hk1 : (a : Int) + (q : Int) * 3 = (k : Int) := by omega
  have q3 : 3 ≤ q := by omega
  have q4 : 4 * q ≤ l := by omega
  have hl8 : decide ((8 : Int) ≤ (l : Int)) = true := by rw [decide_eq_true_iff]; omega
  simp only [e0, hqd, hi1, hj1, hk1, hl8]
  have HI := Lib.hid hi1
  have HJ := Lib.hid hj1
  have HK := Lib.hid hk1
  have hki : k < d.size := by omega
  clear hq2 hqd hi1 hj1 hk1 e0
  by_cases h50 : 50 ≤ l
  · have h50i : (50 : Int) ≤ (l : Int) := by omega
    have h12 : 12 ≤ q := by omega
    go_upto_region 9 with (go_at_call 131; refine (HA.out _ i 0 (by omega) (by omega) (by omega) HG.out HN.out).mono ?_; rintro e w1 ⟨x1, k1, rfl, m1, l1, i1⟩; have H1 := Lib.hid i1; clear i1)
    go_upto_region 10 with (go_at_call 131; refine (HA.out _ j k1 (by omega) (by omega) (by omega) (H1.out.other HG.out hgs) H1.out.blk).mono ?_; rintro e w2 ⟨x2, k2, rfl, m2, l2, i2⟩; have H2 := Lib.hid (H1.out.trans i2); clear i2)
    go_upto_region 11 with (go_at_call 131; refine (HA.out _ k k2 (by omega) (by omega) (by omega) (H2.out.other HG.out hgs) H2.out.blk).mono ?_; rintro e w3 ⟨x3, k3, rfl, m3, l3, i3⟩; have H3 := Lib.hid (H2.out.trans i3); clear i3)
    go_upto_region 12 with (go_at_call 132; refine (HO.out _ x1 x2 x3 k3 (by omega) (by omega) (by omega) (by omega) (H3.out.other HG.out hgs) H3.out.blk).mono ?_; rintro e w4 ⟨x4, k4, rfl, m4, l4, i4⟩; have H4 := Lib.hid (H3.out.trans i4); clear i4)
    have cc := H4.out.blk.cell 0 _ rfl
    have HE := Lib.hid (H4.out.ext HX.out (Nat.le_refl _))
    rcases (show k4 = 0 ∨ k4 = 12 ∨ (k4 ≠ 0 ∧ k4 ≠ 12) by omega) with hkk | hkk | hkk
    · have z0 : ((k4 : Int) == 0) = true := by rw [beq_iff_eq]; omega
      go_wp2
      go_ret2
      exact ⟨x4, 1, rfl, by omega, by omega, HE.out⟩
    · have z0 : ((k4 : Int) == 0) = false := by rw [beq_eq_false_iff_ne]; omega
      have z1 : ((k4 : Int) == 12) = true := by rw [beq_iff_eq]; omega
      go_wp2
      go_ret2
      exact ⟨x4, 2, rfl, by omega, by omega, HE.out⟩
    · have z0 : ((k4 : Int) == 0) = false := by rw [beq_eq_false_iff_ne]; omega
      have z1 : ((k4 : Int) == 12) = false := by rw [beq_eq_false_iff_ne]; omega
      go_wp2
      go_ret2
      exact ⟨x4, 0, rfl, by omega, by omega, HE.out⟩
  · have h50i : ¬ (50 : Int) ≤ (l : Int) := by omega
    go_upto_region 12 with (go_at_call 132; refine (HO.out _ i j k 0 (by omega) (by omega) (by omega) (by omega) HG.out HN.out).mono ?_; rintro e w4 ⟨x4, k4, rfl, m4, l4, i4⟩; have H4 := Lib.hid i4; clear i4)
    have cc := H4.out.blk.cell 0 _ rfl
    have HE := Lib.hid (H4.out.ext HX.out (Nat.le_refl _))
    rcases (show k4 = 0 ∨ k4 = 12 ∨ (k4 ≠ 0 ∧ k4 ≠ 12) by omega) with hkk | hkk | hkk
    · have z0 : ((k4 : Int) == 0) = true := by rw [beq_iff_eq]; omega
      go_wp2
      go_ret2
      exact ⟨x4, 1, rfl, by omega, by omega, HE.out⟩
    · have z0 : ((k4 : Int) == 0) = false := by rw [beq_eq_false_iff_ne]; omega
      have z1 : ((k4 : Int) == 12) = true := by rw [beq_iff_eq]; omega
      go_wp2
      go_ret2
      exact ⟨x4, 2, rfl, by omega, by omega, HE.out⟩
    · have z0 : ((k4 : Int) == 0) = false := by rw [beq_eq_false_iff_ne]; omega
      have z1 : ((k4 : Int) == 12) = false := by rw [beq_eq_false_iff_ne]; omega
      go_wp2
      go_ret2
      exact ⟨x4, 0, rfl, by omega, by omega, HE.out⟩
end Go.Proofs.YtdnpgmoiapkhnaaDoor
end
