/- Contracts: which heads may be, which number would come next: by the program, by the document. -/
import Derived.Test.YthnoegipadnmeaaSegL
import Derived.Test.YthnoegipadnmeaaValsL
import Derived.Test.YthnoegipadnmeaaFoldN
import Derived.Lib.Strings
import Derived.Outline
namespace Go.Proofs.Ythnoegipadnmeaa
open Go.RowKit

theorem txt_empty (t : ByteArray) : t.toList.isEmpty = decide (t.size = 0) := by
  rw [Lib.toList_data, ← size_list t]
  cases t.data.toList <;> simp
set_option maxRecDepth 100000 in
set_option maxHeartbeats 1000000 in
theorem areNumbers_any (w : World) (p : Option Addr) (c n : Nat) (l : List Nat) (hn : l.length = n) (h : ValsP w p (vU l)) (hn6 : n ≤ 1000000) (d : Bool) (hd : d = true ↔ ∀ x ∈ l, NumOk x) :
    Calls Try.prog 40 #[.slice p n c] w fun e w' => e = .returned (.bool d) ∧ w = w' := by
  have HH := Lib.hid h; have HN := Lib.hid hn; have HD := Lib.hid hd
  clear h hn hd
  go_enter Try.func40, Try.ntmps40
  go_wp2
  go_loop [7] (fun i => ∃ j : Nat, j ≤ n ∧ i = .int .i64 (j : Int) ∧ Hid (∀ k x, k < j → l[k]? = some x → NumOk x)) (fun i => n - (intOf i).toNat)
  case atStart => exact ⟨0, Nat.zero_le _, rfl, Lib.hid (fun k x hk => by omega)⟩
  case round =>
    obtain ⟨j, hj, rfl, hs⟩ := hrel
    by_cases hlt : j < n
    · obtain ⟨x, hx⟩ : ∃ x, l[j]? = some x := ⟨_, List.getElem?_eq_getElem (by have := HN.out; omega)⟩
      obtain ⟨a, rfl, _, hc1⟩ := HH.out j _ (vU_get hx)
      have HX := Lib.hid hx
      clear hx
      by_cases h1 : x < 1
      · have h1i : (x : Int) < 1 := by omega
        have hdf : d = false := by
          rcases hb : d with _ | _
          · rfl
          · have := HD.out.1 hb x (List.mem_of_getElem? HX.out)
            unfold NumOk at this
            omega
        subst hdf
        clear h1
        go_wp2
        go_ret
        exact ⟨rfl, rfl⟩
      by_cases h2 : 281474976710656 < x
      · have h1i : ¬ (x : Int) < 1 := by omega
        have h2i : (281474976710656 : Int) < (x : Int) := by omega
        have hdf : d = false := by
          rcases hb : d with _ | _
          · rfl
          · have := HD.out.1 hb x (List.mem_of_getElem? HX.out)
            unfold NumOk at this
            omega
        subst hdf
        clear h1 h2
        go_wp2
        go_ret
        exact ⟨rfl, rfl⟩
      · have h1i : ¬ (x : Int) < 1 := by omega
        have h2i : ¬ (281474976710656 : Int) < (x : Int) := by omega
        have HO : Hid (NumOk x) := Lib.hid (by unfold NumOk; omega)
        clear h1 h2
        go_wp2
        go_round
        case rel =>
          refine ⟨j + 1, hlt, by go_num, Lib.hid fun k y hk hy => ?_⟩
          by_cases hkj : k = j
          · rw [hkj, HX.out] at hy
            cases hy
            exact HO.out
          · exact hs.out k y (by omega) hy
        case measure => simp [intOf]; omega
    · obtain rfl : j = n := by omega
      have hdt : d = true := HD.out.2 (fun x hx => by
        obtain ⟨k, hk⟩ := List.getElem?_of_mem hx
        exact hs.out k x (by have := (List.getElem?_eq_some_iff.1 hk).1; have := HN.out; omega) hk)
      subst hdt
      go_wp2
      go_ret
      exact ⟨rfl, rfl⟩
theorem two_numbers (w : World) (q a b : Nat) (h : Blk w q 22 [.int .u64 (a : Int), .int .u64 (b : Int)]) :
    Calls Try.prog 40 #[.slice (some ⟨q, 0, none⟩) 2 2] w fun e w' => e = .returned (.bool (decide (NumOk a ∧ NumOk b))) ∧ w = w' :=
  areNumbers_any w _ 2 2 [a, b] rfl (Blk.vals (l := vU [a, b]) h) (by decide) _ (by simp)
set_option maxRecDepth 100000 in
set_option maxHeartbeats 1000000 in
theorem mayBe_any (x : Seg) (p : Option Addr) (n c : Nat) (w : World) :
    Calls Try.prog 22 #[segV x (.slice p n c)] w fun e w' => e = .returned (.bool (decide (MayB x.k x.g x.f x.t))) ∧ Ext w w' := by
  obtain ⟨k, g, f, t, r, u, b⟩ := x
  unfold segV
  dsimp only
  have hb : Blk (w.alloc (.cells #[.int .u8 (k : Int), .int .u64 (g : Int), .int .u64 (f : Int), .string t, .slice p n c, .int .i64 u, .bool b] 25)) w.heap.size 25 [.int .u8 (k : Int), .int .u64 (g : Int), .int .u64 (f : Int), .string t, .slice p n c, .int .i64 u, .bool b] := Blk.new w _ _
  have hx : Ext w (w.alloc (.cells #[.int .u8 (k : Int), .int .u64 (g : Int), .int .u64 (f : Int), .string t, .slice p n c, .int .i64 u, .bool b] 25)) := (Ext.refl w).alloc _
  have HX := Lib.hid hx
  have c0 := hb.cell 0 _ rfl
  have c1 := hb.cell 1 _ rfl
  have c2 := hb.cell 2 _ rfl
  have c3 := hb.cell 3 _ rfl
  have hb2 := hb.alloc (.cells #[.int .u64 (g : Int), .int .u64 (f : Int)] 22)
  have e3 := hb2.cell 3 _ rfl
  clear hb hx hb2
  obtain ⟨W1, hW1⟩ : ∃ W1, W1 = w.alloc (.cells #[.int .u8 (k : Int), .int .u64 (g : Int), .int .u64 (f : Int), .string t, .slice p n c, .int .i64 u, .bool b] 25) := ⟨_, rfl⟩
  have hs1 : W1.heap.size = w.heap.size + 1 := by rw [hW1]; simp
  have HA : Hid (Calls Try.prog 40 #[.slice (some ⟨w.heap.size + 1, 0, none⟩) 2 2] (W1.alloc (.cells #[.int .u64 (g : Int), .int .u64 (f : Int)] 22)) fun e w' => e = .returned (.bool (decide (NumOk g ∧ NumOk f))) ∧ (W1.alloc (.cells #[.int .u64 (g : Int), .int .u64 (f : Int)] 22)) = w') := Lib.hid (two_numbers _ _ g f (by rw [← hs1]; exact Blk.new W1 _ _))
  rw [hW1] at HA
  clear hs1 hW1
  have HM : Hid (MayB k g f t ↔ (k = 1 ∨ (k = 0 ∧ t.size = 0)) ∧ (NumOk g ∧ NumOk f)) := Lib.hid Iff.rfl
  obtain ⟨m, hm⟩ : ∃ m, m = decide (MayB k g f t) := ⟨_, rfl⟩
  rw [← hm]
  have HMm := Lib.hid hm
  have ht := txt_empty t
  clear hm
  obtain ⟨na, hna⟩ : ∃ na, na = decide (NumOk g ∧ NumOk f) := ⟨_, rfl⟩
  rw [← hna] at HA
  have HNa := Lib.hid hna
  clear hna
  by_cases h1 : k = 1
  · have hk1 : ((k : Int) == 1) = true := by rw [beq_iff_eq]; omega
    have HR : Hid (na = m) := Lib.hid (by rw [HNa.out, HMm.out]; apply decide_eq_decide.2; rw [HM.out]; simp [h1])
    clear h1
    go_enter Try.func22, Try.ntmps22
    go_wp2_with (go_at_call 40; refine (HA.out).mono ?_; rintro e w1 ⟨rfl, rfl⟩)
    go_ret
    exact ⟨by rw [HR.out] <;> rfl, HX.out.alloc _⟩
  · by_cases h0 : k = 0
    · have hk1 : ((k : Int) == 1) = false := by rw [beq_eq_false_iff_ne]; omega
      have hk0 : ((k : Int) == 0) = true := by rw [beq_iff_eq]; omega
      have HR : Hid ((na && decide (t.size = 0)) = m) := Lib.hid (by
        rw [HNa.out, HMm.out, ← Bool.decide_and]
        apply decide_eq_decide.2
        rw [HM.out]
        exact ⟨fun h => ⟨.inr ⟨h0, h.2⟩, h.1⟩, fun h => ⟨h.2, (h.1.resolve_left h1).2⟩⟩)
      clear h1 h0
      cases na
      · have HR2 : Hid (false = m) := Lib.hid (by have := HR.out; simpa using this)
        clear HR
        go_enter Try.func22, Try.ntmps22
        go_wp2_with (go_at_call 40; refine (HA.out).mono ?_; rintro e w1 ⟨rfl, rfl⟩)
        go_ret
        exact ⟨by rw [HR2.out] <;> rfl, HX.out.alloc _⟩
      · have HR2 : Hid (decide (t.size = 0) = m) := Lib.hid (by have := HR.out; simpa using this)
        clear HR
        generalize decide (t.size = 0) = te at *
        go_enter Try.func22, Try.ntmps22
        go_wp2_with (go_at_call 40; refine (HA.out).mono ?_; rintro e w1 ⟨rfl, rfl⟩)
        go_ret
        exact ⟨by rw [HR2.out] <;> rfl, HX.out.alloc _⟩
    · have hk1 : ((k : Int) == 1) = false := by rw [beq_eq_false_iff_ne]; omega
      have hk0 : ((k : Int) == 0) = false := by rw [beq_eq_false_iff_ne]; omega
      have HR : Hid (false = m) := Lib.hid (by rw [HMm.out]; symm; rw [decide_eq_false_iff_not, HM.out]; simp [h1, h0])
      clear h1 h0
      go_enter Try.func22, Try.ntmps22
      go_wp2_with (go_at_call 40; refine (HA.out).mono ?_; rintro e w1 ⟨rfl, rfl⟩)
      go_ret
      exact ⟨by rw [HR.out] <;> rfl, HX.out⟩
/-- The document's. -/
theorem may_any (n : Nat) (w : World) : Calls Try.prog 25 #[.int .u64 (n : Int)] w fun e w' => e = .returned (.bool (decide (NumOk n))) ∧ w = w' := by
  by_cases h1 : 1 ≤ n
  · have h1i : (1 : Int) ≤ (n : Int) := by omega
    by_cases h2 : n ≤ 281474976710656
    · have h2i : (n : Int) ≤ 281474976710656 := by omega
      rw [decide_eq_true (show NumOk n from ⟨h1, h2⟩)]
      clear h1 h2
      go_enter Try.func25, Try.ntmps25
      go_wp2
      go_ret
      exact ⟨rfl, rfl⟩
    · have h2i : ¬ (n : Int) ≤ 281474976710656 := by omega
      rw [decide_eq_false (show ¬ NumOk n from fun h => h2 h.2)]
      clear h1 h2
      go_enter Try.func25, Try.ntmps25
      go_wp2
      go_ret
      exact ⟨rfl, rfl⟩
  · have h1i : ¬ (1 : Int) ≤ (n : Int) := by omega
    rw [decide_eq_false (show ¬ NumOk n from fun h => h1 h.1)]
    clear h1
    go_enter Try.func25, Try.ntmps25
    go_wp2
    go_ret
    exact ⟨rfl, rfl⟩
/-- The number that would come next. -/
def nextN (x : Seg) : Nat := (x.f + x.r.length) % 18446744073709551616
set_option maxHeartbeats 1000000 in
theorem Next_any (x : Seg) (p : Option Addr) (c : Nat) (hn : x.r.length ≤ 140737488355328) (w : World) :
    Calls Try.prog 16 #[segV x (.slice p x.r.length c)] w fun e w' => e = .returned (.int .u64 (nextN x : Int)) ∧ Ext w w' := by
  obtain ⟨k, g, f, t, r, u, b⟩ := x
  unfold segV nextN
  dsimp only at hn ⊢
  have hw1 : IntKind.u64.wrap (r.length : Int) = (r.length : Int) := by rw [wrap_u64]; omega
  have hw2 : IntKind.u64.wrap ((f : Int) + (r.length : Int)) = (((f + r.length) % 18446744073709551616 : Nat) : Int) := by rw [wrap_u64]; omega
  generalize r.length = n at *
  generalize (f + n) % 18446744073709551616 = z at *
  have hb : Blk (w.alloc (.cells #[.int .u8 (k : Int), .int .u64 (g : Int), .int .u64 (f : Int), .string t, .slice p n c, .int .i64 u, .bool b] 25)) w.heap.size 25 [.int .u8 (k : Int), .int .u64 (g : Int), .int .u64 (f : Int), .string t, .slice p n c, .int .i64 u, .bool b] := Blk.new w _ _
  have c2 := hb.cell 2 _ rfl
  have c4 := hb.cell 4 _ rfl
  clear hb
  go_enter Try.func16, Try.ntmps16
  go_wp2
  go_ret
  exact ⟨rfl, (Ext.refl w).alloc _⟩
set_option maxHeartbeats 1000000 in
theorem rNext_any (x : Seg) (p : Option Addr) (c : Nat) (hn : x.r.length ≤ 140737488355328) (w : World) :
    Calls Try.prog 17 #[segV x (.slice p x.r.length c)] w fun e w' => e = .returned (.int .u64 (nextN x : Int)) ∧ Ext w w' := by
  obtain ⟨k, g, f, t, r, u, b⟩ := x
  unfold segV nextN
  dsimp only at hn ⊢
  have hw1 : IntKind.u64.wrap (r.length : Int) = (r.length : Int) := by rw [wrap_u64]; omega
  have hw2 : IntKind.u64.wrap ((f : Int) + (r.length : Int)) = (((f + r.length) % 18446744073709551616 : Nat) : Int) := by rw [wrap_u64]; omega
  generalize r.length = n at *
  generalize (f + n) % 18446744073709551616 = z at *
  have hb : Blk (w.alloc (.cells #[.int .u8 (k : Int), .int .u64 (g : Int), .int .u64 (f : Int), .string t, .slice p n c, .int .i64 u, .bool b] 25)) w.heap.size 25 [.int .u8 (k : Int), .int .u64 (g : Int), .int .u64 (f : Int), .string t, .slice p n c, .int .i64 u, .bool b] := Blk.new w _ _
  have c2 := hb.cell 2 _ rfl
  have c4 := hb.cell 4 _ rfl
  clear hb
  go_enter Try.func17, Try.ntmps17
  go_wp2
  go_ret
  exact ⟨rfl, (Ext.refl w).alloc _⟩
end Go.Proofs.Ythnoegipadnmeaa
