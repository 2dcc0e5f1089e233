/- Contracts: which heads may be, which number would come next: by the program, by the document. Contract: which segments are a log, in order, by the program. Plain: a byte of a text. -/
import Derived.Test.YtbekdcpdfmfopaaGreatM05
import Derived.Test.YtbekdcpdfmfopaaGreatM08
import Derived.Test.YtbekdcpdfmfopaaGreatM14
import Derived.Lib.Strings
import Derived.Outline
import Derived.StillTailTactics
import Derived.Test.YtbekdcpdfmfopaaGreatProg
import Derived.Test.YtbekdcpdfmfopaaGreatM00
import Derived.WalkSpells
section
namespace Go.Proofs.YtbekdcpdfmfopaaGreat
open Go.RowKit

theorem txt_empty (t : ByteArray) : t.toList.isEmpty = decide (t.size = 0) := by
  rw [Lib.toList_data, ← size_list t]
  cases t.data.toList <;> simp
set_option maxRecDepth 100000 in
set_option maxHeartbeats 1000000 in
theorem areNumbers_any (w : World) (p : Option Addr) (c n : Nat) (l : List Nat) (hn : l.length = n) (h : ValsP w p (vU l)) (hn6 : n ≤ 1000000) (d : Bool) (hd : d = true ↔ ∀ x ∈ l, NumOk x) :
    Calls Tryz.prog 93 #[.slice p n c] w fun e w' => e = .returned (.bool d) ∧ w = w' := by
  have HH := Lib.hid h; have HN := Lib.hid hn; have HD := Lib.hid hd
  clear h hn hd
  go_enter Tryz.func93, Tryz.ntmps93
  go_wp2
  go_loop [7] (fun i => ∃ j : Nat, j ≤ n ∧ i = .int .i64 (j : Int) ∧ Hid (∀ k x, k < j → l[k]? = some x → NumOk x)) (fun i => n - (intOf i).toNat)
  case atStart => exact ⟨0, Nat.zero_le _, rfl, Lib.hid (fun k x hk => by omega)⟩
  case round =>
    obtain ⟨j, hj, rfl, hs⟩ := hrel
    by_cases hlt : j < n
    · obtain ⟨x, hx⟩ : ∃ x, l[j]? = some x := ⟨_, List.getElem?_eq_getElem (by have := HN.out; omega)⟩
      obtain ⟨a, rfl, _, hc1⟩ := HH.out j _ (vU_get hx)
      have HX := Lib.hid hx
      clear hx
      by_cases h1 : x < 1
      · have h1i : (x : Int) < 1 := by omega
        have hdf : d = false := by
          rcases hb : d with _ | _
          · rfl
          · have := HD.out.1 hb x (List.mem_of_getElem? HX.out)
            unfold NumOk at this
            omega
        subst hdf
        clear h1
        go_wp2
        go_ret
        exact ⟨rfl, rfl⟩
      by_cases h2 : 281474976710656 < x
      · have h1i : ¬ (x : Int) < 1 := by omega
        have h2i : (281474976710656 : Int) < (x : Int) := by omega
        have hdf : d = false := by
          rcases hb : d with _ | _
          · rfl
          · have := HD.out.1 hb x (List.mem_of_getElem? HX.out)
            unfold NumOk at this
            omega
        subst hdf
        clear h1 h2
        go_wp2
        go_ret
        exact ⟨rfl, rfl⟩
      · have h1i : ¬ (x : Int) < 1 := by omega
        have h2i : ¬ (281474976710656 : Int) < (x : Int) := by omega
        have HO : Hid (NumOk x) := Lib.hid (by unfold NumOk; omega)
        clear h1 h2
        go_wp2
        go_round
        case rel =>
          refine ⟨j + 1, hlt, by go_num, Lib.hid fun k y hk hy => ?_⟩
          by_cases hkj : k = j
          · rw [hkj, HX.out] at hy
            cases hy
            exact HO.out
          · exact hs.out k y (by omega) hy
        case measure => simp [intOf]; omega
    · obtain rfl : j = n := by omega
      have hdt : d = true := HD.out.2 (fun x hx => by
        obtain ⟨k, hk⟩ := List.getElem?_of_mem hx
        exact hs.out k x (by have := (List.getElem?_eq_some_iff.1 hk).1; have := HN.out; omega) hk)
      subst hdt
      go_wp2
      go_ret
      exact ⟨rfl, rfl⟩
theorem two_numbers (w : World) (q a b : Nat) (h : Blk w q 38 [.int .u64 (a : Int), .int .u64 (b : Int)]) :
    Calls Tryz.prog 93 #[.slice (some ⟨q, 0, none⟩) 2 2] w fun e w' => e = .returned (.bool (decide (NumOk a ∧ NumOk b))) ∧ w = w' :=
  areNumbers_any w _ 2 2 [a, b] rfl (Blk.vals (l := vU [a, b]) h) (by decide) _ (by simp)
set_option maxRecDepth 100000 in
set_option maxHeartbeats 1000000 in
theorem mayBe_any (x : Seg) (p : Option Addr) (n c : Nat) (w : World) :
    Calls Tryz.prog 74 #[segV x (.slice p n c)] w fun e w' => e = .returned (.bool (decide (MayB x.k x.g x.f x.t))) ∧ Ext w w' := by
  obtain ⟨k, g, f, t, r, u, b⟩ := x
  unfold segV
  dsimp only
  have hb : Blk (w.alloc (.cells #[.int .u8 (k : Int), .int .u64 (g : Int), .int .u64 (f : Int), .string t, .slice p n c, .int .i64 u, .bool b] 119)) w.heap.size 119 [.int .u8 (k : Int), .int .u64 (g : Int), .int .u64 (f : Int), .string t, .slice p n c, .int .i64 u, .bool b] := Blk.new w _ _
  have hx : Ext w (w.alloc (.cells #[.int .u8 (k : Int), .int .u64 (g : Int), .int .u64 (f : Int), .string t, .slice p n c, .int .i64 u, .bool b] 119)) := (Ext.refl w).alloc _
  have HX := Lib.hid hx
  have c0 := hb.cell 0 _ rfl
  have c1 := hb.cell 1 _ rfl
  have c2 := hb.cell 2 _ rfl
  have c3 := hb.cell 3 _ rfl
  have hb2 := hb.alloc (.cells #[.int .u64 (g : Int), .int .u64 (f : Int)] 38)
  have e3 := hb2.cell 3 _ rfl
  clear hb hx hb2
  obtain ⟨W1, hW1⟩ : ∃ W1, W1 = w.alloc (.cells #[.int .u8 (k : Int), .int .u64 (g : Int), .int .u64 (f : Int), .string t, .slice p n c, .int .i64 u, .bool b] 119) := ⟨_, rfl⟩
  have hs1 : W1.heap.size = w.heap.size + 1 := by rw [hW1]; simp
  have HA : Hid (Calls Tryz.prog 93 #[.slice (some ⟨w.heap.size + 1, 0, none⟩) 2 2] (W1.alloc (.cells #[.int .u64 (g : Int), .int .u64 (f : Int)] 38)) fun e w' => e = .returned (.bool (decide (NumOk g ∧ NumOk f))) ∧ (W1.alloc (.cells #[.int .u64 (g : Int), .int .u64 (f : Int)] 38)) = w') := Lib.hid (two_numbers _ _ g f (by rw [← hs1]; exact Blk.new W1 _ _))
  rw [hW1] at HA
  clear hs1 hW1
  have HM : Hid (MayB k g f t ↔ (k = 1 ∨ (k = 0 ∧ t.size = 0)) ∧ (NumOk g ∧ NumOk f)) := Lib.hid Iff.rfl
  obtain ⟨m, hm⟩ : ∃ m, m = decide (MayB k g f t) := ⟨_, rfl⟩
  rw [← hm]
  have HMm := Lib.hid hm
  have ht := txt_empty t
  clear hm
  obtain ⟨na, hna⟩ : ∃ na, na = decide (NumOk g ∧ NumOk f) := ⟨_, rfl⟩
  rw [← hna] at HA
  have HNa := Lib.hid hna
  clear hna
  by_cases h1 : k = 1
  · have hk1 : ((k : Int) == 1) = true := by rw [beq_iff_eq]; omega
    have HR : Hid (na = m) := Lib.hid (by rw [HNa.out, HMm.out]; apply decide_eq_decide.2; rw [HM.out]; simp [h1])
    clear h1
    go_enter Tryz.func74, Tryz.ntmps74
    go_wp2_with (go_at_call 93; refine (HA.out).mono ?_; rintro e w1 ⟨rfl, rfl⟩)
    go_ret
    exact ⟨by rw [HR.out] <;> rfl, HX.out.alloc _⟩
  · by_cases h0 : k = 0
    · have hk1 : ((k : Int) == 1) = false := by rw [beq_eq_false_iff_ne]; omega
      have hk0 : ((k : Int) == 0) = true := by rw [beq_iff_eq]; omega
      have HR : Hid ((na && decide (t.size = 0)) = m) := Lib.hid (by
        rw [HNa.out, HMm.out, ← Bool.decide_and]
        apply decide_eq_decide.2
        rw [HM.out]
        exact ⟨fun h => ⟨.inr ⟨h0, h.2⟩, h.1⟩, fun h => ⟨h.2, (h.1.resolve_left h1).2⟩⟩)
      clear h1 h0
      cases na
      · have HR2 : Hid (false = m) := Lib.hid (by have := HR.out; simpa using this)
        clear HR
        go_enter Tryz.func74, Tryz.ntmps74
        go_wp2_with (go_at_call 93; refine (HA.out).mono ?_; rintro e w1 ⟨rfl, rfl⟩)
        go_ret
        exact ⟨by rw [HR2.out] <;> rfl, HX.out.alloc _⟩
      · have HR2 : Hid (decide (t.size = 0) = m) := Lib.hid (by have := HR.out; simpa using this)
        clear HR
        generalize decide (t.size = 0) = te at *
        go_enter Tryz.func74, Tryz.ntmps74
        go_wp2_with (go_at_call 93; refine (HA.out).mono ?_; rintro e w1 ⟨rfl, rfl⟩)
        go_ret
        exact ⟨by rw [HR2.out] <;> rfl, HX.out.alloc _⟩
    · have hk1 : ((k : Int) == 1) = false := by rw [beq_eq_false_iff_ne]; omega
      have hk0 : ((k : Int) == 0) = false := by rw [beq_eq_false_iff_ne]; omega
      have HR : Hid (false = m) := Lib.hid (by rw [HMm.out]; symm; rw [decide_eq_false_iff_not, HM.out]; simp [h1, h0])
      clear h1 h0
      go_enter Tryz.func74, Tryz.ntmps74
      go_wp2_with (go_at_call 93; refine (HA.out).mono ?_; rintro e w1 ⟨rfl, rfl⟩)
      go_ret
      exact ⟨by rw [HR.out] <;> rfl, HX.out⟩
/-- The number that would come next. -/
def nextN (x : Seg) : Nat := (x.f + x.r.length) % 18446744073709551616
set_option maxHeartbeats 1000000 in
theorem Next_any (x : Seg) (p : Option Addr) (c : Nat) (hn : x.r.length ≤ 140737488355328) (w : World) :
    Calls Tryz.prog 70 #[segV x (.slice p x.r.length c)] w fun e w' => e = .returned (.int .u64 (nextN x : Int)) ∧ Ext w w' := by
  obtain ⟨k, g, f, t, r, u, b⟩ := x
  unfold segV nextN
  dsimp only at hn ⊢
  have hw1 : IntKind.u64.wrap (r.length : Int) = (r.length : Int) := by rw [wrap_u64]; omega
  have hw2 : IntKind.u64.wrap ((f : Int) + (r.length : Int)) = (((f + r.length) % 18446744073709551616 : Nat) : Int) := by rw [wrap_u64]; omega
  generalize r.length = n at *
  generalize (f + n) % 18446744073709551616 = z at *
  have hb : Blk (w.alloc (.cells #[.int .u8 (k : Int), .int .u64 (g : Int), .int .u64 (f : Int), .string t, .slice p n c, .int .i64 u, .bool b] 119)) w.heap.size 119 [.int .u8 (k : Int), .int .u64 (g : Int), .int .u64 (f : Int), .string t, .slice p n c, .int .i64 u, .bool b] := Blk.new w _ _
  have c2 := hb.cell 2 _ rfl
  have c4 := hb.cell 4 _ rfl
  clear hb
  go_enter Tryz.func70, Tryz.ntmps70
  go_wp2
  go_ret
  exact ⟨rfl, (Ext.refl w).alloc _⟩
end Go.Proofs.YtbekdcpdfmfopaaGreat
end

section
namespace Go.Proofs.YtbekdcpdfmfopaaGreat
open Go.RowKit

theorem Ext.turned {w a b : World} {i : Nat} (h : Ext w a) (hg : a.grownBy b (some i)) (hi : w.heap.size ≤ i) : Ext w b := ext_grown' h hg hi
/-- How long a slice is. -/
def lenOfV : Value → Nat
  | .slice _ n _ => n
  | _ => 0
set_option maxRecDepth 100000 in
set_option maxHeartbeats 8000000 in
theorem row_any (w : World) (p : Option Addr) (c0 : Nat) (L : List Seg) (h : SegsP w p L) (hl : L.length ≤ 1000000) (hok : ∀ x ∈ L, x.f < 18446744073709551616 ∧ x.r.length ≤ 140737488355328) :
    Calls Tryz.prog 69 #[.slice p L.length c0] w fun e w' => ∃ q c, e = .returned (.tuple #[.slice q (rowS L).1.length c, .int .i64 ((rowS L).2 : Int)]) ∧ ValsP w' q (vN (rowS L).1) ∧ Ext w w' := by
  have HH := Lib.hid (fun u (hu : Ext w u) => h.ext hu)
  have HNew := Lib.hid (fun u (hu : Ext w u) => newest_any u p c0 L (h.ext hu) hl)
  have HLat := Lib.hid (fun g u (hu : Ext w u) => later_any u p c0 L (h.ext hu) hl (fun x hx => (hok x hx).1) g)
  have HOk := Lib.hid hok
  have HAt := Lib.hid (newF_at L L.length)
  have hrs : rowS L = match newF L L.length with | none => ([], 3) | some (a, g) => (a :: rowG L g (L.length + 1) a [], 0) := rfl
  clear h hok
  rcases hnf : newF L L.length with _ | ⟨a0, g0⟩
  · rw [hnf] at hrs HNew
    rw [hrs]
    simp only [newV] at HNew
    clear hrs hnf
    go_enter Tryz.func69, Tryz.ntmps69
    go_wp2_with (go_at_call 89; refine (HNew.out _ (Ext.refl _)).mono ?_; rintro e w1 ⟨rfl, x1⟩; have X1 := Lib.hid x1; clear x1)
    go_ret2
    exact ⟨none, 0, rfl, ValsP.none _, X1.out⟩
  · rw [hnf] at hrs HNew
    rw [hrs]
    simp only [newV] at HNew
    obtain ⟨ha0, x0, hx0, hg0, _⟩ := HAt.out a0 g0 hnf
    have HX0 := Lib.hid hx0
    have HG0 := Lib.hid hg0
    clear hrs hnf hx0 hg0
    dsimp only
    rw [show ((0 : Nat) : Int) = 0 from rfl]
    obtain ⟨R, hR⟩ : ∃ R, R = a0 :: rowG L g0 (L.length + 1) a0 [] := ⟨_, rfl⟩
    have HR := Lib.hid hR
    rw [← hR]
    clear hR
    go_enter Tryz.func69, Tryz.ntmps69
    go_wp2_with (first
      | (go_at_call 89; refine (HNew.out _ (Ext.refl _)).mono ?_; rintro e w1 ⟨rfl, x1⟩; have X1 := Lib.hid x1; obtain ⟨ad, q0, c2, rfl, ha, _, hc⟩ := HH.out _ x1 a0 x0 HX0.out; have k1 := seven_at (k := 0) (hc 1 _ rfl); rw [HG0.out] at k1; clear x1 ha hc)
      | (go_at_call 90; refine (HLat.out _ _ X1.out).mono ?_; rintro e w2 ⟨b, rfl, hbw, hwt, x2⟩; have HWT := Lib.hid hwt.bound; have X2 := Lib.hid (X1.out.trans x2); have HBw := Lib.hid (show w.heap.size ≤ b from by have := X1.out.size; omega); have HBI := Lib.hid (BufI.one w2 a0 (Nat.le_refl _)); have HBl := Lib.hid hwt.bound.lt; clear hbw hwt x2 k1))
    have HE3 := Lib.hid ((Ext.refl w2).alloc (.cells #[.int .i64 (a0 : Int)] 3))
    have HX3 := Lib.hid (X2.out.trans HE3.out)
    have HW3 := Lib.hid (HWT.out.ext HE3.out)
    have HS3 := Lib.hid (show w2.heap.size ≤ (w2.alloc (.cells #[.int .i64 (a0 : Int)] 3)).heap.size from HE3.out.size)
    clear HNew HLat HWT HE3
    have HBX := Lib.hid (show w.heap.size ≤ w2.heap.size from X2.out.size)
    generalize hB : w2.heap.size = B at *
    go_loopw [4, 5, 7] (fun pv bv rv wr => ∃ (a : Nat) (T S : List Nat), pv = .int .i64 (a : Int) ∧ bv = .bool true ∧ lenOfV rv = S.length ∧ Hid (BufI wr B rv S) ∧ a < L.length ∧ Hid (WaitB wr b B (fun m => waitF L g0 T m)) ∧ Hid (Ext w wr) ∧ Hid (B ≤ wr.heap.size) ∧ Hid (T.Nodup ∧ (∀ i ∈ T, i < L.length) ∧ S.length = T.length + 1 ∧ R = S ++ rowG L g0 (L.length + 1 - T.length) a T)) (fun _ _ rv _ => L.length + 1 - lenOfV rv)
    case atStart => exact ⟨a0, [], [a0], rfl, rfl, rfl, HBI.out, ha0, HW3, HX3, HS3, Lib.hid ⟨List.nodup_nil, by simp, rfl, by rw [HR.out]; rfl⟩⟩
    case round =>
      obtain ⟨a, T, S, rfl, rfl, hlv, hbi, haL, hwt, hx, hbs, hT⟩ := hrel
      obtain ⟨q, cc, rfl, _, _⟩ := hbi.out.vals
      obtain ⟨x, hxa⟩ : ∃ x, L[a]? = some x := ⟨_, List.getElem?_eq_getElem haL⟩
      obtain ⟨ad2, q0, c3, e2, ha2, _, hc⟩ := HH.out _ hx.out a x hxa
      obtain rfl : ad = ad2 := by simpa using e2
      have k0 : wr.cell? (ad.add (a * 7)) = some (.int .u8 (x.k : Int)) := hc 0 _ rfl
      have k1 := seven_at (k := 0) (hc 1 _ rfl)
      have k2 := seven_at (k := 1) (hc 2 _ rfl)
      have k3 := seven_at (k := 2) (hc 3 _ rfl)
      have k4 := seven_at (k := 3) (hc 4 _ rfl)
      have k5 := seven_at (k := 4) (hc 5 _ rfl)
      have k6 := seven_at (k := 5) (hc 6 _ rfl)
      obtain ⟨hTn, hTl, hST, hRS⟩ := hT.out
      have hTle := taken_le T hTn hTl
      obtain ⟨f, hf⟩ : ∃ f, L.length + 1 - T.length = f + 1 := ⟨L.length - T.length, by omega⟩
      rw [hf] at hRS
      have hS6 : S.length ≤ 1000000 + 1 := by omega
      have HOkx := HOk.out x (List.mem_of_getElem? hxa)
      cases hw : x.w with
      | false =>
        rw [rowG_torn hxa hw, List.append_nil] at hRS
        rw [hw] at k6
        subst hRS
        have HBi := hbi.out.vals
        obtain ⟨q2, cc2, e3, _, hvl⟩ := HBi
        injection e3 with e4 _ e5
        subst e4 e5
        have HV := Lib.hid hvl
        clear hvl hc hxa e2 ha2 hT hf hTn hTl hST HOkx k0 k1 k2 k3 k4 k5 hTle hS6
        go_wp2
        go_ret2
        exact ⟨_, ⟨_, rfl⟩, HV.out, hx.out⟩
      | true =>
        rw [hw] at k6
        have HNx := Lib.hid (fun u => Next_any x q0 c3 HOkx.2 u)
        simp only [segV, hw] at HNx
        have hnn : nextN x = nextS x := rfl
        have hn64 : nextN x < 18446744073709551616 := Nat.mod_lt _ (by decide)
        have HX7 := Lib.hid (hx.out)
        have HSz := Lib.hid hbs.out
        rcases hwn : waitF L g0 T (nextS x) with _ | ⟨i, r⟩
        · rw [rowG_end hxa hw hwn, List.append_nil] at hRS
          subst hRS
          obtain ⟨q2, cc2, e3, _, hvl⟩ := hbi.out.vals
          injection e3 with e4 _ e5
          subst e4 e5
          rw [← hnn] at hwn
          have HNo := Lib.hid (fun u (hu : WaitB u b B fun m => waitF L g0 T m) => take_none u b B _ hu (nextN x) hn64 hwn)
          have HVl := Lib.hid (fun u (hu : Ext wr u) => ValsP.ext hvl hu)
          clear hvl hc hxa e2 ha2 hT hf hTn hTl hST HOkx hTle hS6 hnn hn64 hwn
          generalize nextN x = nx at *
          go_wp2_with (first
            | (go_at_call 70; refine (HNx.out _).mono ?_; rintro e w4 ⟨rfl, x4⟩; have X4 := Lib.hid x4; have HW4 := Lib.hid (hwt.out.ext x4); clear x4)
            | (go_at_call 91; refine (HNo.out _ HW4.out).mono ?_; rintro e w5 ⟨rfl, rfl⟩))
          go_ret2
          exact ⟨_, _, rfl, HVl.out _ X4.out, hx.out.trans X4.out⟩
        · rw [rowG_more hxa hw hwn] at hRS
          have hwm : i ∈ waitF L g0 T (nextS x) := by rw [hwn]; simp
          obtain ⟨hiL, _, hiT⟩ := waitF_mem hwm
          have hWt := waitF_take hwn
          have hrl : r.length ≤ 1000000 := by
            have h1 : (waitF L g0 T (nextS x)).length ≤ L.length := by
              unfold waitF
              have := List.length_filter_le (fun i => isW L g0 (nextS x) i && !T.contains i) (List.range L.length)
              simpa using this
            rw [hwn, List.length_cons] at h1
            omega
          have hT2 : Hid ((i :: T).Nodup ∧ (∀ j ∈ i :: T, j < L.length) ∧ (S ++ [i]).length = (i :: T).length + 1 ∧ R = (S ++ [i]) ++ rowG L g0 (L.length + 1 - (i :: T).length) i (i :: T)) := Lib.hid (by
            refine ⟨List.nodup_cons.2 ⟨hiT, hTn⟩, ?_, by simp [hST], ?_⟩
            · intro j hj
              rcases List.mem_cons.1 hj with rfl | hj
              · exact hiL
              · exact hTl j hj
            · rw [hRS, List.append_assoc, show L.length + 1 - (i :: T).length = f from by rw [List.length_cons]; omega]
              rfl)
          rw [← hnn] at hwn hWt
          have HYes := Lib.hid (fun u (hu : WaitB u b B fun m => waitF L g0 T m) => take_some u b B _ hu (nextN x) hn64 i r hwn hrl)
          have HWt : Hid (∀ u, WaitB u b B (fun m => if m = nextN x then r else waitF L g0 T m) → WaitB u b B (fun m => waitF L g0 (i :: T) m)) := Lib.hid (fun u hu => by
            rw [show (fun m => waitF L g0 (i :: T) m) = (fun m => if m = nextN x then r else waitF L g0 T m) from funext hWt]
            exact hu)
          have HMe := Lib.hid (show S.length ≤ L.length from by have := taken_le (i :: T) hT2.out.1 hT2.out.2.1; rw [List.length_cons] at this; omega)
          clear hc hxa e2 ha2 hT hf hTn hTl HOkx hTle hnn hn64 hwn hrl hwm hWt hRS hST
          generalize nextN x = nx at *
          go_wp2_with (first
            | (go_at_call 70; refine (HNx.out _).mono ?_; rintro e w4 ⟨rfl, x4⟩; have X4 := Lib.hid x4; have HW4 := Lib.hid (hwt.out.ext x4); have HB4 := Lib.hid (hbi.out.ext x4); clear x4)
            | (go_at_call 91; refine (HYes.out _ HW4.out).mono ?_; rintro e w5 ⟨rfl, hw5, hg5⟩; have HW5 := Lib.hid (HWt.out _ hw5); have HB5 := Lib.hid (HB4.out.grown hg5 HBl.out); have HX5 := Lib.hid (Ext.turned (hx.out.trans X4.out) hg5 HBw.out); have HS5 := Lib.hid (show B ≤ w5.heap.size from Nat.le_trans (Nat.le_trans hbs.out X4.out.size) hg5.size); clear hw5 hg5 k0 k1 k2 k3 k4 k5 k6)
            | (refine append_int rfl (.tmp 41) (.tmp 43) rfl B _ S rfl (HB5.out.ext ((Ext.refl w5).alloc _)) w5.heap.size i rfl (Blk.new w5 _ _) (by have := HMe.out; omega) (by have := HS5.out; simp; omega) ?_; intro v6 w6 hb6 hx6; have HB6 := Lib.hid hb6; have HX6 := Lib.hid hx6; obtain ⟨q6, c6, rfl, _, _⟩ := hb6.vals; clear hb6 hx6))
          go_roundw
          case rel => exact ⟨i, i :: T, S ++ [i], rfl, rfl, by simp [lenOfV], Lib.hid (by have := HB6.out; rwa [show (S ++ [i]).length = S.length + 1 by simp] at this), hiL, Lib.hid ((HW5.out.ext ((Ext.refl w5).alloc _)).below HBl.out HX6.out), Lib.hid (((HX5.out.alloc _)).trans3 (Below.mono HX6.out HBX.out)), Lib.hid (by have h1 := HS5.out; have h2 := HX6.out.size; simp at h2; omega), hT2⟩
          case measure => have := HMe.out; simp [lenOfV]; omega
end Go.Proofs.YtbekdcpdfmfopaaGreat
end

section
namespace Go.Proofs.YtbekdcpdfmfopaaGreat
open Go.RowKit
theorem text_get (s : ByteArray) (i : Nat) (b : UInt8) (hb : s.data.toList[i]? = some b) : s[i]? = some b := by
  have hi : i < s.data.toList.length := (List.getElem?_eq_some_iff.1 hb).1
  have h2 : i < s.size := by rw [← size_list]; exact hi
  rw [getElem?_pos s i h2]
  rw [List.getElem?_eq_getElem hi] at hb
  exact hb
theorem text_at (s : ByteArray) (i : Nat) (b : UInt8) (hb : s.data.toList[i]? = some b) (h : i < s.size) : s[i] = b := by
  have e := text_get s i b hb
  rw [getElem?_pos s i h] at e
  exact Option.some.inj e
theorem index_text (s : ByteArray) (i : Nat) (b : UInt8) (hb : s.data.toList[i]? = some b) (w : World) :
    (Instr.index 9 (.string s) (.int .i64 (i : Int))).run Tryz.prog w = .ok (.int .u8 (b.toNat : Int)) w := by
  have h := text_get s i b hb
  have hu := Tryz.underlying9
  have h0 : (0 : Int) ≤ (i : Int) := by omega
  simp [Instr.index, run_underlying hu, asIntOf, go_sem, h0, h]
end Go.Proofs.YtbekdcpdfmfopaaGreat
end
