/- Contract: which segments are a log, in order, by the document: any segments. -/
import Derived.Test.YthnoegipadnmeaaRRow
import Derived.Test.YthnoegipadnmeaaMake
import Derived.Test.YthnoegipadnmeaaBlk
import Derived.Deep.RegionHeld3
import Derived.BigQuiet
import Derived.Deep.DeepCutAuto
namespace Go.Proofs.Ythnoegipadnmeaa
open Go.RowKit

theorem infoBo : (Try.prog.info? 4).map (fun i => (i.zero, i.size, i.bytes)) = some (some (.bool false), 1, 1) := by kernel_rfl
/-- Which places were taken, as cells. -/
def tkV (n : Nat) (T : List Nat) : List Value := (List.range n).map fun i => .bool (T.contains i)
theorem tkV_get {n : Nat} {T : List Nat} {i : Nat} (h : i < n) : (tkV n T)[i]? = some (.bool (T.contains i)) := by simp [tkV, h]
theorem tkV_set {n : Nat} {T : List Nat} {i : Nat} : (tkV n T).set i (.bool true) = tkV n (i :: T) := by
  apply List.ext_getElem?
  intro j
  rw [List.getElem?_set]
  unfold tkV
  by_cases hij : i = j
  · subst hij
    by_cases h : i < n
    · simp [h]
    · simp [h]
  · rw [if_neg hij]
    by_cases h : j < n
    · simp [h, Ne.symm hij]
    · simp [h]
theorem tkV_made (n : Nat) : madeCells #[Value.bool false] n = (tkV n []).toArray := by
  apply Array.toList_inj.1
  rw [toList_madeCells_one]
  apply List.ext_getElem?
  intro j
  unfold tkV
  by_cases h : j < n <;> simp [h]
/-- make([]bool, n): a new block of n times false. -/
theorem make_bools (n : Nat) (hn : n ≤ 1000000) : ∀ u : World, (Instr.makeSlice 91 (.int .i64 (n : Int)) (.int .i64 (n : Int))).run Try.prog u =
      .ok (.slice (some ⟨u.heap.size, 0, none⟩) n n) (u.alloc (.cells (tkV n []).toArray 4)) := fun u => by
  obtain ⟨i0, hi, hz0, hz1, hz2⟩ := info_parts infoBo
  have h := run_make (P := Try.prog) u 91 4 i0 (.bool false) Try.underlying91 hi hz0 .i64 .i64 (n : Int) (n : Int) (by omega) (Int.le_refl _) (by rw [hz2]; omega) (by omega)
  rw [← tkV_made]
  simpa [hz1, Value.cells] using h
/-- A slice of places, where another block was written. -/
theorem BufI.other {w : World} {B : Nat} {v : Value} {L : List Nat} (h : BufI w B v L) {g : Nat} (hg : g < B) (o : Nat) (u : Value) : BufI (w.setCell ⟨g, o, none⟩ u) B v L := by
  refine ⟨h.1, ?_⟩
  rcases h.2 with h0 | ⟨k, cap, cur, e1, e2, e3, e4⟩
  · exact .inl h0
  · refine .inr ⟨k, cap, cur, e1, e2, ?_, e4⟩
    have : g ≠ k := by omega
    simp [World.setCell, Array.getElem?_modify, e3, this]
/-- How long a slice is. -/
def lenOfR : Value → Nat
  | .slice _ n _ => n
  | _ => 0
/-- What stands for the place that comes next. -/
def atN (o : Option Nat) : Int := match o with
  | none => -1
  | some i => (i : Int)
set_option maxRecDepth 100000 in
set_option maxHeartbeats 16000000 in
theorem rRow_some (w : World) (p : Option Addr) (c0 : Nat) (L : List Seg) (h : SegsP w p L) (hl : L.length ≤ 1000000) (hok : ∀ x ∈ L, x.f < 18446744073709551616 ∧ x.r.length ≤ 140737488355328) (a0 g0 : Nat) (hnf : newF L L.length = some (a0, g0)) :
    Calls Try.prog 19 #[.slice p L.length c0] w fun e w' => ∃ q c, e = .returned (.tuple #[.slice q (a0 :: rowG L g0 (L.length + 1) a0 []).length c, .int .i64 0]) ∧ ValsP w' q (vN (a0 :: rowG L g0 (L.length + 1) a0 [])) ∧ Ext w w' := by
  have HH := Lib.hid (fun u (hu : Ext w u) => h.ext hu)
  have HOk := Lib.hid hok
  have HAt := Lib.hid (newF_at L)
  have HSu := Lib.hid (newF_succ L)
  obtain ⟨ha0, x0, hx0, hg0, _⟩ := HAt.out _ a0 g0 hnf
  have HX0 := Lib.hid hx0
  have HG0 := Lib.hid hg0
  have HNf := Lib.hid hnf
  obtain ⟨R, hR⟩ : ∃ R, R = a0 :: rowG L g0 (L.length + 1) a0 [] := ⟨_, rfl⟩
  have HR := Lib.hid hR
  rw [← hR]
  have hmk := make_bools L.length hl
  clear h hok hnf hx0 hg0 hR
  go_enter Try.func19, Try.ntmps19
  go_wp2
  go_loopw [4, 5] (fun av iv wr => ∃ j : Nat, j ≤ L.length ∧ iv = .int .i64 (j : Int) ∧ av = .int .i64 (atV (newF L j)) ∧ Hid (Ext w wr)) (fun _ iv _ => L.length - (intOf iv).toNat)
  case atStart => exact ⟨0, Nat.zero_le _, rfl, rfl, Lib.hid (Ext.refl _)⟩
  case round =>
    obtain ⟨j, hj, rfl, rfl, hx⟩ := hrel
    by_cases hlt : j < L.length
    · obtain ⟨x, hxj⟩ : ∃ x, L[j]? = some x := ⟨_, List.getElem?_eq_getElem hlt⟩
      obtain ⟨ad, q0, c2, rfl, ha, _, hc⟩ := HH.out _ hx.out j x hxj
      have HN1 := Lib.hid (HSu.out j x hxj)
      have k0 : wr.cell? (ad.add (j * 7)) = some (.int .u8 (x.k : Int)) := hc 0 _ rfl
      have k1 := seven_at (k := 0) (hc 1 _ rfl)
      have HAd := Lib.hid ha
      clear hxj hc ha
      by_cases hk : x.k = 1
      · have hki : ((x.k : Int) == 1) = true := by rw [beq_iff_eq]; omega
        rcases hn : newF L j with _ | ⟨a, g⟩
        · have HS1 := Lib.hid hn
          have HK := Lib.hid hk
          clear hk hn
          simp only [atV]
          go_upto_region 5 with (fail)
          go_quiet (fail)
          go_wp2
          go_roundw
          case rel => exact ⟨j + 1, hlt, by go_num, by rw [HN1.out, HS1.out]; simp [newStep, HK.out], Lib.hid (hx.out.drewN _)⟩
          case measure => simp [intOf]; omega
        · obtain ⟨haj, y, hy, hyg, _⟩ := HAt.out j a g hn
          obtain ⟨ad2, q2, c3, e2, _, _, hc2⟩ := HH.out _ hx.out a y hy
          obtain rfl : ad = ad2 := by simpa using e2
          have m1 := seven_at (k := 0) (hc2 1 _ rfl)
          rw [hyg] at m1
          have haL : a < L.length := by omega
          have han : ¬ ((a : Int) < 0) := by omega
          have HS1 := Lib.hid hn
          have HK := Lib.hid hk
          clear hk hn hy hyg hc2 e2
          simp only [atV]
          by_cases hgt : g < x.g
          · have hgi : (g : Int) < (x.g : Int) := by omega
            have HGt := Lib.hid hgt
            clear hgt
            go_upto_region 5 with (fail)
            go_quiet (fail)
            go_wp2
            go_roundw
            case rel => exact ⟨j + 1, hlt, by go_num, by rw [HN1.out, HS1.out]; simp [newStep, HK.out, HGt.out], Lib.hid (hx.out.drewN _)⟩
            case measure => simp [intOf]; omega
          · have hgi : ¬ (g : Int) < (x.g : Int) := by omega
            have HGt := Lib.hid hgt
            clear hgt
            go_upto_region 5 with (fail)
            go_quiet (fail)
            go_wp2
            go_roundw
            case rel => exact ⟨j + 1, hlt, by go_num, by rw [HN1.out, HS1.out]; simp [newStep, HK.out, HGt.out], Lib.hid (hx.out.drewN _)⟩
            case measure => simp [intOf]; omega
      · have hki : ((x.k : Int) == 1) = false := by rw [beq_eq_false_iff_ne]; omega
        have HN2 : Hid (newF L (j + 1) = newF L j) := Lib.hid (by
          rw [HN1.out]
          cases newF L j with
          | none => simp [newStep, hk]
          | some ag => obtain ⟨a, g⟩ := ag; simp [newStep, hk])
        generalize hav : atV (newF L j) = av
        have HAv := Lib.hid hav
        clear hk hav
        go_upto_region 5 with (fail)
        go_quiet (fail)
        go_wp2
        go_roundw
        case rel => exact ⟨j + 1, hlt, by go_num, by rw [HN2.out, HAv.out], Lib.hid (hx.out.drewN _)⟩
        case measure => simp [intOf]; omega
    · obtain rfl : j = L.length := by omega
      rw [HNf.out]
      simp only [atV]
      obtain ⟨ad, q0, c2, rfl, ha, _, hc⟩ := HH.out _ hx.out a0 x0 HX0.out
      have k1 := seven_at (k := 0) (hc 1 _ rfl)
      rw [HG0.out] at k1
      have han : ¬ ((a0 : Int) < 0) := by omega
      clear hc ha
      go_wp2
      have HTB := Lib.hid (Blk.new wr (tkV L.length []) 4)
      have HXt := Lib.hid (hx.out.alloc (.cells (tkV L.length []).toArray 4))
      have HS2 : (wr.alloc (.cells (tkV L.length []).toArray 4)).heap.size = wr.heap.size + 1 := by simp
      have HwT := Lib.hid hx.out.size
      generalize wr.heap.size = TB at *
      generalize (wr.alloc (.cells (tkV L.length []).toArray 4)) = w2 at *
      have HBI := Lib.hid (BufI.one w2 a0 (Nat.le_refl _))
      have HwB := Lib.hid (show w.heap.size ≤ TB + 1 from Nat.le_succ_of_le HwT.out)
      have HTB3 := Lib.hid (HTB.out.alloc (.cells #[.int .i64 (a0 : Int)] 3))
      have HX3 := Lib.hid (HXt.out.alloc (.cells #[.int .i64 (a0 : Int)] 3))
      have HS3 := Lib.hid (show w2.heap.size ≤ (w2.alloc (.cells #[.int .i64 (a0 : Int)] 3)).heap.size from by simp)
      clear hmk HTB HXt hx k1
      rw [HS2] at HBI HS3
      clear HS2
      go_loopw [4, 8] (fun pv rv wr => ∃ (a : Nat) (T S : List Nat), pv = .int .i64 (a : Int) ∧ lenOfR rv = S.length ∧ Hid (BufI wr (TB + 1) rv S) ∧ a < L.length ∧ Hid (Blk wr TB 4 (tkV L.length T)) ∧ Hid (Ext w wr) ∧ Hid (TB + 1 ≤ wr.heap.size) ∧ Hid (T.Nodup ∧ (∀ i ∈ T, i < L.length) ∧ S.length = T.length + 1 ∧ R = S ++ rowG L g0 (L.length + 1 - T.length) a T)) (fun _ rv _ => L.length + 1 - lenOfR rv)
      case atStart => exact ⟨a0, [], [a0], rfl, rfl, HBI, ha0, HTB3, HX3, HS3, Lib.hid ⟨List.nodup_nil, by simp, rfl, by rw [HR.out]; rfl⟩⟩
      case round =>
        obtain ⟨a, T, S, rfl, hlv, hbi, haL, htb, hx, hbs, hT⟩ := hrel
        obtain ⟨q, cc, rfl, _, _⟩ := hbi.out.vals
        obtain ⟨y, hya⟩ : ∃ y, L[a]? = some y := ⟨_, List.getElem?_eq_getElem haL⟩
        have HYa := Lib.hid hya
        obtain ⟨ad2, q0, c3, e2, ha2, _, hc⟩ := HH.out _ hx.out a y hya
        obtain rfl : ad = ad2 := by simpa using e2
        have k6 := seven_at (k := 5) (hc 6 _ rfl)
        obtain ⟨hTn, hTl, hST, hRS⟩ := hT.out
        have hTle := taken_le T hTn hTl
        obtain ⟨f, hf⟩ : ∃ f, L.length + 1 - T.length = f + 1 := ⟨L.length - T.length, by omega⟩
        rw [hf] at hRS
        have HOky := Lib.hid (HOk.out y (List.mem_of_getElem? hya))
        clear e2 hc
        cases hw : y.w with
        | false =>
          rw [rowG_torn hya hw, List.append_nil] at hRS
          rw [hw] at k6
          subst hRS
          obtain ⟨q2, cc2, e3, _, hvl⟩ := hbi.out.vals
          injection e3 with e4 _ e5
          subst e4 e5
          have HV := Lib.hid hvl
          clear hvl hya ha2 hT hf hTn hTl hST hTle
          go_wp2
          go_ret2
          exact ⟨_, ⟨_, rfl⟩, HV.out, hx.out⟩
        | true =>
          rw [hw] at k6
          have HHd := Lib.hid (leastF_all L g0 T (nextS y))
          have HSt := Lib.hid (leastF_step L g0 T (nextS y))
          have HEn := Lib.hid (leastF_end L g0 T (nextS y))
          have hL1 : IntKind.i64.wrap ((L.length : Int) - 1) = (L.length : Int) - 1 := IntWalk.i64_in _ ⟨by omega, by omega⟩
          clear ha2 hya
          have HT := Lib.hid (And.intro hTn (And.intro hTl (And.intro hST (And.intro hRS (And.intro hTle hf)))))
          clear hTn hTl hST hRS hTle hT hf
          go_wp2
          go_loopw [9, 10] (fun nv iv wr2 => ∃ j : Nat, j ≤ L.length ∧ iv = .int .i64 ((j : Int) - 1) ∧ nv = .int .i64 (atN (leastF L g0 T (nextS y) j)) ∧ Hid (Ext wr wr2)) (fun _ iv _ => (intOf iv + 1).toNat)
          case atStart => exact ⟨L.length, Nat.le_refl _, rfl, by rw [HEn.out]; rfl, Lib.hid (Ext.refl _)⟩
          case round =>
            obtain ⟨j, hj, rfl, rfl, hx2⟩ := hrel
            rcases j with _ | k
            · rw [HHd.out]
              have e1 : ((0 : Nat) : Int) - 1 = -1 := rfl
              rw [e1]
              clear e1 hj hL1 k6
              have HX2 := Lib.hid (hx.out.trans hx2.out)
              have HBi2 := Lib.hid (hbi.out.ext hx2.out)
              have HTb2 := Lib.hid (htb.out.ext hx2.out)
              have HSz2 := Lib.hid (Nat.le_trans hbs.out hx2.out.size)
              rcases hwn : waitF L g0 T (nextS y) with _ | ⟨i, r⟩
              · have hRS := HT.out.2.2.2.1
                rw [rowG_end HYa.out hw hwn, List.append_nil] at hRS
                subst hRS
                obtain ⟨q2, cc2, e3, _, hvl⟩ := HBi2.out.vals
                injection e3 with e4 _ e5
                subst e4 e5
                have HV := Lib.hid hvl
                clear hvl hwn hlv hw
                simp only [List.head?_nil, atN]
                go_wp2
                go_ret2
                exact ⟨_, ⟨_, rfl⟩, HV.out, HX2.out⟩
              · obtain ⟨hTn, hTl, hST, hRS, hTle, hf⟩ := HT.out
                rw [rowG_more HYa.out hw hwn] at hRS
                have hwm : i ∈ waitF L g0 T (nextS y) := by rw [hwn]; simp
                obtain ⟨hiL, _, hiT⟩ := waitF_mem hwm
                have hT2 : Hid ((i :: T).Nodup ∧ (∀ j ∈ i :: T, j < L.length) ∧ (S ++ [i]).length = (i :: T).length + 1 ∧ R = (S ++ [i]) ++ rowG L g0 (L.length + 1 - (i :: T).length) i (i :: T)) := Lib.hid (by
                  refine ⟨List.nodup_cons.2 ⟨hiT, hTn⟩, ?_, by simp [hST], ?_⟩
                  · intro j hj
                    rcases List.mem_cons.1 hj with rfl | hj
                    · exact hiL
                    · exact hTl j hj
                  · rw [hRS, List.append_assoc, show L.length + 1 - (i :: T).length = f from by rw [List.length_cons]; omega]
                    rfl)
                have HMe := Lib.hid (show S.length ≤ L.length from by have := taken_le (i :: T) hT2.out.1 hT2.out.2.1; rw [List.length_cons] at this; omega)
                have c1 := HTb2.out.cell i _ (tkV_get hiL)
                have c2 := HTb2.out.frozen i
                have HTb5 := Lib.hid (HTb2.out.set_ i (.bool true))
                rw [tkV_set] at HTb5
                have HBi5 := Lib.hid (HBi2.out.other (g := TB) (by omega) i (.bool true))
                have HX5 := Lib.hid (show Ext w (wr.setCell ⟨TB, i, none⟩ (.bool true)) from Below.setCell HX2.out (p := ⟨TB, i, none⟩) HwT.out (.bool true))
                have HSz5 := Lib.hid (show TB + 1 ≤ (wr.setCell ⟨TB, i, none⟩ (.bool true)).heap.size from by have := HSz2.out; simpa [World.setCell] using this)
                clear hTn hTl hST hRS hTle hf hwm hwn hiT HTb2 HBi2 HSz2 hlv hw
                simp only [List.head?_cons, atN]
                have hin : ¬ ((i : Int) < 0) := by omega
                have hsz5 : (wr.setCell ⟨TB, i, none⟩ (.bool true)).heap.size = wr.heap.size := by simp [World.setCell]
                have hbn := Blk.new (wr.setCell ⟨TB, i, none⟩ (.bool true)) [.int .i64 (i : Int)] 3
                rw [hsz5] at hbn
                have HBn := Lib.hid hbn
                clear hbn hsz5
                go_wp2_with (first
                  | (at_builtin; refine append_int rfl (.tmp 107) (.tmp 109) rfl (TB + 1) _ S rfl (HBi5.out.ext ((Ext.refl _).alloc _)) wr.heap.size i rfl HBn.out (by have := HMe.out; omega) (Nat.le_trans HSz5.out ((Ext.refl _).alloc _).size) ?_; intro v6 w6 hb6 hx6; have HB6 := Lib.hid hb6; have HX6 := Lib.hid hx6; obtain ⟨q6, c6, rfl, _, _⟩ := hb6.vals; clear hb6 hx6))
                go_roundw
                case rel => exact ⟨i, i :: T, S ++ [i], rfl, by simp [lenOfR], Lib.hid (by have := HB6.out; rwa [show (S ++ [i]).length = S.length + 1 by simp] at this), hiL, Lib.hid (Blk.below (HTb5.out.alloc _) HX6.out (by omega)), Lib.hid ((HX5.out.alloc _).trans3 (Below.mono HX6.out HwB.out)), Lib.hid (Nat.le_trans (Nat.le_trans HSz5.out ((Ext.refl _).alloc _).size) HX6.out.size), hT2⟩
                case measure => have := HMe.out; simp [lenOfR]; omega
            · have e1 : ((k + 1 : Nat) : Int) - 1 = (k : Int) := by omega
              rw [e1]
              have hkL : k < L.length := by omega
              have HS1 := Lib.hid (HSt.out k hkL)
              obtain ⟨x, hxk⟩ : ∃ x, L[k]? = some x := ⟨_, List.getElem?_eq_getElem hkL⟩
              have HIs := Lib.hid (isW_some (gen := g0) (num := nextS y) hxk)
              have HXk := Lib.hid hxk
              obtain ⟨ad3, q3, c4, e3, _, _, hc3⟩ := HH.out _ (hx.out.trans hx2.out) k x hxk
              obtain rfl : ad = ad3 := by simpa using e3
              have k0 : wr.cell? (ad.add (k * 7)) = some (.int .u8 (x.k : Int)) := hc3 0 _ rfl
              have k1 := seven_at (k := 0) (hc3 1 _ rfl)
              have k2 := seven_at (k := 1) (hc3 2 _ rfl)
              have t1 := (htb.out.ext hx2.out).cell k _ (tkV_get hkL)
              have hkw : IntKind.i64.wrap ((k : Int) - 1) = (k : Int) - 1 := IntWalk.i64_in _ ⟨by omega, by omega⟩
              have hk0 : 0 ≤ (k : Int) := by omega
              generalize hnv : atN (leastF L g0 T (nextS y) (k + 1)) = nv
              have HNv := Lib.hid hnv
              clear e3 hc3 hxk hnv e1 hL1 k6 hj hlv
              cases htk : T.contains k with
              | true =>
                rw [htk] at t1
                have HTk := Lib.hid htk
                clear htk
                go_upto_region 17 with (fail)
                go_quiet (fail)
                go_wp2
                go_roundw
                case rel => exact ⟨k, by omega, rfl, by rw [HS1.out, HIs.out]; simp [HTk.out, -List.contains_eq_mem, HNv.out], Lib.hid (hx2.out.drewN _)⟩
                case measure => simp [intOf]
              | false =>
                rw [htk] at t1
                have HTk := Lib.hid htk
                clear htk
                by_cases hk : x.k = 0
                · have hki : ((x.k : Int) == 0) = true := by rw [beq_iff_eq]; omega
                  by_cases hg : x.g = g0
                  · have hgi : ((x.g : Int) == (g0 : Int)) = true := by rw [beq_iff_eq]; omega
                    have HKG := Lib.hid (And.intro hk hg)
                    clear hk hg
                    obtain ⟨ad4, q4, c5, e4, hb4, _, hc4⟩ := HH.out _ (hx.out.trans hx2.out) a y HYa.out
                    obtain rfl : ad = ad4 := by simpa using e4
                    have m0 : wr.cell? (ad.add (a * 7)) = some (.int .u8 (y.k : Int)) := hc4 0 _ rfl
                    have m1 := seven_at (k := 0) (hc4 1 _ rfl)
                    have m2 := seven_at (k := 1) (hc4 2 _ rfl)
                    have m3 := seven_at (k := 2) (hc4 3 _ rfl)
                    have m4 := seven_at (k := 3) (hc4 4 _ rfl)
                    have m5 := seven_at (k := 4) (hc4 5 _ rfl)
                    have m6 := seven_at (k := 5) (hc4 6 _ rfl)
                    rw [hw] at m6
                    have HKe : Hid (∀ u, Ext wr u → u.cell? (ad.add (k * 7)) = some (.int .u8 (x.k : Int)) ∧ u.cell? ⟨(ad.add (k * 7)).block, (ad.add (k * 7)).off + 1, none⟩ = some (.int .u64 (x.g : Int)) ∧ u.cell? ⟨(ad.add (k * 7)).block, (ad.add (k * 7)).off + 2, none⟩ = some (.int .u64 (x.f : Int)) ∧ u.cell? (ad.add (a * 7)) = some (.int .u8 (y.k : Int)) ∧ u.cell? ⟨(ad.add (a * 7)).block, (ad.add (a * 7)).off + 1, none⟩ = some (.int .u64 (y.g : Int)) ∧ u.cell? ⟨(ad.add (a * 7)).block, (ad.add (a * 7)).off + 2, none⟩ = some (.int .u64 (y.f : Int)) ∧ u.cell? ⟨(ad.add (a * 7)).block, (ad.add (a * 7)).off + 3, none⟩ = some (.string y.t) ∧ u.cell? ⟨(ad.add (a * 7)).block, (ad.add (a * 7)).off + 4, none⟩ = some (.slice q4 y.r.length c5) ∧ u.cell? ⟨(ad.add (a * 7)).block, (ad.add (a * 7)).off + 5, none⟩ = some (.int .i64 y.u) ∧ u.cell? ⟨(ad.add (a * 7)).block, (ad.add (a * 7)).off + 6, none⟩ = some (.bool true) ∧ u.cell? ⟨TB, k, none⟩ = some (.bool false) ∧ Ext wr u) := Lib.hid (fun u hu => by
                      obtain ⟨ad3, q3, c4, e3, hb3, _, hc3⟩ := HH.out _ ((hx.out.trans hx2.out)) k x HXk.out
                      obtain rfl : ad = ad3 := by simpa using e3
                      have hbk : (ad.add (k * 7)).block < wr.heap.size := by rw [add_block]; exact hb3
                      have hba : (ad.add (a * 7)).block < wr.heap.size := by rw [add_block]; exact hb3
                      exact ⟨(hu.below.cell (p := ad.add (k * 7)) hbk).trans k0, (hu.below.cell (p := ⟨(ad.add (k * 7)).block, (ad.add (k * 7)).off + 1, none⟩) hbk).trans k1, (hu.below.cell (p := ⟨(ad.add (k * 7)).block, (ad.add (k * 7)).off + 2, none⟩) hbk).trans k2, (hu.below.cell (p := ad.add (a * 7)) hba).trans m0, (hu.below.cell (p := ⟨(ad.add (a * 7)).block, (ad.add (a * 7)).off + 1, none⟩) hba).trans m1, (hu.below.cell (p := ⟨(ad.add (a * 7)).block, (ad.add (a * 7)).off + 2, none⟩) hba).trans m2, (hu.below.cell (p := ⟨(ad.add (a * 7)).block, (ad.add (a * 7)).off + 3, none⟩) hba).trans m3, (hu.below.cell (p := ⟨(ad.add (a * 7)).block, (ad.add (a * 7)).off + 4, none⟩) hba).trans m4, (hu.below.cell (p := ⟨(ad.add (a * 7)).block, (ad.add (a * 7)).off + 5, none⟩) hba).trans m5, (hu.below.cell (p := ⟨(ad.add (a * 7)).block, (ad.add (a * 7)).off + 6, none⟩) hba).trans m6, (hu.below.cell (p := ⟨TB, k, none⟩) (htb.out.ext hx2.out).lt).trans t1, hu⟩)
                    have HNx := Lib.hid (fun u => rNext_any y q4 c5 HOky.out.2 u)
                    simp only [segV, hw] at HNx
                    have hnn : nextN y = nextS y := rfl
                    rw [hnn] at HNx
                    generalize nextS y = nn at *
                    obtain ⟨bb, hbb⟩ : ∃ bb, ((x.f : Int) == (nn : Int)) = bb := ⟨_, rfl⟩
                    have HBb : Hid ((x.f == nn) = bb) := Lib.hid (by
                      rw [← hbb]
                      by_cases h : x.f = nn
                      · subst h; simp
                      · have h2 : ¬ ((x.f : Int) = (nn : Int)) := by omega
                        rw [beq_eq_false_iff_ne.2 h, beq_eq_false_iff_ne.2 h2])
                    clear hc4 e4 hb4 hnn
                    go_upto_region 17 with (fail)
                    have x0 : Ext wr wr.drew := (Ext.refl wr).drew
                    have hS := HKe.out _ x0
                    go_region_held3 (fun u => u.cell? (ad.add (k * 7)) = some (.int .u8 (x.k : Int)) ∧ u.cell? ⟨(ad.add (k * 7)).block, (ad.add (k * 7)).off + 1, none⟩ = some (.int .u64 (x.g : Int)) ∧ u.cell? ⟨(ad.add (k * 7)).block, (ad.add (k * 7)).off + 2, none⟩ = some (.int .u64 (x.f : Int)) ∧ u.cell? (ad.add (a * 7)) = some (.int .u8 (y.k : Int)) ∧ u.cell? ⟨(ad.add (a * 7)).block, (ad.add (a * 7)).off + 1, none⟩ = some (.int .u64 (y.g : Int)) ∧ u.cell? ⟨(ad.add (a * 7)).block, (ad.add (a * 7)).off + 2, none⟩ = some (.int .u64 (y.f : Int)) ∧ u.cell? ⟨(ad.add (a * 7)).block, (ad.add (a * 7)).off + 3, none⟩ = some (.string y.t) ∧ u.cell? ⟨(ad.add (a * 7)).block, (ad.add (a * 7)).off + 4, none⟩ = some (.slice q4 y.r.length c5) ∧ u.cell? ⟨(ad.add (a * 7)).block, (ad.add (a * 7)).off + 5, none⟩ = some (.int .i64 y.u) ∧ u.cell? ⟨(ad.add (a * 7)).block, (ad.add (a * 7)).off + 6, none⟩ = some (.bool true) ∧ u.cell? ⟨TB, k, none⟩ = some (.bool false) ∧ Ext wr u) (first | exact hS | exact hS4 | assumption | go_keep) (first
                      | (go_at_call 17; refine (HNx.out _).mono ?_; rintro e w4 ⟨rfl, x4⟩; have y4 := Ext.trans (a := wr) (by assumption) x4; have hS4 := HKe.out _ y4))
                    have X4 := Lib.hid y4
                    clear hS hS4 x0 x4 y4 k0 k1 k2 m0 m1 m2 m3 m4 m5 m6 t1 hki hgi hbb
                    cases bb with
                    | true =>
                      go_wp2
                      go_roundw
                      case rel => exact ⟨k, by omega, rfl, by rw [HS1.out, HIs.out]; simp [HTk.out, HKG.out.1, HKG.out.2, HBb.out, atN, -List.contains_eq_mem], Lib.hid (hx2.out.trans X4.out)⟩
                      case measure => simp [intOf]
                    | false =>
                      go_wp2
                      go_roundw
                      case rel => exact ⟨k, by omega, rfl, by rw [HS1.out, HIs.out]; simp [HTk.out, HKG.out.1, HKG.out.2, HBb.out, HNv.out, -List.contains_eq_mem], Lib.hid (hx2.out.trans X4.out)⟩
                      case measure => simp [intOf]
                  · have hgi : ((x.g : Int) == (g0 : Int)) = false := by rw [beq_eq_false_iff_ne]; omega
                    have HKG := Lib.hid (And.intro hk hg)
                    clear hk hg
                    go_upto_region 17 with (fail)
                    go_quiet (fail)
                    go_wp2
                    go_roundw
                    case rel => exact ⟨k, by omega, rfl, by rw [HS1.out, HIs.out]; simp [HTk.out, HKG.out.1, HKG.out.2, -List.contains_eq_mem, HNv.out], Lib.hid (hx2.out.drewN _)⟩
                    case measure => simp [intOf]
                · have hki : ((x.k : Int) == 0) = false := by rw [beq_eq_false_iff_ne]; omega
                  have HK := Lib.hid hk
                  clear hk
                  go_upto_region 17 with (fail)
                  go_quiet (fail)
                  go_wp2
                  go_roundw
                  case rel => exact ⟨k, by omega, rfl, by rw [HS1.out, HIs.out]; simp [HTk.out, HK.out, -List.contains_eq_mem, HNv.out], Lib.hid (hx2.out.drewN _)⟩
                  case measure => simp [intOf]
theorem rRow_any (w : World) (p : Option Addr) (c0 : Nat) (L : List Seg) (h : SegsP w p L) (hl : L.length ≤ 1000000) (hok : ∀ x ∈ L, x.f < 18446744073709551616 ∧ x.r.length ≤ 140737488355328) :
    Calls Try.prog 19 #[.slice p L.length c0] w fun e w' => ∃ q c, e = .returned (.tuple #[.slice q (rowS L).1.length c, .int .i64 ((rowS L).2 : Int)]) ∧ ValsP w' q (vN (rowS L).1) ∧ Ext w w' := by
  rcases hnf : newF L L.length with _ | ⟨a0, g0⟩
  · have hrs : rowS L = ([], 3) := by unfold rowS; rw [hnf]
    rw [hrs]
    refine (rRow_none w p c0 L h hl hnf).mono ?_
    rintro e w' ⟨rfl, hx⟩
    exact ⟨none, 0, rfl, ValsP.none _, hx⟩
  · have hrs : rowS L = (a0 :: rowG L g0 (L.length + 1) a0 [], 0) := by unfold rowS; rw [hnf]
    rw [hrs]
    exact rRow_some w p c0 L h hl hok a0 g0 hnf
end Go.Proofs.Ythnoegipadnmeaa
