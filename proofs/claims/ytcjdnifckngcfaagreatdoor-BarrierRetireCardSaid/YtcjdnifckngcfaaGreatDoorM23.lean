/- Contract of the library's sort at numbers of 32 bits: the sort itself, which calls itself. -/
import Derived.Test.YtcjdnifckngcfaaGreatDoorM16
import Derived.Test.YtcjdnifckngcfaaGreatDoorM17
import Derived.Test.YtcjdnifckngcfaaGreatDoorM18
import Derived.Test.YtcjdnifckngcfaaGreatDoorM19
import Derived.Test.YtcjdnifckngcfaaGreatDoorM21
import Derived.Test.YtcjdnifckngcfaaGreatDoorM22
import Derived.Sort.AssemblyPlain
section
namespace Go.Proofs.YtcjdnifckngcfaaGreatDoor
open Go.RowKit

theorem pivot_any' (g : Nat) (T : TypeId) (pos : List Value) (d : Array Nat) (a l b cap : Nat) (w : World) (h : Blk w g T (d.toList.map cN ++ pos)) (hl : 12 < l) (hbl : b = a + l) (hb : b ≤ d.size) (hs : d.size ≤ 1000000) :
    Calls Tryz.prog 173 #[.slice (some ⟨g, 0, none⟩) d.size cap, .int .i64 (a : Int), .int .i64 (b : Int)] w fun e w' => ∃ x hint : Nat, e = .returned (.tuple #[.int .i64 (x : Int), .int .i64 (hint : Int)]) ∧ (a ≤ x ∧ x < b) ∧ (hint = 0 ∨ hint = 1 ∨ hint = 2) ∧ Ext w w' := by
  subst hbl
  exact pivot_any g T pos d a l cap w h hl hb hs
/-- What a call of the sort leaves. -/
def Sorts (N : Nat) : Prop := ∀ (g : Nat) (T : TypeId) (pos : List Value) (d : Array Nat) (a b limit n cap : Nat) (w : World), b - a < N → Blk w g T (d.toList.map cN ++ pos) → a ≤ b → b ≤ d.size → n = d.size → n ≤ 1000000 → limit ≤ 1000000 → Sort.Below ltN a b d →
  Calls Tryz.prog 150 #[.slice (some ⟨g, 0, none⟩) n cap, .int .i64 (a : Int), .int .i64 (b : Int), .int .i64 (limit : Int)] w fun e w' => e = .returned (.tuple #[]) ∧ ∃ d', RowN w w' g T pos d' ∧ Sort.PermIn a b d d' ∧ Sort.SortedIn ltN a b d'
set_option maxRecDepth 100000 in
set_option maxHeartbeats 16000000 in
theorem pdq_step (N : Nat) (ih : Sorts N) : Sorts (N + 1) := by
  intro g T pos d a b limit n cap w hN h hab hb hn hs hlim hB0
  have HI := Lib.hid ih
  have HR := Lib.hid (RowN.refl h)
  have HB0 := Lib.hid hB0
  have HNN := Lib.hid hN
  have HSZ := Lib.hid hn
  clear h hB0 ih
  have hbn : b ≤ n := by omega
  clear hn hb
  go_enter Tryz.func150, Tryz.ntmps150
  go_wp2
  go_loopw [1, 2, 3, 8, 9] (fun s1 s2 s3 s8 s9 wr => ∃ (x y lim : Nat) (wb wp : Bool) (dk : Array Nat), s1 = .int .i64 (x : Int) ∧ s2 = .int .i64 (y : Int) ∧ s3 = .int .i64 (lim : Int) ∧ s8 = .bool wb ∧ s9 = .bool wp ∧ a ≤ x ∧ x ≤ y ∧ y ≤ b ∧ lim ≤ 1000000 ∧ Hid (dk.size = n) ∧ Hid (RowN w wr g T pos dk) ∧ Hid (Sort.Below ltN x y dk) ∧ Hid (∀ R, Sort.PermIn x y dk R → Sort.SortedIn ltN x y R → Sort.PermIn a b d R ∧ Sort.SortedIn ltN a b R)) (fun s1 s2 _ _ _ _ => (intOf s2).toNat - (intOf s1).toNat)
  case atStart => exact ⟨a, b, limit, true, true, d, rfl, rfl, rfl, rfl, rfl, Nat.le_refl _, hab, Nat.le_refl _, hlim, Lib.hid HSZ.out.symm, HR, HB0, Lib.hid (fun R h1 h2 => ⟨h1, h2⟩)⟩
  case round =>
    obtain ⟨x, y, lim, wb, wp, dk, rfl, rfl, rfl, rfl, rfl, hax, hxy, hyb, hlm, hdk, hR, hBl, hG⟩ := hrel
    obtain ⟨l, hl⟩ : ∃ l, y - x = l := ⟨_, rfl⟩
    have HYL := Lib.hid (show y = x + l by omega)
    have e0 : (y : Int) - (x : Int) = (l : Int) := by omega
    have hyn : y ≤ n := by omega
    clear hl
    by_cases h12 : l ≤ 12
    · have h12i : (l : Int) ≤ 12 := by omega
      have hc := ins_any g T pos dk x y cap wr hR.out.blk hxy (by rw [hdk.out]; exact hyn) (by rw [hdk.out]; exact hs)
      rw [hdk.out] at hc
      have HC := Lib.hid hc
      clear hc
      go_wp2_with (go_at_call 170; refine (HC.out).mono ?_; rintro e w1 ⟨rfl, r1⟩; have R1 := Lib.hid (hR.out.trans r1); clear r1)
      (try simp only [Exit.inBlock, Exit.then])
      refine bodyPost_ret (results_none rfl _ _ _) rfl ?_
      have hi := Sort.insertionSort_holds ltN_swo dk x y hxy (by rw [hdk.out]; exact hyn)
      have hg := hG.out _ hi.1 hi.2
      exact ⟨rfl, _, R1.out, hg.1, hg.2⟩
    · have h12i : ¬ (l : Int) ≤ 12 := by omega
      have hl12 : 12 < l := by omega
      rcases lim with _ | lim
      · have hc := heap_any g T pos dk x l y cap wr hR.out.blk hl12 HYL.out (by rw [hdk.out, ← HYL.out]; exact hyn) (by rw [hdk.out]; exact hs)
        rw [hdk.out] at hc
        have HC := Lib.hid hc
        clear hc
        go_wp2_with (go_at_call 171; refine (HC.out).mono ?_; rintro e w1 ⟨rfl, r1⟩; have R1 := Lib.hid (hR.out.trans r1); clear r1)
        (try simp only [Exit.inBlock, Exit.then])
        refine bodyPost_ret (results_none rfl _ _ _) rfl ?_
        have hi := Sort.heapSort_holds ltN_swo dk x y hxy (by rw [hdk.out]; exact hyn)
        have hg := hG.out _ hi.1 hi.2
        exact ⟨rfl, _, R1.out, hg.1, hg.2⟩
      · have hz : ((lim : Int) + 1 == 0) = false := by rw [beq_eq_false_iff_ne]; omega
        have hz' : ¬ (lim : Int) + 1 = 0 := by omega
        go_upto_if 35 with (fail)
        go_cut [3] (fun s3 wx => ∃ (lim2 : Nat) (d1 : Array Nat), s3 = .int .i64 (lim2 : Int) ∧ lim2 ≤ 1000000 ∧ Hid (d1.size = n) ∧ Hid (RowN w wx g T pos d1) ∧ Hid (Sort.PermIn x y dk d1))
        case first =>
          cases wb
          · have hc := brk_any g T pos dk x l y cap wr hR.out.blk hl12 HYL.out (by rw [hdk.out]; exact hyn) (by rw [hdk.out]; exact hs)
            rw [hdk.out] at hc
            have HC := Lib.hid hc
            clear hc
            go_wp2_with (go_at_call 172; refine (HC.out).mono ?_; rintro e w1 ⟨rfl, d1, r1, p1⟩; have R1 := Lib.hid (hR.out.trans r1); have P1 := Lib.hid p1; clear r1 p1)
            go_meet
            case rel => exact ⟨lim, d1, by first | rfl | go_num, by omega, Lib.hid (P1.out.1.trans hdk.out), R1, P1⟩
          · go_wp2
            go_meet
            case rel => exact ⟨lim + 1, dk, by first | rfl | go_num, hlm, hdk, hR, Lib.hid (Sort.permIn_refl _ _ _)⟩
        case rest =>
          obtain ⟨lim2, d1, rfl, hlm2, hd1, hR1, hP1⟩ := hcut
          have hc := pivot_any' g T pos d1 x l y cap wc hR1.out.blk hl12 HYL.out (by rw [hd1.out]; exact hyn) (by rw [hd1.out]; exact hs)
          rw [hd1.out] at hc
          have HC := Lib.hid hc
          clear hc
          go_upto_if 50 with (go_at_call 173; refine (HC.out).mono ?_; rintro e w2 ⟨p, hint, rfl, pp, hh, x2⟩; have R2 := Lib.hid (hR1.out.ext x2); clear x2)
          clear HC
          go_cut [11, 12] (fun s11 s12 wx => ∃ (p2 h2 : Nat) (d2 : Array Nat), s11 = .int .i64 (p2 : Int) ∧ s12 = .int .i64 (h2 : Int) ∧ x ≤ p2 ∧ p2 < y ∧ Hid (d2.size = n) ∧ Hid (RowN w wx g T pos d2) ∧ Hid (Sort.PermIn x y dk d2))
          case first =>
            by_cases h2 : hint = 2
            · have hq : ((hint : Int) == 2) = true := by rw [beq_iff_eq]; omega
              have hc := rev_any g T pos d1 x y cap w2 R2.out.blk (by omega) (by rw [hd1.out]; exact hyn) (by rw [hd1.out]; exact hs)
              rw [hd1.out] at hc
              have HC := Lib.hid hc
              clear hc
              go_wp2_with (go_at_call 174; refine (HC.out).mono ?_; rintro e w3 ⟨rfl, d2, r2, q2⟩; have R3 := Lib.hid (R2.out.trans r2); have Q2 := Lib.hid q2; clear r2 q2)
              go_meet
              case rel => exact ⟨y - 1 - (p - x), 1, d2, by first | rfl | go_num, by first | rfl | go_num, by omega, by omega, Lib.hid (Q2.out.1.trans hd1.out), R3, Lib.hid (Sort.permIn_trans _ _ _ _ _ hP1.out Q2.out)⟩
            · have hq : ((hint : Int) == 2) = false := by rw [beq_eq_false_iff_ne]; omega
              go_wp2
              go_meet
              case rel => exact ⟨p, hint, d1, rfl, rfl, pp.1, pp.2, hd1, R2, hP1⟩
          case rest =>
            obtain ⟨p2, h2, d2, rfl, rfl, hp1, hp2, hd2, hR2, hP2⟩ := hcut
            have HB2 := Lib.hid (hBl.out.perm (by rw [hdk.out]; exact hyn) hP2.out)
            go_upto_region 15 with (fail)
            go_cut [68] (fun c wx => ∃ cb : Bool, c = .bool cb ∧ wx = wc)
            case first =>
              by_cases hq : h2 = 1
              · have hqi : ((h2 : Int) == 1) = true := by rw [beq_iff_eq]; omega
                cases wb <;> cases wp <;> (go_wp2; go_meet; exact ⟨_, rfl, rfl⟩)
              · have hqi : ((h2 : Int) == 1) = false := by rw [beq_eq_false_iff_ne]; omega
                cases wb <;> cases wp <;> (go_wp2; go_meet; exact ⟨_, rfl, rfl⟩)
            case rest =>
              obtain ⟨cb, rfl, rfl⟩ := hcut
              go_upto_if 68 with (fail)
              go_cut [68] (fun _ wx => ∃ d3 : Array Nat, Hid (d3.size = n) ∧ Hid (RowN w wx g T pos d3) ∧ Hid (Sort.PermIn x y dk d3))
              case first =>
                cases cb
                · go_wp2
                  go_meet
                  case rel => exact ⟨d2, hd2, hR2, hP2⟩
                · have hc := pis_any g T pos d2 x l y cap wc hR2.out.blk hl12 HYL.out (by rw [hd2.out]; exact hyn) (by rw [hd2.out]; exact hs)
                  have hpi := Sort.partialInsertionSort_holds (lt := ltN) ltN_swo d2 x y (by omega) (by rw [hd2.out]; exact hyn) HB2.out
                  obtain ⟨d3, ok, hres⟩ : ∃ d3 ok, Sort.partialInsertionSort ltN d2 x y = (d3, ok) := ⟨_, _, rfl⟩
                  rw [hres] at hc hpi
                  have HPI := Lib.hid hpi
                  clear hpi hres
                  rw [hd2.out] at hc
                  have HC := Lib.hid hc
                  clear hc
                  cases ok
                  · go_wp2_with (go_at_call 175; refine (HC.out).mono ?_; rintro e w3 ⟨rfl, r3⟩; have R3 := Lib.hid (hR2.out.trans r3); clear r3)
                    go_meet
                    case rel => exact ⟨d3, Lib.hid (HPI.out.1.1.trans hd2.out), R3, Lib.hid (Sort.permIn_trans _ _ _ _ _ hP2.out HPI.out.1)⟩
                  · go_wp2_with (go_at_call 175; refine (HC.out).mono ?_; rintro e w3 ⟨rfl, r3⟩; have R3 := Lib.hid (hR2.out.trans r3); clear r3)
                    (try simp only [Exit.inBlock, Exit.then])
                    refine bodyPost_ret (results_none rfl _ _ _) rfl ?_
                    have hg := hG.out _ (Sort.permIn_trans _ _ _ _ _ hP2.out HPI.out.1) (HPI.out.2 (by first | rfl | trivial))
                    exact ⟨rfl, _, R3.out, hg.1, hg.2⟩
              case rest =>
                obtain ⟨d3, hd3, hR3, hP3⟩ := hcut
                have HB3 := Lib.hid (hBl.out.perm (by rw [hdk.out]; exact hyn) hP3.out)
                clear HB2 hd2 hR2 hP2
                go_upto_region 17 with (fail)
                go_cut [87] (fun c wx => ∃ cb : Bool, c = .bool cb ∧ Hid (cb = true → 0 < x ∧ ltN d3[x - 1]! d3[p2]! = false) ∧ Hid (RowN w wx g T pos d3))
                case first =>
                  by_cases hx0 : 0 < x
                  · have hx0i : (0 : Int) < (x : Int) := by omega
                    have axw : IntKind.i64.wrap ((x : Int) - 1) = (x : Int) - 1 := IntWalk.i64_in _ ⟨by omega, by omega⟩
                    have axn : ((x : Int) - 1).toNat = x - 1 := by omega
                    have axl : (0 : Int) ≤ (x : Int) - 1 := by omega
                    have axu : (x : Int) - 1 < (n : Int) := by omega
                    have s1 := hR3.out.cell (x - 1) (by rw [hd3.out]; omega)
                    have s0 := hR3.out.cell p2 (by rw [hd3.out]; omega)
                    have bp : p2 < n := by omega
                    obtain ⟨u, hu⟩ : ∃ u, d3[x - 1]! = u := ⟨_, rfl⟩
                    obtain ⟨v, hv⟩ : ∃ u, d3[p2]! = u := ⟨_, rfl⟩
                    rw [hu] at s1
                    rw [hv] at s0
                    have HU := Lib.hid hu
                    have HV := Lib.hid hv
                    clear hu hv
                    rcases hll : ltN u v with _ | _
                    · go_quiet ((go_at_call 176; first | exact Calls.quiet_of_same (less_of hll _) | exact quiet_of_same2 (less_of hll _)))
                      go_wp2
                      go_meet
                      case rel => exact ⟨true, rfl, Lib.hid (fun _ => ⟨hx0, by rw [HU.out, HV.out]; exact hll⟩), Lib.hid (hR3.out.drewN _)⟩
                    · go_quiet ((go_at_call 176; first | exact Calls.quiet_of_same (less_of hll _) | exact quiet_of_same2 (less_of hll _)))
                      go_wp2
                      go_meet
                      case rel => exact ⟨false, rfl, Lib.hid (fun h => by cases h), Lib.hid (hR3.out.drewN _)⟩
                  · have hx0i : ¬ (0 : Int) < (x : Int) := by omega
                    go_quiet (fail)
                    go_wp2
                    go_meet
                    case rel => exact ⟨false, rfl, Lib.hid (fun h => by cases h), Lib.hid (hR3.out.drewN _)⟩
                case rest =>
                  obtain ⟨cb, rfl, hcb, hR4⟩ := hcut
                  clear hR3
                  cases cb
                  · have hc := part_any g T pos d3 x y p2 cap wc hR4.out.blk (by omega) hp1 hp2 (by rw [hd3.out]; exact hyn) (by rw [hd3.out]; exact hs)
                    obtain ⟨mid, ap, d4, hx⟩ : ∃ mid ap d4, Sort.partition ltN d3 x y p2 = (mid, ap, d4) := ⟨_, _, _, rfl⟩
                    have hrp := Sort.round_part ltN_swo (Sort.partition_holds ltN) hp1 hp2 (by rw [hd3.out]; exact hyn) HB3.out hx
                    rw [hx] at hc
                    have hm1 := hrp.1
                    have hm2 := hrp.2.1
                    have HRP := Lib.hid hrp
                    clear hrp hx
                    rw [hd3.out] at hc
                    have HC := Lib.hid hc
                    clear hc
                    obtain ⟨t, ht⟩ : ∃ t : Nat, l / 8 = t := ⟨_, rfl⟩
                    have hti : (l : Int) / 8 = (t : Int) := by omega
                    obtain ⟨ll, hll⟩ : ∃ ll : Nat, mid - x = ll := ⟨_, rfl⟩
                    have hlli : (mid : Int) - (x : Int) = (ll : Int) := by omega
                    obtain ⟨rl, hrl⟩ : ∃ rl : Nat, y - mid = rl := ⟨_, rfl⟩
                    have hrli : (y : Int) - (mid : Int) = (rl : Int) := by omega
                    have hrl1 : rl ≤ 1000000 := by omega
                    have hll1 : ll ≤ 1000000 := by omega
                    have hsz4 := Lib.hid (HRP.out.2.2.1.trans hd3.out)
                    have hnb1 : mid - x < N := by have := HNN.out; omega
                    have hnb2 : y - (mid + 1) < N := by have := HNN.out; omega
                    have hmn : mid ≤ n := by omega
                    clear ht hll hrl hN
                    by_cases hlt : ll < rl
                    · have hlti : (ll : Int) < (rl : Int) := by omega
                      have HQ := Lib.hid (fun (u : World) (hu : RowN w u g T pos d4) => HI.out g T pos d4 x mid lim2 n cap u hnb1 hu.blk hm1 (by rw [hsz4.out]; exact hmn) hsz4.out.symm hs hlm2 HRP.out.2.2.2.1)
                      go_wp2_with (first
                        | (go_at_call 178; refine (HC.out).mono ?_; rintro e w3 ⟨rfl, r3⟩; have R3 := Lib.hid (hR4.out.trans r3); clear r3)
                        | (go_at_call 150; refine (HQ.out _ R3.out).mono ?_; rintro e w5 ⟨rfl, d5, r5, p5, s5⟩; have R5 := Lib.hid (R3.out.trans r5); have P5 := Lib.hid p5; have S5 := Lib.hid s5; clear r5 p5 s5))
                      have HL := Lib.hid (HRP.out.2.2.2.2.2.1 d5 P5.out S5.out)
                      go_roundw
                      case rel => exact ⟨mid + 1, y, lim2, _, ap, d5, by first | rfl | go_num, rfl, rfl, rfl, rfl, by omega, by omega, hyb, hlm2, Lib.hid (P5.out.1.trans hsz4.out), R5, Lib.hid HL.out.1, Lib.hid (fun R q1 q2 => have k := HL.out.2 R q1 q2; hG.out R (Sort.permIn_trans _ _ _ _ _ hP3.out k.1) k.2)⟩
                      case measure => first | (simp [intOf]; omega) | simp [intOf]
                    · have hlti : ¬ (ll : Int) < (rl : Int) := by omega
                      have hmi : IntKind.i64.wrap ((mid : Int) + 1) = ((mid + 1 : Nat) : Int) := by rw [IntWalk.i64_in _ ⟨by omega, by omega⟩]; omega
                      have HQ := Lib.hid (fun (u : World) (hu : RowN w u g T pos d4) => HI.out g T pos d4 (mid + 1) y lim2 n cap u hnb2 hu.blk (by omega) (by rw [hsz4.out]; exact hyn) hsz4.out.symm hs hlm2 HRP.out.2.2.2.2.1)
                      simp only [Int.natCast_add, Int.cast_ofNat_Int] at HQ
                      go_wp2_with (first
                        | (go_at_call 178; refine (HC.out).mono ?_; rintro e w3 ⟨rfl, r3⟩; have R3 := Lib.hid (hR4.out.trans r3); clear r3)
                        | (go_at_call 150; refine (HQ.out _ R3.out).mono ?_; rintro e w5 ⟨rfl, d5, r5, p5, s5⟩; have R5 := Lib.hid (R3.out.trans r5); have P5 := Lib.hid p5; have S5 := Lib.hid s5; clear r5 p5 s5))
                      have HL := Lib.hid (HRP.out.2.2.2.2.2.2 d5 P5.out S5.out)
                      go_roundw
                      case rel => exact ⟨x, mid, lim2, _, ap, d5, rfl, rfl, rfl, rfl, rfl, hax, hm1, by omega, hlm2, Lib.hid (P5.out.1.trans hsz4.out), R5, Lib.hid HL.out.1, Lib.hid (fun R q1 q2 => have k := HL.out.2 R q1 q2; hG.out R (Sort.permIn_trans _ _ _ _ _ hP3.out k.1) k.2)⟩
                      case measure => first | (simp [intOf]; omega) | simp [intOf]
                  · have hcc := hcb.out rfl
                    have hc := peq_any g T pos d3 x y p2 cap wc hR4.out.blk (by omega) hp1 hp2 (by rw [hd3.out]; exact hyn) (by rw [hd3.out]; exact hs)
                    obtain ⟨mid, d4, hx⟩ : ∃ mid d4, Sort.partitionEqual ltN d3 x y p2 = (mid, d4) := ⟨_, _, rfl⟩
                    have hre := Sort.round_eq ltN_swo (Sort.partitionEqual_holds ltN) hcc.1 hp1 hp2 (by rw [hd3.out]; exact hyn) HB3.out hcc.2 hx
                    rw [hx] at hc
                    have hm1 := hre.1
                    have hm2 := hre.2.1
                    have HRE := Lib.hid hre
                    clear hre hx hcc
                    rw [hd3.out] at hc
                    have HC := Lib.hid hc
                    clear hc
                    go_wp2_with (go_at_call 177; refine (HC.out).mono ?_; rintro e w3 ⟨rfl, r3⟩; have R3 := Lib.hid (hR4.out.trans r3); clear r3)
                    go_roundw
                    case rel => exact ⟨mid, y, lim2, wb, wp, d4, rfl, rfl, rfl, rfl, rfl, by omega, hm2, hyb, hlm2, Lib.hid (HRE.out.2.2.1.trans hd3.out), R3, Lib.hid HRE.out.2.2.2.1, Lib.hid (fun R q1 q2 => have k := HRE.out.2.2.2.2 R q1 q2; hG.out R (Sort.permIn_trans _ _ _ _ _ hP3.out k.1) k.2)⟩
                    case measure => first | (simp [intOf]; omega) | simp [intOf]
theorem pdq_any : ∀ N, Sorts N
  | 0 => fun _ _ _ _ _ _ _ _ _ _ h => absurd h (Nat.not_lt_zero _)
  | N + 1 => pdq_step N (pdq_any N)
end Go.Proofs.YtcjdnifckngcfaaGreatDoor
end
