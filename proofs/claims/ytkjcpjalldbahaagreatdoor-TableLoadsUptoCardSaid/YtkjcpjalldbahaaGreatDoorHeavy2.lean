/- Contract: what is more than a statement of layer 18 plays (acts of short texts). -/
import Derived.Test.YtkjcpjalldbahaaGreatDoorM25
import Derived.Deep.DeepCutAuto
import Derived.Deep.CutBlock
namespace Go.Proofs.YtkjcpjalldbahaaGreatDoor
open Go.RowKit

set_option maxRecDepth 100000 in
set_option maxHeartbeats 8000000 in
theorem heavy2_any (w : World) (p : Option Addr) (c : Nat) (A : List ActR) (h : ActsR w p A) (hA : A.length ≤ 140737488355328) (hs : ∀ x ∈ A, x.Sz 1048576 1048576 1048576) :
    Calls Tryz.prog 6 #[.slice p A.length c] w (HeavyR18 A w) := by
  obtain ⟨n, hn⟩ : ∃ n, A.length = n := ⟨_, rfl⟩
  have HN := Lib.hid hn
  have HH := Lib.hid h
  have HS := Lib.hid hs
  rw [hn] at hA ⊢
  clear hn h hs
  go_enter Tryz.func6, Tryz.ntmps6
  go_wp2
  go_loopw [3, 4] (fun sv iv wr => ∃ (i s : Nat), i ≤ n ∧ i ≤ 100 ∧ iv = .int .i64 (i : Int) ∧ sv = .int .i64 (s : Int) ∧ Hid (8 * cntA (A.take i) ≤ s) ∧ s ≤ i * 5268045824 ∧ Hid (Ext w wr)) (fun _ iv _ => n - (intOf iv).toNat)
  case atStart => exact ⟨0, 0, Nat.zero_le _, Nat.zero_le _, rfl, rfl, Lib.hid (by simp [cntA]), Nat.zero_le _, Lib.hid (Ext.refl _)⟩
  case round =>
    obtain ⟨i, s, hi, hi100, rfl, rfl, HC, hsb, HX⟩ := hrel
    by_cases hlt : i < n ∧ i < 100
    · obtain ⟨hlt, hlt2⟩ := hlt
      obtain ⟨⟨dv, E, ae, ce, R, ar, cr, P, ap, cp⟩, hx⟩ : ∃ x, A[i]? = some x := ⟨_, List.getElem?_eq_getElem (by have := HN.out; omega)⟩
      obtain ⟨⟨a, rfl, hab, hcl⟩, hE, hR, hP⟩ := HH.out i _ hx
      obtain ⟨hEl, hRl, hPl, hEs, hRs⟩ := HS.out _ (List.mem_of_getElem? hx)
      dsimp only at hE hR hEl hRl hPl hEs hRs
      obtain ⟨el, hel⟩ : ∃ el, E.length = el := ⟨_, rfl⟩
      obtain ⟨rl, hrl⟩ : ∃ rl, R.length = rl := ⟨_, rfl⟩
      obtain ⟨pl, hpl⟩ : ∃ pl, P.length = pl := ⟨_, rfl⟩
      have HEL := Lib.hid hel
      have HRL := Lib.hid hrl
      have HE := Lib.hid hE
      have HR := Lib.hid hR
      have HEs := Lib.hid hEs
      have HRs := Lib.hid hRs
      have HCt : Hid (8 * cntA (A.take (i + 1)) ≤ s + 8 * (el + rl + pl)) := Lib.hid (by rw [cntA_take hx]; have := HC.out; dsimp only; omega)
      have HK := Lib.hid (fun u (x : Ext w u) (j : Nat) (v : Value) (hj : (ActR.cells ⟨dv, E, ae, ce, R, ar, cr, P, ap, cp⟩)[j]? = some v) => (show u.cell? (a.add (i * 4 + j)) = some v by rw [x.below.cell (p := a.add (i * 4 + j)) (by rw [add_blockV]; omega)]; exact hcl j v hj))
      have q1 : ∀ u, Ext w u → u.cell? ⟨(a.add (i * 4)).block, (a.add (i * 4)).off + 1, none⟩ = some (.slice ae el ce) := fun u x => actR_at (HK.out u x 1 _ (by unfold ActR.cells; dsimp only; rw [hel]; rfl))
      have q2 : ∀ u, Ext w u → u.cell? ⟨(a.add (i * 4)).block, (a.add (i * 4)).off + 2, none⟩ = some (.slice ar rl cr) := fun u x => actR_at (HK.out u x 2 _ (by unfold ActR.cells; dsimp only; rw [hrl]; rfl))
      have q3 : ∀ u, Ext w u → u.cell? ⟨(a.add (i * 4)).block, (a.add (i * 4)).off + 3, none⟩ = some (.slice ap pl cp) := fun u x => actR_at (HK.out u x 3 _ (by unfold ActR.cells; dsimp only; rw [hpl]; rfl))
      have c1 := q1 wr HX.out
      have c2 := q2 wr HX.out
      have c3 := q3 wr HX.out
      have Q1 := Lib.hid q1; have Q2 := Lib.hid q2
      rw [hel] at hEl
      rw [hrl] at hRl
      rw [hpl] at hPl
      have hwa : IntKind.i64.wrap ((el : Int) + (rl : Int)) = (el : Int) + (rl : Int) := IntWalk.i64_in _ ⟨by omega, by omega⟩
      have hwa2 : IntKind.i64.wrap ((el : Int) + (rl : Int) + (pl : Int)) = (el : Int) + (rl : Int) + (pl : Int) := IntWalk.i64_in _ ⟨by omega, by omega⟩
      have hwb : IntKind.i64.wrap (8 * ((el : Int) + (rl : Int) + (pl : Int))) = 8 * ((el : Int) + (rl : Int) + (pl : Int)) := IntWalk.i64_in _ ⟨by omega, by omega⟩
      obtain ⟨s1, hs1⟩ : ∃ s1, s + 8 * (el + rl + pl) = s1 := ⟨_, rfl⟩
      have hwc : IntKind.i64.wrap ((s : Int) + 8 * ((el : Int) + (rl : Int) + (pl : Int))) = (s1 : Int) := by rw [IntWalk.i64_in _ ⟨by omega, by omega⟩]; omega
      rw [hs1] at HCt
      obtain ⟨B0, hB0⟩ : ∃ b, i * 5268045824 + 25165824 = b := ⟨_, rfl⟩
      have hs1b : s1 ≤ B0 := by omega
      have hB0b : B0 ≤ 6000000000000000000 := by omega
      obtain ⟨B1, hB1⟩ : ∃ b, B0 + 209715200 = b := ⟨_, rfl⟩
      have hB1b : B1 ≤ 6100000000000000000 := by omega
      have hBP : B1 + 5033164800 = (i + 1) * 5268045824 := by omega
      have HB1 := Lib.hid hB1; have HBP := Lib.hid hBP
      clear hs1 hB0 hB1 hBP
      have hi100' : (i : Int) < 100 := by omega
      clear hx hE hR hP hEs hRs hcl hab hel hrl hpl hPl q1 q2 q3
      go_wp2
      go_quiet (fail)
      go_upto_block 2 with (fail)
      clear c1 c2 c3 hwa hwa2 hwb hwc
      have HXq := Lib.hid (HX.out.drewN nq)
      generalize wr.drewN nq = W at *
      go_cut [3] (fun sv wx => ∃ (sk : Nat), sv = .int .i64 (sk : Int) ∧ s1 ≤ sk ∧ sk ≤ B1 ∧ Hid (Ext w wx))
      case first =>
        go_wp2_with (fail)
        go_loopw [3, 5] (fun sv kv wk => ∃ (k sk : Nat), k ≤ el ∧ k ≤ 100 ∧ kv = .int .i64 (k : Int) ∧ sv = .int .i64 (sk : Int) ∧ s1 ≤ sk ∧ sk ≤ B0 + k * 2097152 ∧ Hid (Ext w wk)) (fun _ kv _ => el - (intOf kv).toNat)
        case atStart => exact ⟨0, s1, Nat.zero_le _, Nat.zero_le _, rfl, rfl, Nat.le_refl _, by omega, HXq⟩
        case round =>
          obtain ⟨k, sk, hk, hk100, rfl, rfl, hsk1, hsk2, HXk⟩ := hrel
          have d1 := Q1.out _ HXk.out
          by_cases hke : k < el ∧ k < 100
          · obtain ⟨h1, h2⟩ := hke
            have h2i : (k : Int) < 100 := by omega
            obtain ⟨⟨yk, yp, ya, yw, yn, yt⟩, hy⟩ : ∃ y, E[k]? = some y := ⟨_, List.getElem?_eq_getElem (by have := HEL.out; omega)⟩
            obtain ⟨hy1, hy2⟩ := HEs.out _ (List.mem_of_getElem? hy)
            obtain ⟨b, e0, g0, g1, g2, g3, g4, g5⟩ := HE.out.six HXk.out hy
            dsimp only at hy1 hy2 g0 g1 g2 g3 g4 g5
            cases e0
            have hwd : IntKind.i64.wrap ((sk : Int) + (yt.size : Int)) = (sk : Int) + (yt.size : Int) := IntWalk.i64_in _ ⟨by omega, by omega⟩
            obtain ⟨s2, hs2⟩ : ∃ s2, sk + yt.size + yp.size = s2 := ⟨_, rfl⟩
            have hwe : IntKind.i64.wrap ((sk : Int) + (yt.size : Int) + (yp.size : Int)) = (s2 : Int) := by rw [IntWalk.i64_in _ ⟨by omega, by omega⟩]; omega
            have hs2a : s1 ≤ s2 := by omega
            have hs2b : s2 ≤ B0 + (k + 1) * 2097152 := by omega
            clear hy hy1 hy2 hs2 hsk1 hsk2
            go_wp2
            go_quiet (fail)
            go_wp2
            go_roundw
            case rel => exact ⟨k + 1, s2, by omega, by omega, by go_num, rfl, hs2a, hs2b, Lib.hid (HXk.out.drewN _)⟩
            case measure => simp [intOf]; omega
          · have hfin : sk ≤ B1 := by have := HB1.out; omega
            have hex : (¬ k < el ∧ decide ((k : Int) < (el : Int)) = false) ∨ (k < el ∧ decide ((k : Int) < 100) = false) := by
              by_cases h1 : k < el
              · exact .inr ⟨h1, decide_eq_false (by omega)⟩
              · exact .inl ⟨h1, decide_eq_false (by omega)⟩
            clear hke hsk2
            rcases hex with ⟨h1, h2⟩ | ⟨h1, h2⟩
            all_goals
              go_wp2
              go_meet
              exact ⟨sk, rfl, hsk1, hfin, HXk⟩
      case rest =>
        obtain ⟨sq, rfl, hsq1, hsq2, HXr⟩ := hcut
        clear HXq
        go_wp2
        go_loopw [3, 6] (fun nv kv wm => ∃ (k2 sk2 : Nat), k2 ≤ rl ∧ k2 ≤ 100 ∧ kv = .int .i64 (k2 : Int) ∧ nv = .int .i64 (sk2 : Int) ∧ s1 ≤ sk2 ∧ sk2 ≤ B1 + k2 * 50331648 ∧ Hid (Ext w wm)) (fun _ kv _ => rl - (intOf kv).toNat)
        case atStart => exact ⟨0, sq, Nat.zero_le _, Nat.zero_le _, rfl, rfl, hsq1, by omega, HXr⟩
        case round =>
          clear hsq1 hsq2 hs1b hB0b
          obtain ⟨k, sk, hk, hk100, rfl, rfl, hsk1, hsk2, HXk⟩ := hrel
          have d2 := Q2.out _ HXk.out
          by_cases hke : k < rl ∧ k < 100
          · obtain ⟨h1, h2⟩ := hke
            have h2i : (k : Int) < 100 := by omega
            obtain ⟨⟨yp, ym, yL, ya, yc⟩, hy⟩ : ∃ y, R[k]? = some y := ⟨_, List.getElem?_eq_getElem (by have := HRL.out; omega)⟩
            obtain ⟨hy1, hy2⟩ := HRs.out _ (List.mem_of_getElem? hy)
            obtain ⟨b, e0, g0, g1, g2⟩ := HR.out.three HXk.out hy
            have hv := (HR.out.2 _ (List.mem_of_getElem? hy)).ext HXk.out
            dsimp only at hy1 hy2 g0 g1 g2 hv
            cases e0
            obtain ⟨vl, hvl⟩ : ∃ vl, yL.length = vl := ⟨_, rfl⟩
            rw [hvl] at hy1 g2
            have HVL := Lib.hid hvl
            have HV := Lib.hid (hv.ext ((Ext.refl wr).alloc (.cells #[.int .u64 (ym : Int), .slice ya vl yc] 55)))
            have HVs := Lib.hid hy2
            have HB := Lib.hid (Blk.new wr [.int .u64 (ym : Int), .slice ya vl yc] 55)
            have HXa := Lib.hid ((Ext.refl wr).alloc (.cells #[.int .u64 (ym : Int), .slice ya vl yc] 55))
            have hwd : IntKind.i64.wrap (8 * (vl : Int)) = 8 * (vl : Int) := IntWalk.i64_in _ ⟨by omega, by omega⟩
            obtain ⟨s2, hs2⟩ : ∃ s2, sk + 8 * vl = s2 := ⟨_, rfl⟩
            have hwe : IntKind.i64.wrap ((sk : Int) + 8 * (vl : Int)) = (s2 : Int) := by rw [IntWalk.i64_in _ ⟨by omega, by omega⟩]; omega
            have hs2a : s1 ≤ s2 := by omega
            obtain ⟨B2, hB2⟩ : ∃ b, B1 + k * 50331648 + 8388608 = b := ⟨_, rfl⟩
            have hs2b : s2 ≤ B2 := by omega
            have hB2b : B2 ≤ 7000000000000000000 := by omega
            have HB2 := Lib.hid hB2
            clear hB2
            clear hy hy2 hv hvl hs2 hsk1 hsk2
            go_wp2
            generalize hWA : wr.alloc (.cells #[.int .u64 (ym : Int), .slice ya vl yc] 55) = WA at *
            clear hWA g0 g1 g2 d2 hwd hwe hy1
            go_loopw [3, 8] (fun nv jv wm => ∃ (j sj : Nat), j ≤ vl ∧ j ≤ 40 ∧ jv = .int .i64 (j : Int) ∧ nv = .int .i64 (sj : Int) ∧ s1 ≤ sj ∧ sj ≤ B2 + j * 1048576 ∧ Hid (Ext WA wm)) (fun _ jv _ => vl - (intOf jv).toNat)
            case atStart => exact ⟨0, s2, Nat.zero_le _, Nat.zero_le _, rfl, rfl, hs2a, by omega, Lib.hid (Ext.refl _)⟩
            case round =>
              clear hs2a hs2b
              obtain ⟨j, sj, hj, hj40, rfl, rfl, hsj1, hsj2, HXm⟩ := hrel
              have b1 := (HB.out.ext HXm.out).cell 1 _ rfl
              by_cases hje : j < vl ∧ j < 40
              · obtain ⟨q1, q2⟩ := hje
                have q2i : (j : Int) < 40 := by omega
                obtain ⟨⟨vn, vs, vt⟩, hy⟩ : ∃ y, yL[j]? = some y := ⟨_, List.getElem?_eq_getElem (by have := HVL.out; omega)⟩
                have hvt := HVs.out _ (List.mem_of_getElem? hy)
                obtain ⟨va, e0, -, hcv⟩ := (HV.out.ext HXm.out) j _ hy
                have v2 := ver_at (hcv 2 _ rfl)
                dsimp only at hvt v2
                cases e0
                obtain ⟨s3, hs3⟩ : ∃ s3, sj + vt.size = s3 := ⟨_, rfl⟩
                have hwf : IntKind.i64.wrap ((sj : Int) + (vt.size : Int)) = (s3 : Int) := by rw [IntWalk.i64_in _ ⟨by omega, by omega⟩]; omega
                have hs3a : s1 ≤ s3 := by omega
                have hs3b : s3 ≤ B2 + (j + 1) * 1048576 := by omega
                clear hy hvt hcv hs3 hsj1 hsj2
                go_wp2
                go_roundw
                case rel => exact ⟨j + 1, s3, by omega, by omega, by go_num, rfl, hs3a, hs3b, HXm⟩
                case measure => simp [intOf]; omega
              · have hfin : sj ≤ B1 + (k + 1) * 50331648 := by have := HB2.out; omega
                have hex : (¬ j < vl ∧ decide ((j : Int) < (vl : Int)) = false) ∨ (j < vl ∧ decide ((j : Int) < 40) = false) := by
                  by_cases h1 : j < vl
                  · exact .inr ⟨h1, decide_eq_false (by omega)⟩
                  · exact .inl ⟨h1, decide_eq_false (by omega)⟩
                clear hje hsj2
                rcases hex with ⟨q1, q2⟩ | ⟨q1, q2⟩
                all_goals
                  go_wp2
                  go_roundw
                  case rel => exact ⟨k + 1, sj, by omega, by omega, by go_num, rfl, hsj1, hfin, Lib.hid (HXk.out.trans (HXa.out.trans HXm.out))⟩
                  case measure => simp [intOf]; omega
          · have hfin : sk ≤ (i + 1) * 5268045824 := by have := HBP.out; omega
            have HF : Hid (8 * cntA (A.take (i + 1)) ≤ sk) := Lib.hid (by have := HCt.out; omega)
            have hex : (¬ k < rl ∧ decide ((k : Int) < (rl : Int)) = false) ∨ (k < rl ∧ decide ((k : Int) < 100) = false) := by
              by_cases h1 : k < rl
              · exact .inr ⟨h1, decide_eq_false (by omega)⟩
              · exact .inl ⟨h1, decide_eq_false (by omega)⟩
            clear hke hsk2
            rcases hex with ⟨h1, h2⟩ | ⟨h1, h2⟩
            all_goals
              go_wp2
              go_roundw
              case rel => first | exact ⟨i + 1, sk, by omega, by omega, by go_num, rfl, HF, hfin, HXk⟩ | ((repeat apply Exists.intro); exact ⟨⟨show i + 1 ≤ n by omega, show i + 1 ≤ 100 by omega, by go_num, rfl, HF, hfin, HXk⟩, rfl⟩)
              case measure => simp [intOf]; omega
    · have hc := HC.out
      have hex : (¬ i < n ∧ decide ((i : Int) < (n : Int)) = false) ∨ (i < n ∧ decide ((i : Int) < 100) = false ∧ 40 < n) := by
        by_cases h1 : i < n
        · exact .inr ⟨h1, decide_eq_false (by omega), by omega⟩
        · exact .inl ⟨h1, decide_eq_false (by omega)⟩
      clear hlt
      rcases hex with ⟨h1, h2⟩ | ⟨h1, h2, h3⟩
      · obtain rfl : i = n := by omega
        rw [List.take_of_length_le (by rw [HN.out]; exact Nat.le_refl _)] at hc
        by_cases hb : 40 < i
        · have hb' : decide ((40 : Int) < (i : Int)) = true := decide_eq_true (by omega)
          go_wp2
          go_ret
          exact ⟨true, rfl, (fun q => by cases q), HX.out⟩
        · have hn40' : decide ((40 : Int) < (i : Int)) = false := decide_eq_false (by omega)
          by_cases hg : (8192 : Int) < (s : Int)
          · go_wp2
            go_ret
            exact ⟨true, rfl, (fun q => by cases q), HX.out⟩
          · have hg' : decide ((8192 : Int) < (s : Int)) = false := decide_eq_false hg
            have hcl : cntA A ≤ 1024 := by omega
            go_wp2
            go_ret
            exact ⟨false, rfl, (fun _ => ⟨by rw [HN.out]; omega, hcl⟩), HX.out⟩
      · have hb' : decide ((40 : Int) < (n : Int)) = true := decide_eq_true (by omega)
        go_wp2
        go_ret
        exact ⟨true, rfl, (fun q => by cases q), HX.out⟩
end Go.Proofs.YtkjcpjalldbahaaGreatDoor
