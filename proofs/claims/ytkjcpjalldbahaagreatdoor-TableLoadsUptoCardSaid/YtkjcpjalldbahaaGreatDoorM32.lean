/- Contracts: Load of a table that is there, by the program. Contract: Load of any rows, by the program. -/
import Derived.Test.YtkjcpjalldbahaaGreatDoorM31
import Derived.Test.YtkjcpjalldbahaaGreatDoorM24
import Derived.Test.YtkjcpjalldbahaaGreatDoorM19
import Derived.Test.YtkjcpjalldbahaaGreatDoorM25
section
namespace Go.Proofs.YtkjcpjalldbahaaGreatDoor
open Go.RowKit Go.ChangeMaps Go.MapKept

set_option maxRecDepth 100000 in
set_option maxHeartbeats 2000000 in
theorem isRowL_any (w : World) (s : ByteArray) (hs : s.size ≤ 140737488351232) (m : Nat) (p : Option Addr) (c : Nat) (L : List Ver) (h : VersP w p L) (hl : L.length ≤ 140737488355328) :
    Calls Tryz.prog 47 #[.agg #[.string s, .int .u64 (m : Int), .slice p L.length c]] w fun e w' => e = .returned (.bool (okR ⟨s, m, L⟩)) ∧ Ext w w' := by
  have HX0 := Lib.hid ((Ext.refl w).alloc (.cells #[.string s, .int .u64 (m : Int), .slice p L.length c] 57))
  have HB0 := Lib.hid (Blk.new w [.string s, .int .u64 (m : Int), .slice p L.length c] 57)
  have HP := Lib.hid (fun u => May_any s hs u)
  have HM := Lib.hid (fun u (x : Ext w u) => may_any u m p c L (h.ext x) (by omega))
  have hO : okR ⟨s, m, L⟩ = (mayB s.data.toList && mayL m L && decide ((0 : Int) < (L.length : Int))) := by
    unfold okR
    congr 1
    rw [decide_eq_decide]
    dsimp only
    omega
  rw [hO]
  generalize mayB s.data.toList = A at *
  generalize mayL m L = B at *
  generalize L.length = n at *
  clear h hO hs hl
  go_enter Tryz.func47, Tryz.ntmps47
  cases A
  · go_wp2_with (go_at_call 34; refine (HP.out _).mono ?_; rintro e w1 ⟨rfl, x1⟩)
    go_ret
    exact ⟨rfl, HX0.out.trans x1⟩
  · cases B
    all_goals
      go_wp2_with (first | (go_at_call 34; refine (HP.out _).mono ?_; rintro e w1 ⟨rfl, x1⟩; have HX1 := Lib.hid (HX0.out.trans x1); have B1 := Lib.hid (HB0.out.ext x1); have a1 := B1.out.cell 1 _ rfl; have a2 := B1.out.cell 2 _ rfl; clear x1) | (go_at_call 72; refine (HM.out _ HX1.out).mono ?_; rintro e w2 ⟨rfl, x2⟩; have HX2 := Lib.hid (HX1.out.trans x2); have B2 := Lib.hid (B1.out.ext x2); have a2 := B2.out.cell 2 _ rfl; clear x2))
      go_ret
      exact ⟨by simp, HX2.out⟩
/-- A row that may not be: nothing is loaded. -/
theorem load_bad_end {M : List Ent} (hb : (M.map Ent.row).all okR = false) (h : ∀ e ∈ M, okR e.row = true) : False := by
  have : (M.map Ent.row).all okR = true := by
    rw [List.all_map, List.all_eq_true]
    exact h
  rw [this] at hb
  cases hb
set_option maxRecDepth 100000 in
set_option maxHeartbeats 2000000 in
theorem tload_bad (w : World) (t b : Nat) (hc : w.cell? ⟨t, 2, none⟩ = some (.map (some b))) (p : Option Addr) (c : Nat) (M : List Ent) (hM : RowsP w p M) (hs : ∀ e ∈ M, e.p.size ≤ 140737488351232 ∧ e.L.length ≤ 140737488355328) (hn : M.length ≤ 140737488355328) (hb : (M.map Ent.row).all okR = false) :
    Calls Tryz.prog 21 #[.pointer (some ⟨t, 0, none⟩), .slice p M.length c] w fun e w' => e = .returned (.int .i64 2) ∧ Ext w w' := by
  have HP := Lib.hid hM
  have HS := Lib.hid hs
  have HB := Lib.hid (fun q => load_bad_end hb q)
  obtain ⟨n, hnn⟩ : ∃ n, M.length = n := ⟨_, rfl⟩
  have HN := Lib.hid hnn
  rw [hnn] at hn ⊢
  clear hM hs hnn hb
  go_enter Tryz.func21, Tryz.ntmps21
  go_wp2_with (go_at_call 33; refine (tthere_yes _ t b hc).mono ?_; rintro e w1 ⟨rfl, rfl⟩)
  go_loopw [19] (fun iv wr => ∃ (i : Nat), i ≤ n ∧ iv = .int .i64 (i : Int) ∧ Hid (∀ e ∈ M.take i, okR e.row = true) ∧ Hid (Ext w wr)) (fun iv _ => n - (intOf iv).toNat)
  case atStart => exact ⟨0, Nat.zero_le _, rfl, Lib.hid (by simp), Lib.hid (Ext.refl _)⟩
  case round =>
    obtain ⟨i, hi, rfl, HO, HX⟩ := hrel
    by_cases hlt : i < n
    · obtain ⟨⟨xp, xm, xL, xa, xc⟩, hx⟩ : ∃ x, M[i]? = some x := ⟨_, List.getElem?_eq_getElem (by have := HN.out; omega)⟩
      obtain ⟨pa, rfl, c0, c1, c2⟩ := HP.out.three HX.out hx
      have hv := HP.out.2 _ (List.mem_of_getElem? hx)
      obtain ⟨hs1, hs2⟩ := HS.out _ (List.mem_of_getElem? hx)
      dsimp only at c0 c1 c2 hv hs1 hs2
      have HIs := Lib.hid (fun u (x : Ext w u) => isRowL_any u xp hs1 xm xa xc xL (hv.ext x) hs2)
      have HO2 : Hid (okR ⟨xp, xm, xL⟩ = true → ∀ e ∈ M.take (i + 1), okR e.row = true) := Lib.hid (fun q e he => by
        rw [List.take_add_one, hx] at he
        rcases List.mem_append.1 he with h1 | h1
        · exact HO.out e h1
        · simp at h1; subst h1; exact q)
      have HX2 := Lib.hid ((Ext.refl wr).alloc (.cells #[.string xp, .int .u64 (xm : Int), .slice xa xL.length xc] 57))
      generalize okR ⟨xp, xm, xL⟩ = ok at *
      generalize xL.length = k at *
      clear hx hv hs1 hs2
      cases ok with
      | false =>
        go_wp2_with (go_at_call 47; refine (HIs.out _ (HX.out.trans HX2.out)).mono ?_; rintro e w2 ⟨rfl, x2⟩)
        go_ret
        exact ⟨rfl, (HX.out.trans HX2.out).trans x2⟩
      | true =>
        go_wp2_with (go_at_call 47; refine (HIs.out _ (HX.out.trans HX2.out)).mono ?_; rintro e w2 ⟨rfl, x2⟩; have HX3 := Lib.hid ((HX.out.trans HX2.out).trans x2); clear x2)
        go_roundw
        case rel => exact ⟨i + 1, hlt, by go_num, Lib.hid (by first | exact HO2.out rfl | exact HO2.out trivial), HX3⟩
        case measure => simp [intOf]; omega
    · obtain rfl : i = n := by omega
      exact (HB.out (fun e he => HO.out e (by rw [List.take_of_length_le (by rw [HN.out]; exact Nat.le_refl _)]; exact he))).elim
/-- What Load answers and leaves, of rows that may all be. -/
structure LoadP (lo t b : Nat) (qp qb : Int) (D : List RowP) (dup : Bool) (w : World) (e : Ending) (w' : World) : Prop where
  twice : dup = true → e = .returned (.int .i64 8) ∧ Ext w w'
  fine : dup = false → e = .returned (.int .i64 0) ∧ IsT w' lo t b qp qb D ∧ Turn (TB t b) w w'
theorem okR_texts {r : RowP} (h : OkR r) : ∀ v ∈ r.L, v.t.size ≤ 4096 := fun v hv => okV_size ((rise_mem (mayL_iff.1 h.cell).2 v hv).2.2)
theorem hasR_lay {s : List RowP} (hn : (s.map (·.p)).Nodup) (p : ByteArray) : hasR (layR [] s) p = hasR s p := by
  have h : hasR (layR [] s) p = true ↔ hasR s p = true := by
    rw [hasR_iff, hasR_iff]
    constructor
    · rintro ⟨r, hr, rfl⟩
      rcases (layR_mem s RisesR.nil hn r).1 hr with q | ⟨q, _⟩
      · exact ⟨r, q, rfl⟩
      · cases q
    · rintro ⟨r, hr, rfl⟩
      exact ⟨r, (layR_mem s RisesR.nil hn r).2 (.inl hr), rfl⟩
  cases h1 : hasR (layR [] s) p <;> cases h2 : hasR s p <;> simp_all
set_option maxRecDepth 100000 in
set_option maxHeartbeats 4000000 in
theorem tload_ok (w : World) (lo t b : Nat) (qp qb : Int) (R : List RowP) (h : IsT w lo t b qp qb R) (hlo : lo ≤ w.heap.size) (hl : R.length ≤ 800000) (p : Option Addr) (c : Nat) (M : List Ent) (hM : RowsP w p M) (hs : ∀ e ∈ M, OkR e.row) (hn : M.length ≤ 5000) :
    Calls Tryz.prog 21 #[.pointer (some ⟨t, 0, none⟩), .slice p M.length c] w fun e w' => LoadP lo t b qp qb (layR R (M.map Ent.row)) (dupR R [] (M.map Ent.row)) w e w' := by
  have hc := h.cell
  have HT := Lib.hid h
  have HLo := Lib.hid hlo
  have HRL := Lib.hid hl
  have HP := Lib.hid hM
  have HS := Lib.hid hs
  obtain ⟨n, hnn⟩ : ∃ n, M.length = n := ⟨_, rfl⟩
  have HN := Lib.hid hnn
  have HN5 : Hid (n ≤ 5000) := Lib.hid (by omega)
  obtain ⟨dup, hdup⟩ : ∃ d, dupR R [] (M.map Ent.row) = d := ⟨_, rfl⟩
  have HD0 := Lib.hid hdup
  rw [hnn] at hn ⊢
  rw [hdup]
  obtain ⟨D, hDD⟩ : ∃ D, layR R (M.map Ent.row) = D := ⟨_, rfl⟩
  have HDD := Lib.hid hDD
  rw [hDD]
  clear hM hs hnn h hlo hl hdup hDD
  have hmm := @run_makeMap Tryz.prog
  go_enter Tryz.func21, Tryz.ntmps21
  go_wp2_with (go_at_call 33; refine (tthere_yes _ t b hc).mono ?_; rintro e w1 ⟨rfl, rfl⟩)
  go_loopw [19] (fun iv wr => ∃ (i : Nat), i ≤ n ∧ iv = .int .i64 (i : Int) ∧ Hid (Ext w wr)) (fun iv _ => n - (intOf iv).toNat)
  case atStart => exact ⟨0, Nat.zero_le _, rfl, Lib.hid (Ext.refl _)⟩
  case round =>
    obtain ⟨i, hi, rfl, HX⟩ := hrel
    by_cases hlt : i < n
    · obtain ⟨⟨xp, xm, xL, xa, xc⟩, hx⟩ : ∃ x, M[i]? = some x := ⟨_, List.getElem?_eq_getElem (by have := HN.out; omega)⟩
      obtain ⟨pa, rfl, c0, c1, c2⟩ := HP.out.three HX.out hx
      have hv := HP.out.2 _ (List.mem_of_getElem? hx)
      have hok := HS.out _ (List.mem_of_getElem? hx)
      have hps := may_size hok.path
      have hlen := hok.len
      have hoo := (okR_iff hok.num).2 hok
      dsimp only [Ent.row] at c0 c1 c2 hv hps hlen hoo
      have HIs : Hid (∀ u, Ext w u → Calls Tryz.prog 47 #[.agg #[.string xp, .int .u64 (xm : Int), .slice xa xL.length xc]] u fun e w' => e = .returned (.bool true) ∧ Ext u w') := Lib.hid (fun u (x : Ext w u) => by have := isRowL_any u xp (by omega) xm xa xc xL (hv.ext x) (by omega); rwa [hoo] at this)
      have HX2 := Lib.hid ((Ext.refl wr).alloc (.cells #[.string xp, .int .u64 (xm : Int), .slice xa xL.length xc] 57))
      generalize xL.length = k at *
      clear hx hv hok hps hlen hoo
      go_wp2_with (go_at_call 47; refine (HIs.out _ (HX.out.trans HX2.out)).mono ?_; rintro e w2 ⟨rfl, x2⟩; have HX3 := Lib.hid ((HX.out.trans HX2.out).trans x2); clear x2)
      go_roundw
      case rel => exact ⟨i + 1, hlt, by go_num, HX3⟩
      case measure => simp [intOf]; omega
    · obtain rfl : i = n := by omega
      go_wp2
      have HM0 := Lib.hid (IsM.made wr w.heap.size)
      have HX0 := Lib.hid (HX.out.alloc (.map #[] 0))
      have HMb : Hid (w.heap.size ≤ wr.heap.size) := Lib.hid HX.out.size
      obtain ⟨mb, hmb⟩ : ∃ m, wr.heap.size = m := ⟨_, rfl⟩
      rw [hmb] at HM0 HMb ⊢
      generalize wr.alloc (.map #[] 0) = wv at *
      clear hmb
      go_loopw [30] (fun iv wq => ∃ (j : Nat) (X : List RowP), j ≤ i ∧ iv = .int .i64 (j : Int) ∧ Hid (IsM wq w.heap.size mb X) ∧ Hid (X = layR [] ((M.take j).map Ent.row)) ∧ Hid (dupR R ((M.take j).map Ent.row) ((M.drop j).map Ent.row) = dup) ∧ Hid ((((M.take j).map Ent.row).map (·.p)).Nodup) ∧ Hid (Ext w wq)) (fun iv _ => i - (intOf iv).toNat)
      case atStart => exact ⟨0, [], Nat.zero_le _, rfl, HM0, Lib.hid rfl, HD0, Lib.hid (by simp), HX0⟩
      case round =>
        obtain ⟨j, X, hj, rfl, HMX, HXe, HDu, HNd, HXq⟩ := hrel
        by_cases hlt2 : j < i
        · obtain ⟨⟨xp, xm, xL, xa, xc⟩, hx⟩ : ∃ x, M[j]? = some x := ⟨_, List.getElem?_eq_getElem (by have := HN.out; omega)⟩
          obtain ⟨pa, rfl, c0, c1, c2⟩ := HP.out.three HXq.out hx
          have hv := HP.out.2 _ (List.mem_of_getElem? hx)
          have hok := HS.out _ (List.mem_of_getElem? hx)
          have hps := may_size hok.path
          have hlen := hok.len
          have htx := okR_texts hok
          have HOk := Lib.hid hok
          dsimp only [Ent.row] at c0 c1 c2 hv hps hlen htx
          have hdr : (M.drop j).map Ent.row = ⟨xp, xm, xL⟩ :: (M.drop (j + 1)).map Ent.row := by
            obtain ⟨q1, q2⟩ := List.getElem?_eq_some_iff.1 hx
            rw [List.drop_eq_getElem_cons q1, q2]
            rfl
          have htk : (M.take (j + 1)).map Ent.row = (M.take j).map Ent.row ++ [⟨xp, xm, xL⟩] := by
            rw [List.take_add_one, hx]
            simp [Ent.row]
          have hdu := HDu.out
          rw [hdr] at hdu
          unfold dupR at hdu
          have hhl := hasR_lay HNd.out xp
          rw [← HXe.out] at hhl
          dsimp only at hdu
          rw [← hhl] at hdu
          have hXg : RisesR X := by rw [HXe.out]; exact layR_rises _ RisesR.nil
          obtain ⟨a2, k2, hv2, _, hrun2⟩ := HMX.out.look xp (by omega)
          have HLk := Lib.hid (fun u (x : Ext wr u) => hrun2 u x true)
          simp only [if_true] at HLk
          have HHs := Lib.hid (fun u (x : Ext w u) => thas_any u lo t b qp qb R (HT.out.ext x) xp (by omega))
          have HOwn := Lib.hid (fun u (x : Ext w u) => own_any u xm xa xc xL (hv.ext x) (by omega) (fun v hvv => by have := htx v hvv; omega))
          have HSt := Lib.hid (fun u (hu : IsM u w.heap.size mb X) a c' (hvu : VersT u a xL) hlo => hu.store hXg ⟨xp, xm, xL⟩ (by dsimp only; omega) a c' hvu hlo)
          dsimp only at HSt
          have hl1 := HLk.out (wr.alloc (.cells #[.string xp, .int .u64 (xm : Int), .slice xa xL.length xc] 57)) ((Ext.refl wr).alloc _)
          generalize (cellR X xp).1 = m2 at *
          generalize (cellR X xp).2.length = n2 at *
          generalize xL.length = k at *
          have HX2 := Lib.hid (((Ext.refl wr).alloc (.cells #[.string xp, .int .u64 (xm : Int), .slice xa k xc] 57)).alloc (.cells #[.int .u64 (m2 : Int), .slice a2 n2 k2] 55))
          have HBr := Lib.hid ((Blk.new wr [.string xp, .int .u64 (xm : Int), .slice xa k xc] 57).alloc (.cells #[.int .u64 (m2 : Int), .slice a2 n2 k2] 55))
          have HDu2 := Lib.hid hdu
          have HTk := Lib.hid htk
          have HHl := Lib.hid hhl
          generalize hasR X xp = tw at *
          generalize hasR R xp = hs at *
          clear hx hv hok hps hlen htx hdr htk hdu hXg hv2 hrun2 hhl
          cases tw with
          | true =>
            go_wp2
            go_ret
            have := HDu2.out
            simp at this
            subst this
            exact ⟨fun _ => ⟨rfl, HXq.out.trans HX2.out⟩, fun q => by cases q⟩
          | false =>
            cases hs with
            | true =>
              go_wp2_with (go_at_call 48; refine (HHs.out _ (HXq.out.trans HX2.out)).mono ?_; rintro e w2 ⟨rfl, x2⟩)
              go_ret
              have := HDu2.out
              simp at this
              subst this
              exact ⟨fun _ => ⟨rfl, (HXq.out.trans HX2.out).trans x2⟩, fun q => by cases q⟩
            | false =>
              go_wp2_with (go_at_call 48; refine (HHs.out _ (HXq.out.trans HX2.out)).mono ?_; rintro e w2 ⟨rfl, x2⟩; have HX3 := Lib.hid (HX2.out.trans x2); have HBs := Lib.hid (HBr.out.ext x2); clear x2)
              have x0 : Ext w2 w2.drew := (Ext.refl w2).drew
              have b0 : w2.drew.cell? ⟨wr.heap.size, 0, none⟩ = _ := HBs.out.drew.cell 0 _ rfl
              have b1 : w2.drew.cell? ⟨wr.heap.size, 1, none⟩ = _ := HBs.out.drew.cell 1 _ rfl
              have b2 : w2.drew.cell? ⟨wr.heap.size, 2, none⟩ = _ := HBs.out.drew.cell 2 _ rfl
              have HXw := Lib.hid ((HXq.out.trans HX3.out).trans x0)
              go_region_law (first
                | (go_simp; go_at_call 49; refine (HOwn.out _ HXw.out).mono ?_; rintro e w3 ⟨q3, k3, rfl, v3, x3⟩; have HX4 := Lib.hid (HXw.out.trans x3); have B4 := Lib.hid (HBs.out.drew.ext x3); have b0 := B4.out.cell 0 _ rfl; have b1 := B4.out.cell 1 _ rfl; have b2 := B4.out.cell 2 _ rfl; obtain ⟨w5, hrun, hm5, ht5⟩ := HSt.out w3 (((HMX.out.ext HX3.out).ext x0).ext x3) q3 k3 v3.versT (fun x hx => Nat.le_trans HXw.out.size (v3.low' x hx)); have HM5 := Lib.hid hm5; have HT5 := Lib.hid ht5; clear x3 v3 hm5 ht5))
              all_goals
                go_wp2
                go_roundw
                case rel => exact ⟨j + 1, withR ⟨xp, xm, xL⟩ X, hlt2, by go_num, HM5, Lib.hid (by rw [HTk.out, layR_snoc, HXe.out]), Lib.hid (by rw [HTk.out]; have := HDu2.out; simpa using this), Lib.hid (by
                    rw [HTk.out, List.map_append, List.nodup_append]
                    refine ⟨HNd.out, by simp, fun y hy z hz => ?_⟩
                    simp at hz
                    obtain ⟨r, hr, rfl⟩ := List.mem_map.1 hy
                    intro e
                    rw [hz] at e
                    have h1 := HHl.out
                    have h2 : hasR ((M.take j).map Ent.row) xp = true := hasR_iff.2 ⟨r, hr, e⟩
                    rw [h2] at h1
                    cases h1), Lib.hid (((Turn.ofExt (fun g => g = mb) HX4.out).map HT5.out (.inl rfl)).toExt (fun g q => by subst q; exact HMb.out))⟩
                case measure => simp [intOf]; omega
        · obtain rfl : j = i := by omega
          have htk : M.take j = M := List.take_of_length_le (by rw [HN.out]; exact Nat.le_refl _)
          have hdu := HDu.out
          rw [List.drop_of_length_le (by rw [HN.out]; exact Nat.le_refl _)] at hdu
          have hdf : dup = false := hdu.symm
          subst hdf
          rw [htk] at HXe HNd
          have hD := HDD.out
          have hall : ∀ r ∈ M.map Ent.row, OkR r := fun r hr => by
            obtain ⟨e, he, rfl⟩ := List.mem_map.1 hr
            exact HS.out e he
          have HXG : Hid (GoodR X) := Lib.hid (by rw [HXe.out]; exact layR_good _ GoodR.nil hall)
          have HDG : Hid (GoodR D) := Lib.hid (by rw [← hD]; exact layR_good _ HT.out.good hall)
          have HXL : Hid (X.length ≤ 5000) := Lib.hid (by
            have h1 := layR_len (M.map Ent.row) RisesR.nil
            rw [← HXe.out, List.length_map, HN.out] at h1
            have := HN5.out
            simp at h1
            omega)
          have HOV : Hid (Ov R X D) := Lib.hid (fun x => by
            rw [← hD, layR_mem _ HT.out.good.up HNd.out x, HXe.out]
            have hm := fun y => layR_mem _ RisesR.nil HNd.out (x := y)
            constructor
            · rintro (q | ⟨q1, q2⟩)
              · exact .inl ((hm x).2 (.inl q))
              · exact .inr ⟨q1, fun y hy => by rcases (hm y).1 hy with k | ⟨k, _⟩; · exact q2 y k
                                               · cases k⟩
            · rintro (q | ⟨q1, q2⟩)
              · rcases (hm x).1 q with k | ⟨k, _⟩
                · exact .inl k
                · cases k
              · exact .inr ⟨q1, fun y hy => q2 y ((hm y).2 (.inl hy))⟩)
          obtain ⟨MM, hME⟩ := HMX.out
          have HME := Lib.hid hME
          obtain ⟨w1, hw1⟩ : ∃ u, wr = u := ⟨_, rfl⟩
          rw [hw1] at HME HXq ⊢
          clear htk hdu hD hall HXe HNd HDu HMX hME hw1 HD0 HM0 HX0 HX
          go_wp2_with (at_range; refine wpList_range_L _ rfl _ 71 rfl 9 55 Tryz.underlying71 mb (MM.map kvE) rfl HME.out.map ?_; intro w0 hrg hx0 hs0)
          have HRG := Lib.hid hrg
          have HX0 := Lib.hid hx0
          obtain ⟨r, hr⟩ : ∃ r, w1.heap.size = r := ⟨_, rfl⟩
          have HRr : Hid (w.heap.size ≤ r) := Lib.hid (by rw [← hr]; exact HXq.out.size)
          rw [hr] at HRG ⊢
          clear hrg hx0 hs0 hr
          have HNe : Hid (¬ TB t b mb ∧ ¬ TB t b r) := Lib.hid (by
            have h1 := HT.out.blk.lt
            have h2 := HT.out.map.lt
            have h3 := HMb.out
            have h5 := HRr.out
            refine ⟨fun q => ?_, fun q => ?_⟩ <;> (rcases q with q | q <;> omega))
          go_frame
          go_loopw [] (fun wq => ∃ (left : List (Value × Value)) (done : List Ent), Hid (Gone MM left done) ∧ Hid (RangeL wq Tryz.prog 9 mb r (MM.map kvE) left) ∧ Hid (IsT wq lo t b qp qb (layR R (done.map Ent.row))) ∧ Hid (∀ e ∈ MM, EntP wq w.heap.size e) ∧ Hid (Turn (TB t b) w wq)) (fun wq => wq.rangeLeft mb r)
          case atStart => exact ⟨MM.map kvE, [], Lib.hid (Gone.start HME.out.paths), HRG, Lib.hid (HT.out.ext (HXq.out.trans HX0.out)), Lib.hid (fun e he => (HME.out.ents e he).ext HX0.out), Lib.hid (Turn.ofExt _ (HXq.out.trans HX0.out))⟩
          case round =>
            obtain ⟨left, done, HGo, HR, HT1, HEn, HTu⟩ := hrel
            go_wp2_with (at_next; refine wpList_next_L _ rfl _ rfl 9 (fun x : { e : Ent // e ∈ MM } => kvE x.1) mb r (MM.map kvE) left HGo.out.inv rfl HR.out ?_ ?_)
            · intro h0
              have hD : layR R (done.map Ent.row) = D := layR_ov HOV.out HT.out.good.up HDG.out.up HGo.out.paths (fun x => by
                have hst := HGo.out
                rw [h0] at hst
                rw [List.mem_map, HME.out.rows x]
                constructor
                · rintro ⟨e, he, q⟩; exact ⟨e, (hst.stop e).1 he, q⟩
                · rintro ⟨e, he, q⟩; exact ⟨e, (hst.stop e).2 he, q⟩)
              have HT2 : Hid (IsT wr lo t b qp qb D) := Lib.hid (by rw [← hD]; exact HT1.out)
              clear h0 hD
              go_wp2
              go_ret
              exact ⟨fun q => (by cases q), fun _ => ⟨rfl, HT2.out, HTu.out⟩⟩
            · intro x hxM left' w2 hq hrg1 hg1 hs1 hen
              obtain ⟨xp, xm, xL, xa, xc⟩ := x
              obtain ⟨G1, _⟩ := HGo.out.step hxM hq
              have HG1 := Lib.hid G1; have HQL := Lib.hid hq.length_eq
              have hxok : OkR ⟨xp, xm, xL⟩ := HXG.out.each _ ((HME.out.rows _).2 ⟨_, hxM, rfl⟩)
              have hT2 := grown_turn hg1
              have hit := HR.out.iter
              have hrT : ∀ g, g = r → NoT wr g := fun g e => by subst e; exact hit _
              have hrne := HNe.out
              have HT3 := Lib.hid (HT1.out.turn hT2 (fun e => hrne.2 (by rw [← e]; exact .inl rfl)) (fun e => hrne.2 (by rw [← e]; exact .inr rfl)) hrT)
              have HEn3 : Hid (∀ e ∈ MM, EntP w2 w.heap.size e) := Lib.hid fun e he => (HEn.out e he).turn hT2 hrT
              have hrs := HRr.out
              have HTu3 := Lib.hid (HTu.out.then_ hT2 (fun g e => .inr (by subst e; exact hrs)))
              have HR3 := Lib.hid hrg1
              have hlen := layR_len (done.map Ent.row) HT.out.good.up
              have hdl : done.length ≤ X.length := by
                have h1 := HGo.out.perm.length_eq
                have h2 := (HME.out.perm HXG.out.up).length_eq
                simp only [List.length_append, List.length_map] at h1 h2
                omega
              rw [List.length_map] at hlen
              have hXL := HXL.out; have hRL := HRL.out
              have hxe := HEn3.out _ hxM
              have HSet := Lib.hid (tset_any (w2.alloc (.cells #[.int .u64 (xm : Int), .slice xa xL.length xc] 55)) lo t b qp qb _ (HT3.out.ext ((Ext.refl w2).alloc _)) (by omega) ⟨xp, xm, xL⟩ hxok xa xc (hxe.vers.ext ((Ext.refl w2).alloc _)) (fun x hx => Nat.le_trans HLo.out (hxe.low x hx)))
              have HX3 := Lib.hid ((Ext.refl w2).alloc (.cells #[.int .u64 (xm : Int), .slice xa xL.length xc] 55))
              have hmap : withR ⟨xp, xm, xL⟩ (layR R (done.map Ent.row)) = layR R ((done ++ [Ent.mk xp xm xL xa xc]).map Ent.row) := by rw [List.map_append, List.map_cons, List.map_nil, layR_snoc]; rfl
              rw [hmap] at HSet
              dsimp only at HSet
              have hls : left.length = left'.length + 1 := by have := HQL.out; simpa using this
              have HLs := Lib.hid hls
              unfold kvE at hen ⊢
              dsimp only at hen ⊢
              generalize xL.length = nx at *
              clear G1 hq hrg1 hg1 hs1 hT2 hit hrT hrne hrs hlen hdl hXL hRL hxe hmap hls hxok hxM
              go_wp2_with (go_at_call 50; refine HSet.out.mono ?_; rintro e w4 ⟨rfl, t4, k4⟩; have HT4 := Lib.hid t4; have HK4 := Lib.hid k4; clear t4 k4)
              have hTI := HT3.out.ext HX3.out
              have hR4 : RangeL w4 Tryz.prog 9 mb r (MM.map kvE) left' := (HR3.out.ext HX3.out).same (HK4.out.other mb ((HR3.out.ext HX3.out).map.lt) HNe.out.1) (HK4.out.other r (HR3.out.ext HX3.out).lt HNe.out.2)
              have HR4 := Lib.hid hR4
              clear hR4
              go_roundw
              case rel => exact ⟨left', done ++ [Ent.mk xp xm xL xa xc], HG1, HR4, HT4, Lib.hid (fun e he => ((HEn3.out e he).ext HX3.out).turn HK4.out hTI.noT), Lib.hid ((HTu3.out.ext HX3.out).trans HK4.out)⟩
              case measure =>
                rw [HR4.out.left_eq, HR.out.left_eq, HLs.out]
                omega
end Go.Proofs.YtkjcpjalldbahaaGreatDoor
end

section
namespace Go.Proofs.YtkjcpjalldbahaaGreatDoor
open Go.RowKit Go.ChangeMaps Go.MapKept

theorem loadR_len {R l : List RowP} (h : RisesR R) : (loadR R l).2.length ≤ R.length + l.length := by
  unfold loadR
  split
  · split
    · dsimp only; omega
    · exact layR_len l h
  · dsimp only; omega
theorem tload_any (w : World) (lo t b : Nat) (qp qb : Int) (R : List RowP) (h : IsT w lo t b qp qb R) (hlo : lo ≤ w.heap.size) (hl : R.length ≤ 800000) (p : Option Addr) (c : Nat) (M : List Ent) (hM : RowsP w p M) (hf : ∀ e ∈ M, e.Fit) (hn : M.length ≤ 5000) :
    Calls Tryz.prog 21 #[.pointer (some ⟨t, 0, none⟩), .slice p M.length c] w fun e w' => e = .returned (.int .i64 ((loadR R (M.map Ent.row)).1 : Int)) ∧ IsT w' lo t b qp qb (loadR R (M.map Ent.row)).2 ∧ Turn (TB t b) w w' := by
  cases ha : (M.map Ent.row).all okR with
  | false =>
    refine (tload_bad w t b h.cell p c M hM (fun e he => ?_) (by omega) ha).mono ?_
    · have := hf e he
      have h1 := this.p; have h2 := this.n
      exact ⟨by omega, by omega⟩
    · rintro e w' ⟨rfl, x⟩
      unfold loadR
      rw [ha]
      exact ⟨rfl, h.ext x, Turn.ofExt _ x⟩
  | true =>
    have hok : ∀ e ∈ M, OkR e.row := fun e he => (okR_iff (hf e he).m).1 (List.all_eq_true.1 ha e.row (List.mem_map.2 ⟨e, he, rfl⟩))
    refine (tload_ok w lo t b qp qb R h hlo hl p c M hM hok hn).mono ?_
    intro e w' hp
    unfold loadR
    rw [ha]
    cases hd : dupR R [] (M.map Ent.row) with
    | true =>
      obtain ⟨rfl, x⟩ := hp.twice hd
      exact ⟨rfl, h.ext x, Turn.ofExt _ x⟩
    | false =>
      obtain ⟨rfl, h1, h2⟩ := hp.fine hd
      exact ⟨rfl, h1, h2⟩
end Go.Proofs.YtkjcpjalldbahaaGreatDoor
end
