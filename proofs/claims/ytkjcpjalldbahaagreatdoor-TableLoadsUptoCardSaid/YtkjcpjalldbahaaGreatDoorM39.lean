/- Contract: names of children, by the document: the walk. Contracts: the document's table: List. -/
import Derived.Test.YtkjcpjalldbahaaGreatDoorM38
import Derived.Outline
import Derived.Test.YtkjcpjalldbahaaGreatDoorM24
section
namespace Go.Proofs.YtkjcpjalldbahaaGreatDoor
open Go.RowKit

theorem names_step (p : List UInt8) (L : List (List UInt8)) (k : Nat) (s : List UInt8) (hs : L[k]? = some s) : namesL p (L.take (k + 1)) = stepN p (namesL p (L.take k)) s := by
  rw [List.take_add_one, hs]
  simp only [Option.toList_some]
  rw [names_snoc]
theorem step_none (p s : ByteArray) (O : List (List UInt8)) (h : childB p s = ⟨#[]⟩) : stepN p.data.toList O s.data.toList = O := by
  unfold stepN
  have : childL p.data.toList s.data.toList = [] := by rw [← toB_data (childL p.data.toList s.data.toList)]; show (childB p s).data.toList = []; rw [h]
  rw [this]; rfl
theorem step_some (p s : ByteArray) (O : List (List UInt8)) (h : (childB p s).data.toList ≠ []) : stepN p.data.toList O s.data.toList = insS (childB p s).data.toList O := by
  unfold stepN
  have e : (childB p s).data.toList = childL p.data.toList s.data.toList := rfl
  rw [e] at h ⊢
  rw [if_neg (by simpa using h)]
theorem ins_map (O : List (List UInt8)) (J : Nat) (C : ByteArray) : (([] ++ (O.map toB).take J) ++ [C]) ++ (O.map toB).drop J = (O.take J ++ C.data.toList :: O.drop J).map toB := by
  rw [List.map_append, List.map_cons, toB_of, List.map_take, List.map_drop]
  simp
set_option maxRecDepth 100000 in
set_option maxHeartbeats 8000000 in
theorem rNames_any (p : ByteArray) (hp : p.size ≤ 140737488351232) (q : Option Addr) (c : Nat) (l : List ByteArray) (w : World) (h : TextsP w q l) (hl : l.length ≤ 100000) (hs : ∀ s ∈ l, s.size ≤ 140737488351232) :
    Calls Tryz.prog 43 #[.string p, .slice q l.length c] w fun e w' => ∃ v, e = .returned v ∧ BufS w' w.heap.size v (namesB p l) ∧ Ext w w' := by
  have HH := Lib.hid (fun u (hu : Ext w u) => h.ext hu)
  have HS := Lib.hid hs
  clear h hs
  go_enter Tryz.func43, Tryz.ntmps43
  go_wp2
  go_loopw [5, 6] (fun v iv wr => ∃ (k : Nat) (O : List (List UInt8)), k ≤ l.length ∧ iv = .int .i64 (k : Int) ∧ BufS wr w.heap.size v (O.map toB) ∧ Hid (O = namesL p.data.toList ((dataL l).take k)) ∧ Hid (O = [] → v = .slice none 0 0) ∧ Ext w wr) (fun _ iv _ => l.length - (intOf iv).toNat)
  case atStart => exact ⟨0, [], Nat.zero_le _, rfl, BufS.nil _ _, Lib.hid rfl, Lib.hid (fun _ => rfl), Ext.refl w⟩
  case round =>
    obtain ⟨k, O, hk, rfl, hbuf, hO, hnil, hext⟩ := hrel
    have HB := Lib.hid hbuf; have HE := Lib.hid hext
    clear hbuf
    by_cases hlt : k < l.length
    · obtain ⟨s, hsk⟩ : ∃ s, l[k]? = some s := ⟨_, List.getElem?_eq_getElem hlt⟩
      obtain ⟨a, rfl, _, hc1⟩ := HH.out _ hext k s hsk
      have hss := HS.out s (List.mem_of_getElem? hsk)
      have HC := Lib.hid (fun u => rChild_any p s hp hss u)
      have HSt : Hid (namesL p.data.toList ((dataL l).take (k + 1)) = stepN p.data.toList O s.data.toList) := Lib.hid (by rw [hO.out]; exact names_step _ _ _ _ (by unfold dataL; rw [List.getElem?_map, hsk]; rfl))
      have HRs : Hid (Rises O) := Lib.hid (by rw [hO.out]; exact names_rises _ _)
      have hOl : O.length ≤ k := by rw [hO.out]; exact names_len _ _ _
      clear hsk hext
      have HSN := Lib.hid (step_none p s O); have HSS := Lib.hid (step_some p s O)
      generalize childB p s = C at *
      rcases List.eq_nil_or_concat O with hOe | ⟨O', y, hOe⟩
      · subst hOe
        obtain rfl := hnil.out rfl
        clear hnil hOl
        rcases str_cases C with rfl | ⟨c1, -, c3⟩
        · go_wp2_with (go_at_call 68; refine (HC.out _).mono ?_; rintro e w1 ⟨rfl, x1⟩; have X1 := Lib.hid x1; clear x1)
          go_loop [8] (fun av => av = .int .i64 0) (fun _ => 0)
          case atStart => rfl
          case round =>
            obtain rfl := hrel
            go_wp2
            go_roundw
            case rel => exact ⟨k + 1, [], by omega, by go_num, BufS.nil _ _, Lib.hid (by rw [HSt.out, HSN.out (by trivial)]), Lib.hid (fun _ => rfl), HE.out.trans X1.out⟩
            case measure => simp [intOf]; omega
        · obtain ⟨n1, n2⟩ := nil_cuts
          have HSo := Lib.hid (HSS.out c3)
          clear c3 HSN HSS
          go_wp2_with (go_at_call 68; refine (HC.out _).mono ?_; rintro e w1 ⟨rfl, x1⟩; have X1 := Lib.hid x1; clear x1)
          have HX3 := Lib.hid ((Ext.refl w1).alloc (.cells #[.string C] 9))
          have HCl : Hid ((w1.alloc (.cells #[.string C] 9)).cell? ⟨w1.heap.size, 0, none⟩ = some (.string C)) := Lib.hid ((Blk.new w1 [.string C] 9).cell 0 _ rfl)
          go_loop [8] (fun av => av = .int .i64 0) (fun _ => 0)
          case atStart => rfl
          case round =>
            obtain rfl := hrel
            go_wp2_with (first
              | (at_builtin; refine append_nothing rfl (.tmp 52) (.tmp 55) rfl w1.heap.size (.slice none 0 0) [] rfl (BufS.nil _ _) rfl ?_)
              | (at_builtin; refine append_text rfl (.tmp 57) (.tmp 59) rfl w1.heap.size (.slice none 0 0) [] rfl (BufS.nil _ _) w1.heap.size C rfl HCl.out (by simp) HX3.out.size ?_; intro v2 w3 hb2 hx2; have HB2 := Lib.hid hb2; have X3 : Hid (Ext w1 w3) := Lib.hid (Below.trans HX3.out hx2); clear hb2 hx2)
              | (at_builtin; refine append_nothing rfl (.tmp 61) (.tmp 64) rfl w1.heap.size v2 _ rfl HB2.out rfl ?_))
            go_roundw
            case rel => exact ⟨k + 1, [C.data.toList], by omega, by go_num, bufS_mono (by have := HB2.out; simpa [toB_of] using this) (HE.out.trans X1.out).size, Lib.hid (by rw [HSt.out, HSo.out]; rfl), Lib.hid (fun h => by cases h), (HE.out.trans X1.out).trans X3.out⟩
            case measure => simp [intOf]; omega
      · have hne : O ≠ [] := by rw [hOe]; simp
        clear hOe hnil
        obtain ⟨n, hn⟩ : ∃ n, O.length = n := ⟨_, rfl⟩
        have hn0 : 0 < n := by rw [← hn]; exact List.length_pos_iff.2 hne
        have hnk : n ≤ k := by omega
        have hb' := HB.out.texts
        rw [List.length_map, hn] at hb'
        obtain ⟨pp, cap, rfl, ht, -, hz⟩ := hb'
        obtain ⟨x0, hx0⟩ : ∃ x, (O.map toB)[0]? = some x := ⟨_, List.getElem?_eq_getElem (by rw [List.length_map]; omega)⟩
        obtain ⟨a0, rfl, _, _⟩ := ht 0 x0 hx0
        obtain ⟨ha0, hcap⟩ := hz a0 rfl
        obtain ⟨g, hg⟩ : ∃ g, a0 = ⟨g, 0, none⟩ := ⟨_, ha0⟩
        subst hg
        clear hz ha0 hx0
        have hcap2 : n ≤ cap := hcap
        have hJ := ahead_le C.data.toList O
        rw [hn] at hJ
        obtain ⟨J, hJe⟩ : ∃ J, aheadN C.data.toList O = J := ⟨_, rfl⟩
        rw [hJe] at hJ
        obtain ⟨k1, k2, ad, k3, k4⟩ := cuts_texts wr g cap n (O.map toB) ht (by rw [List.length_map, hn]) hcap2 (by omega) J hJ
        have HAL := Lib.hid (fun i x (hi : i < J) (hx : O[i]? = some x) => ahead_lt C.data.toList O i x (by rw [hJe]; exact hi) hx)
        have HAN := Lib.hid (fun x (hx : O[J]? = some x) => ahead_not C.data.toList O x (by rw [hJe]; exact hx))
        have HIA := Lib.hid (insS_ahead C.data.toList O HRs.out)
        rw [hJe] at HIA
        have HT := Lib.hid (fun u (hu : Ext wr u) (j : Nat) (x : List UInt8) (hx : O[j]? = some x) => (show u.cell? ((⟨g, 0, none⟩ : Addr).add j) = some (.string (toB x)) by
          obtain ⟨a', e', _, hc'⟩ := (ht.ext hu) j (toB x) (by rw [List.getElem?_map, hx]; rfl)
          cases e'
          exact hc'))
        have HK2 := Lib.hid k2; have HK4 := Lib.hid k4
        have HTl : Hid (((O.map toB).take J).length = J) := Lib.hid (by rw [List.length_take, List.length_map]; omega)
        have HDl : Hid (((O.map toB).drop J).length = n - J) := Lib.hid (by rw [List.length_drop, List.length_map]; omega)
        have HN := Lib.hid hn
        clear hn hne ht hJe k2 k4 HRs hOl hcap
        go_wp2_with (go_at_call 68; refine (HC.out _).mono ?_; rintro e w1 ⟨rfl, x1⟩; have X1 := Lib.hid x1; clear x1)
        have HX3a := Lib.hid (HE.out.trans X1.out)
        clear hc1
        go_loop [8] (fun av => ∃ j : Nat, j ≤ J ∧ av = .int .i64 (j : Int)) (fun av => J - (intOf av).toNat)
        case atStart => exact ⟨0, Nat.zero_le _, rfl⟩
        case round =>
          obtain ⟨j, hj, rfl⟩ := hrel
          by_cases hjl : j < J
          · obtain ⟨x, hx⟩ : ∃ x, O[j]? = some x := ⟨_, List.getElem?_eq_getElem (by rw [HN.out]; omega)⟩
            have hcx := HT.out _ X1.out j x hx
            have hb : Op.bytesLess (toB x).toList C.toList = true := by rw [less_is]; exact decide_eq_true (HAL.out j x hjl hx)
            rw [Addr.add_mid, Nat.zero_add] at hcx
            clear hx
            generalize toB x = xb at *
            have hjn : j < n := by omega
            go_wp2
            go_round
            case rel => exact ⟨j + 1, by omega, by go_num⟩
            case measure => simp [intOf]; omega
          · obtain rfl : j = J := by omega
            have HL1 : Hid (([] ++ (O.map toB).take j).length ≤ 1000000) := Lib.hid (by rw [List.nil_append, HTl.out]; omega)
            have HL2 : Hid ((([] ++ (O.map toB).take j) ++ [C]).length + (n - j) ≤ 1000000) := Lib.hid (by rw [List.nil_append, List.length_append, HTl.out]; simp; omega)
            clear hjl
            rcases Nat.lt_or_ge j n with hjn | hjn
            · obtain ⟨x, hx⟩ : ∃ x, O[j]? = some x := ⟨_, List.getElem?_eq_getElem (by rw [HN.out]; omega)⟩
              have hcx := HT.out _ X1.out j x hx
              have hb : Op.bytesLess (toB x).toList C.toList = false := by rw [less_is]; exact decide_eq_false (HAN.out x hx)
              rw [Addr.add_mid, Nat.zero_add] at hcx
              have HXx := Lib.hid hx
              clear hx
              rcases str_cases C with rfl | ⟨c1, -, c3⟩
              · have hb2 : Op.bytesLess (toB x).toList [] = false := by rw [bytesLess_eq]; simp
                go_wp2
                go_roundw
                case rel => exact ⟨k + 1, O, by omega, by go_num, HB.out.ext X1.out, Lib.hid (by rw [HSt.out, HSN.out (by trivial)]), Lib.hid (fun e => absurd (congrArg List.length e) (by rw [HN.out, List.length_nil]; omega)), HX3a.out⟩
                case measure => simp [intOf]; omega
              · have HSo := Lib.hid (HSS.out c3)
                clear c3
                by_cases hxe : x = C.data.toList
                · have he : ((toB x).toList == C.toList) = true := by rw [eq_is]; exact decide_eq_true hxe
                  have HXe := Lib.hid hxe
                  clear hxe
                  generalize toB x = xb at *
                  go_wp2
                  go_roundw
                  case rel => exact ⟨k + 1, O, by omega, by go_num, HB.out.ext X1.out, Lib.hid (by rw [HSt.out, HSo.out, HIA.out, if_pos (by rw [HXx.out, HXe.out])]), Lib.hid (fun e => absurd (congrArg List.length e) (by rw [HN.out, List.length_nil]; omega)), HX3a.out⟩
                  case measure => simp [intOf]; omega
                · have he : ((toB x).toList == C.toList) = false := by rw [eq_is]; exact decide_eq_false hxe
                  have HNe : Hid (¬ O[j]? = some C.data.toList) := Lib.hid (by rw [HXx.out]; intro e; exact hxe (Option.some.inj e))
                  clear hxe
                  generalize toB x = xb at *
                  go_wp2_with (first
                    | (at_builtin; refine append_list rfl (.tmp 52) (.tmp 55) rfl w1.heap.size (.slice none 0 0) [] rfl (BufS.nil _ _) ⟨g, 0, none⟩ j cap ((O.map toB).take j) HTl.out rfl (HK2.out _ X1.out) (by rw [List.length_nil]; omega) (Nat.le_refl _) ?_; intro v1 w2 hb1 hx1; have HB1 := Lib.hid hb1; have X2 : Hid (Ext w1 w2) := Lib.hid hx1; have HX3 := Lib.hid ((Ext.refl w2).alloc (.cells #[.string C] 9)); have HCl : Hid ((w2.alloc (.cells #[.string C] 9)).cell? ⟨w2.heap.size, 0, none⟩ = some (.string C)) := Lib.hid ((Blk.new w2 [.string C] 9).cell 0 _ rfl); clear hb1 hx1)
                    | (at_builtin; refine append_text rfl (.tmp 57) (.tmp 59) rfl w1.heap.size v1 _ rfl (HB1.out.ext HX3.out) w2.heap.size C rfl HCl.out HL1.out (X2.out.trans HX3.out).size ?_; intro v2 w3 hb2 hx2; have HB2 := Lib.hid hb2; have X3 : Hid (Ext w1 w3) := Lib.hid (Below.trans (X2.out.trans HX3.out) hx2); clear hb2 hx2)
                    | (at_builtin; refine append_list rfl (.tmp 61) (.tmp 64) rfl w1.heap.size v2 _ rfl HB2.out ad (n - j) (cap - j) ((O.map toB).drop j) HDl.out rfl (HK4.out _ (X1.out.trans X3.out)) (by have := HL2.out; omega) X3.out.size ?_; intro v3 w4 hb3 hx3; have HB3 := Lib.hid hb3; have X4 : Hid (Ext w1 w4) := Lib.hid (Below.trans X3.out hx3); clear hb3 hx3))
                  go_roundw
                  case rel => exact ⟨k + 1, O.take j ++ C.data.toList :: O.drop j, by omega, by go_num, bufS_mono (by have := HB3.out; rwa [ins_map] at this) (HE.out.trans X1.out).size, Lib.hid (by rw [HSt.out, HSo.out, HIA.out, if_neg HNe.out]), Lib.hid (fun e => absurd (congrArg List.length e) (by simp)), HX3a.out.trans X4.out⟩
                  case measure => simp [intOf]; omega
            · obtain rfl : j = n := by omega
              rcases str_cases C with rfl | ⟨c1, -, c3⟩
              · go_wp2
                go_roundw
                case rel => exact ⟨k + 1, O, by omega, by go_num, HB.out.ext X1.out, Lib.hid (by rw [HSt.out, HSN.out (by trivial)]), Lib.hid (fun e => absurd (congrArg List.length e) (by rw [HN.out, List.length_nil]; omega)), HX3a.out⟩
                case measure => simp [intOf]; omega
              · have HSo := Lib.hid (HSS.out c3)
                clear c3
                have HNe : Hid (¬ O[j]? = some C.data.toList) := Lib.hid (by rw [List.getElem?_eq_none (by rw [HN.out]; exact Nat.le_refl _)]; intro e; cases e)
                go_wp2_with (first
                  | (at_builtin; refine append_list rfl (.tmp 52) (.tmp 55) rfl w1.heap.size (.slice none 0 0) [] rfl (BufS.nil _ _) ⟨g, 0, none⟩ j cap ((O.map toB).take j) HTl.out rfl (HK2.out _ X1.out) (by rw [List.length_nil]; omega) (Nat.le_refl _) ?_; intro v1 w2 hb1 hx1; have HB1 := Lib.hid hb1; have X2 : Hid (Ext w1 w2) := Lib.hid hx1; have HX3 := Lib.hid ((Ext.refl w2).alloc (.cells #[.string C] 9)); have HCl : Hid ((w2.alloc (.cells #[.string C] 9)).cell? ⟨w2.heap.size, 0, none⟩ = some (.string C)) := Lib.hid ((Blk.new w2 [.string C] 9).cell 0 _ rfl); clear hb1 hx1)
                  | (at_builtin; refine append_text rfl (.tmp 57) (.tmp 59) rfl w1.heap.size v1 _ rfl (HB1.out.ext HX3.out) w2.heap.size C rfl HCl.out HL1.out (X2.out.trans HX3.out).size ?_; intro v2 w3 hb2 hx2; have HB2 := Lib.hid hb2; have X3 : Hid (Ext w1 w3) := Lib.hid (Below.trans (X2.out.trans HX3.out) hx2); clear hb2 hx2)
                  | (at_builtin; refine append_list rfl (.tmp 61) (.tmp 64) rfl w1.heap.size v2 _ rfl HB2.out ad 0 (cap - j) ((O.map toB).drop j) (by rw [HDl.out]; omega) rfl (HK4.out _ (X1.out.trans X3.out)) (by have := HL2.out; omega) X3.out.size ?_; intro v3 w4 hb3 hx3; have HB3 := Lib.hid hb3; have X4 : Hid (Ext w1 w4) := Lib.hid (Below.trans X3.out hx3); clear hb3 hx3))
                go_roundw
                case rel => exact ⟨k + 1, O.take j ++ C.data.toList :: O.drop j, by omega, by go_num, bufS_mono (by have := HB3.out; rwa [ins_map] at this) (HE.out.trans X1.out).size, Lib.hid (by rw [HSt.out, HSo.out, HIA.out, if_neg HNe.out]), Lib.hid (fun e => absurd (congrArg List.length e) (by simp)), HX3a.out.trans X4.out⟩
                case measure => simp [intOf]; omega
    · obtain rfl : k = l.length := by omega
      have hm := hO.out
      rw [List.take_of_length_le (by simp [dataL])] at hm
      have HM := Lib.hid hm
      clear hm hext
      go_wp2
      go_ret
      exact ⟨_, rfl, by unfold namesB; rw [← HM.out]; exact HB.out, HE.out⟩
end Go.Proofs.YtkjcpjalldbahaaGreatDoor
end

section
namespace Go.Proofs.YtkjcpjalldbahaaGreatDoor
open Go.RowKit Go.ChangeMaps Go.MapKept

theorem liveE_row (M : List Ent) : liveE M = liveR (M.map Ent.row) := by
  unfold liveE liveR
  rw [List.filter_map, List.map_map]
  rfl
set_option maxRecDepth 100000 in
set_option maxHeartbeats 4000000 in
theorem rtlist_any (w : World) (r : Nat) (qp qb : Int) (p : Option Addr) (c : Nat) (M : List Ent) (hB : Blk w r 33 [.int .i64 qp, .int .i64 qb, .slice p M.length c]) (hM : RowsP w p M) (hok : ∀ e ∈ M, OkR e.row) (hn : M.length ≤ 90000) (s : ByteArray) (hs : s.size ≤ 140737488351232) :
    Calls Tryz.prog 19 #[.pointer (some ⟨r, 0, none⟩), .string s] w fun e w' => ∃ v, e = .returned v ∧ BufS w' w.heap.size v (namesB s (liveE M)) ∧ Ext w w' := by
  have HBl := Lib.hid hB
  have HP := Lib.hid hM
  have HS := Lib.hid hok
  have HSZ := Lib.hid hs
  obtain ⟨n, hnn⟩ : ∃ n, M.length = n := ⟨_, rfl⟩
  have HN := Lib.hid hnn
  rw [hnn] at HBl hn
  clear hM hB hok hnn hs
  go_enter Tryz.func19, Tryz.ntmps19
  go_wp2
  go_loopw [5, 6] (fun sv iv wr => ∃ (i : Nat) (pv : Option Addr) (cv k : Nat), i ≤ n ∧ iv = .int .i64 (i : Int) ∧ sv = .slice pv k cv ∧ Hid (k = (liveE (M.take i)).length) ∧ Hid (IsA wr w.heap.size 9 pv cv ((liveE (M.take i)).map Value.string)) ∧ Hid (Ext w wr)) (fun _ iv _ => n - (intOf iv).toNat)
  case atStart => exact ⟨0, none, 0, 0, Nat.zero_le _, rfl, rfl, Lib.hid (by simp [liveE]), Lib.hid (by simpa [liveE] using IsA.nil w _ _), Lib.hid (Ext.refl w)⟩
  case round =>
    obtain ⟨i, pv, cv, k, hi, rfl, rfl, HK, HA, HX⟩ := hrel
    have b2 := (HBl.out.ext HX.out).cell 2 _ rfl
    by_cases hlt : i < n
    · obtain ⟨⟨xp, xm, xL, xa, xc⟩, hx⟩ : ∃ x, M[i]? = some x := ⟨_, List.getElem?_eq_getElem (by have := HN.out; omega)⟩
      have HT := Lib.hid (fun u (x : Ext w u) => HP.out.three x hx)
      obtain ⟨pa, rfl, c0, c1, c2⟩ := HT.out _ HX.out
      have hxok := HS.out _ (List.mem_of_getElem? hx)
      have hxl : xL.length ≤ 8 := hxok.len
      have hv := HP.out.2 _ (List.mem_of_getElem? hx)
      dsimp only at c0 c1 c2 hv
      have HNw := Lib.hid (fun u (x : Ext w u) => rnow_any u xm xa xc xL (hv.ext x) (by omega))
      have HLE : Hid (liveE (M.take (i + 1)) = if nowL xL ≠ 0 then liveE (M.take i) ++ [xp] else liveE (M.take i)) := Lib.hid (by
        rw [List.take_add_one, hx]
        unfold liveE
        rw [List.filter_append, List.map_append]
        by_cases q : nowL xL = 0 <;> simp [q])
      have hk1 : k + 1 ≤ 1000000000 := by
        have h1 := HK.out
        have h2 := liveE_len (M.take i)
        rw [List.length_take] at h2
        have : min i M.length ≤ i := Nat.min_le_left _ _
        omega
      have HKp : Hid (∀ u, Ext w u → u.cell? (pa.add (i * 3)) = some (.string xp) ∧ u.cell? ⟨r, 2, none⟩ = some (.slice (some pa) n c)) := Lib.hid (fun u x => by
        obtain ⟨q, e, h0, h1, h2⟩ := HT.out u x
        cases e
        exact ⟨h0, (HBl.out.ext x).cell 2 _ rfl⟩)
      obtain ⟨nw, hnw⟩ : ∃ nw, nowL xL = nw := ⟨_, rfl⟩
      rw [hnw] at HNw HLE
      generalize xL.length = nx at *
      clear hx hxok hxl hv hnw HT
      by_cases h0 : nw = 0
      · subst h0
        rw [if_neg (by simp)] at HLE
        go_wp2_with (go_at_call 41; refine (HNw.out _ HX.out).mono ?_; rintro e w4 ⟨rfl, x4⟩; have HX4 := Lib.hid (HX.out.trans x4); have HA4 := Lib.hid (HA.out.ext x4); clear x4)
        go_roundw
        case rel => exact ⟨i + 1, pv, cv, k, hlt, by go_num, rfl, Lib.hid (by rw [HLE.out]; exact HK.out), Lib.hid (by rw [HLE.out]; exact HA4.out), HX4⟩
        case measure => simp [intOf]; omega
      · have hne : (0 : Int) < (nw : Int) := by omega
        rw [if_pos h0] at HLE
        clear h0
        go_wp2_with (first
          | (go_at_call 41; refine (HNw.out _ HX.out).mono ?_; rintro e w4 ⟨rfl, x4⟩; have HX4 := Lib.hid (HX.out.trans x4); have HA4 := Lib.hid (HA.out.ext x4); obtain ⟨e0, e2⟩ := HKp.out _ HX4.out; have HA5 := Lib.hid (HA4.out.ext ((Ext.refl w4).alloc (.cells #[.string xp] 9))); have HX5 := Lib.hid (HX4.out.alloc (.cells #[.string xp] 9)); have HSLB : Hid (Sl (w4.alloc (.cells #[.string xp] 9)) (kp pv) 1 1 9 pv k cv ((liveE (M.take i)).map Value.string)) := Lib.hid (by have := HA5.out.sl; rwa [List.length_map, ← HK.out] at this); have HSRC := Lib.hid (src_text (w4.alloc (.cells #[.string xp] 9)) w4.heap.size xp ((Blk.new w4 [.string xp] 9).cell 0 _ rfl)); clear x4)
          | (refine wpList_append_sl rfl (.tmp 26) (.tmp 35) 36 36 rfl Tryz.underlying36 infoS rfl (by decide) rfl HSLB.out (strV_one _) _ rfl 1 _ HSRC.out hk1 ?_; intro p4 c4 w5 κ4 s4 f4 e4 x4 o4; have HKk := Lib.hid (keepA_of_fr HSLB.out HA5.out.low HX5.out.size f4 x4); have HA6 : Hid (IsA w5 w.heap.size 9 p4 c4 ((liveE (M.take i) ++ [xp]).map Value.string)) := Lib.hid (by rw [List.map_append]; exact isA_grown s4 (by rw [List.length_map, HK.out]) e4 HA5.out.low HX5.out.size); have HX6 := Lib.hid (HX5.out.keptA HKk.out); clear s4 f4 e4 x4 o4))
        go_roundw
        case rel => exact ⟨i + 1, p4, c4, k + 1, hlt, by go_num, rfl, Lib.hid (by rw [HLE.out, List.length_append, ← HK.out]; rfl), Lib.hid (by rw [HLE.out]; exact HA6.out), HX6⟩
        case measure => simp [intOf]; omega
    · obtain rfl : i = n := by omega
      have htk : M.take i = M := List.take_of_length_le (by rw [HN.out]; exact Nat.le_refl _)
      rw [htk] at HA HK
      have hkn : k ≤ 90000 := by have h1 := HK.out; have h2 := liveE_len M; have := HN.out; omega
      have HNm := Lib.hid (rNames_any s HSZ.out pv cv (liveE M) wr HA.out.textsP (by have := HK.out; omega) (fun x hx => by
        obtain ⟨e, he, rfl⟩ := List.mem_map.1 hx
        have := may_size (HS.out e (List.mem_filter.1 he).1).path
        show e.p.size ≤ _
        have h2 : e.p.size ≤ 128 := this
        omega))
      rw [← HK.out] at HNm
      clear htk
      go_wp2_with (go_at_call 43; refine HNm.out.mono ?_; rintro e w2 ⟨v, rfl, hb, x2⟩)
      go_ret
      exact ⟨v, rfl, bufS_mono hb HX.out.size, HX.out.trans x2⟩
end Go.Proofs.YtkjcpjalldbahaaGreatDoor
end
