/- Contract: names of children, by the document: the walk. -/
import Derived.Test.YtgcnpcpdgdhdkaaDoorPathX
import Derived.Outline
namespace Go.Proofs.YtgcnpcpdgdhdkaaDoor
open Go.RowKit

theorem names_step (p : List UInt8) (L : List (List UInt8)) (k : Nat) (s : List UInt8) (hs : L[k]? = some s) : namesL p (L.take (k + 1)) = stepN p (namesL p (L.take k)) s := by
  rw [List.take_add_one, hs]
  simp only [Option.toList_some]
  rw [names_snoc]
theorem step_none (p s : ByteArray) (O : List (List UInt8)) (h : childB p s = ⟨#[]⟩) : stepN p.data.toList O s.data.toList = O := by
  unfold stepN
  have : childL p.data.toList s.data.toList = [] := by rw [← toB_data (childL p.data.toList s.data.toList)]; show (childB p s).data.toList = []; rw [h]
  rw [this]; rfl
theorem step_some (p s : ByteArray) (O : List (List UInt8)) (h : (childB p s).data.toList ≠ []) : stepN p.data.toList O s.data.toList = insS (childB p s).data.toList O := by
  unfold stepN
  have e : (childB p s).data.toList = childL p.data.toList s.data.toList := rfl
  rw [e] at h ⊢
  rw [if_neg (by simpa using h)]
theorem ins_map (O : List (List UInt8)) (J : Nat) (C : ByteArray) : (([] ++ (O.map toB).take J) ++ [C]) ++ (O.map toB).drop J = (O.take J ++ C.data.toList :: O.drop J).map toB := by
  rw [List.map_append, List.map_cons, toB_of, List.map_take, List.map_drop]
  simp
set_option maxRecDepth 100000 in
set_option maxHeartbeats 8000000 in
theorem rNames_any (p : ByteArray) (hp : p.size ≤ 140737488351232) (q : Option Addr) (c : Nat) (l : List ByteArray) (w : World) (h : TextsP w q l) (hl : l.length ≤ 1000) (hs : ∀ s ∈ l, s.size ≤ 140737488351232) :
    Calls Tryd.prog 20 #[.string p, .slice q l.length c] w fun e w' => ∃ v, e = .returned v ∧ BufS w' w.heap.size v (namesB p l) ∧ Ext w w' := by
  have HH := Lib.hid (fun u (hu : Ext w u) => h.ext hu)
  have HS := Lib.hid hs
  clear h hs
  go_enter Tryd.func20, Tryd.ntmps20
  go_wp2
  go_loopw [5, 6] (fun v iv wr => ∃ (k : Nat) (O : List (List UInt8)), k ≤ l.length ∧ iv = .int .i64 (k : Int) ∧ BufS wr w.heap.size v (O.map toB) ∧ Hid (O = namesL p.data.toList ((dataL l).take k)) ∧ Hid (O = [] → v = .slice none 0 0) ∧ Ext w wr) (fun _ iv _ => l.length - (intOf iv).toNat)
  case atStart => exact ⟨0, [], Nat.zero_le _, rfl, BufS.nil _ _, Lib.hid rfl, Lib.hid (fun _ => rfl), Ext.refl w⟩
  case round =>
    obtain ⟨k, O, hk, rfl, hbuf, hO, hnil, hext⟩ := hrel
    have HB := Lib.hid hbuf; have HE := Lib.hid hext
    clear hbuf
    by_cases hlt : k < l.length
    · obtain ⟨s, hsk⟩ : ∃ s, l[k]? = some s := ⟨_, List.getElem?_eq_getElem hlt⟩
      obtain ⟨a, rfl, _, hc1⟩ := HH.out _ hext k s hsk
      have hss := HS.out s (List.mem_of_getElem? hsk)
      have HC := Lib.hid (fun u => rChild_any p s hp hss u)
      have HSt : Hid (namesL p.data.toList ((dataL l).take (k + 1)) = stepN p.data.toList O s.data.toList) := Lib.hid (by rw [hO.out]; exact names_step _ _ _ _ (by unfold dataL; rw [List.getElem?_map, hsk]; rfl))
      have HRs : Hid (Rises O) := Lib.hid (by rw [hO.out]; exact names_rises _ _)
      have hOl : O.length ≤ k := by rw [hO.out]; exact names_len _ _ _
      clear hsk hext
      have HSN := Lib.hid (step_none p s O); have HSS := Lib.hid (step_some p s O)
      generalize childB p s = C at *
      rcases List.eq_nil_or_concat O with hOe | ⟨O', y, hOe⟩
      · subst hOe
        obtain rfl := hnil.out rfl
        clear hnil hOl
        rcases str_cases C with rfl | ⟨c1, -, c3⟩
        · go_wp2_with (go_at_call 11; refine (HC.out _).mono ?_; rintro e w1 ⟨rfl, x1⟩; have X1 := Lib.hid x1; clear x1)
          go_loop [8] (fun av => av = .int .i64 0) (fun _ => 0)
          case atStart => rfl
          case round =>
            obtain rfl := hrel
            go_wp2
            go_roundw
            case rel => exact ⟨k + 1, [], by omega, by go_num, BufS.nil _ _, Lib.hid (by rw [HSt.out, HSN.out (by trivial)]), Lib.hid (fun _ => rfl), HE.out.trans X1.out⟩
            case measure => simp [intOf]; omega
        · obtain ⟨n1, n2⟩ := nil_cuts
          have HSo := Lib.hid (HSS.out c3)
          clear c3 HSN HSS
          go_wp2_with (go_at_call 11; refine (HC.out _).mono ?_; rintro e w1 ⟨rfl, x1⟩; have X1 := Lib.hid x1; clear x1)
          have HX3 := Lib.hid ((Ext.refl w1).alloc (.cells #[.string C] 9))
          have HCl : Hid ((w1.alloc (.cells #[.string C] 9)).cell? ⟨w1.heap.size, 0, none⟩ = some (.string C)) := Lib.hid ((Blk.new w1 [.string C] 9).cell 0 _ rfl)
          go_loop [8] (fun av => av = .int .i64 0) (fun _ => 0)
          case atStart => rfl
          case round =>
            obtain rfl := hrel
            go_wp2_with (first
              | (at_builtin; refine append_nothing rfl (.tmp 52) (.tmp 55) rfl w1.heap.size (.slice none 0 0) [] rfl (BufS.nil _ _) rfl ?_)
              | (at_builtin; refine append_text rfl (.tmp 57) (.tmp 59) rfl w1.heap.size (.slice none 0 0) [] rfl (BufS.nil _ _) w1.heap.size C rfl HCl.out (by simp) HX3.out.size ?_; intro v2 w3 hb2 hx2; have HB2 := Lib.hid hb2; have X3 : Hid (Ext w1 w3) := Lib.hid (Below.trans HX3.out hx2); clear hb2 hx2)
              | (at_builtin; refine append_nothing rfl (.tmp 61) (.tmp 64) rfl w1.heap.size v2 _ rfl HB2.out rfl ?_))
            go_roundw
            case rel => exact ⟨k + 1, [C.data.toList], by omega, by go_num, bufS_mono (by have := HB2.out; simpa [toB_of] using this) (HE.out.trans X1.out).size, Lib.hid (by rw [HSt.out, HSo.out]; rfl), Lib.hid (fun h => by cases h), (HE.out.trans X1.out).trans X3.out⟩
            case measure => simp [intOf]; omega
      · have hne : O ≠ [] := by rw [hOe]; simp
        clear hOe hnil
        obtain ⟨n, hn⟩ : ∃ n, O.length = n := ⟨_, rfl⟩
        have hn0 : 0 < n := by rw [← hn]; exact List.length_pos_iff.2 hne
        have hnk : n ≤ k := by omega
        have hb' := HB.out.texts
        rw [List.length_map, hn] at hb'
        obtain ⟨pp, cap, rfl, ht, -, hz⟩ := hb'
        obtain ⟨x0, hx0⟩ : ∃ x, (O.map toB)[0]? = some x := ⟨_, List.getElem?_eq_getElem (by rw [List.length_map]; omega)⟩
        obtain ⟨a0, rfl, _, _⟩ := ht 0 x0 hx0
        obtain ⟨ha0, hcap⟩ := hz a0 rfl
        obtain ⟨g, hg⟩ : ∃ g, a0 = ⟨g, 0, none⟩ := ⟨_, ha0⟩
        subst hg
        clear hz ha0 hx0
        have hcap2 : n ≤ cap := hcap
        have hJ := ahead_le C.data.toList O
        rw [hn] at hJ
        obtain ⟨J, hJe⟩ : ∃ J, aheadN C.data.toList O = J := ⟨_, rfl⟩
        rw [hJe] at hJ
        obtain ⟨k1, k2, ad, k3, k4⟩ := cuts_texts wr g cap n (O.map toB) ht (by rw [List.length_map, hn]) hcap2 (by omega) J hJ
        have HAL := Lib.hid (fun i x (hi : i < J) (hx : O[i]? = some x) => ahead_lt C.data.toList O i x (by rw [hJe]; exact hi) hx)
        have HAN := Lib.hid (fun x (hx : O[J]? = some x) => ahead_not C.data.toList O x (by rw [hJe]; exact hx))
        have HIA := Lib.hid (insS_ahead C.data.toList O HRs.out)
        rw [hJe] at HIA
        have HT := Lib.hid (fun u (hu : Ext wr u) (j : Nat) (x : List UInt8) (hx : O[j]? = some x) => (show u.cell? ((⟨g, 0, none⟩ : Addr).add j) = some (.string (toB x)) by
          obtain ⟨a', e', _, hc'⟩ := (ht.ext hu) j (toB x) (by rw [List.getElem?_map, hx]; rfl)
          cases e'
          exact hc'))
        have HK2 := Lib.hid k2; have HK4 := Lib.hid k4
        have HTl : Hid (((O.map toB).take J).length = J) := Lib.hid (by rw [List.length_take, List.length_map]; omega)
        have HDl : Hid (((O.map toB).drop J).length = n - J) := Lib.hid (by rw [List.length_drop, List.length_map]; omega)
        have HN := Lib.hid hn
        clear hn hne ht hJe k2 k4 HRs hOl hcap
        go_wp2_with (go_at_call 11; refine (HC.out _).mono ?_; rintro e w1 ⟨rfl, x1⟩; have X1 := Lib.hid x1; clear x1)
        have HX3a := Lib.hid (HE.out.trans X1.out)
        clear hc1
        go_loop [8] (fun av => ∃ j : Nat, j ≤ J ∧ av = .int .i64 (j : Int)) (fun av => J - (intOf av).toNat)
        case atStart => exact ⟨0, Nat.zero_le _, rfl⟩
        case round =>
          obtain ⟨j, hj, rfl⟩ := hrel
          by_cases hjl : j < J
          · obtain ⟨x, hx⟩ : ∃ x, O[j]? = some x := ⟨_, List.getElem?_eq_getElem (by rw [HN.out]; omega)⟩
            have hcx := HT.out _ X1.out j x hx
            have hb : Op.bytesLess (toB x).toList C.toList = true := by rw [less_is]; exact decide_eq_true (HAL.out j x hjl hx)
            rw [Addr.add_mid, Nat.zero_add] at hcx
            clear hx
            generalize toB x = xb at *
            have hjn : j < n := by omega
            go_wp2
            go_round
            case rel => exact ⟨j + 1, by omega, by go_num⟩
            case measure => simp [intOf]; omega
          · obtain rfl : j = J := by omega
            have HL1 : Hid (([] ++ (O.map toB).take j).length ≤ 1000000) := Lib.hid (by rw [List.nil_append, HTl.out]; omega)
            have HL2 : Hid ((([] ++ (O.map toB).take j) ++ [C]).length + (n - j) ≤ 1000000) := Lib.hid (by rw [List.nil_append, List.length_append, HTl.out]; simp; omega)
            clear hjl
            rcases Nat.lt_or_ge j n with hjn | hjn
            · obtain ⟨x, hx⟩ : ∃ x, O[j]? = some x := ⟨_, List.getElem?_eq_getElem (by rw [HN.out]; omega)⟩
              have hcx := HT.out _ X1.out j x hx
              have hb : Op.bytesLess (toB x).toList C.toList = false := by rw [less_is]; exact decide_eq_false (HAN.out x hx)
              rw [Addr.add_mid, Nat.zero_add] at hcx
              have HXx := Lib.hid hx
              clear hx
              rcases str_cases C with rfl | ⟨c1, -, c3⟩
              · have hb2 : Op.bytesLess (toB x).toList [] = false := by rw [bytesLess_eq]; simp
                go_wp2
                go_roundw
                case rel => exact ⟨k + 1, O, by omega, by go_num, HB.out.ext X1.out, Lib.hid (by rw [HSt.out, HSN.out (by trivial)]), Lib.hid (fun e => absurd (congrArg List.length e) (by rw [HN.out, List.length_nil]; omega)), HX3a.out⟩
                case measure => simp [intOf]; omega
              · have HSo := Lib.hid (HSS.out c3)
                clear c3
                by_cases hxe : x = C.data.toList
                · have he : ((toB x).toList == C.toList) = true := by rw [eq_is]; exact decide_eq_true hxe
                  have HXe := Lib.hid hxe
                  clear hxe
                  generalize toB x = xb at *
                  go_wp2
                  go_roundw
                  case rel => exact ⟨k + 1, O, by omega, by go_num, HB.out.ext X1.out, Lib.hid (by rw [HSt.out, HSo.out, HIA.out, if_pos (by rw [HXx.out, HXe.out])]), Lib.hid (fun e => absurd (congrArg List.length e) (by rw [HN.out, List.length_nil]; omega)), HX3a.out⟩
                  case measure => simp [intOf]; omega
                · have he : ((toB x).toList == C.toList) = false := by rw [eq_is]; exact decide_eq_false hxe
                  have HNe : Hid (¬ O[j]? = some C.data.toList) := Lib.hid (by rw [HXx.out]; intro e; exact hxe (Option.some.inj e))
                  clear hxe
                  generalize toB x = xb at *
                  go_wp2_with (first
                    | (at_builtin; refine append_list rfl (.tmp 52) (.tmp 55) rfl w1.heap.size (.slice none 0 0) [] rfl (BufS.nil _ _) ⟨g, 0, none⟩ j cap ((O.map toB).take j) HTl.out rfl (HK2.out _ X1.out) (by rw [List.length_nil]; omega) (Nat.le_refl _) ?_; intro v1 w2 hb1 hx1; have HB1 := Lib.hid hb1; have X2 : Hid (Ext w1 w2) := Lib.hid hx1; have HX3 := Lib.hid ((Ext.refl w2).alloc (.cells #[.string C] 9)); have HCl : Hid ((w2.alloc (.cells #[.string C] 9)).cell? ⟨w2.heap.size, 0, none⟩ = some (.string C)) := Lib.hid ((Blk.new w2 [.string C] 9).cell 0 _ rfl); clear hb1 hx1)
                    | (at_builtin; refine append_text rfl (.tmp 57) (.tmp 59) rfl w1.heap.size v1 _ rfl (HB1.out.ext HX3.out) w2.heap.size C rfl HCl.out HL1.out (X2.out.trans HX3.out).size ?_; intro v2 w3 hb2 hx2; have HB2 := Lib.hid hb2; have X3 : Hid (Ext w1 w3) := Lib.hid (Below.trans (X2.out.trans HX3.out) hx2); clear hb2 hx2)
                    | (at_builtin; refine append_list rfl (.tmp 61) (.tmp 64) rfl w1.heap.size v2 _ rfl HB2.out ad (n - j) (cap - j) ((O.map toB).drop j) HDl.out rfl (HK4.out _ (X1.out.trans X3.out)) (by have := HL2.out; omega) X3.out.size ?_; intro v3 w4 hb3 hx3; have HB3 := Lib.hid hb3; have X4 : Hid (Ext w1 w4) := Lib.hid (Below.trans X3.out hx3); clear hb3 hx3))
                  go_roundw
                  case rel => exact ⟨k + 1, O.take j ++ C.data.toList :: O.drop j, by omega, by go_num, bufS_mono (by have := HB3.out; rwa [ins_map] at this) (HE.out.trans X1.out).size, Lib.hid (by rw [HSt.out, HSo.out, HIA.out, if_neg HNe.out]), Lib.hid (fun e => absurd (congrArg List.length e) (by simp)), HX3a.out.trans X4.out⟩
                  case measure => simp [intOf]; omega
            · obtain rfl : j = n := by omega
              rcases str_cases C with rfl | ⟨c1, -, c3⟩
              · go_wp2
                go_roundw
                case rel => exact ⟨k + 1, O, by omega, by go_num, HB.out.ext X1.out, Lib.hid (by rw [HSt.out, HSN.out (by trivial)]), Lib.hid (fun e => absurd (congrArg List.length e) (by rw [HN.out, List.length_nil]; omega)), HX3a.out⟩
                case measure => simp [intOf]; omega
              · have HSo := Lib.hid (HSS.out c3)
                clear c3
                have HNe : Hid (¬ O[j]? = some C.data.toList) := Lib.hid (by rw [List.getElem?_eq_none (by rw [HN.out]; exact Nat.le_refl _)]; intro e; cases e)
                go_wp2_with (first
                  | (at_builtin; refine append_list rfl (.tmp 52) (.tmp 55) rfl w1.heap.size (.slice none 0 0) [] rfl (BufS.nil _ _) ⟨g, 0, none⟩ j cap ((O.map toB).take j) HTl.out rfl (HK2.out _ X1.out) (by rw [List.length_nil]; omega) (Nat.le_refl _) ?_; intro v1 w2 hb1 hx1; have HB1 := Lib.hid hb1; have X2 : Hid (Ext w1 w2) := Lib.hid hx1; have HX3 := Lib.hid ((Ext.refl w2).alloc (.cells #[.string C] 9)); have HCl : Hid ((w2.alloc (.cells #[.string C] 9)).cell? ⟨w2.heap.size, 0, none⟩ = some (.string C)) := Lib.hid ((Blk.new w2 [.string C] 9).cell 0 _ rfl); clear hb1 hx1)
                  | (at_builtin; refine append_text rfl (.tmp 57) (.tmp 59) rfl w1.heap.size v1 _ rfl (HB1.out.ext HX3.out) w2.heap.size C rfl HCl.out HL1.out (X2.out.trans HX3.out).size ?_; intro v2 w3 hb2 hx2; have HB2 := Lib.hid hb2; have X3 : Hid (Ext w1 w3) := Lib.hid (Below.trans (X2.out.trans HX3.out) hx2); clear hb2 hx2)
                  | (at_builtin; refine append_list rfl (.tmp 61) (.tmp 64) rfl w1.heap.size v2 _ rfl HB2.out ad 0 (cap - j) ((O.map toB).drop j) (by rw [HDl.out]; omega) rfl (HK4.out _ (X1.out.trans X3.out)) (by have := HL2.out; omega) X3.out.size ?_; intro v3 w4 hb3 hx3; have HB3 := Lib.hid hb3; have X4 : Hid (Ext w1 w4) := Lib.hid (Below.trans X3.out hx3); clear hb3 hx3))
                go_roundw
                case rel => exact ⟨k + 1, O.take j ++ C.data.toList :: O.drop j, by omega, by go_num, bufS_mono (by have := HB3.out; rwa [ins_map] at this) (HE.out.trans X1.out).size, Lib.hid (by rw [HSt.out, HSo.out, HIA.out, if_neg HNe.out]), Lib.hid (fun e => absurd (congrArg List.length e) (by simp)), HX3a.out.trans X4.out⟩
                case measure => simp [intOf]; omega
    · obtain rfl : k = l.length := by omega
      have hm := hO.out
      rw [List.take_of_length_le (by simp [dataL])] at hm
      have HM := Lib.hid hm
      clear hm hext
      go_wp2
      go_ret
      exact ⟨_, rfl, by unfold namesB; rw [← HM.out]; exact HB.out, HE.out⟩
end Go.Proofs.YtgcnpcpdgdhdkaaDoor
