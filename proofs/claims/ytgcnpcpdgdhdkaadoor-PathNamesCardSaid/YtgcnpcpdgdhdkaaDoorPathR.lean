/- Contracts: pieces, prefixes, what is under what, children, by the document. -/
import Derived.Test.YtgcnpcpdgdhdkaaDoorPathC
import Derived.Test.YtgcnpcpdgdhdkaaDoorPathP
import Derived.Deep.QuietTactic
import Derived.BigQuiet
namespace Go.Proofs.YtgcnpcpdgdhdkaaDoor
open Go.RowKit

set_option maxRecDepth 100000 in
set_option maxHeartbeats 1000000 in
theorem rPieces_any (s : ByteArray) (hs : s.size ≤ 140737488351232) (w : World) : Calls Tryd.prog 9 #[.string s] w (TextsR (piecesB s) w) := by
  by_cases h1 : 128 < s.size
  · have e : mayB s.data.toList = false := by unfold mayB; rw [size_list, decide_eq_false (by omega)]; rfl
    rw [piecesB_no e]
    clear e
    go_enter Tryd.func9, Tryd.ntmps9; go_wp2; go_ret; exact ⟨none, 0, rfl, TextsP.none _, Ext.refl w⟩
  have HC := Lib.hid (fun u => rcut_any s (by omega) u)
  have HLe := Lib.hid (cutsB_le s)
  have hLn := cutsB_len_le s
  by_cases h8 : 8 < (cutsB s).length
  · have e : mayB s.data.toList = false := by unfold mayB; rw [cutsB_length] at h8; rw [decide_eq_false (p := (cuts s.data.toList).length ≤ 8) (by omega)]; simp
    rw [piecesB_no e]
    clear e
    generalize cutsB s = L at *
    go_enter Tryd.func9, Tryd.ntmps9
    go_wp2_with (go_at_call 21; refine (HC.out _).mono ?_; rintro e w1 ⟨v, rfl, hb, x1⟩; have X := Lib.hid x1; obtain ⟨p, c, rfl, ht, -⟩ := hb.texts; clear hb ht x1)
    go_ret
    exact ⟨none, 0, rfl, TextsP.none _, X.out⟩
  have HN := Lib.hid (fun x (h : x ∈ cutsB s) hx => piecesB_no (may_no s x h hx))
  have HA := Lib.hid (fun (hx : ∀ x ∈ cutsB s, pieceB x.data.toList = true) => piecesB_of (s := s) ((may_all s (by omega) hx).trans (decide_eq_true (by omega))))
  generalize cutsB s = L at *
  generalize piecesB s = R at *
  go_enter Tryd.func9, Tryd.ntmps9
  go_wp2_with (go_at_call 21; refine (HC.out _).mono ?_; rintro e w1 ⟨v, rfl, hb, x1⟩; have X := Lib.hid x1; obtain ⟨p, c, rfl, ht, -⟩ := hb.texts; have HT := Lib.hid ht; clear hb ht x1)
  go_loop [4] (fun i => ∃ k : Nat, k ≤ L.length ∧ i = .int .i64 k ∧ Hid (∀ x ∈ L.take k, pieceB x.data.toList = true)) (fun i => L.length - (intOf i).toNat)
  case atStart => exact ⟨0, Nat.zero_le _, rfl, Lib.hid (by simp)⟩
  case round =>
    obtain ⟨k, hk, rfl, hall⟩ := hrel
    by_cases hlt : k < L.length
    · obtain ⟨x, hx⟩ : ∃ x, L[k]? = some x := ⟨_, List.getElem?_eq_getElem hlt⟩
      obtain ⟨a, rfl, _, hc⟩ := HT.out k x hx
      have HX := Lib.hid hx
      have hxs := HLe.out x (List.mem_of_getElem? hx)
      clear hx
      cases hi : pieceB x.data.toList with
      | true =>
        have HI := Lib.hid hi
        clear hi
        go_wp2_with (go_at_call 22; refine (rpiece_any _ (by omega) _).mono ?_; rintro e w' ⟨rfl, rfl⟩; rw [HI.out])
        go_round
        case rel =>
          refine ⟨k + 1, by omega, by go_num, Lib.hid ?_⟩
          intro y hy
          rw [List.take_add_one, HX.out] at hy
          rcases List.mem_append.1 hy with hy | hy
          · exact hall.out y hy
          · simp at hy; subst hy; exact HI.out
        case measure => simp [intOf]; omega
      | false =>
        have HI := Lib.hid hi
        obtain rfl : R = [] := HN.out x (List.mem_of_getElem? HX.out) hi
        clear hi
        go_wp2_with (go_at_call 22; refine (rpiece_any _ (by omega) _).mono ?_; rintro e w' ⟨rfl, rfl⟩; rw [HI.out])
        go_ret
        exact ⟨none, 0, rfl, TextsP.none _, X.out⟩
    · obtain rfl : k = L.length := by omega
      have e := hall.out
      rw [List.take_of_length_le (Nat.le_refl _)] at e
      obtain rfl : R = L := HA.out e
      clear e
      go_wp2
      go_ret
      exact ⟨p, c, rfl, HT.out, X.out⟩
theorem rPrefix_any (s : ByteArray) (hs : s.size ≤ 140737488351232) (w : World) : Calls Tryd.prog 16 #[.string s] w fun e w' => e = .returned (.bool (prefB s.data.toList)) ∧ Ext w w' := by
  rcases str_cases s with rfl | ⟨h1, h2, h3⟩
  · go_enter Tryd.func16, Tryd.ntmps16
    go_wp2
    go_ret
    exact ⟨rfl, Ext.refl w⟩
  · have e : prefB s.data.toList = decide (0 < (piecesB s).length) := by unfold prefB; rw [h2, piecesB_may]; rfl
    rw [e]
    have HM := Lib.hid (fun u => rPieces_any s hs u)
    have h8 := piecesB_len s
    clear h2 h3 e
    generalize piecesB s = L at *
    go_enter Tryd.func16, Tryd.ntmps16
    go_wp2_with (go_at_call 9; refine (HM.out _).mono ?_; rintro e w1 ⟨p, c, rfl, _, x1⟩; have X := Lib.hid x1; clear x1)
    go_ret
    exact ⟨rfl, X.out⟩
set_option maxRecDepth 100000 in
set_option maxHeartbeats 2000000 in
theorem rUnder_any (p s : ByteArray) (hp : p.size ≤ 140737488351232) (hs : s.size ≤ 140737488351232) (w : World) :
    Calls Tryd.prog 18 #[.string p, .string s] w fun e w' => e = .returned (.bool (underT p s)) ∧ Ext w w' := by
  have HP := Lib.hid (fun u => rPieces_any p hp u)
  have HS := Lib.hid (fun u => rPieces_any s hs u)
  have HF := Lib.hid (fun u => rPrefix_any p hp u)
  have hu := under_iff p s
  have hp8 := piecesB_len p
  have hs8 := piecesB_len s
  generalize piecesB p = P at *
  generalize piecesB s = L at *
  obtain ⟨U, hU⟩ : ∃ U, underT p s = U := ⟨_, rfl⟩
  rw [hU] at hu ⊢
  clear hU
  have HU := Lib.hid hu
  clear hu
  cases hpr : prefB p.data.toList with
  | false =>
    obtain rfl : U = false := by rw [← Bool.not_eq_true, HU.out, hpr]; simp
    rw [hpr] at HF
    clear hpr
    go_enter Tryd.func18, Tryd.ntmps18
    go_wp2_with (first
      | (go_at_call 9; ((with_reducible refine (HP.out _).mono ?_); rintro e w1 ⟨pp, cp, rfl, t1, x1⟩; have X := Lib.hid x1; clear x1 t1))
      | (go_at_call 9; ((with_reducible refine (HS.out _).mono ?_); rintro e w2 ⟨ps, cs, rfl, t2, x2⟩; have X2 := Lib.hid x2; clear x2 t2))
      | (go_at_call 16; refine (HF.out _).mono ?_; rintro e w3 ⟨rfl, x3⟩; have X3 := Lib.hid x3; clear x3))
    go_ret
    exact ⟨rfl, (X.out.trans X2.out).trans X3.out⟩
  | true =>
    rw [hpr] at HF
    have HU2 : Hid (U = true ↔ P.length < L.length ∧ ∀ i, i < P.length → P[i]? = L[i]?) := Lib.hid (by rw [HU.out, hpr]; simp)
    clear hpr HU
    by_cases hlen : P.length < L.length
    · go_enter Tryd.func18, Tryd.ntmps18
      go_wp2_with (first
        | (go_at_call 9; ((with_reducible refine (HP.out _).mono ?_); rintro e w1 ⟨pp, cp, rfl, t1, x1⟩; have X := Lib.hid x1; have T1 := Lib.hid t1; clear x1 t1))
        | (go_at_call 9; ((with_reducible refine (HS.out _).mono ?_); rintro e w2 ⟨ps, cs, rfl, t2, x2⟩; have X2 := Lib.hid x2; have T2 := Lib.hid t2; clear x2 t2))
        | (go_at_call 16; refine (HF.out _).mono ?_; rintro e w3 ⟨rfl, x3⟩; have X3 := Lib.hid x3; clear x3))
      have HXX := Lib.hid ((X.out.trans X2.out).trans X3.out)
      have HTP := Lib.hid (fun u (hu : Ext w3 u) => T1.out.ext ((X2.out.trans X3.out).trans hu))
      have HTS := Lib.hid (fun u (hu : Ext w3 u) => T2.out.ext (X3.out.trans hu))
      go_loopw [7] (fun iv wr => ∃ k : Nat, k ≤ P.length ∧ iv = .int .i64 k ∧ Hid (∀ i, i < k → P[i]? = L[i]?) ∧ Hid (Ext w3 wr)) (fun iv _ => P.length - (intOf iv).toNat)
      case atStart => exact ⟨0, Nat.zero_le _, rfl, Lib.hid (fun i hi => by omega), Lib.hid (Ext.refl _)⟩
      case round =>
        obtain ⟨k, hk, rfl, hall, hx⟩ := hrel
        by_cases hlt : k < P.length
        · obtain ⟨x, hxk⟩ : ∃ x, P[k]? = some x := ⟨_, List.getElem?_eq_getElem hlt⟩
          obtain ⟨y, hyk⟩ : ∃ y, L[k]? = some y := ⟨_, List.getElem?_eq_getElem (by omega)⟩
          obtain ⟨a1, rfl, _, hc1⟩ := HTP.out _ hx.out k x hxk
          obtain ⟨a2, rfl, _, hc2⟩ := HTS.out _ hx.out k y hyk
          have HX := Lib.hid hxk; have HY := Lib.hid hyk
          clear hxk hyk
          by_cases hxy : x = y
          · subst hxy
            go_wp2
            go_quiet (fail)
            go_wp2
            go_roundw
            case rel =>
              refine ⟨k + 1, hlt, by go_num, Lib.hid fun i hi => ?_, Lib.hid (hx.out.drewN _)⟩
              by_cases hik : i = k
              · subst hik; rw [HX.out, HY.out]
              · exact hall.out i (by omega)
            case measure => simp [intOf]; omega
          · have hne : (x.toList == y.toList) = false := by
              rw [beq_eq_false_iff_ne]
              intro e
              rw [Lib.toList_data, Lib.toList_data] at e
              exact hxy (by rw [← toB_of x, e, toB_of])
            have hne2 : (x.toList != y.toList) = true := by rw [bne, hne]; rfl
            obtain rfl : U = false := by
              rw [← Bool.not_eq_true, HU2.out]
              rintro ⟨_, h⟩
              have := h k hlt
              rw [HX.out, HY.out] at this
              exact hxy (Option.some.inj this)
            clear hxy
            go_wp2
            go_quiet (fail)
            go_wp2
            go_ret
            exact ⟨rfl, HXX.out.trans (hx.out.drewN _)⟩
        · obtain rfl : k = P.length := by omega
          obtain rfl : U = true := HU2.out.2 ⟨hlen, hall.out⟩
          go_wp2
          go_ret
          exact ⟨rfl, HXX.out.trans hx.out⟩
    · obtain rfl : U = false := by rw [← Bool.not_eq_true, HU2.out]; exact fun h => hlen h.1
      go_enter Tryd.func18, Tryd.ntmps18
      go_wp2_with (first
        | (go_at_call 9; ((with_reducible refine (HP.out _).mono ?_); rintro e w1 ⟨pp, cp, rfl, t1, x1⟩; have X := Lib.hid x1; clear x1 t1))
        | (go_at_call 9; ((with_reducible refine (HS.out _).mono ?_); rintro e w2 ⟨ps, cs, rfl, t2, x2⟩; have X2 := Lib.hid x2; clear x2 t2))
        | (go_at_call 16; refine (HF.out _).mono ?_; rintro e w3 ⟨rfl, x3⟩; have X3 := Lib.hid x3; clear x3))
      go_ret
      exact ⟨rfl, (X.out.trans X2.out).trans X3.out⟩
set_option maxRecDepth 100000 in
set_option maxHeartbeats 2000000 in
theorem rChild_any (p s : ByteArray) (hp : p.size ≤ 140737488351232) (hs : s.size ≤ 140737488351232) (w : World) :
    Calls Tryd.prog 11 #[.string p, .string s] w fun e w' => e = .returned (.string (childB p s)) ∧ Ext w w' := by
  have HP := Lib.hid (fun u => rPieces_any p hp u)
  have HS := Lib.hid (fun u => rPieces_any s hs u)
  have HF := Lib.hid (fun u => rUnder_any p s hp hs u)
  cases hu : underT p s with
  | false =>
    have e : childB p s = ⟨#[]⟩ := by
      unfold childB childL
      unfold underT at hu
      rw [hu]; rfl
    rw [e]
    rw [hu] at HF
    clear hu e
    go_enter Tryd.func11, Tryd.ntmps11
    go_wp2_with (go_at_call 18; refine (HF.out _).mono ?_; rintro e w3 ⟨rfl, x3⟩; have X3 := Lib.hid x3; clear x3)
    go_ret
    exact ⟨rfl, X3.out⟩
  | true =>
    rw [hu] at HF
    obtain ⟨x, hx, hc⟩ := child_at p s hu
    have hp8 := piecesB_len p
    have hs8 := piecesB_len s
    have hlt : (piecesB p).length < (piecesB s).length := (List.getElem?_eq_some_iff.1 hx).1
    have hxs := piecesB_size s x (List.mem_of_getElem? hx)
    clear hu
    generalize piecesB p = P at *
    generalize piecesB s = L at *
    generalize childB p s = C at *
    have HX := Lib.hid hx
    clear hx
    by_cases h2 : P.length + 1 < L.length
    · rw [if_pos h2] at hc
      subst hc
      go_enter Tryd.func11, Tryd.ntmps11
      go_wp2_with (first
        | (go_at_call 18; refine (HF.out _).mono ?_; rintro e w3 ⟨rfl, x3⟩; have X3 := Lib.hid x3; clear x3)
        | (go_at_call 9; ((with_reducible refine (HP.out _).mono ?_); rintro e w1 ⟨pp, cp, rfl, t1, x1⟩; have X := Lib.hid x1; clear x1 t1))
        | (go_at_call 9; ((with_reducible refine (HS.out _).mono ?_); rintro e w2 ⟨ps, cs, rfl, t2, x2⟩; have X2 := Lib.hid x2; obtain ⟨a, rfl, _, hcl⟩ := t2 _ _ HX.out; clear x2 t2)))
      go_ret
      exact ⟨rfl, (X3.out.trans X.out).trans X2.out⟩
    · rw [if_neg h2] at hc
      subst hc
      go_enter Tryd.func11, Tryd.ntmps11
      go_wp2_with (first
        | (go_at_call 18; refine (HF.out _).mono ?_; rintro e w3 ⟨rfl, x3⟩; have X3 := Lib.hid x3; clear x3)
        | (go_at_call 9; ((with_reducible refine (HP.out _).mono ?_); rintro e w1 ⟨pp, cp, rfl, t1, x1⟩; have X := Lib.hid x1; clear x1 t1))
        | (go_at_call 9; ((with_reducible refine (HS.out _).mono ?_); rintro e w2 ⟨ps, cs, rfl, t2, x2⟩; have X2 := Lib.hid x2; obtain ⟨a, rfl, _, hcl⟩ := t2 _ _ HX.out; clear x2 t2)))
      go_ret
      exact ⟨rfl, (X3.out.trans X.out).trans X2.out⟩
end Go.Proofs.YtgcnpcpdgdhdkaaDoor
