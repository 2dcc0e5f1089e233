/- The walk of PathPieces. -/
import Derived.Test.YtgcnpcpdgdhdkaaDoorPathWk
import Derived.Test.YtgcnpcpdgdhdkaaDoorPathJ
import Derived.Test.YtgcnpcpdgdhdkaaDoorHeavy16
namespace Go.Proofs.YtgcnpcpdgdhdkaaDoor
open Go.RowKit

theorem nil_app (x : ByteArray) : (⟨#[]⟩ : ByteArray) ++ x = x := by
  apply ByteArray.ext
  apply Array.toList_inj.1
  rw [ByteArray.data_append, Array.toList_append]
  rfl
theorem addr_zero (a : Addr) : a.add 0 = a := by cases a with | mk b o p => cases p <;> rfl
set_option maxRecDepth 100000 in
set_option maxHeartbeats 8000000 in
theorem PathPieces_walk (w : World) (q : Option Addr) (c : Nat) (l : List ByteArray) (hq : TextsP w q l) (hs : ∀ s ∈ l, s.size ≤ 140737488351232) (hl : l.length ≤ 140737488355328) :
    Calls Tryd.prog 5 #[.slice q l.length c] w fun e w' => e = .returned (.bool true) ∧ Ext w w' := by
  have HW := Lib.hid (fun u => works16 u)
  by_cases hh : Heavy l
  · have HV := Lib.hid (heavy_yes w q c l hq hs hl hh)
    clear hh hq hs
    go_enter Tryd.func5, Tryd.ntmps5
    go_wp2_with (first
      | (go_at_call 7; refine HV.out.mono ?_; rintro e w1 ⟨rfl, rfl⟩)
      | (go_at_call 8; refine (HW.out _).mono ?_; rintro e w2 ⟨rfl, x2⟩; have X2 := Lib.hid x2; clear x2))
    go_ret
    exact ⟨rfl, X2.out⟩
  have HV := Lib.hid (heavy_no w q c l hq hs hl hh)
  by_cases h0 : l.length = 0
  · obtain rfl : l = [] := List.length_eq_zero_iff.1 h0
    clear hh hq hs h0
    go_enter Tryd.func5, Tryd.ntmps5
    go_wp2_with (first
      | (go_at_call 7; refine HV.out.mono ?_; rintro e w1 ⟨rfl, rfl⟩)
      | (go_at_call 8; refine (HW.out _).mono ?_; rintro e w2 ⟨rfl, x2⟩; have X2 := Lib.hid x2; clear x2))
    go_ret
    exact ⟨rfl, X2.out⟩
  have z0 : ((l.length : Int) == 0) = false := by rw [beq_eq_false_iff_ne]; omega
  by_cases h8 : 8 < l.length
  · clear hh hq hs h0
    have g8 : (8 : Int) < (l.length : Int) := by omega
    go_enter Tryd.func5, Tryd.ntmps5
    go_wp2_with (first
      | (go_at_call 7; refine HV.out.mono ?_; rintro e w1 ⟨rfl, rfl⟩)
      | (go_at_call 8; refine (HW.out _).mono ?_; rintro e w2 ⟨rfl, x2⟩; have X2 := Lib.hid x2; clear x2))
    go_ret
    exact ⟨rfl, X2.out⟩
  have hsz := (not_heavy hh).2
  have HQ := Lib.hid hq
  have HSz := Lib.hid hsz
  obtain ⟨x0, hx0⟩ : ∃ x, l[0]? = some x := ⟨_, List.getElem?_eq_getElem (by omega)⟩
  obtain ⟨a, rfl, _, hc0⟩ := hq 0 x0 hx0
  have hz0 := hsz x0 (List.mem_of_getElem? hx0)
  have hc0' : w.cell? a = some (.string x0) := by
    have : a.add 0 = a := by cases a with | mk b o p => cases p <;> rfl
    rwa [this] at hc0
  have hlen0 : 0 < l.length := by omega
  clear hh hq hs h0 hsz hx0
  go_enter Tryd.func5, Tryd.ntmps5
  go_wp2_with (go_at_call 7; refine HV.out.mono ?_; rintro e w1 ⟨rfl, rfl⟩)
  clear hc0 hc0'
  go_loop [3, 4] (fun sv iv => ∃ (k : Nat) (S : ByteArray), k ≤ l.length ∧ 1 ≤ k ∧ iv = .int .i64 (k : Int) ∧ sv = .string S ∧ S.size ≤ 4097 * k) (fun _ iv => l.length - (intOf iv).toNat)
  case atStart => exact ⟨1, x0, by omega, Nat.le_refl _, rfl, rfl, by omega⟩
  case round =>
    obtain ⟨k, S, hk, hk1, rfl, rfl, hS⟩ := hrel
    by_cases hlt : k < l.length
    · obtain ⟨x, hx⟩ : ∃ x, l[k]? = some x := ⟨_, List.getElem?_eq_getElem hlt⟩
      obtain ⟨a', ha', _, hc1⟩ := HQ.out k x hx
      obtain rfl : a = a' := Option.some.inj ha'
      have hxs := HSz.out x (List.mem_of_getElem? hx)
      clear hx ha'
      go_wp2
      go_round
      case rel => exact ⟨k + 1, _, by omega, by omega, by go_num, rfl, by have e1 : (⟨#[47]⟩ : ByteArray).size = 1 := rfl; simp; omega⟩
      case measure => simp [intOf]; omega
    · have hSz : S.size ≤ 40000 := by omega
      clear hS
      have HPc := Lib.hid (fun u => Pieces_any S (by omega) u)
      have HM := Lib.hid (fun u => May_any S (by omega) u)
      have hUS := fun u => Under_any S S (by omega) (by omega) u
      rw [show underT S S = false from under_irr _] at hUS
      have HUS := Lib.hid hUS
      clear hUS
      cases hm : mayB S.data.toList with
      | false =>
        rw [hm] at HM
        rw [piecesB_no hm] at HPc
        clear hm
        go_wp2_with (first
          | (go_at_call 14; refine (HPc.out _).mono ?_; rintro e w2 ⟨pb, cb, rfl, -, x2⟩; have X2 := Lib.hid x2; clear x2)
          | (go_at_call 12; refine (HM.out _).mono ?_; rintro e w3 ⟨rfl, x3⟩; have X3 := Lib.hid x3; clear x3)
          | (go_at_call 8; refine (HW.out _).mono ?_; rintro e w4 ⟨rfl, x4⟩; have X4 := Lib.hid x4; clear x4))
        go_ret
        exact ⟨rfl, (X2.out.trans X3.out).trans X4.out⟩
      | true =>
        rw [hm] at HM
        have hL := piecesB_of hm
        rw [hL] at HPc
        have h128 := may_size hm
        have h1 : 0 < (cutsB S).length := by rw [cutsB_length]; exact List.length_pos_iff.2 (cuts_ne _)
        have h8' : (cutsB S).length ≤ 8 := by rw [← hL]; exact piecesB_len S
        have HHd := Lib.hid (fun k => headB_size S k)
        have HH1 := Lib.hid (fun x h => headB_one S x h)
        have HHn := Lib.hid (fun x k hk hx => headB_next S x k hk hx)
        have HHe := Lib.hid (fun k hk hl => headB_ne S hm k hk hl)
        have HHu := Lib.hid (fun k hl => headB_under S hm k hl)
        have HHc := Lib.hid (fun x k hx => headB_child S x hm k hx)
        have HHa := Lib.hid (headB_all S)
        have HXs := Lib.hid (fun x (h : x ∈ cutsB S) => cutsB_le S x h)
        clear hm hL
        generalize cutsB S = L at *
        have zl : ((L.length : Int) == 0) = false := by rw [beq_eq_false_iff_ne]; omega
        go_wp2_with (first
          | (go_at_call 14; refine (HPc.out _).mono ?_; rintro e w2 ⟨pb, cb, rfl, t2, x2⟩; have X2 := Lib.hid x2; have T2 := Lib.hid t2; clear x2 t2)
          | (go_at_call 12; refine (HM.out _).mono ?_; rintro e w3 ⟨rfl, x3⟩; have X3 := Lib.hid x3; clear x3))
        go_loopw [6, 7] (fun av iv wr => ∃ (k : Nat) (A : ByteArray), k ≤ L.length ∧ iv = .int .i64 (k : Int) ∧ av = .string A ∧ A.size ≤ 128 ∧ Hid (A = headB S k) ∧ Hid (Ext w3 wr)) (fun _ iv _ => L.length - (intOf iv).toNat)
        case atStart => exact ⟨0, ⟨#[]⟩, Nat.zero_le _, rfl, rfl, by decide, Lib.hid (headB_zero S).symm, Lib.hid (Ext.refl _)⟩
        case round =>
          obtain ⟨k, A, hk, rfl, rfl, hA, HAe, HE⟩ := hrel
          by_cases hlt : k < L.length
          · obtain ⟨x, hx⟩ : ∃ x, L[k]? = some x := ⟨_, List.getElem?_eq_getElem hlt⟩
            obtain ⟨a2, rfl, hab, hc1⟩ := (T2.out.ext (X3.out.trans HE.out)) k x hx
            have HCl := Lib.hid (fun u (hu : Ext wr u) => (hu.below.cell (p := a2.add k) (by rw [add_block]; exact hab)).trans hc1)
            have hxs := HXs.out x (List.mem_of_getElem? hx)
            obtain ⟨hu, hp⟩ := HHu.out k hlt
            have hch := HHc.out x k hx
            rw [← HAe.out] at hu hp hch
            have HPx := fun u => Prefix_any A (by omega) u
            rw [hp] at HPx
            have HUx := fun u => Under_any A S (by omega) (by omega) u
            have HCx := fun u => Child_any A S (by omega) (by omega) u
            rw [hu] at HUx HCx
            rw [hch] at HCx
            have HP := Lib.hid HPx; have HU := Lib.hid HUx; have HC := Lib.hid HCx
            have HX := Lib.hid hx
            have hA2 := HHd.out (k + 1)
            clear hx hab hc1 hu hp hch HPx HUx HCx
            have HNx : Hid ((k = 0 → headB S (k + 1) = x) ∧ (0 < k → headB S (k + 1) = A ++ ⟨#[47]⟩ ++ x)) := Lib.hid ⟨fun e => by subst e; exact HH1.out x HX.out, fun h => by rw [HAe.out]; exact HHn.out x k h HX.out⟩
            by_cases hlast : k + 1 < L.length
            · rw [if_pos hlast] at HC
              rcases Nat.eq_zero_or_pos k with rfl | hpos
              · obtain rfl : A = ⟨#[]⟩ := HAe.out
                go_wp2_with (first
                  | (go_at_call 15; refine (HP.out _).mono ?_; rintro e w4 ⟨rfl, x4⟩; have X4 := Lib.hid x4; clear x4)
                  | (go_at_call 17; refine (HU.out _).mono ?_; rintro e w5 ⟨rfl, x5⟩; have X5 := Lib.hid x5; clear x5)
                  | (go_at_call 10; refine (HC.out _).mono ?_; rintro e w6 ⟨rfl, x6⟩; have X6 := Lib.hid ((X4.out.trans X5.out).trans x6); have hcl : w6.cell? a2 = some (.string x) := (by have := HCl.out _ X6.out; rwa [addr_zero] at this); clear x6))
                go_roundw
                case rel => exact ⟨1, _, by omega, rfl, rfl, by first | omega | (rw [nil_app]; omega), Lib.hid (by rw [HNx.out.1 (by trivial)]; first | rfl | exact nil_app x), Lib.hid (HE.out.trans X6.out)⟩
                case measure => simp [intOf]; omega
              · have hne := HHe.out k hpos hk
                rw [← HAe.out] at hne
                go_wp2_with (first
                  | (go_at_call 15; refine (HP.out _).mono ?_; rintro e w4 ⟨rfl, x4⟩; have X4 := Lib.hid x4; clear x4)
                  | (go_at_call 17; refine (HU.out _).mono ?_; rintro e w5 ⟨rfl, x5⟩; have X5 := Lib.hid x5; clear x5)
                  | (go_at_call 10; refine (HC.out _).mono ?_; rintro e w6 ⟨rfl, x6⟩; have X6 := Lib.hid ((X4.out.trans X5.out).trans x6); have hcl := HCl.out _ X6.out; clear x6))
                go_roundw
                case rel => exact ⟨k + 1, _, by omega, by go_num, rfl, by rw [← HNx.out.2 hpos]; omega, Lib.hid (HNx.out.2 hpos).symm, Lib.hid (HE.out.trans X6.out)⟩
                case measure => simp [intOf]; omega
            · rw [if_neg hlast] at HC
              rcases Nat.eq_zero_or_pos k with rfl | hpos
              · obtain rfl : A = ⟨#[]⟩ := HAe.out
                go_wp2_with (first
                  | (go_at_call 15; refine (HP.out _).mono ?_; rintro e w4 ⟨rfl, x4⟩; have X4 := Lib.hid x4; clear x4)
                  | (go_at_call 17; refine (HU.out _).mono ?_; rintro e w5 ⟨rfl, x5⟩; have X5 := Lib.hid x5; clear x5)
                  | (go_at_call 10; refine (HC.out _).mono ?_; rintro e w6 ⟨rfl, x6⟩; have X6 := Lib.hid ((X4.out.trans X5.out).trans x6); have hcl : w6.cell? a2 = some (.string x) := (by have := HCl.out _ X6.out; rwa [addr_zero] at this); clear x6))
                go_roundw
                case rel => exact ⟨1, _, by omega, rfl, rfl, by first | omega | (rw [nil_app]; omega), Lib.hid (by rw [HNx.out.1 (by trivial)]; first | rfl | exact nil_app x), Lib.hid (HE.out.trans X6.out)⟩
                case measure => simp [intOf]; omega
              · have hne := HHe.out k hpos hk
                rw [← HAe.out] at hne
                go_wp2_with (first
                  | (go_at_call 15; refine (HP.out _).mono ?_; rintro e w4 ⟨rfl, x4⟩; have X4 := Lib.hid x4; clear x4)
                  | (go_at_call 17; refine (HU.out _).mono ?_; rintro e w5 ⟨rfl, x5⟩; have X5 := Lib.hid x5; clear x5)
                  | (go_at_call 10; refine (HC.out _).mono ?_; rintro e w6 ⟨rfl, x6⟩; have X6 := Lib.hid ((X4.out.trans X5.out).trans x6); have hcl := HCl.out _ X6.out; clear x6))
                go_roundw
                case rel => exact ⟨k + 1, _, by omega, by go_num, rfl, by rw [← HNx.out.2 hpos]; omega, Lib.hid (HNx.out.2 hpos).symm, Lib.hid (HE.out.trans X6.out)⟩
                case measure => simp [intOf]; omega
          · obtain rfl : k = L.length := by omega
            obtain rfl : A = S := HAe.out.trans HHa.out
            go_wp2_with (first
              | (go_at_call 17; refine (HUS.out _).mono ?_; rintro e w5 ⟨rfl, x5⟩; have X5 := Lib.hid x5; clear x5)
              | (go_at_call 8; refine (HW.out _).mono ?_; rintro e w6 ⟨rfl, x6⟩; have X6 := Lib.hid x6; clear x6))
            go_ret
            exact ⟨rfl, (((X2.out.trans X3.out).trans HE.out).trans X5.out).trans X6.out⟩
end Go.Proofs.YtgcnpcpdgdhdkaaDoor
