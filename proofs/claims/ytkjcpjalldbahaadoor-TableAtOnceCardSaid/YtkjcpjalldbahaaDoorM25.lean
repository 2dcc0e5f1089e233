/- Contracts: paths, by the program: which texts are ones, their pieces, what is under what, children. -/
import Derived.Test.YtkjcpjalldbahaaDoorM23
import Derived.Test.YtkjcpjalldbahaaDoorM24
section
namespace Go.Proofs.YtkjcpjalldbahaaDoor
open Go.RowKit

theorem split_texts (s : ByteArray) (w : World) (hs : s.size < 4294967281) :
    Calls Tryd.prog 52 #[.string s, .string ⟨#[47]⟩] w fun e w' => ∃ p, e = .returned (.slice p (cutsB s).length (cutsB s).length) ∧ TextsP w' p (cutsB s) ∧ Ext w w' :=
  (split_any s w hs).mono fun e w' ⟨he, hw⟩ => by
    subst hw
    refine ⟨_, he, ?_, (Ext.refl w).alloc _⟩
    have hb := Blk.new w ((cutsB s).map Value.string) 9
    intro i x hx
    refine ⟨⟨w.heap.size, 0, none⟩, rfl, hb.lt, ?_⟩
    have e0 : ((⟨w.heap.size, 0, none⟩ : Addr).add i) = ⟨w.heap.size, i, none⟩ := by unfold Addr.add; split <;> simp_all
    rw [e0]
    exact hb.cell i _ (by simp [hx])
set_option maxHeartbeats 1000000 in
theorem May_any (s : ByteArray) (hs : s.size ≤ 140737488351232) (w : World) : Calls Tryd.prog 38 #[.string s] w fun e w' => e = .returned (.bool (mayB s.data.toList)) ∧ Ext w w' := by
  by_cases h1 : 128 < s.size
  · have e : mayB s.data.toList = false := by unfold mayB; rw [size_list, decide_eq_false (by omega)]; rfl
    rw [e]
    go_enter Tryd.func38, Tryd.ntmps38; go_wp2; go_ret; exact ⟨rfl, Ext.refl w⟩
  have HN := Lib.hid (may_no s)
  have HA := Lib.hid (may_all s (by omega))
  have HLe := Lib.hid (cutsB_le s)
  have HC := Lib.hid (fun u => split_texts s u (by omega))
  have hLn := cutsB_len_le s
  obtain ⟨R, hR⟩ : ∃ R, mayB s.data.toList = R := ⟨_, rfl⟩
  rw [hR]
  rw [hR] at HN HA
  clear hR
  generalize cutsB s = L at *
  go_enter Tryd.func38, Tryd.ntmps38
  go_wp2_with (go_at_call 52; refine (HC.out _).mono ?_; rintro e w1 ⟨p, rfl, ht, x1⟩; have HT := Lib.hid ht; have X := Lib.hid x1; clear ht x1)
  go_loop [13] (fun i => ∃ k : Nat, k ≤ L.length ∧ i = .int .i64 k ∧ Hid (∀ x ∈ L.take k, pieceB x.data.toList = true)) (fun i => L.length - (intOf i).toNat)
  case atStart => exact ⟨0, Nat.zero_le _, rfl, Lib.hid (by simp)⟩
  case round =>
    obtain ⟨k, hk, rfl, hall⟩ := hrel
    by_cases hlt : k < L.length
    · obtain ⟨x, hx⟩ : ∃ x, L[k]? = some x := ⟨_, List.getElem?_eq_getElem hlt⟩
      obtain ⟨a, rfl, _, hc⟩ := HT.out k x hx
      have HX := Lib.hid hx
      have hxs := HLe.out x (List.mem_of_getElem? hx)
      clear hx
      cases hi : pieceB x.data.toList with
      | true =>
        have HI := Lib.hid hi
        clear hi
        go_wp2_with (go_at_call 53; refine (isPiece_any _ (by omega) _).mono ?_; rintro e w' ⟨rfl, rfl⟩; rw [HI.out])
        go_round
        case rel =>
          refine ⟨k + 1, by omega, by go_num, Lib.hid ?_⟩
          intro y hy
          rw [List.take_add_one, HX.out] at hy
          rcases List.mem_append.1 hy with hy | hy
          · exact hall.out y hy
          · simp at hy; subst hy; exact HI.out
        case measure => simp [intOf]; omega
      | false =>
        have HI := Lib.hid hi
        obtain rfl : R = false := HN.out x (List.mem_of_getElem? HX.out) hi
        clear hi
        go_wp2_with (go_at_call 53; refine (isPiece_any _ (by omega) _).mono ?_; rintro e w' ⟨rfl, rfl⟩; rw [HI.out])
        go_ret
        exact ⟨rfl, X.out⟩
    · obtain rfl : k = L.length := by omega
      have e := hall.out
      rw [List.take_of_length_le (Nat.le_refl _)] at e
      have HR := Lib.hid (HA.out e)
      clear e
      go_wp2
      go_ret
      exact ⟨retB (by rw [HR.out, decide_eq_decide]; omega), X.out⟩
theorem Prefix_any (s : ByteArray) (hs : s.size ≤ 140737488351232) (w : World) : Calls Tryd.prog 74 #[.string s] w fun e w' => e = .returned (.bool (prefB s.data.toList)) ∧ Ext w w' := by
  rcases str_cases s with rfl | ⟨h1, h2, h3⟩
  · go_enter Tryd.func74, Tryd.ntmps74
    go_wp2
    go_ret
    exact ⟨rfl, Ext.refl w⟩
  · have e : prefB s.data.toList = mayB s.data.toList := by unfold prefB; rw [h2]; rfl
    rw [e]
    have HM := Lib.hid (fun u => May_any s hs u)
    clear h2 h3 e
    generalize mayB s.data.toList = R at *
    go_enter Tryd.func74, Tryd.ntmps74
    go_wp2_with (go_at_call 38; refine (HM.out _).mono ?_; rintro e w1 ⟨rfl, x1⟩; have X := Lib.hid x1; clear x1)
    go_ret
    exact ⟨rfl, X.out⟩
theorem pre_data (p : ByteArray) : (p ++ ⟨#[47]⟩).data.toList = p.data.toList ++ [47] := by rw [ByteArray.data_append, Array.toList_append]
set_option maxHeartbeats 1000000 in
theorem below_any (p s : ByteArray) (hp : p.size ≤ 140737488351232) (hs : s.size ≤ 140737488351232) (w : World) :
    Calls Tryd.prog 55 #[.string p, .string s] w fun e w' => ∃ r, e = .returned (.tuple #[.string r, .bool (underT p s)]) ∧ (underT p s = true → r = restB p s) ∧ Ext w w' := by
  have HP := Lib.hid (fun u => Prefix_any p hp u)
  have HM := Lib.hid (fun u => May_any s hs u)
  unfold underT
  cases h1 : prefB p.data.toList with
  | false =>
    have e : underB p.data.toList s.data.toList = false := by unfold underB; rw [h1]; rfl
    rw [e]
    rw [h1] at HP
    clear h1 e
    go_enter Tryd.func55, Tryd.ntmps55
    go_wp2_with (go_at_call 74; refine (HP.out _).mono ?_; rintro e w1 ⟨rfl, x1⟩; have X := Lib.hid x1; clear x1)
    go_ret2
    exact ⟨_, rfl, (fun h => by cases h), X.out⟩
  | true =>
    rw [h1] at HP
    cases h2 : mayB s.data.toList with
    | false =>
      have e : underB p.data.toList s.data.toList = false := by unfold underB; rw [h2]; simp
      rw [e]
      rw [h2] at HM
      clear h1 h2 e
      go_enter Tryd.func55, Tryd.ntmps55
      go_wp2_with (first
        | (go_at_call 74; refine (HP.out _).mono ?_; rintro e w1 ⟨rfl, x1⟩; have X := Lib.hid x1; clear x1)
        | (go_at_call 38; refine (HM.out _).mono ?_; rintro e w2 ⟨rfl, x2⟩; have X2 := Lib.hid x2; clear x2))
      go_ret2
      exact ⟨_, rfl, (fun h => by cases h), X.out.trans X2.out⟩
    | true =>
      rw [h2] at HM
      rcases str_cases p with rfl | ⟨k1, k2, k3⟩
      · have e : underB (⟨#[]⟩ : ByteArray).data.toList s.data.toList = true := by unfold underB; rw [h1, h2]; rfl
        rw [e]
        have HR : Hid (s = restB ⟨#[]⟩ s) := Lib.hid rfl
        clear h1 h2 e
        go_enter Tryd.func55, Tryd.ntmps55
        go_wp2_with (first
          | (go_at_call 74; refine (HP.out _).mono ?_; rintro e w1 ⟨rfl, x1⟩; have X := Lib.hid x1; clear x1)
          | (go_at_call 38; refine (HM.out _).mono ?_; rintro e w2 ⟨rfl, x2⟩; have X2 := Lib.hid x2; clear x2))
        go_ret2
        exact ⟨_, rfl, (fun _ => HR.out), X.out.trans X2.out⟩
      · have hc := fun u => cutPrefix_any s (p ++ ⟨#[47]⟩) u
        rw [pre_data] at hc
        have e : underB p.data.toList s.data.toList = Lib.hasPrefix s.data.toList (p.data.toList ++ [47]) := by
          unfold underB Lib.hasPrefix; rw [h1, h2, k2]; rfl
        have e2 : underB p.data.toList s.data.toList = true → toB (Lib.trimPrefix s.data.toList (p.data.toList ++ [47])) = restB p s := by
          intro h
          rw [e] at h
          unfold Lib.trimPrefix restB restL
          rw [if_pos h, k2]
          simp
        rw [← e] at hc
        have HC := Lib.hid hc
        have HR := Lib.hid e2
        clear h1 h2 k2 k3 hc e e2
        generalize underB p.data.toList s.data.toList = U at *
        generalize toB (Lib.trimPrefix s.data.toList (p.data.toList ++ [47])) = V at *
        go_enter Tryd.func55, Tryd.ntmps55
        go_wp2_with (first
          | (go_at_call 74; refine (HP.out _).mono ?_; rintro e w1 ⟨rfl, x1⟩; have X := Lib.hid x1; clear x1)
          | (go_at_call 38; refine (HM.out _).mono ?_; rintro e w2 ⟨rfl, x2⟩; have X2 := Lib.hid x2; clear x2)
          | (go_at_call 75; refine (HC.out _).mono ?_; rintro e w3 ⟨rfl, rfl⟩))
        go_ret2
        exact ⟨_, rfl, HR.out, X.out.trans X2.out⟩
theorem childSize_any (r : ByteArray) (hr : r.size ≤ 140737488351232) (w : World) : Calls Tryd.prog 56 #[.string r] w fun e w' => e = .returned (.int .i64 ((firstL r.data.toList).length : Nat)) ∧ w = w' := by
  have hi := fun u => strindexP_any r u
  have hl := size_list r
  rcases index_first r.data.toList with ⟨h, e⟩ | ⟨n, h, hn, e⟩
  · rw [h] at hi
    rw [e, hl]
    have HI := Lib.hid hi
    clear h e hl hi
    go_enter Tryd.func56, Tryd.ntmps56
    go_wp2_with (go_at_call 76; refine (HI.out _).mono ?_; rintro e w3 ⟨rfl, rfl⟩)
    go_ret
    exact ⟨rfl, rfl⟩
  · rw [h] at hi
    rw [e, List.length_take, Nat.min_eq_left hn]
    rw [hl] at hn
    have HI := Lib.hid hi
    clear h e hl hi
    go_enter Tryd.func56, Tryd.ntmps56
    go_wp2_with (go_at_call 76; refine (HI.out _).mono ?_; rintro e w3 ⟨rfl, rfl⟩)
    go_ret
    exact ⟨rfl, rfl⟩
set_option maxHeartbeats 1000000 in
theorem Child_any (p s : ByteArray) (hp : p.size ≤ 140737488351232) (hs : s.size ≤ 140737488351232) (w : World) :
    Calls Tryd.prog 42 #[.string p, .string s] w fun e w' => e = .returned (.tuple #[.string (childB p s), .bool (underT p s)]) ∧ Ext w w' := by
  have hb := fun u => below_any p s hp hs u
  cases h : underT p s with
  | false =>
    have e : childB p s = ⟨#[]⟩ := by
      unfold childB childL
      unfold underT at h
      rw [h]; rfl
    rw [h] at hb
    rw [e]
    have HB := Lib.hid hb
    clear hb h e
    go_enter Tryd.func42, Tryd.ntmps42
    go_wp2_with (go_at_call 55; refine (HB.out _).mono ?_; rintro e w1 ⟨r, rfl, _, x1⟩; have X := Lib.hid x1; clear x1)
    go_ret2
    exact ⟨rfl, X.out⟩
  | true =>
    have e : childB p s = toB (firstL (restB p s).data.toList) := by
      unfold childB childL restB
      unfold underT at h
      rw [h, toB_data]; rfl
    have hrs := rest_size p s
    rw [h] at hb
    have HB := Lib.hid hb
    have HZ := Lib.hid (fun u => childSize_any (restB p s) (by omega) u)
    have hf := first_take (restB p s).data.toList
    rw [size_list] at hf
    have hx : (restB p s).extract 0 (firstL (restB p s).data.toList).length = childB p s := by
      apply ByteArray.ext
      apply Array.toList_inj.1
      rw [cut_list, e, toB_data]
      simpa using hf.1
    have hcs : (childB p s).size ≤ (restB p s).size := by rw [e, toB_size]; exact hf.2
    have hcut := fun u => cut_to (restB p s) (firstL (restB p s).data.toList).length hf.2 u
    rw [hx] at hcut
    have hf2 := hf.2
    clear hb h e hf hx
    generalize (firstL (restB p s).data.toList).length = n at *
    generalize childB p s = C at *
    generalize restB p s = r at *
    have HC := Lib.hid (fun u => strcloneP_any C (by omega) u)
    clear hcs
    go_enter Tryd.func42, Tryd.ntmps42
    go_wp2_with (first
      | (go_at_call 55; refine (HB.out _).mono ?_; rintro e w1 ⟨r1, rfl, hr1, x1⟩; obtain rfl := hr1 rfl; have X := Lib.hid x1; clear x1 hr1)
      | (go_at_call 56; refine (HZ.out _).mono ?_; rintro e w2 ⟨rfl, rfl⟩)
      | (go_at_call 33; refine (HC.out _).mono ?_; rintro e w3 ⟨rfl, x3⟩; have X3 := Lib.hid x3; clear x3))
    go_ret2
    exact ⟨rfl, X.out.trans X3.out⟩
end Go.Proofs.YtkjcpjalldbahaaDoor
end
