/- Contracts: paths, by the program: which texts are ones, their pieces, what is under what, children. Contracts: a table, by the program: whether it is there, whether it has a path, its cell, sizes, rows that may be, copies. -/
import Derived.Test.YtkjcpjalldbahaaGreatDoorM16
import Derived.Test.YtkjcpjalldbahaaGreatDoorM17
import Derived.Test.YtkjcpjalldbahaaGreatDoorM11
import Derived.Test.YtkjcpjalldbahaaGreatDoorM03
import Derived.Test.YtkjcpjalldbahaaGreatDoorM14
import Derived.Test.YtkjcpjalldbahaaGreatDoorM15
import Derived.WalkSpells
import Derived.Carry
import Derived.Deep.DeepCutAuto
section
namespace Go.Proofs.YtkjcpjalldbahaaGreatDoor
open Go.RowKit

theorem split_texts (s : ByteArray) (w : World) (hs : s.size < 4294967281) :
    Calls Tryz.prog 58 #[.string s, .string ⟨#[47]⟩] w fun e w' => ∃ p, e = .returned (.slice p (cutsB s).length (cutsB s).length) ∧ TextsP w' p (cutsB s) ∧ Ext w w' :=
  (split_any s w hs).mono fun e w' ⟨he, hw⟩ => by
    subst hw
    refine ⟨_, he, ?_, (Ext.refl w).alloc _⟩
    have hb := Blk.new w ((cutsB s).map Value.string) 9
    intro i x hx
    refine ⟨⟨w.heap.size, 0, none⟩, rfl, hb.lt, ?_⟩
    have e0 : ((⟨w.heap.size, 0, none⟩ : Addr).add i) = ⟨w.heap.size, i, none⟩ := by unfold Addr.add; split <;> simp_all
    rw [e0]
    exact hb.cell i _ (by simp [hx])
set_option maxHeartbeats 1000000 in
theorem May_any (s : ByteArray) (hs : s.size ≤ 140737488351232) (w : World) : Calls Tryz.prog 34 #[.string s] w fun e w' => e = .returned (.bool (mayB s.data.toList)) ∧ Ext w w' := by
  by_cases h1 : 128 < s.size
  · have e : mayB s.data.toList = false := by unfold mayB; rw [size_list, decide_eq_false (by omega)]; rfl
    rw [e]
    go_enter Tryz.func34, Tryz.ntmps34; go_wp2; go_ret; exact ⟨rfl, Ext.refl w⟩
  have HN := Lib.hid (may_no s)
  have HA := Lib.hid (may_all s (by omega))
  have HLe := Lib.hid (cutsB_le s)
  have HC := Lib.hid (fun u => split_texts s u (by omega))
  have hLn := cutsB_len_le s
  obtain ⟨R, hR⟩ : ∃ R, mayB s.data.toList = R := ⟨_, rfl⟩
  rw [hR]
  rw [hR] at HN HA
  clear hR
  generalize cutsB s = L at *
  go_enter Tryz.func34, Tryz.ntmps34
  go_wp2_with (go_at_call 58; refine (HC.out _).mono ?_; rintro e w1 ⟨p, rfl, ht, x1⟩; have HT := Lib.hid ht; have X := Lib.hid x1; clear ht x1)
  go_loop [13] (fun i => ∃ k : Nat, k ≤ L.length ∧ i = .int .i64 k ∧ Hid (∀ x ∈ L.take k, pieceB x.data.toList = true)) (fun i => L.length - (intOf i).toNat)
  case atStart => exact ⟨0, Nat.zero_le _, rfl, Lib.hid (by simp)⟩
  case round =>
    obtain ⟨k, hk, rfl, hall⟩ := hrel
    by_cases hlt : k < L.length
    · obtain ⟨x, hx⟩ : ∃ x, L[k]? = some x := ⟨_, List.getElem?_eq_getElem hlt⟩
      obtain ⟨a, rfl, _, hc⟩ := HT.out k x hx
      have HX := Lib.hid hx
      have hxs := HLe.out x (List.mem_of_getElem? hx)
      clear hx
      cases hi : pieceB x.data.toList with
      | true =>
        have HI := Lib.hid hi
        clear hi
        go_wp2_with (go_at_call 59; refine (isPiece_any _ (by omega) _).mono ?_; rintro e w' ⟨rfl, rfl⟩; rw [HI.out])
        go_round
        case rel =>
          refine ⟨k + 1, by omega, by go_num, Lib.hid ?_⟩
          intro y hy
          rw [List.take_add_one, HX.out] at hy
          rcases List.mem_append.1 hy with hy | hy
          · exact hall.out y hy
          · simp at hy; subst hy; exact HI.out
        case measure => simp [intOf]; omega
      | false =>
        have HI := Lib.hid hi
        obtain rfl : R = false := HN.out x (List.mem_of_getElem? HX.out) hi
        clear hi
        go_wp2_with (go_at_call 59; refine (isPiece_any _ (by omega) _).mono ?_; rintro e w' ⟨rfl, rfl⟩; rw [HI.out])
        go_ret
        exact ⟨rfl, X.out⟩
    · obtain rfl : k = L.length := by omega
      have e := hall.out
      rw [List.take_of_length_le (Nat.le_refl _)] at e
      have HR := Lib.hid (HA.out e)
      clear e
      go_wp2
      go_ret
      exact ⟨retB (by rw [HR.out, decide_eq_decide]; omega), X.out⟩
theorem Prefix_any (s : ByteArray) (hs : s.size ≤ 140737488351232) (w : World) : Calls Tryz.prog 101 #[.string s] w fun e w' => e = .returned (.bool (prefB s.data.toList)) ∧ Ext w w' := by
  rcases str_cases s with rfl | ⟨h1, h2, h3⟩
  · go_enter Tryz.func101, Tryz.ntmps101
    go_wp2
    go_ret
    exact ⟨rfl, Ext.refl w⟩
  · have e : prefB s.data.toList = mayB s.data.toList := by unfold prefB; rw [h2]; rfl
    rw [e]
    have HM := Lib.hid (fun u => May_any s hs u)
    clear h2 h3 e
    generalize mayB s.data.toList = R at *
    go_enter Tryz.func101, Tryz.ntmps101
    go_wp2_with (go_at_call 34; refine (HM.out _).mono ?_; rintro e w1 ⟨rfl, x1⟩; have X := Lib.hid x1; clear x1)
    go_ret
    exact ⟨rfl, X.out⟩
theorem pre_data (p : ByteArray) : (p ++ ⟨#[47]⟩).data.toList = p.data.toList ++ [47] := by rw [ByteArray.data_append, Array.toList_append]
set_option maxHeartbeats 1000000 in
theorem below_any (p s : ByteArray) (hp : p.size ≤ 140737488351232) (hs : s.size ≤ 140737488351232) (w : World) :
    Calls Tryz.prog 84 #[.string p, .string s] w fun e w' => ∃ r, e = .returned (.tuple #[.string r, .bool (underT p s)]) ∧ (underT p s = true → r = restB p s) ∧ Ext w w' := by
  have HP := Lib.hid (fun u => Prefix_any p hp u)
  have HM := Lib.hid (fun u => May_any s hs u)
  unfold underT
  cases h1 : prefB p.data.toList with
  | false =>
    have e : underB p.data.toList s.data.toList = false := by unfold underB; rw [h1]; rfl
    rw [e]
    rw [h1] at HP
    clear h1 e
    go_enter Tryz.func84, Tryz.ntmps84
    go_wp2_with (go_at_call 101; refine (HP.out _).mono ?_; rintro e w1 ⟨rfl, x1⟩; have X := Lib.hid x1; clear x1)
    go_ret2
    exact ⟨_, rfl, (fun h => by cases h), X.out⟩
  | true =>
    rw [h1] at HP
    cases h2 : mayB s.data.toList with
    | false =>
      have e : underB p.data.toList s.data.toList = false := by unfold underB; rw [h2]; simp
      rw [e]
      rw [h2] at HM
      clear h1 h2 e
      go_enter Tryz.func84, Tryz.ntmps84
      go_wp2_with (first
        | (go_at_call 101; refine (HP.out _).mono ?_; rintro e w1 ⟨rfl, x1⟩; have X := Lib.hid x1; clear x1)
        | (go_at_call 34; refine (HM.out _).mono ?_; rintro e w2 ⟨rfl, x2⟩; have X2 := Lib.hid x2; clear x2))
      go_ret2
      exact ⟨_, rfl, (fun h => by cases h), X.out.trans X2.out⟩
    | true =>
      rw [h2] at HM
      rcases str_cases p with rfl | ⟨k1, k2, k3⟩
      · have e : underB (⟨#[]⟩ : ByteArray).data.toList s.data.toList = true := by unfold underB; rw [h1, h2]; rfl
        rw [e]
        have HR : Hid (s = restB ⟨#[]⟩ s) := Lib.hid rfl
        clear h1 h2 e
        go_enter Tryz.func84, Tryz.ntmps84
        go_wp2_with (first
          | (go_at_call 101; refine (HP.out _).mono ?_; rintro e w1 ⟨rfl, x1⟩; have X := Lib.hid x1; clear x1)
          | (go_at_call 34; refine (HM.out _).mono ?_; rintro e w2 ⟨rfl, x2⟩; have X2 := Lib.hid x2; clear x2))
        go_ret2
        exact ⟨_, rfl, (fun _ => HR.out), X.out.trans X2.out⟩
      · have hc := fun u => cutPrefix_any s (p ++ ⟨#[47]⟩) u
        rw [pre_data] at hc
        have e : underB p.data.toList s.data.toList = Lib.hasPrefix s.data.toList (p.data.toList ++ [47]) := by
          unfold underB Lib.hasPrefix; rw [h1, h2, k2]; rfl
        have e2 : underB p.data.toList s.data.toList = true → toB (Lib.trimPrefix s.data.toList (p.data.toList ++ [47])) = restB p s := by
          intro h
          rw [e] at h
          unfold Lib.trimPrefix restB restL
          rw [if_pos h, k2]
          simp
        rw [← e] at hc
        have HC := Lib.hid hc
        have HR := Lib.hid e2
        clear h1 h2 k2 k3 hc e e2
        generalize underB p.data.toList s.data.toList = U at *
        generalize toB (Lib.trimPrefix s.data.toList (p.data.toList ++ [47])) = V at *
        go_enter Tryz.func84, Tryz.ntmps84
        go_wp2_with (first
          | (go_at_call 101; refine (HP.out _).mono ?_; rintro e w1 ⟨rfl, x1⟩; have X := Lib.hid x1; clear x1)
          | (go_at_call 34; refine (HM.out _).mono ?_; rintro e w2 ⟨rfl, x2⟩; have X2 := Lib.hid x2; clear x2)
          | (go_at_call 102; refine (HC.out _).mono ?_; rintro e w3 ⟨rfl, rfl⟩))
        go_ret2
        exact ⟨_, rfl, HR.out, X.out.trans X2.out⟩
theorem childSize_any (r : ByteArray) (hr : r.size ≤ 140737488351232) (w : World) : Calls Tryz.prog 85 #[.string r] w fun e w' => e = .returned (.int .i64 ((firstL r.data.toList).length : Nat)) ∧ w = w' := by
  have hi := fun u => strindexP_any r u
  have hl := size_list r
  rcases index_first r.data.toList with ⟨h, e⟩ | ⟨n, h, hn, e⟩
  · rw [h] at hi
    rw [e, hl]
    have HI := Lib.hid hi
    clear h e hl hi
    go_enter Tryz.func85, Tryz.ntmps85
    go_wp2_with (go_at_call 100; refine (HI.out _).mono ?_; rintro e w3 ⟨rfl, rfl⟩)
    go_ret
    exact ⟨rfl, rfl⟩
  · rw [h] at hi
    rw [e, List.length_take, Nat.min_eq_left hn]
    rw [hl] at hn
    have HI := Lib.hid hi
    clear h e hl hi
    go_enter Tryz.func85, Tryz.ntmps85
    go_wp2_with (go_at_call 100; refine (HI.out _).mono ?_; rintro e w3 ⟨rfl, rfl⟩)
    go_ret
    exact ⟨rfl, rfl⟩
set_option maxHeartbeats 1000000 in
theorem Child_any (p s : ByteArray) (hp : p.size ≤ 140737488351232) (hs : s.size ≤ 140737488351232) (w : World) :
    Calls Tryz.prog 66 #[.string p, .string s] w fun e w' => e = .returned (.tuple #[.string (childB p s), .bool (underT p s)]) ∧ Ext w w' := by
  have hb := fun u => below_any p s hp hs u
  cases h : underT p s with
  | false =>
    have e : childB p s = ⟨#[]⟩ := by
      unfold childB childL
      unfold underT at h
      rw [h]; rfl
    rw [h] at hb
    rw [e]
    have HB := Lib.hid hb
    clear hb h e
    go_enter Tryz.func66, Tryz.ntmps66
    go_wp2_with (go_at_call 84; refine (HB.out _).mono ?_; rintro e w1 ⟨r, rfl, _, x1⟩; have X := Lib.hid x1; clear x1)
    go_ret2
    exact ⟨rfl, X.out⟩
  | true =>
    have e : childB p s = toB (firstL (restB p s).data.toList) := by
      unfold childB childL restB
      unfold underT at h
      rw [h, toB_data]; rfl
    have hrs := rest_size p s
    rw [h] at hb
    have HB := Lib.hid hb
    have HZ := Lib.hid (fun u => childSize_any (restB p s) (by omega) u)
    have hf := first_take (restB p s).data.toList
    rw [size_list] at hf
    have hx : (restB p s).extract 0 (firstL (restB p s).data.toList).length = childB p s := by
      apply ByteArray.ext
      apply Array.toList_inj.1
      rw [cut_list, e, toB_data]
      simpa using hf.1
    have hcs : (childB p s).size ≤ (restB p s).size := by rw [e, toB_size]; exact hf.2
    have hcut := fun u => cut_to (restB p s) (firstL (restB p s).data.toList).length hf.2 u
    rw [hx] at hcut
    have hf2 := hf.2
    clear hb h e hf hx
    generalize (firstL (restB p s).data.toList).length = n at *
    generalize childB p s = C at *
    generalize restB p s = r at *
    have HC := Lib.hid (fun u => strcloneP_any C (by omega) u)
    clear hcs
    go_enter Tryz.func66, Tryz.ntmps66
    go_wp2_with (first
      | (go_at_call 84; refine (HB.out _).mono ?_; rintro e w1 ⟨r1, rfl, hr1, x1⟩; obtain rfl := hr1 rfl; have X := Lib.hid x1; clear x1 hr1)
      | (go_at_call 85; refine (HZ.out _).mono ?_; rintro e w2 ⟨rfl, rfl⟩)
      | (go_at_call 73; refine (HC.out _).mono ?_; rintro e w3 ⟨rfl, x3⟩; have X3 := Lib.hid x3; clear x3))
    go_ret2
    exact ⟨rfl, X.out.trans X3.out⟩
end Go.Proofs.YtkjcpjalldbahaaGreatDoor
end

section
namespace Go.Proofs.YtkjcpjalldbahaaGreatDoor
open Go.RowKit Go.ChangeMaps Go.MapKept

theorem results_oneT {tmps : Array Value} {fn : Func} {p : Tmp} {ty : TypeId} (h : fn.results = #[.cell p ty]) (w : World) (g : Nat) (cs : Array Value)
    (hp : tmps.getD p undef = .pointer (some ⟨g, 0, none⟩)) (hl : (loadVar ty ⟨g, 0, none⟩).run Tryz.prog w = .ok (.agg cs) w) : (results fn tmps).run Tryz.prog w = .ok (.agg cs) w := by
  have hp' : tmps[p]?.getD undef = .pointer (some ⟨g, 0, none⟩) := by simpa using hp
  simp [results, h, hp', asAddr, hl]
theorem tnew_any (w : World) (qp qb : Int) (lo : Nat) :
    Calls Tryz.prog 8 #[.agg #[.int .i64 qp, .int .i64 qb]] w fun e w' => ∃ t b, e = .returned (.pointer (some ⟨t, 0, none⟩)) ∧ IsT w' lo t b qp qb [] ∧ Ext w w' ∧ w.heap.size ≤ t ∧ w.heap.size ≤ b := by
  have hmm := @run_makeMap Tryz.prog
  go_enter Tryz.func8, Tryz.ntmps8
  go_wp2
  go_ret
  refine ⟨w.heap.size + 2, w.heap.size + 1, rfl, ⟨?_, ?_, GoodR.nil⟩, (((Ext.refl w).alloc _).alloc _).alloc _, by omega, by omega⟩
  · exact Blk.new2V w _ _ [.int .i64 qp, .int .i64 qb, .map (some (w.heap.size + 1)), .int .i64 0] _
  · have := (IsM.made (w.alloc (.cells #[.int .i64 qp, .int .i64 qb] 23)) lo).ext ((Ext.refl _).alloc (.cells #[.int .i64 qp, .int .i64 qb, .map (some (w.heap.size + 1)), .int .i64 0] 73))
    simpa using this
theorem tthere_yes (w : World) (t b : Nat) (h : w.cell? ⟨t, 2, none⟩ = some (.map (some b))) :
    Calls Tryz.prog 33 #[.pointer (some ⟨t, 0, none⟩)] w fun e w' => e = .returned (.bool true) ∧ w = w' := by
  have hnn := run_neq_map_nil (P := Tryz.prog) w 71 9 55 (some b) Tryz.underlying71
  simp only [Option.isNone_some, Bool.not_false] at hnn
  go_enter Tryz.func33, Tryz.ntmps33
  go_wp2
  go_ret
  exact ⟨rfl, rfl⟩
theorem tthere_no (w : World) :
    Calls Tryz.prog 33 #[.pointer none] w fun e w' => e = .returned (.bool false) ∧ w = w' := by
  go_enter Tryz.func33, Tryz.ntmps33
  go_wp2
  go_ret
  exact ⟨rfl, rfl⟩
section
variable {w : World} {lo t b : Nat} {qp qb : Int} {R : List RowP}
theorem IsT.cell (h : IsT w lo t b qp qb R) : w.cell? ⟨t, 2, none⟩ = some (.map (some b)) := h.blk.cell 2 _ rfl
end
theorem thas_any (w : World) (lo t b : Nat) (qp qb : Int) (R : List RowP) (h : IsT w lo t b qp qb R) (p : ByteArray) (hp : p.size ≤ 140737488355328) :
    Calls Tryz.prog 48 #[.pointer (some ⟨t, 0, none⟩), .string p] w fun e w' => e = .returned (.bool (hasR R p)) ∧ Ext w w' := by
  have hc := h.cell
  obtain ⟨a, c, hv, hl, hrun⟩ := h.map.look p hp
  have hr := hrun w (Ext.refl w) true
  simp only [if_true] at hr
  generalize hasR R p = hb at *
  generalize (cellR R p).1 = m at *
  generalize (cellR R p).2.length = n at *
  clear hrun hl hv h
  go_enter Tryz.func48, Tryz.ntmps48
  go_wp2
  go_ret
  exact ⟨rfl, (Ext.refl w).alloc _⟩
set_option maxRecDepth 100000 in
set_option maxHeartbeats 2000000 in
theorem tcellOf_any (w : World) (lo t b : Nat) (qp qb : Int) (R : List RowP) (h : IsT w lo t b qp qb R) (p : ByteArray) (hp : p.size ≤ 140737488355328) :
    Calls Tryz.prog 40 #[.pointer (some ⟨t, 0, none⟩), .string p] w fun e w' => ∃ a, (∃ c, e = .returned (.agg #[.int .u64 ((cellR R p).1 : Int), .slice a (cellR R p).2.length c])) ∧ VersP w' a (cellR R p).2 ∧ Ext w w' := by
  have HX0 := Lib.hid ((Ext.refl w).alloc (.cells #[.int .u64 0, .slice none 0 0] 55))
  have hc := (h.ext HX0.out).cell
  obtain ⟨a, c, hv, hl, hrun⟩ := h.map.look p hp
  have hr := hrun _ HX0.out false
  simp only [Bool.false_eq_true, if_false] at hr
  have HV := Lib.hid hv
  generalize hm : (cellR R p).1 = m at *
  generalize hn : (cellR R p).2.length = n at *
  have HN := Lib.hid hn
  clear hrun hl hv hm hn h
  go_enter Tryz.func40, Tryz.ntmps40
  go_wp2_with (go_at_call 33; refine (tthere_yes _ t b hc).mono ?_; rintro e w1 ⟨rfl, rfl⟩)
  exact bodyPost_ret (results_oneT rfl _ w.heap.size #[.int .u64 (m : Int), .slice a n c] rfl (load_cell _ _ _ _ _ _ (Blk.new w [.int .u64 (m : Int), .slice a n c] _))) rfl ⟨a, ⟨c, rfl⟩, HV.out.ext ((Ext.refl w).alloc _), (Ext.refl w).alloc _⟩
theorem tcellOf_no (w : World) (p : ByteArray) :
    Calls Tryz.prog 40 #[.pointer none, .string p] w fun e w' => e = .returned (.agg #[.int .u64 0, .slice none 0 0]) ∧ Ext w w' := by
  go_enter Tryz.func40, Tryz.ntmps40
  go_wp2_with (go_at_call 33; refine (tthere_no _).mono ?_; rintro e w1 ⟨rfl, rfl⟩)
  exact bodyPost_ret (results_oneT rfl _ w.heap.size #[.int .u64 0, .slice none 0 0] rfl (load_cell _ _ 0 _ _ _ (Blk.new w [.int .u64 0, .slice none 0 0] _))) rfl ⟨rfl, (Ext.refl w).alloc _⟩
set_option maxRecDepth 100000 in
set_option maxHeartbeats 2000000 in
theorem tsize_any (w : World) (s : ByteArray) (hs : s.size ≤ 1000000) (m : Nat) (p : Option Addr) (c : Nat) (L : List Ver) (h : VersP w p L) (hl : L.length ≤ 1000000) (hz : sizeL L ≤ 1000000000) :
    Calls Tryz.prog 74 #[.string s, .agg #[.int .u64 (m : Int), .slice p L.length c]] w fun e w' => e = .returned (.int .i64 (szR ⟨s, m, L⟩ : Int)) ∧ Ext w w' := by
  have HX0 := Lib.hid ((Ext.refl w).alloc (.cells #[.int .u64 (m : Int), .slice p L.length c] 55))
  have HS := Lib.hid (size_any _ m p c L (h.ext HX0.out) (by omega) (by omega))
  obtain ⟨z, hzz⟩ : ∃ z, szR ⟨s, m, L⟩ = z := ⟨_, rfl⟩
  have hw : IntKind.i64.wrap ((s.size : Int) + (sizeL L : Int)) = (z : Int) := by rw [← hzz, IntWalk.i64_in _ ⟨by omega, by omega⟩]; rfl
  rw [hzz]
  generalize sizeL L = q at *
  generalize L.length = n at *
  clear hzz h
  go_enter Tryz.func74, Tryz.ntmps74
  go_wp2_with (go_at_call 93; refine HS.out.mono ?_; rintro e w1 ⟨rfl, x1⟩)
  go_ret
  exact ⟨rfl, HX0.out.trans x1⟩
set_option maxRecDepth 100000 in
set_option maxHeartbeats 2000000 in
theorem isRow_any (w : World) (s : ByteArray) (hs : s.size ≤ 140737488351232) (m : Nat) (p : Option Addr) (c : Nat) (L : List Ver) (h : VersP w p L) (hl : L.length ≤ 1000000) :
    Calls Tryz.prog 47 #[.agg #[.string s, .int .u64 (m : Int), .slice p L.length c]] w fun e w' => e = .returned (.bool (okR ⟨s, m, L⟩)) ∧ Ext w w' := by
  have HX0 := Lib.hid ((Ext.refl w).alloc (.cells #[.string s, .int .u64 (m : Int), .slice p L.length c] 57))
  have HB0 := Lib.hid (Blk.new w [.string s, .int .u64 (m : Int), .slice p L.length c] 57)
  have HP := Lib.hid (fun u => May_any s hs u)
  have HM := Lib.hid (fun u (x : Ext w u) => may_any u m p c L (h.ext x) (by omega))
  have hO : okR ⟨s, m, L⟩ = (mayB s.data.toList && mayL m L && decide ((0 : Int) < (L.length : Int))) := by
    unfold okR
    congr 1
    rw [decide_eq_decide]
    dsimp only
    omega
  rw [hO]
  generalize mayB s.data.toList = A at *
  generalize mayL m L = B at *
  generalize L.length = n at *
  clear h hO hs hl
  go_enter Tryz.func47, Tryz.ntmps47
  cases A
  · go_wp2_with (go_at_call 34; refine (HP.out _).mono ?_; rintro e w1 ⟨rfl, x1⟩)
    go_ret
    exact ⟨rfl, HX0.out.trans x1⟩
  · cases B
    all_goals
      go_wp2_with (first | (go_at_call 34; refine (HP.out _).mono ?_; rintro e w1 ⟨rfl, x1⟩; have HX1 := Lib.hid (HX0.out.trans x1); have B1 := Lib.hid (HB0.out.ext x1); have a1 := B1.out.cell 1 _ rfl; have a2 := B1.out.cell 2 _ rfl; clear x1) | (go_at_call 72; refine (HM.out _ HX1.out).mono ?_; rintro e w2 ⟨rfl, x2⟩; have HX2 := Lib.hid (HX1.out.trans x2); have B2 := Lib.hid (B1.out.ext x2); have a2 := B2.out.cell 2 _ rfl; clear x2))
      go_ret
      exact ⟨by simp, HX2.out⟩
end Go.Proofs.YtkjcpjalldbahaaGreatDoor
end
