/- Contract: the law's copied: rows with lists of their own. Contract: whether two lists of texts are the same, by layer 18's law. Contract: whether two lists of numbers are the same, by layer 18's law. Plain: one edit and the quota. -/
import Derived.Test.YtkjcpjalldbahaaGreatDoorM24
import Derived.Test.YtkjcpjalldbahaaGreatDoorM17
import Derived.Test.YtkjcpjalldbahaaGreatDoorM07
import Derived.Lib.Strings
import Derived.Deep.QuietTactic
import Derived.BigQuiet
import Derived.Outline
import Derived.Test.YtkjcpjalldbahaaGreatDoorM20
import Derived.Test.YtkjcpjalldbahaaGreatDoorM23
import Derived.Test.YtkjcpjalldbahaaGreatDoorM03
section
namespace Go.Proofs.YtkjcpjalldbahaaGreatDoor
open Go.RowKit Go.ChangeMaps Go.MapKept

set_option maxRecDepth 100000 in
set_option maxHeartbeats 4000000 in
theorem copied18_any (w : World) (p : Option Addr) (c : Nat) (M : List Ent) (hM : RowsP w p M) (hf : ∀ e ∈ M, e.L.length * 32 ≤ 140737488351232) (hn : M.length ≤ 5000) :
    Calls Tryz.prog 22 #[.slice p M.length c] w fun e w' => ∃ q c' K, e = .returned (.slice q M.length c') ∧ K.map Ent.row = M.map Ent.row ∧ IsRows w' w.heap.size q c' K ∧ Ext w w' := by
  have HP := Lib.hid hM
  have HF := Lib.hid hf
  obtain ⟨n, hnn⟩ : ∃ n, M.length = n := ⟨_, rfl⟩
  have HN := Lib.hid hnn
  rw [hnn] at hn ⊢
  clear hM hf hnn
  go_enter Tryz.func22, Tryz.ntmps22
  go_wp2
  go_loopw [3, 4] (fun sv iv wr => ∃ (j : Nat) (K : List Ent) (pv : Option Addr) (cv : Nat), j ≤ n ∧ iv = .int .i64 (j : Int) ∧ sv = .slice pv j cv ∧ Hid (K.length = j ∧ K.map Ent.row = (M.take j).map Ent.row) ∧ Hid (IsRows wr w.heap.size pv cv K) ∧ Hid (Ext w wr)) (fun _ iv _ => n - (intOf iv).toNat)
  case atStart => exact ⟨0, [], none, 0, Nat.zero_le _, rfl, rfl, Lib.hid ⟨rfl, rfl⟩, Lib.hid (IsRows.nil _ _), Lib.hid (Ext.refl _)⟩
  case round =>
    obtain ⟨j, K, pv, cv, hj, rfl, rfl, HK0, HRo, HX⟩ := hrel
    by_cases hlt : j < n
    · obtain ⟨⟨rp, rm, rL, ra, rc⟩, hx⟩ : ∃ x, M[j]? = some x := ⟨_, List.getElem?_eq_getElem (by have := HN.out; omega)⟩
      have hv := HP.out.2 _ (List.mem_of_getElem? hx)
      have hfl := HF.out _ (List.mem_of_getElem? hx)
      obtain ⟨pa, rfl, g0, g1, g2⟩ := HP.out.three HX.out hx
      dsimp only at hv hfl g0 g1 g2
      obtain ⟨nl, hnl⟩ : ∃ nl, rL.length = nl := ⟨_, rfl⟩
      have HNL := Lib.hid hnl
      rw [hnl] at hfl g2
      have HB1 := Lib.hid (Blk.new wr [.string rp, .int .u64 (rm : Int), .slice ra nl rc] 57)
      have HX1 := Lib.hid ((Ext.refl wr).alloc (.cells #[.string rp, .int .u64 (rm : Int), .slice ra nl rc] 57))
      have HS := Lib.hid ((hv.ext (HX.out.trans HX1.out)).src rc)
      rw [hnl] at HS
      obtain ⟨cs, hcs⟩ : ∃ cs, vsCells rL = cs := ⟨_, rfl⟩
      have HC := Lib.hid hcs
      rw [hcs] at HS
      have HTake : Hid ((M.take (j + 1)).map Ent.row = (M.take j).map Ent.row ++ [⟨rp, rm, rL⟩]) := Lib.hid (by rw [List.take_add_one, hx]; simp [Ent.row])
      have hj1 : j + 1 ≤ 1000000000 := by omega
      have hl2 : 0 + nl ≤ 140737488355328 := by omega
      have hl3 : (0 + nl) * 32 ≤ 140737488355328 := by omega
      clear hx hv hnl hcs
      go_wp2_with (first
        | (refine wpList_append_slB rfl (.const (.slice none 0 0)) (.tmp 18) 53 53 rfl Tryz.underlying53 infoV rfl rfl (Sl.nil _ (kp none) 1 3 _) (fun u hu => by cases hu) _ rfl nl cs HS.out hl2 hl3 ?_; intro q c1 w3 κ1 s1 f1 e1 x1 o1; rw [Nat.zero_add, List.nil_append] at s1; have HX3 : Hid (Ext wr w3) := Lib.hid (HX1.out.trans (x1 rfl)); have B1 := Lib.hid (HB1.out.ext (x1 rfl)); have b0 := B1.out.cell 0 _ rfl; have b1 := B1.out.cell 1 _ rfl; have b2 := B1.out.cell 2 _ rfl; have bf2 := B1.out.frozen 2; have HV3 : Hid (IsV w3 w.heap.size q c1 rL) := Lib.hid ((isV_new HNL.out (by rw [HC.out]; exact s1) e1).base (HX.out.trans HX1.out).size); have HV4 : Hid (IsV ((w3.setCell ⟨wr.heap.size, 2, none⟩ (.slice q nl c1)).alloc (.cells #[.string rp, .int .u64 (rm : Int), .slice q nl c1] 57)) w.heap.size q c1 rL) := Lib.hid ((HV3.out.parted B1.out (by decide) _).ext ((Ext.refl _).alloc _)); have HXa : Hid (Ext wr (w3.setCell ⟨wr.heap.size, 2, none⟩ (.slice q nl c1))) := Lib.hid (HX3.out.setCell (p := ⟨wr.heap.size, 2, none⟩) (Nat.le_refl _) _); have HX4 : Hid (Ext wr ((w3.setCell ⟨wr.heap.size, 2, none⟩ (.slice q nl c1)).alloc (.cells #[.string rp, .int .u64 (rm : Int), .slice q nl c1] 57))) := Lib.hid (HXa.out.alloc _); have HR4 := Lib.hid (HRo.out.ext HX4.out); have HSLB : Hid (Sl ((w3.setCell ⟨wr.heap.size, 2, none⟩ (.slice q nl c1)).alloc (.cells #[.string rp, .int .u64 (rm : Int), .slice q nl c1] 57)) (kp pv) 1 3 57 pv j cv (entCells K)) := Lib.hid (by have := HR4.out.sl; rwa [HK0.out.1] at this); have HSRC : Hid (Src Tryz.prog 3 31 (.slice (some ⟨w3.heap.size, 0, none⟩) 1 1) 1 (entCells [⟨rp, rm, rL, q, c1⟩]) ((w3.setCell ⟨wr.heap.size, 2, none⟩ (.slice q nl c1)).alloc (.cells #[.string rp, .int .u64 (rm : Int), .slice q nl c1] 57))) := Lib.hid (src_row _ _ ⟨rp, rm, rL, q, c1⟩ (by have := Blk.new (w3.setCell ⟨wr.heap.size, 2, none⟩ (.slice q nl c1)) [.string rp, .int .u64 (rm : Int), .slice q nl c1] 57; simp only [World.setCell, Array.size_modify] at this; unfold Ent.cells; dsimp only; rw [HNL.out]; exact this)); have HSZ : Hid (w.heap.size ≤ ((w3.setCell ⟨wr.heap.size, 2, none⟩ (.slice q nl c1)).alloc (.cells #[.string rp, .int .u64 (rm : Int), .slice q nl c1] 57)).heap.size) := Lib.hid (HX.out.trans HX4.out).size; clear s1 f1 e1 x1 o1; rw [Nat.zero_add])
        | (refine wpList_append_sl rfl (.tmp 22) (.tmp 24) 31 31 rfl Tryz.underlying31 infoRow rfl (by decide) rfl HSLB.out (entCells_one K) _ rfl 1 _ HSRC.out hj1 ?_; intro p4 c4 w5 κ4 s4 f4 e4 x4 o4; have HK := Lib.hid (keepA_of_frZ HSLB.out HR4.out.low HSZ.out f4 x4); have HR5 : Hid (IsRows w5 w.heap.size p4 c4 (K ++ [⟨rp, rm, rL, q, c1⟩])) := Lib.hid (isRows_grown s4 HK0.out.1 e4 HR4.out.low HSZ.out (fun x hx => (HR4.out.vers x hx).keepA HK.out (by decide)) (HV4.out.keepA HK.out (by decide))); clear s4 f4 e4 x4 o4))
      go_roundw
      case rel => exact ⟨j + 1, K ++ [⟨rp, rm, rL, q, c1⟩], p4, c4, hlt, by go_num, rfl, Lib.hid ⟨by rw [List.length_append, HK0.out.1]; rfl, by rw [List.map_append, HK0.out.2, HTake.out]; rfl⟩, HR5, Lib.hid ((HX.out.trans HX4.out).trans3 HK.out.below)⟩
      case measure => simp [intOf]; omega
    · obtain rfl : j = n := by omega
      go_wp2
      go_ret
      exact ⟨pv, cv, K, rfl, by rw [HK0.out.2, List.take_of_length_le (by rw [HN.out]; exact Nat.le_refl _)], HRo.out, HX.out⟩
end Go.Proofs.YtkjcpjalldbahaaGreatDoor
end

section
namespace Go.Proofs.YtkjcpjalldbahaaGreatDoor
open Go.RowKit

theorem lists_eq {l m : List ByteArray} (hlm : l.length = m.length) (h : ∀ i, i < l.length → l[i]? = m[i]?) : l = m := by
  apply List.ext_getElem? 
  intro i
  by_cases hi : i < l.length
  · exact h i hi
  · rw [List.getElem?_eq_none (by omega), List.getElem?_eq_none (by omega)]
theorem txt_ne {x y : ByteArray} (h : ¬ x = y) : (x.toList == y.toList) = false := by
  rw [beq_eq_false_iff_ne]
  intro e
  rw [Lib.toList_data, Lib.toList_data] at e
  exact h (by rw [← toB_of x, e, toB_of])
set_option maxRecDepth 100000 in
set_option maxHeartbeats 2000000 in
theorem texts18_is (w : World) (p q : Option Addr) (c d n k : Nat) (l m : List ByteArray) (hn : l.length = n) (hk : m.length = k) (hl : TextsP w p l) (hm : TextsP w q m) (hn6 : n ≤ 1000000) (hk6 : k ≤ 1000000) (b : Bool) (hb : b = true ↔ l = m) :
    Calls Tryz.prog 17 #[.slice p n c, .slice q k d] w fun e w' => e = .returned (.bool b) ∧ Ext w w' := by
  have HL := Lib.hid (fun u (hu : Ext w u) => hl.ext hu)
  have HM := Lib.hid (fun u (hu : Ext w u) => hm.ext hu)
  have HB := Lib.hid hb
  by_cases hnk : n = k
  · subst hnk
    have HE := Lib.hid (fun h => lists_eq (l := l) (m := m) (by omega) h)
    have HN := Lib.hid hn; have HK := Lib.hid hk
    clear hl hm hb hn hk
    go_enter Tryz.func17, Tryz.ntmps17
    go_wp2
    go_loopw [5] (fun i wr => ∃ j : Nat, j ≤ n ∧ i = .int .i64 (j : Int) ∧ Hid (∀ i, i < j → l[i]? = m[i]?) ∧ Hid (Ext w wr)) (fun i _ => n - (intOf i).toNat)
    case atStart => exact ⟨0, Nat.zero_le _, rfl, Lib.hid (fun i hi => by omega), Lib.hid (Ext.refl _)⟩
    case round =>
      obtain ⟨j, hj, rfl, hs, hx⟩ := hrel
      by_cases hlt : j < n
      · obtain ⟨x, hxj⟩ : ∃ x, l[j]? = some x := ⟨_, List.getElem?_eq_getElem (by have := HN.out; omega)⟩
        obtain ⟨y, hyj⟩ : ∃ y, m[j]? = some y := ⟨_, List.getElem?_eq_getElem (by have := HK.out; omega)⟩
        obtain ⟨a, rfl, _, hc1⟩ := HL.out _ hx.out j x hxj
        obtain ⟨a2, rfl, _, hc2⟩ := HM.out _ hx.out j y hyj
        have HX := Lib.hid hxj; have HY := Lib.hid hyj
        clear hxj hyj
        by_cases hxy : x = y
        · subst hxy
          go_wp2
          go_quiet (fail)
          go_wp2
          go_roundw
          case rel => 
            refine ⟨j + 1, hlt, by go_num, Lib.hid fun i hi => ?_, Lib.hid (hx.out.drewN _)⟩
            by_cases hij : i = j
            · rw [hij, HX.out, HY.out]
            · exact hs.out i (by omega)
          case measure => simp [intOf]; omega
        · have hne := txt_ne hxy
          have hbf : b = false := by
            cases b with
            | false => rfl
            | true =>
              have := HB.out.1 rfl
              subst this
              have h1 := HX.out
              rw [HY.out] at h1
              exact absurd (Option.some.inj h1).symm hxy
          subst hbf
          go_wp2
          go_quiet (fail)
          go_wp2
          go_ret
          exact ⟨rfl, hx.out.drewN _⟩
      · obtain rfl : j = n := by omega
        have hbt : b = true := HB.out.2 (HE.out (by have := HN.out; intro i hi; exact hs.out i (by omega)))
        subst hbt
        go_wp2
        go_ret
        exact ⟨rfl, hx.out⟩
  · have hbf : b = false := by
      cases b with
      | false => rfl
      | true => exact absurd (congrArg List.length (hb.1 rfl)) (by omega)
    subst hbf
    have hnk2 : ((n : Int) != (k : Int)) = true := by rw [bne_iff_ne]; omega
    clear hl hm hb hn hk
    go_enter Tryz.func17, Tryz.ntmps17
    go_wp2
    go_ret
    exact ⟨rfl, Ext.refl _⟩
theorem texts18_dec (w : World) (p q : Option Addr) (c d n k : Nat) (l m : List ByteArray) (hn : l.length = n) (hk : m.length = k) (hl : TextsP w p l) (hm : TextsP w q m) (hn6 : n ≤ 1000000) (hk6 : k ≤ 1000000) :
    Calls Tryz.prog 17 #[.slice p n c, .slice q k d] w fun e w' => e = .returned (.bool (decide (l = m))) ∧ Ext w w' :=
  texts18_is w p q c d n k l m hn hk hl hm hn6 hk6 _ (by simp)
end Go.Proofs.YtkjcpjalldbahaaGreatDoor
end

section
namespace Go.Proofs.YtkjcpjalldbahaaGreatDoor
open Go.RowKit

/-- The cells from the address on, if there are any, are these numbers. -/
def NumsP (w : World) (p : Option Addr) (l : List Nat) : Prop := ∀ (i s : Nat), l[i]? = some s → ∃ a, p = some a ∧ a.block < w.heap.size ∧ w.cell? (a.add i) = some (.int .u64 (s : Int))
theorem NumsP.ext {w w' : World} {p : Option Addr} {l : List Nat} (h : NumsP w p l) (hx : Ext w w') : NumsP w' p l := fun i s hs => by
  obtain ⟨a, h1, h2, h3⟩ := h i s hs
  exact ⟨a, h1, Nat.lt_of_lt_of_le h2 hx.below.size, by rw [hx.below.cell (p := a.add i) (by rw [add_block]; exact h2)]; exact h3⟩
theorem IsA.numsP {w : World} {B c : Nat} {p : Option Addr} {l : List Nat} (h : IsA w B 25 p c (nuV l)) : NumsP w p l := fun i s hs => by
  obtain ⟨g, e, h2, _, h3, _⟩ := h.sl.cell (j := i) (u := .int .u64 (s : Int)) (by simp [nuV, hs])
  exact ⟨_, e, h2, by rw [Addr.add_mid, Nat.zero_add]; exact h3⟩
theorem Blk.numsP {w : World} {b : Nat} {T : TypeId} {l : List Nat} (h : Blk w b T (nuV l)) : NumsP w (some ⟨b, 0, none⟩) l := fun i s hs =>
  ⟨_, rfl, h.lt, by rw [Addr.add_mid, Nat.zero_add]; exact h.cell i _ (by simp [nuV, hs])⟩
theorem listsN_eq {l m : List Nat} (hlm : l.length = m.length) (h : ∀ i, i < l.length → l[i]? = m[i]?) : l = m := by
  apply List.ext_getElem?
  intro i
  by_cases hi : i < l.length
  · exact h i hi
  · rw [List.getElem?_eq_none (by omega), List.getElem?_eq_none (by omega)]
theorem num_ne {x y : Nat} (h : ¬ x = y) : ((x : Int) == (y : Int)) = false := by
  rw [beq_eq_false_iff_ne]
  omega
set_option maxRecDepth 100000 in
set_option maxHeartbeats 2000000 in
theorem numbers18_is (w : World) (p q : Option Addr) (c d n k : Nat) (l m : List Nat) (hn : l.length = n) (hk : m.length = k) (hl : NumsP w p l) (hm : NumsP w q m) (hn6 : n ≤ 1000000) (hk6 : k ≤ 1000000) (b : Bool) (hb : b = true ↔ l = m) :
    Calls Tryz.prog 25 #[.slice p n c, .slice q k d] w fun e w' => e = .returned (.bool b) ∧ Ext w w' := by
  have HL := Lib.hid (fun u (hu : Ext w u) => hl.ext hu)
  have HM := Lib.hid (fun u (hu : Ext w u) => hm.ext hu)
  have HB := Lib.hid hb
  by_cases hnk : n = k
  · subst hnk
    have HE := Lib.hid (fun h => listsN_eq (l := l) (m := m) (by omega) h)
    have HN := Lib.hid hn; have HK := Lib.hid hk
    clear hl hm hb hn hk
    go_enter Tryz.func25, Tryz.ntmps25
    go_wp2
    go_loopw [5] (fun i wr => ∃ j : Nat, j ≤ n ∧ i = .int .i64 (j : Int) ∧ Hid (∀ i, i < j → l[i]? = m[i]?) ∧ Hid (Ext w wr)) (fun i _ => n - (intOf i).toNat)
    case atStart => exact ⟨0, Nat.zero_le _, rfl, Lib.hid (fun i hi => by omega), Lib.hid (Ext.refl _)⟩
    case round =>
      obtain ⟨j, hj, rfl, hs, hx⟩ := hrel
      by_cases hlt : j < n
      · obtain ⟨x, hxj⟩ : ∃ x, l[j]? = some x := ⟨_, List.getElem?_eq_getElem (by have := HN.out; omega)⟩
        obtain ⟨y, hyj⟩ : ∃ y, m[j]? = some y := ⟨_, List.getElem?_eq_getElem (by have := HK.out; omega)⟩
        obtain ⟨a, rfl, _, hc1⟩ := HL.out _ hx.out j x hxj
        obtain ⟨a2, rfl, _, hc2⟩ := HM.out _ hx.out j y hyj
        have HX := Lib.hid hxj; have HY := Lib.hid hyj
        clear hxj hyj
        by_cases hxy : x = y
        · subst hxy
          go_wp2
          go_quiet (fail)
          go_wp2
          go_roundw
          case rel => 
            refine ⟨j + 1, hlt, by go_num, Lib.hid fun i hi => ?_, Lib.hid (hx.out.drewN _)⟩
            by_cases hij : i = j
            · rw [hij, HX.out, HY.out]
            · exact hs.out i (by omega)
          case measure => simp [intOf]; omega
        · have hne := num_ne hxy
          have hbf : b = false := by
            cases b with
            | false => rfl
            | true =>
              have := HB.out.1 rfl
              subst this
              have h1 := HX.out
              rw [HY.out] at h1
              exact absurd (Option.some.inj h1).symm hxy
          subst hbf
          go_wp2
          go_quiet (fail)
          go_wp2
          go_ret
          exact ⟨rfl, hx.out.drewN _⟩
      · obtain rfl : j = n := by omega
        have hbt : b = true := HB.out.2 (HE.out (by have := HN.out; intro i hi; exact hs.out i (by omega)))
        subst hbt
        go_wp2
        go_ret
        exact ⟨rfl, hx.out⟩
  · have hbf : b = false := by
      cases b with
      | false => rfl
      | true => exact absurd (congrArg List.length (hb.1 rfl)) (by omega)
    subst hbf
    have hnk2 : ((n : Int) != (k : Int)) = true := by rw [bne_iff_ne]; omega
    clear hl hm hb hn hk
    go_enter Tryz.func25, Tryz.ntmps25
    go_wp2
    go_ret
    exact ⟨rfl, Ext.refl _⟩
theorem numbers18_dec (w : World) (p q : Option Addr) (c d n k : Nat) (l m : List Nat) (hn : l.length = n) (hk : m.length = k) (hl : NumsP w p l) (hm : NumsP w q m) (hn6 : n ≤ 1000000) (hk6 : k ≤ 1000000) :
    Calls Tryz.prog 25 #[.slice p n c, .slice q k d] w fun e w' => e = .returned (.bool (decide (l = m))) ∧ Ext w w' :=
  numbers18_is w p q c d n k l m hn hk hl hm hn6 hk6 _ (by simp)
end Go.Proofs.YtkjcpjalldbahaaGreatDoor
end

section
namespace Go.Proofs.YtkjcpjalldbahaaGreatDoor
open Go.RowKit

theorem sizeL_set3 : ∀ {L : List Ver} {k : Nat} {v x : Ver}, L[k]? = some v → sizeL (L.set k x) + v.t.size = sizeL L + x.t.size
  | [], k, v, x, h => by simp at h
  | a :: r, 0, v, x, h => by
    simp at h; subst h
    simp only [List.set_cons_zero, sizeL]
    omega
  | a :: r, k + 1, v, x, h => by
    have ih := sizeL_set3 (L := r) (k := k) (v := v) (x := x) (by simpa using h)
    simp only [List.set_cons_succ, sizeL]
    omega
theorem findL_no180 (m : Nat) (L : List Ver) (n : Nat) : (findL m L n).1 ≠ 180 := by
  unfold findL
  split
  · split
    · simp
    · split
      · simp
      · split <;> simp
  · simp
theorem des_fine {D : List RowP} (h : GoodR D) {e : EditP} (hk : e.k = 3) : (editR D e).1.e ≠ 180 ∧ ((editR D e).1.e = 0 → (editR D e).2.length ≤ D.length ∧ bytesR (editR D e).2 ≤ bytesR D) := by
  have hO : ∀ m L, outR m L e = if mayB e.p.data.toList then desL m L e.n else ⟨2, 0, []⟩ := fun m L => by
    unfold outR
    rw [hk]
    simp
  refine ⟨?_, fun he => ?_⟩
  · show (outR _ _ e).e ≠ 180
    rw [hO]
    split
    · unfold desL
      dsimp only
      split
      · simp
      · exact findL_no180 _ _ _
    · simp
  · rw [edit_fine he]
    have he2 : (outR (cellR D e.p).1 (cellR D e.p).2 e).e = 0 := he
    have hL : (editR D e).1 = outR (cellR D e.p).1 (cellR D e.p).2 e := rfl
    rw [hL]
    rw [hO] at he2 ⊢
    split at he2
    · rename_i hm
      rw [if_pos hm]
      unfold desL at he2 ⊢
      dsimp only at he2 ⊢
      split at he2
      · rename_i hf
        rw [if_pos hf]
        cases e1 : findL (cellR D e.p).1 (cellR D e.p).2 e.n with
        | mk er k =>
          rw [e1] at hf
          dsimp only at hf ⊢
          subst hf
          obtain ⟨v, hv, _⟩ := findL_ok e1
          cases hl : lookR D e.p with
          | none => rw [cellR_none hl] at hv; simp at hv
          | some r =>
            rw [cellR_some hl] at hv ⊢
            dsimp only at hv ⊢
            have h1 := len_with h.up ⟨e.p, r.m, r.L.set k ⟨e.n, 3, ⟨#[]⟩⟩⟩
            have h2 := bytes_with h.up ⟨e.p, r.m, r.L.set k ⟨e.n, 3, ⟨#[]⟩⟩⟩
            have h3 := sizeL_set3 (x := ⟨e.n, 3, ⟨#[]⟩⟩) hv
            have h4 : (⟨#[]⟩ : ByteArray).size = 0 := rfl
            have h5 := (lookR_mem hl).2
            unfold hasR at h1
            unfold oldR at h2
            dsimp only at h1 h2 h3
            rw [hl] at h1 h2
            simp only [Option.isSome_some, if_true, Option.elim] at h1 h2
            unfold szR at h2
            dsimp only at h2
            rw [h5] at h2
            exact ⟨by omega, by omega⟩
      · rename_i hf
        exact absurd he2 hf
    · simp at he2
theorem apply_over {qp qb : Int} {R : List RowP} {e : EditP} (he : (editR R e).1.e = 0) (ho : overR qp qb R (editR R e).2 = true) : applyR qp qb R [e] = ⟨180, 1, R, []⟩ := by
  unfold applyR
  rw [runE_go he, runE_nil]
  dsimp only
  rw [if_pos rfl, if_pos ho]
  rfl
theorem apply_fits {qp qb : Int} {R : List RowP} {e : EditP} (he : (editR R e).1.e = 0) (ho : overR qp qb R (editR R e).2 = false) : applyR qp qb R [e] = ⟨0, 0, (editR R e).2, [(editR R e).1.last]⟩ := by
  unfold applyR
  rw [runE_go he, runE_nil]
  dsimp only
  rw [if_pos rfl, ho]
  rfl
theorem apply_bad {qp qb : Int} {R : List RowP} {e : EditP} (he : (editR R e).1.e ≠ 0) : applyR qp qb R [e] = ⟨(editR R e).1.e, 0, R, []⟩ := by
  unfold applyR
  rw [runE_stop he]
  dsimp only
  rw [if_neg he]
/-- What one edit does beside a quota. -/
structure RoomP (qp qb : Int) (R : List RowP) (k : Nat) (T : Tri) : Prop where
  bad : T.e ≠ 0 → T.D = R
  paths : T.e = 0 → ¬ (qp < (T.D.length : Int) ∧ R.length < T.D.length)
  bytes : T.e = 0 → ¬ (qb < (bytesR T.D : Int) ∧ bytesR R < bytesR T.D)
  des : k = 3 → T.e ≠ 180
theorem room_one {R : List RowP} (h : GoodR R) (e : EditP) (qp qb : Int) : RoomP qp qb R e.k (applyR qp qb R [e]) := by
  refine ⟨fun q => (apply_err q).1, fun q => ?_, fun q => ?_, fun hk => ?_⟩
  · by_cases he : (editR R e).1.e = 0
    · cases ho : overR qp qb R (editR R e).2 with
      | true => rw [apply_over he ho] at q; simp at q
      | false =>
        rw [apply_fits he ho]
        unfold overR at ho
        simp at ho
        dsimp only
        omega
    · rw [apply_bad he] at q; exact absurd q he
  · by_cases he : (editR R e).1.e = 0
    · cases ho : overR qp qb R (editR R e).2 with
      | true => rw [apply_over he ho] at q; simp at q
      | false =>
        rw [apply_fits he ho]
        unfold overR at ho
        simp at ho
        dsimp only
        omega
    · rw [apply_bad he] at q; exact absurd q he
  · obtain ⟨h1, h2⟩ := des_fine h hk
    by_cases he : (editR R e).1.e = 0
    · cases ho : overR qp qb R (editR R e).2 with
      | true =>
        obtain ⟨q1, q2⟩ := h2 he
        unfold overR at ho
        simp at ho
        omega
      | false => rw [apply_fits he ho]; simp
    · rw [apply_bad he]; exact h1
end Go.Proofs.YtkjcpjalldbahaaGreatDoor
end
