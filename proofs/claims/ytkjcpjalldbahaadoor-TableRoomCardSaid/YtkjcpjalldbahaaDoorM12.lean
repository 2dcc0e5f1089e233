/- Contracts: a live version by its number: the program's find. Contract: the document's May. Contracts: what is read: the program's Read, and the document's. Plain: versions that rise; what both sides' Read answer is one. -/
import Derived.Test.YtkjcpjalldbahaaDoorM11
import Derived.Laws.ResultCell
import Derived.Deep.RegionHeld3
section
namespace Go.Proofs.YtkjcpjalldbahaaDoor
open Go.RowKit

theorem findL_bad {m n : Nat} {L : List Ver} (h : mayL m L = false) : findL m L n = (2, 0) := by simp [findL, h]
theorem findL_none {m n : Nat} {L : List Ver} (h : mayL m L = true) (hp : posL n L = none) : findL m L n = (3, 0) := by simp [findL, h, hp]
theorem findL_at {m n k : Nat} {L : List Ver} {v : Ver} (h : mayL m L = true) (hp : posL n L = some k) (hv : L[k]? = some v) : findL m L n = if v.s = 1 then (0, k) else (171, 0) := by simp [findL, h, hp, hv]
theorem findL_ok {m n k : Nat} {L : List Ver} (h : findL m L n = (0, k)) : ∃ v, L[k]? = some v ∧ v.n = n ∧ v.s = 1 ∧ mayL m L = true := by
  cases hm : mayL m L with
  | false => rw [findL_bad hm] at h; cases h
  | true =>
    cases hp : posL n L with
    | none => rw [findL_none hm hp] at h; cases h
    | some j =>
      obtain ⟨v, hv, hn, _⟩ := posL_get hp
      rw [findL_at hm hp hv] at h
      by_cases hs : v.s = 1
      · rw [if_pos hs] at h; cases h; exact ⟨v, hv, hn, hs, rfl⟩
      · rw [if_neg hs] at h; cases h
theorem findL_le (m n : Nat) (L : List Ver) : (findL m L n).1 ≤ 171 := by
  cases hm : mayL m L with
  | false => rw [findL_bad hm]; decide
  | true =>
    cases hp : posL n L with
    | none => rw [findL_none hm hp]; decide
    | some j =>
      obtain ⟨v, hv, hn, _⟩ := posL_get hp
      rw [findL_at hm hp hv]
      by_cases hs : v.s = 1
      · rw [if_pos hs]; exact Nat.zero_le _
      · rw [if_neg hs]; decide
set_option maxRecDepth 100000 in
set_option maxHeartbeats 2000000 in
theorem find_any (w : World) (m n : Nat) (p : Option Addr) (c : Nat) (L : List Ver) (h : VersP w p L) (hl : L.length ≤ 140737488355328) :
    Calls Tryd.prog 60 #[.agg #[.int .u64 (m : Int), .slice p L.length c], .int .u64 (n : Int)] w fun e w' => e = .returned (.tuple #[.int .i64 ((findL m L n).2 : Int), .int .i64 ((findL m L n).1 : Int)]) ∧ Ext w w' := by
  obtain ⟨k, hk⟩ : ∃ k, L.length = k := ⟨_, rfl⟩
  have HX0 := Lib.hid (((Ext.refl w).alloc (.cells #[.int .u64 (m : Int), .slice p k c] 54)).alloc (.cells #[.int .u64 (n : Int)] 38))
  have HB1 := Lib.hid ((Blk.new w [.int .u64 (m : Int), .slice p k c] 54).alloc (.cells #[.int .u64 (n : Int)] 38))
  have HB2 := Lib.hid (Blk.new1V w (.cells #[.int .u64 (m : Int), .slice p k c] 54) [.int .u64 (n : Int)] 38)
  have HM := Lib.hid (may_any _ m p c L (h.ext HX0.out) hl)
  have HI : Hid (∀ u, Ext w u → Blk u (w.heap.size + 1) 38 [.int .u64 (n : Int)] → Calls Tryd.prog 78 #[.slice p k c, .func (.func 79) #[] #[.pointer (some ⟨w.heap.size + 1, 0, none⟩)]] u fun e w' => e = .returned (.int .i64 (atI n L)) ∧ Ext u w') := Lib.hid (fun u x b => by
    have := index_any u n (w.heap.size + 1) p c L (h.ext x) hl b
    rwa [hk] at this)
  have HL := Lib.hid h
  rw [hk] at HM
  rw [hk] at hl ⊢
  cases hm : mayL m L with
  | false =>
    have HF := Lib.hid (findL_bad (n := n) hm)
    rw [hm] at HM
    clear h hk hm
    go_enter Tryd.func60, Tryd.ntmps60
    go_wp2_with (go_at_call 39; refine HM.out.mono ?_; rintro e w1 ⟨rfl, x1⟩; have HX1 := Lib.hid x1; clear x1)
    go_ret2
    exact ⟨by rw [HF.out]; rfl, HX0.out.trans HX1.out⟩
  | true =>
    rw [hm] at HM
    cases hp : posL n L with
    | none =>
      have HF := Lib.hid (findL_none hm hp)
      have HA := Lib.hid (atI_none hp)
      rw [HA.out] at HI
      clear h hk hm hp
      go_enter Tryd.func60, Tryd.ntmps60
      go_wp2_with (first
        | (go_at_call 39; refine HM.out.mono ?_; rintro e w1 ⟨rfl, x1⟩; have HX1 := Lib.hid x1; have b1 := (HB1.out.ext x1).cell 1 _ rfl; clear x1)
        | (go_at_call 78; refine (HI.out _ (HX0.out.trans HX1.out) (HB2.out.ext HX1.out)).mono ?_; rintro e w2 ⟨rfl, x2⟩; have HX2 := Lib.hid x2; clear x2))
      go_ret2
      exact ⟨by rw [HF.out]; rfl, (HX0.out.trans HX1.out).trans HX2.out⟩
    | some j =>
      obtain ⟨v, hv, hn, hjk⟩ := posL_get hp
      have HF := Lib.hid (findL_at hm hp hv)
      have HA := Lib.hid (atI_some hp)
      rw [HA.out] at HI
      have Hv := Lib.hid hv
      have hjk' : j < k := by omega
      clear h hk hm hp hn hjk hv
      obtain ⟨vn, vs, vt⟩ := v
      dsimp only at HF
      by_cases hs : vs = 1
      · have hs1 : (vs : Int) = 1 := by omega
        have HG : Hid (findL m L n = (0, j)) := Lib.hid (by rw [HF.out, if_pos hs])
        clear hs
        obtain ⟨g, rfl, _⟩ := HL.out.three (Ext.refl w) Hv.out
        go_enter Tryd.func60, Tryd.ntmps60
        go_wp2_with (first
          | (go_at_call 39; refine HM.out.mono ?_; rintro e w1 ⟨rfl, x1⟩; have HX1 := Lib.hid x1; have b1 := (HB1.out.ext x1).cell 1 _ rfl; clear x1)
          | (go_at_call 78; refine (HI.out _ (HX0.out.trans HX1.out) (HB2.out.ext HX1.out)).mono ?_; rintro e w2 ⟨rfl, x2⟩; have HX2 := Lib.hid x2; have b2 := ((HB1.out.ext HX1.out).ext x2).cell 1 _ rfl; obtain ⟨g', e', c0, c1, c2⟩ := HL.out.three ((HX0.out.trans HX1.out).trans x2) Hv.out; cases e'; clear x2))
        go_ret2
        exact ⟨by rw [HG.out]; rfl, (HX0.out.trans HX1.out).trans HX2.out⟩
      · have hs1 : ((vs : Int) != 1) = true := by have : ¬ (vs : Int) = 1 := (by omega); simpa using this
        have HG : Hid (findL m L n = (171, 0)) := Lib.hid (by rw [HF.out, if_neg hs])
        clear hs
        obtain ⟨g, rfl, _⟩ := HL.out.three (Ext.refl w) Hv.out
        go_enter Tryd.func60, Tryd.ntmps60
        go_wp2_with (first
          | (go_at_call 39; refine HM.out.mono ?_; rintro e w1 ⟨rfl, x1⟩; have HX1 := Lib.hid x1; have b1 := (HB1.out.ext x1).cell 1 _ rfl; clear x1)
          | (go_at_call 78; refine (HI.out _ (HX0.out.trans HX1.out) (HB2.out.ext HX1.out)).mono ?_; rintro e w2 ⟨rfl, x2⟩; have HX2 := Lib.hid x2; have b2 := ((HB1.out.ext HX1.out).ext x2).cell 1 _ rfl; obtain ⟨g', e', c0, c1, c2⟩ := HL.out.three ((HX0.out.trans HX1.out).trans x2) Hv.out; cases e'; clear x2))
        go_ret2
        exact ⟨by rw [HG.out]; rfl, (HX0.out.trans HX1.out).trans HX2.out⟩
end Go.Proofs.YtkjcpjalldbahaaDoor
end

section
namespace Go.Proofs.YtkjcpjalldbahaaDoor
open Go.RowKit

theorem size_nil {t : ByteArray} (h : t.size = 0) : t = ⟨#[]⟩ := by
  cases t with
  | mk d =>
    rcases d with ⟨l⟩
    cases l with
    | nil => rfl
    | cons a r => simp [ByteArray.size] at h
theorem isEmpty_no {t : ByteArray} (h : ¬ t.size = 0) : t.toList.isEmpty = false := by
  rw [ByteArray.toList_eq]
  cases t with
  | mk d =>
    rcases d with ⟨l⟩
    cases l with
    | nil => simp [ByteArray.size] at h
    | cons a r => rfl
end Go.Proofs.YtkjcpjalldbahaaDoor
end

section
namespace Go.Proofs.YtkjcpjalldbahaaDoor
open Go.RowKit

theorem resV_row_tmp {fn : Func} {p u : Tmp} {ty : TypeId} (h : fn.results = #[.cell p ty, .tmp u]) (tmps : Array Value) (w : World) (g : Nat) (cs : Array Value)
    (hp : tmps.getD p undef = .pointer (some ⟨g, 0, none⟩)) (hl : (loadVar ty ⟨g, 0, none⟩).run Tryd.prog w = .ok (.agg cs) w) :
    (results fn tmps).run Tryd.prog w = .ok (.tuple #[.agg cs, tmps.getD u undef]) w := by
  rw [results_cell_tmp h, hp]
  simp [asAddr, hl, Result.andThen]
theorem ver_info : (Tryd.prog.info? 58).map (·.size) = some 3 := by kernel_rfl
theorem load_ver (w : World) (g : Nat) (a b : Int) (S : ByteArray) (h : Blk w g 58 [.int .u64 a, .int .u8 b, .string S]) :
    (loadVar 58 ⟨g, 0, none⟩).run Tryd.prog w = .ok (.agg #[.int .u64 a, .int .u8 b, .string S]) w :=
  run_loadVar_row w g 58 58 #[.int .u64 a, .int .u8 b, .string S] (0, 0) _ h Tryd.underlying58 rfl ver_info
theorem cell_info : (Tryd.prog.info? 54).map (·.size) = some 2 := by kernel_rfl
theorem load_cell (w : World) (g : Nat) (a : Int) (p : Option Addr) (n c : Nat) (h : Blk w g 54 [.int .u64 a, .slice p n c]) :
    (loadVar 54 ⟨g, 0, none⟩).run Tryd.prog w = .ok (.agg #[.int .u64 a, .slice p n c]) w :=
  run_loadVar_row w g 54 54 #[.int .u64 a, .slice p n c] (0, 0) _ h Tryd.underlying54 rfl cell_info
/-- What the document's Read answers. -/
def rreadL (last : Nat) (L : List Ver) (n : Nat) : Nat × Ver :=
  if mayL last L then
    if n = 0 then if nowL L = 0 then (3, ⟨0, 0, ⟨#[]⟩⟩) else (0, (L[L.length - 1]?).getD ⟨0, 0, ⟨#[]⟩⟩)
    else let r := findL last L n; if r.1 = 0 then (0, (L[r.2]?).getD ⟨0, 0, ⟨#[]⟩⟩) else (r.1, ⟨0, 0, ⟨#[]⟩⟩)
  else (2, ⟨0, 0, ⟨#[]⟩⟩)
theorem readL_err {m n e k mm : Nat} {L : List Ver} (hm : mm = if n = 0 then nowL L else n) (h : findL m L mm = (e, k)) (he : e ≠ 0) : readL m L n = (e, ⟨0, 0, ⟨#[]⟩⟩) := by
  simp [readL, ← hm, h, he]
theorem readL_ok {m n k mm : Nat} {L : List Ver} {v : Ver} (hm : mm = if n = 0 then nowL L else n) (h : findL m L mm = (0, k)) (hv : L[k]? = some v) : readL m L n = (0, v) := by
  simp [readL, ← hm, h, hv]
theorem rreadL_bad {m n : Nat} {L : List Ver} (h : mayL m L = false) : rreadL m L n = (2, ⟨0, 0, ⟨#[]⟩⟩) := by simp [rreadL, h]
theorem rreadL_now0 {m : Nat} {L : List Ver} (h : mayL m L = true) (hn : nowL L = 0) : rreadL m L 0 = (3, ⟨0, 0, ⟨#[]⟩⟩) := by simp [rreadL, h, hn]
theorem rreadL_now {m : Nat} {L : List Ver} {v : Ver} (h : mayL m L = true) (hn : nowL L ≠ 0) (hv : L[L.length - 1]? = some v) : rreadL m L 0 = (0, v) := by simp [rreadL, h, hn, hv]
theorem rreadL_err {m n e k : Nat} {L : List Ver} (h : mayL m L = true) (hn : n ≠ 0) (hf : findL m L n = (e, k)) (he : e ≠ 0) : rreadL m L n = (e, ⟨0, 0, ⟨#[]⟩⟩) := by simp [rreadL, h, hn, hf, he]
theorem rreadL_ok {m n k : Nat} {L : List Ver} {v : Ver} (h : mayL m L = true) (hn : n ≠ 0) (hf : findL m L n = (0, k)) (hv : L[k]? = some v) : rreadL m L n = (0, v) := by simp [rreadL, h, hn, hf, hv]
end Go.Proofs.YtkjcpjalldbahaaDoor
end

section
namespace Go.Proofs.YtkjcpjalldbahaaDoor
open Go.RowKit

theorem rise_step {v : Ver} {r : List Ver} {a b : Nat} (h : rise a (v :: r) = some b) : a < v.n ∧ okV v = true ∧ rise v.n r = some b := by
  unfold rise at h
  by_cases h1 : v.n ≤ a
  · rw [if_pos h1] at h; cases h
  · rw [if_neg h1] at h
    cases h2 : okV v with
    | false => rw [h2] at h; cases h
    | true => rw [h2] at h; exact ⟨by omega, rfl, h⟩
theorem rise_le : ∀ {L : List Ver} {a b : Nat}, rise a L = some b → a ≤ b
  | [], a, b, h => by simp [rise] at h; omega
  | v :: r, a, b, h => by
    obtain ⟨h1, _, h3⟩ := rise_step h
    have := rise_le h3
    omega
theorem rise_mem : ∀ {L : List Ver} {a b : Nat}, rise a L = some b → ∀ x ∈ L, a < x.n ∧ x.n ≤ b ∧ okV x = true
  | [], a, b, h, x, hx => by cases hx
  | v :: r, a, b, h, x, hx => by
    obtain ⟨h1, h2, h3⟩ := rise_step h
    rcases List.mem_cons.1 hx with rfl | hx
    · exact ⟨h1, rise_le h3, h2⟩
    · obtain ⟨q1, q2, q3⟩ := rise_mem h3 x hx
      exact ⟨by omega, q2, q3⟩
theorem rise_lt : ∀ {L : List Ver} {a b : Nat}, rise a L = some b → ∀ {i j : Nat} {x y : Ver}, L[i]? = some x → L[j]? = some y → i < j → x.n < y.n
  | [], a, b, h, i, j, x, y, hx, _, _ => by simp at hx
  | v :: r, a, b, h, i, j, x, y, hx, hy, hij => by
    obtain ⟨h1, h2, h3⟩ := rise_step h
    obtain ⟨j', rfl⟩ : ∃ j', j = j' + 1 := ⟨j - 1, by omega⟩
    rw [List.getElem?_cons_succ] at hy
    cases i with
    | zero =>
      simp at hx
      subst hx
      exact (rise_mem h3 y (List.mem_of_getElem? hy)).1
    | succ i => 
      rw [List.getElem?_cons_succ] at hx
      exact rise_lt h3 hx hy (by omega)
theorem rise_last {L : List Ver} {a b : Nat} (h : rise a L = some b) {j : Nat} {x : Ver} (hl : L.length = j + 1) (hx : L[j]? = some x) : x.n = b := by
  have e : L.take j ++ [x] = L := by
    have h1 := List.take_add_one (l := L) (i := j)
    rw [hx] at h1
    have h2 : L.take (j + 1) = L := List.take_of_length_le (by omega)
    rw [h2] at h1
    exact h1.symm
  rw [← e, rise_app] at h
  cases hr : rise a (L.take j) with
  | none => rw [hr] at h; cases h
  | some q =>
    rw [hr] at h
    have := rise_step (r := []) h
    simpa [rise] using this.2.2
theorem posL_at {L : List Ver} {a b : Nat} (h : rise a L = some b) {k : Nat} {x : Ver} (hx : L[k]? = some x) : posL x.n L = some k :=
  posL_some hx rfl fun j y hj hy => by
    have := rise_lt h hy hx hj
    omega
/-- One answer. -/
theorem read_one (m n : Nat) (L : List Ver) : rreadL m L n = readL m L n := by
  cases hm : mayL m L with
  | false => simp [rreadL_bad hm, readL, findL_bad hm]
  | true =>
    obtain ⟨_, hr⟩ := mayL_iff.1 hm
    by_cases hn : n = 0
    · subst hn
      by_cases hw : nowL L = 0
      · have hp : posL 0 L = none := posL_none fun j x hx => by
          have := (rise_mem hr x (List.mem_of_getElem? hx)).1
          omega
        rw [rreadL_now0 hm hw]
        exact (readL_err (mm := 0) (by rw [if_pos rfl, hw]) (findL_none hm hp) (by decide)).symm
      · have hne : L ≠ [] := fun e => hw (by rw [e]; rfl)
        have hpos : 0 < L.length := List.length_pos_iff.2 hne
        obtain ⟨j, hj⟩ : ∃ j, L.length = j + 1 := ⟨L.length - 1, by omega⟩
        obtain ⟨v, hv⟩ : ∃ v, L[j]? = some v := ⟨_, List.getElem?_eq_getElem (by omega)⟩
        rw [rreadL_now hm hw (v := v) (by rw [hj, Nat.add_sub_cancel]; exact hv)]
        have e1 := nowL_last hj hv
        by_cases hs : v.s = 1
        · rw [if_pos hs] at e1
          refine (readL_ok (mm := v.n) (by rw [if_pos rfl, e1]) ?_ hv).symm
          rw [findL_at hm (posL_at hr hv) hv, if_pos hs]
        · rw [if_neg hs] at e1
          exact absurd e1 hw
    · cases hf : findL m L n with
      | mk e k =>
        by_cases he : e = 0
        · subst he
          obtain ⟨v, hv, _⟩ := findL_ok hf
          rw [rreadL_ok hm hn hf hv]
          exact (readL_ok (by rw [if_neg hn]) hf hv).symm
        · rw [rreadL_err hm hn hf he]
          exact (readL_err (by rw [if_neg hn]) hf he).symm
end Go.Proofs.YtkjcpjalldbahaaDoor
end
