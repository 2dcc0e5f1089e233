/- Contract: names of children, by the program. Contracts: what a table tells: Read, Now, Last, List, by the program. -/
import Derived.Test.YtkjcpjalldbahaaDoorM10
import Derived.Test.YtkjcpjalldbahaaDoorM23
import Derived.StringKeys
import Derived.Test.YtkjcpjalldbahaaDoorM29
section
namespace Go.Proofs.YtkjcpjalldbahaaDoor
open Go.RowKit Go.Maps Go.Sort Go.WideMaps

theorem ownsMap_ext {w w' : World} {k : TypeId} {R : Value → Option (DataW Unit × List MemPlace)} {b n : Nat} {D : DataW Unit} (h : w.ownsMap Tryd.prog k R b n D) (hx : Ext w w') : w'.ownsMap Tryd.prog k R b n D := by
  obtain ⟨es, clock, hb, F, hs, hD⟩ := h
  exact ⟨es, clock, (hx.below.block b (heap_lt hb)).trans hb, F, hs, hD⟩
theorem ext_grownN {a b c : World} {k : Nat} (h : Ext a b) (hg : b.grownBy c (some k)) (hk : a.heap.size ≤ k) : Ext a c := Below.grown h hg h.size (fun q e => by cases e; exact hk)
theorem bufS_mono {w : World} {A B : Nat} {v : Value} {l : List ByteArray} (h : BufS w A v l) (hB : B ≤ A) : BufS w B v l := by
  refine ⟨h.1, ?_⟩
  rcases h.2 with h0 | ⟨g, cap, cur, e1, e2, e3⟩
  · exact .inl h0
  · exact .inr ⟨g, cap, cur, e1, Nat.le_trans hB e2, e3⟩
theorem has_names (p : List UInt8) (L : List (List UInt8)) (k : Nat) (s : List UInt8) (D : DataW Unit) (hs : L[k]? = some s) (hD : IsMap D) (h : ∀ x, x ∈ namesL p (L.take k) ↔ has D (.string x) = true) (hu : underB p s = true) :
    ∀ x, x ∈ namesL p (L.take (k + 1)) ↔ has (D.put (.string (childL p s)) (.agg [])) (.string x) = true := by
  intro x
  have e : x ∈ namesL p (L.take (k + 1)) ↔ x ∈ namesL p (L.take k) ∨ x = childL p s := by
    rw [names_mem, names_mem, List.take_add_one, hs]
    simp only [Option.toList_some, List.mem_append, List.mem_singleton]
    constructor
    · rintro ⟨y, hy | rfl, h1, h2⟩
      · exact .inl ⟨y, hy, h1, h2⟩
      · exact .inr h2
    · rintro (⟨y, hy, h1, h2⟩ | h2)
      · exact ⟨y, .inl hy, h1, h2⟩
      · exact ⟨s, .inr rfl, hu, h2⟩
  rw [e]
  by_cases hx : x = childL p s
  · subst hx
    rw [has_put_same hD (by simp [WideAt.IsKeyLit])]
    simp
  · rw [has_put_other (fun e => hx (by cases e; rfl)), h x]
    simp [hx]
theorem has_same (p : List UInt8) (L : List (List UInt8)) (k : Nat) (s : List UInt8) (D : DataW Unit) (hs : L[k]? = some s) (h : ∀ x, x ∈ namesL p (L.take k) ↔ has D (.string x) = true) (hu : underB p s = false) :
    ∀ x, x ∈ namesL p (L.take (k + 1)) ↔ has D (.string x) = true := by
  intro x
  rw [← h x, names_mem, names_mem, List.take_add_one, hs]
  simp only [Option.toList_some, List.mem_append, List.mem_singleton]
  constructor
  · rintro ⟨y, hy | rfl, h1, h2⟩
    · exact ⟨y, hy, h1, h2⟩
    · rw [hu] at h1; cases h1
  · rintro ⟨y, hy, h1, h2⟩
    exact ⟨y, .inl hy, h1, h2⟩
def dataL (l : List ByteArray) : List (List UInt8) := l.map fun s => s.data.toList
/-- The names, as texts. -/
def namesB (p : ByteArray) (l : List ByteArray) : List ByteArray := (namesL p.data.toList (dataL l)).map toB
set_option maxRecDepth 100000 in
set_option maxHeartbeats 2000000 in
theorem Names_any (p : ByteArray) (hp : p.size ≤ 140737488351232) (q : Option Addr) (c : Nat) (l : List ByteArray) (w : World) (h : TextsP w q l) (hl : l.length ≤ 100000) (hs : ∀ s ∈ l, s.size ≤ 140737488351232) :
    Calls Tryd.prog 29 #[.string p, .slice q l.length c] w fun e w' => ∃ v, e = .returned v ∧ BufS w' w.heap.size v (namesB p l) ∧ Ext w w' := by
  have hmm := @run_makeMap Tryd.prog
  have HH := Lib.hid (fun u (hu : Ext w u) => h.ext hu)
  have HS := Lib.hid hs
  have HKy := Lib.hid (fun mb u => keys_any mb u)
  clear h hs
  go_enter Tryd.func29, Tryd.ntmps29
  go_wp2
  go_loopw [13] (fun iv wr => ∃ (k : Nat) (D : DataW Unit), k ≤ l.length ∧ iv = .int .i64 (k : Int) ∧ wr.ownsMap Tryd.prog 9 (unitElem (H := Unit)) w.heap.size k D ∧ Hid (∀ x, x ∈ namesL p.data.toList ((dataL l).take k) ↔ has D (.string x) = true) ∧ Ext w wr) (fun iv _ => l.length - (intOf iv).toNat)
  case atStart => exact ⟨0, .map [], Nat.zero_le _, rfl, World.ownsMap_made _ _ _ _, Lib.hid (by intro x; simp [namesL, has]), (Ext.refl w).alloc _⟩
  case round =>
    obtain ⟨k, D, hk, rfl, hown, hmem, hext⟩ := hrel
    have HO := Lib.hid hown; have HE := Lib.hid hext
    clear hown
    by_cases hlt : k < l.length
    · obtain ⟨s, hsk⟩ : ∃ s, l[k]? = some s := ⟨_, List.getElem?_eq_getElem hlt⟩
      obtain ⟨a, rfl, _, hc1⟩ := HH.out _ hext k s hsk
      have hss := HS.out s (List.mem_of_getElem? hsk)
      have HC := Lib.hid (fun u => Child_any p s hp hss u)
      have HSk : Hid ((dataL l)[k]? = some s.data.toList) := Lib.hid (by unfold dataL; rw [List.getElem?_map, hsk]; rfl)
      clear hsk hext
      cases hu : underT p s with
      | true =>
        rw [hu] at HC
        have HU : Hid (underB p.data.toList s.data.toList = true) := Lib.hid hu
        have hcs : (childB p s).size ≤ 140737488351232 := by
          have hf := first_take (restB p s).data.toList
          rw [size_list] at hf
          have h2 := rest_size p s
          have e : childB p s = toB (firstL (restB p s).data.toList) := by
            unfold childB childL restB
            unfold underT at hu
            rw [hu, toB_data]; rfl
          rw [e, toB_size]
          omega
        have HKey : Hid (keyOf Tryd.prog 9 (.string (childB p s)) = some (.string (childL p.data.toList s.data.toList))) := Lib.hid (keyOf_string_mk Tryd.underlying9 (by unfold maxLen; omega))
        clear hu hcs
        generalize childB p s = C at *
        go_wp2_with (first
          | (go_at_call 42; refine (HC.out _).mono ?_; rintro e w1 ⟨rfl, x1⟩; have X1 := Lib.hid x1; clear x1)
          | (at_mapUpdate; refine wpList_mapUpdate_own _ rfl _ _ _ 91 rfl 9 94 key_law Tryd.underlying91 (unitElem (H := Unit)) w.heap.size k D rfl (ownsMap_ext HO.out X1.out) (by unfold maxLen; omega) _ _ _ rfl rfl HKey.out _ [] unitElem_mk ?_; intro w2 hown2 hgrow2; have HO2 := Lib.hid hown2; have HG2 := Lib.hid hgrow2; clear hown2 hgrow2))
        go_roundw
        case rel => exact ⟨k + 1, _, by omega, by go_num, HO2.out, Lib.hid (has_names _ _ _ _ _ HSk.out ((HO.out.tidy key_law).isMap) hmem.out HU.out), ext_grownN (HE.out.trans X1.out) HG2.out (Nat.le_refl _)⟩
        case measure => simp [intOf]; omega
      | false =>
        rw [hu] at HC
        have HU : Hid (underB p.data.toList s.data.toList = false) := Lib.hid hu
        clear hu
        go_wp2_with (go_at_call 42; refine (HC.out _).mono ?_; rintro e w1 ⟨rfl, x1⟩; have X1 := Lib.hid x1; clear x1)
        go_roundw
        case rel => exact ⟨k + 1, D, by omega, by go_num, (ownsMap_ext HO.out X1.out).mono (by omega), Lib.hid (has_same _ _ _ _ _ HSk.out hmem.out HU.out), HE.out.trans X1.out⟩
        case measure => simp [intOf]; omega
    · obtain rfl : k = l.length := by omega
      have hm := hmem.out
      rw [List.take_of_length_le (by simp [dataL])] at hm
      have HF := Lib.hid (sorted_any _ _ D _ _ wr HO.out (by omega) (names_rises _ _) hm)
      clear hm hext
      go_wp2_with (first
        | (go_at_call 43; refine (HKy.out _ _).mono ?_; rintro e w1 ⟨rfl, hw⟩; rw [hw])
        | (go_at_call 21; refine HF.out.mono ?_; rintro e w2 ⟨v, rfl, hb, x2⟩; have HB := Lib.hid hb; have X2 := Lib.hid x2; clear hb x2))
      go_ret
      exact ⟨v, rfl, bufS_mono HB.out HE.out.size, HE.out.trans X2.out⟩
end Go.Proofs.YtkjcpjalldbahaaDoor
end

section
namespace Go.Proofs.YtkjcpjalldbahaaDoor
open Go.RowKit Go.ChangeMaps Go.MapKept

theorem tlist_no (w : World) (s : ByteArray) :
    Calls Tryd.prog 17 #[.pointer none, .string s] w fun e w' => e = .returned (.slice none 0 0) ∧ w = w' := by
  go_enter Tryd.func17, Tryd.ntmps17
  go_wp2_with (go_at_call 20; refine (tthere_no _).mono ?_; rintro e w1 ⟨rfl, rfl⟩)
  go_ret
  exact ⟨rfl, rfl⟩
theorem field_last (m : Int) (p : Option Addr) (n c : Nat) (u : World) : (Instr.field 54 (.agg #[.int .u64 m, .slice p n c]) 0).run Tryd.prog u = .ok (.int .u64 m) u := by kernel_rfl
theorem trows_no (w : World) :
    Calls Tryd.prog 9 #[.pointer none] w fun e w' => e = .returned (.slice none 0 0) ∧ w = w' := by
  go_enter Tryd.func9, Tryd.ntmps9
  go_wp2_with (go_at_call 20; refine (tthere_no _).mono ?_; rintro e w1 ⟨rfl, rfl⟩)
  go_ret
  exact ⟨rfl, rfl⟩
theorem tload_no (w : World) (l : Value) :
    Calls Tryd.prog 12 #[.pointer none, l] w fun e w' => e = .returned (.int .i64 1) ∧ w = w' := by
  go_enter Tryd.func12, Tryd.ntmps12
  go_wp2_with (go_at_call 20; refine (tthere_no _).mono ?_; rintro e w1 ⟨rfl, rfl⟩)
  go_ret
  exact ⟨rfl, rfl⟩
theorem ver_infoT : (Tryd.prog.info? 58).map (·.size) = some 3 := by kernel_rfl
/-- The live paths of entries. -/
def liveE (D : List Ent) : List ByteArray := (D.filter fun e => decide (nowL e.L ≠ 0)).map (·.p)
theorem liveE_len (D : List Ent) : (liveE D).length ≤ D.length := by
  unfold liveE
  rw [List.length_map]
  exact List.length_filter_le _ _
theorem IsA.textsP {w : World} {B c : Nat} {p : Option Addr} {l : List ByteArray} (h : IsA w B 9 p c (l.map Value.string)) : TextsP w p l := fun i s hs => by
  obtain ⟨g, e, h2, _, h3, _⟩ := h.sl.cell (j := i) (u := .string s) (by simp [hs])
  exact ⟨_, e, h2, by rw [Addr.add_mid, Nat.zero_add]; exact h3⟩
theorem strV_one (l : List ByteArray) : ∀ u ∈ l.map Value.string, u.oneCell' = true := fun u hu => by
  obtain ⟨_, _, rfl⟩ := List.mem_map.1 hu; rfl
theorem RangeL.keepA {w w' : World} {P : Program} {k : TypeId} {b r A : Nat} {T : TypeId} {l left : List (Value × Value)} (h : RangeL w P k b r l left) (q : KeepA T A w w') : RangeL w' P k b r l left := by
  obtain ⟨es, clock, since, seen, c0, hb, _, _, _, hr, _⟩ := id h
  exact h.same ((q.keep _ _ hb (fun _ _ e => by cases e)).trans hb.symm) ((q.keep _ _ hr (fun _ _ e => by cases e)).trans hr.symm)
set_option maxRecDepth 100000 in
set_option maxHeartbeats 4000000 in
theorem tlist_any (w : World) (lo t b : Nat) (qp qb : Int) (R : List RowP) (h : IsT w lo t b qp qb R) (hl : R.length ≤ 90000) (s : ByteArray) (hs : s.size ≤ 140737488351232) :
    Calls Tryd.prog 17 #[.pointer (some ⟨t, 0, none⟩), .string s] w fun e w' => ∃ v, e = .returned v ∧ BufS w' w.heap.size v (namesB s (liveR R)) ∧ Ext w w' := by
  have hc := h.cell
  have HIT := Lib.hid h
  obtain ⟨M, hM⟩ := h.map
  have HM := Lib.hid hM
  have HRL := Lib.hid hl
  have HSZ := Lib.hid hs
  clear h hM hl hs
  go_enter Tryd.func17, Tryd.ntmps17
  go_wp2_with (first
    | (go_at_call 20; refine (tthere_yes _ t b hc).mono ?_; rintro e w1 ⟨rfl, rfl⟩)
    | (at_range; refine wpList_range_L _ rfl _ 61 rfl 9 54 Tryd.underlying61 b (M.map kvE) rfl HM.out.map ?_; intro w0 hrg hx0 hs0))
  have HRG := Lib.hid hrg
  have HX0 := Lib.hid hx0
  clear hrg hx0 hs0
  go_frame
  go_loopw [5] (fun sv wr => ∃ (left : List (Value × Value)) (done : List Ent) (pv : Option Addr) (cv n : Nat), sv = .slice pv n cv ∧ Hid (n = (liveE done).length) ∧ Hid (Gone M left done) ∧ Hid (RangeL wr Tryd.prog 9 b w.heap.size (M.map kvE) left) ∧ Hid (IsA wr w.heap.size 9 pv cv ((liveE done).map Value.string)) ∧ Hid (Ext w wr)) (fun _ wr => wr.rangeLeft b w.heap.size)
  case atStart => exact ⟨M.map kvE, [], none, 0, 0, rfl, Lib.hid rfl, Lib.hid (Gone.start HM.out.paths), HRG, Lib.hid (IsA.nil _ _ _), HX0⟩
  case round =>
    obtain ⟨left, done, pv, cv, n, rfl, HN, HGo, HR, HA, HX⟩ := hrel
    have hdl : done.length ≤ R.length := by
      have h1 := HGo.out.perm.length_eq
      have h2 := (HM.out.perm HIT.out.good.up).length_eq
      simp only [List.length_append, List.length_map] at h1 h2
      omega
    have hnl : n ≤ 90000 := by have := HN.out; have := liveE_len done; have := HRL.out; omega
    clear hdl
    go_wp2_with (at_next; refine wpList_next_L _ rfl _ rfl 9 (fun x : { e : Ent // e ∈ M } => kvE x.1) b w.heap.size (M.map kvE) left HGo.out.inv rfl HR.out ?_ ?_)
    · intro h0
      have HL : Hid (namesB s (liveE done) = namesB s (liveR R)) := Lib.hid (by
        unfold namesB
        congr 1
        refine names_same _ fun x => ?_
        have hst := HGo.out
        rw [h0] at hst
        unfold dataL liveE liveR
        simp only [List.mem_map, List.mem_filter]
        constructor
        · rintro ⟨y, ⟨e, ⟨he, hn⟩, rfl⟩, rfl⟩
          exact ⟨e.p, ⟨e.row, ⟨(HM.out.rows _).2 ⟨e, (hst.stop e).1 he, rfl⟩, hn⟩, rfl⟩, rfl⟩
        · rintro ⟨y, ⟨r, ⟨hr, hn⟩, rfl⟩, rfl⟩
          obtain ⟨e, he, rfl⟩ := (HM.out.rows _).1 hr
          exact ⟨_, ⟨e, ⟨(hst.stop e).2 he, hn⟩, rfl⟩, rfl⟩)
      have HNm := Lib.hid (Names_any s HSZ.out pv cv (liveE done) wr HA.out.textsP (by have := HN.out; omega) (fun x hx => by
        obtain ⟨e, he, rfl⟩ := List.mem_map.1 hx
        have hem := HGo.out.sub e (List.mem_filter.1 he).1
        have := may_size (HIT.out.good.each _ ((HM.out.rows _).2 ⟨e, hem, rfl⟩)).path
        show e.p.size ≤ _
        have h2 : e.p.size ≤ 128 := this
        omega))
      rw [HL.out, ← HN.out] at HNm
      clear h0
      go_wp2_with (go_at_call 29; refine HNm.out.mono ?_; rintro e w2 ⟨v, rfl, hb, x2⟩)
      go_ret
      exact ⟨v, rfl, bufS_mono hb HX.out.size, HX.out.trans x2⟩
    · intro x hxM left' w2 hq hrg1 hg1 hs1 hen
      obtain ⟨xp, xm, xL, xa, xc⟩ := x
      obtain ⟨G1, _⟩ := HGo.out.step hxM hq
      have HG1 := Lib.hid G1; have HQL := Lib.hid hq.length_eq; have HR2 := Lib.hid hrg1
      have HX2 := Lib.hid (HX.out.grown hg1 (fun k hk => by cases hk; exact Nat.le_refl _))
      have HA2 : Hid (IsA w2 w.heap.size 9 pv cv ((liveE done).map Value.string)) := Lib.hid (HA.out.turnN (grown_turn hg1) fun g e => by subst e; exact HR.out.iter _)
      have hok := HIT.out.good.each _ ((HM.out.rows _).2 ⟨_, hxM, rfl⟩)
      have hxl : xL.length ≤ 8 := hok.len
      have HNw := Lib.hid (fun u (x : Ext w u) => now_any u xm xa xc xL ((HM.out.ents _ hxM).vers.vers.ext x) (by omega))
      have HX3 := Lib.hid (HX2.out.alloc (.cells #[.int .u64 (xm : Int), .slice xa xL.length xc] 54))
      have HA3 := Lib.hid (HA2.out.ext ((Ext.refl w2).alloc (.cells #[.int .u64 (xm : Int), .slice xa xL.length xc] 54)))
      have HR3 := Lib.hid (HR2.out.ext ((Ext.refl w2).alloc (.cells #[.int .u64 (xm : Int), .slice xa xL.length xc] 54)))
      have HLE : Hid (liveE (done ++ [Ent.mk xp xm xL xa xc]) = if nowL xL ≠ 0 then liveE done ++ [xp] else liveE done) := Lib.hid (by
        unfold liveE
        rw [List.filter_append, List.map_append]
        by_cases q : nowL xL = 0 <;> simp [q])
      have hls : left.length = left'.length + 1 := by have := HQL.out; simpa using this
      have HLs := Lib.hid hls
      obtain ⟨nw, hnw⟩ : ∃ nw, nowL xL = nw := ⟨_, rfl⟩
      rw [hnw] at HNw HLE
      unfold kvE at hen ⊢
      dsimp only at hen ⊢
      generalize xL.length = nx at *
      clear G1 hq hrg1 hg1 hs1 hok hxl hls hxM hnw
      by_cases h0 : nw = 0
      · subst h0
        rw [if_neg (by simp)] at HLE
        go_wp2_with (go_at_call 28; refine (HNw.out _ HX3.out).mono ?_; rintro e w4 ⟨rfl, x4⟩; have HX4 := Lib.hid (HX3.out.trans x4); have HA4 := Lib.hid (HA3.out.ext x4); have HR4 := Lib.hid (HR3.out.ext x4); clear x4)
        go_roundw
        case rel => exact ⟨left', done ++ [Ent.mk xp xm xL xa xc], pv, cv, n, rfl, Lib.hid (by rw [HLE.out]; exact HN.out), HG1, HR4, Lib.hid (by rw [HLE.out]; exact HA4.out), HX4⟩
        case measure =>
          rw [HR4.out.left_eq, HR.out.left_eq, HLs.out]
          omega
      · have hne : ((nw : Int) != 0) = true := by have : ¬ (nw : Int) = 0 := (by omega); simpa using this
        rw [if_pos h0] at HLE
        have hn1 : n + 1 ≤ 1000000000 := by omega
        clear h0
        go_wp2_with (first
          | (go_at_call 28; refine (HNw.out _ HX3.out).mono ?_; rintro e w4 ⟨rfl, x4⟩; have HX4 := Lib.hid (HX3.out.trans x4); have HA4 := Lib.hid (HA3.out.ext x4); have HR4 := Lib.hid (HR3.out.ext x4); have HA5 := Lib.hid (HA4.out.ext ((Ext.refl w4).alloc (.cells #[.string xp] 9))); have HR5 := Lib.hid (HR4.out.ext ((Ext.refl w4).alloc (.cells #[.string xp] 9))); have HX5 := Lib.hid (HX4.out.alloc (.cells #[.string xp] 9)); have HSLB : Hid (Sl (w4.alloc (.cells #[.string xp] 9)) (kp pv) 1 1 9 pv n cv ((liveE done).map Value.string)) := Lib.hid (by have := HA5.out.sl; rwa [List.length_map, ← HN.out] at this); have HSRC := Lib.hid (src_text (w4.alloc (.cells #[.string xp] 9)) w4.heap.size xp ((Blk.new w4 [.string xp] 9).cell 0 _ rfl)); clear x4)
          | (refine wpList_append_sl rfl (.tmp 24) (.tmp 26) 25 25 rfl Tryd.underlying25 infoS rfl (by decide) rfl HSLB.out (strV_one _) _ rfl 1 _ HSRC.out hn1 ?_; intro p4 c4 w5 κ4 s4 f4 e4 x4 o4; have HK := Lib.hid (keepA_of_fr HSLB.out HA5.out.low HX5.out.size f4 x4); have HA6 : Hid (IsA w5 w.heap.size 9 p4 c4 ((liveE done ++ [xp]).map Value.string)) := Lib.hid (by rw [List.map_append]; exact isA_grown s4 (by rw [List.length_map, HN.out]) e4 HA5.out.low HX5.out.size); have HR6 := Lib.hid (HR5.out.keepA HK.out); have HX6 := Lib.hid (HX5.out.keptA HK.out); clear s4 f4 e4 x4 o4))
        go_roundw
        case rel => exact ⟨left', done ++ [Ent.mk xp xm xL xa xc], p4, c4, n + 1, rfl, Lib.hid (by rw [HLE.out, List.length_append, ← HN.out]; rfl), HG1, HR6, Lib.hid (by rw [HLE.out]; exact HA6.out), HX6⟩
        case measure =>
          rw [HR6.out.left_eq, HR.out.left_eq, HLs.out]
          omega
end Go.Proofs.YtkjcpjalldbahaaDoor
end
