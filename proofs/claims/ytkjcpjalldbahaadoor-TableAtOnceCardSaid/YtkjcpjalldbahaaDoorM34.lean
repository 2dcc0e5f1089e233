/- Contract: names of children, by the program. -/
import Derived.Test.YtkjcpjalldbahaaDoorM04
import Derived.Test.YtkjcpjalldbahaaDoorM25
import Derived.StringKeys
section
namespace Go.Proofs.YtkjcpjalldbahaaDoor
open Go.RowKit Go.Maps Go.Sort Go.WideMaps

theorem ownsMap_ext {w w' : World} {k : TypeId} {R : Value → Option (DataW Unit × List MemPlace)} {b n : Nat} {D : DataW Unit} (h : w.ownsMap Tryd.prog k R b n D) (hx : Ext w w') : w'.ownsMap Tryd.prog k R b n D := by
  obtain ⟨es, clock, hb, F, hs, hD⟩ := h
  exact ⟨es, clock, (hx.below.block b (heap_lt hb)).trans hb, F, hs, hD⟩
theorem ext_grownN {a b c : World} {k : Nat} (h : Ext a b) (hg : b.grownBy c (some k)) (hk : a.heap.size ≤ k) : Ext a c := Below.grown h hg h.size (fun q e => by cases e; exact hk)
theorem bufS_mono {w : World} {A B : Nat} {v : Value} {l : List ByteArray} (h : BufS w A v l) (hB : B ≤ A) : BufS w B v l := by
  refine ⟨h.1, ?_⟩
  rcases h.2 with h0 | ⟨g, cap, cur, e1, e2, e3⟩
  · exact .inl h0
  · exact .inr ⟨g, cap, cur, e1, Nat.le_trans hB e2, e3⟩
theorem has_names (p : List UInt8) (L : List (List UInt8)) (k : Nat) (s : List UInt8) (D : DataW Unit) (hs : L[k]? = some s) (hD : IsMap D) (h : ∀ x, x ∈ namesL p (L.take k) ↔ has D (.string x) = true) (hu : underB p s = true) :
    ∀ x, x ∈ namesL p (L.take (k + 1)) ↔ has (D.put (.string (childL p s)) (.agg [])) (.string x) = true := by
  intro x
  have e : x ∈ namesL p (L.take (k + 1)) ↔ x ∈ namesL p (L.take k) ∨ x = childL p s := by
    rw [names_mem, names_mem, List.take_add_one, hs]
    simp only [Option.toList_some, List.mem_append, List.mem_singleton]
    constructor
    · rintro ⟨y, hy | rfl, h1, h2⟩
      · exact .inl ⟨y, hy, h1, h2⟩
      · exact .inr h2
    · rintro (⟨y, hy, h1, h2⟩ | h2)
      · exact ⟨y, .inl hy, h1, h2⟩
      · exact ⟨s, .inr rfl, hu, h2⟩
  rw [e]
  by_cases hx : x = childL p s
  · subst hx
    rw [has_put_same hD (by simp [WideAt.IsKeyLit])]
    simp
  · rw [has_put_other (fun e => hx (by cases e; rfl)), h x]
    simp [hx]
theorem has_same (p : List UInt8) (L : List (List UInt8)) (k : Nat) (s : List UInt8) (D : DataW Unit) (hs : L[k]? = some s) (h : ∀ x, x ∈ namesL p (L.take k) ↔ has D (.string x) = true) (hu : underB p s = false) :
    ∀ x, x ∈ namesL p (L.take (k + 1)) ↔ has D (.string x) = true := by
  intro x
  rw [← h x, names_mem, names_mem, List.take_add_one, hs]
  simp only [Option.toList_some, List.mem_append, List.mem_singleton]
  constructor
  · rintro ⟨y, hy | rfl, h1, h2⟩
    · exact ⟨y, hy, h1, h2⟩
    · rw [hu] at h1; cases h1
  · rintro ⟨y, hy, h1, h2⟩
    exact ⟨y, .inl hy, h1, h2⟩
def dataL (l : List ByteArray) : List (List UInt8) := l.map fun s => s.data.toList
/-- The names, as texts. -/
def namesB (p : ByteArray) (l : List ByteArray) : List ByteArray := (namesL p.data.toList (dataL l)).map toB
set_option maxRecDepth 100000 in
set_option maxHeartbeats 2000000 in
theorem Names_any (p : ByteArray) (hp : p.size ≤ 140737488351232) (q : Option Addr) (c : Nat) (l : List ByteArray) (w : World) (h : TextsP w q l) (hl : l.length ≤ 100000) (hs : ∀ s ∈ l, s.size ≤ 140737488351232) :
    Calls Tryd.prog 29 #[.string p, .slice q l.length c] w fun e w' => ∃ v, e = .returned v ∧ BufS w' w.heap.size v (namesB p l) ∧ Ext w w' := by
  have hmm := @run_makeMap Tryd.prog
  have HH := Lib.hid (fun u (hu : Ext w u) => h.ext hu)
  have HS := Lib.hid hs
  have HKy := Lib.hid (fun mb u => keys_any mb u)
  clear h hs
  go_enter Tryd.func29, Tryd.ntmps29
  go_wp2
  go_loopw [13] (fun iv wr => ∃ (k : Nat) (D : DataW Unit), k ≤ l.length ∧ iv = .int .i64 (k : Int) ∧ wr.ownsMap Tryd.prog 9 (unitElem (H := Unit)) w.heap.size k D ∧ Hid (∀ x, x ∈ namesL p.data.toList ((dataL l).take k) ↔ has D (.string x) = true) ∧ Ext w wr) (fun iv _ => l.length - (intOf iv).toNat)
  case atStart => exact ⟨0, .map [], Nat.zero_le _, rfl, World.ownsMap_made _ _ _ _, Lib.hid (by intro x; simp [namesL, has]), (Ext.refl w).alloc _⟩
  case round =>
    obtain ⟨k, D, hk, rfl, hown, hmem, hext⟩ := hrel
    have HO := Lib.hid hown; have HE := Lib.hid hext
    clear hown
    by_cases hlt : k < l.length
    · obtain ⟨s, hsk⟩ : ∃ s, l[k]? = some s := ⟨_, List.getElem?_eq_getElem hlt⟩
      obtain ⟨a, rfl, _, hc1⟩ := HH.out _ hext k s hsk
      have hss := HS.out s (List.mem_of_getElem? hsk)
      have HC := Lib.hid (fun u => Child_any p s hp hss u)
      have HSk : Hid ((dataL l)[k]? = some s.data.toList) := Lib.hid (by unfold dataL; rw [List.getElem?_map, hsk]; rfl)
      clear hsk hext
      cases hu : underT p s with
      | true =>
        rw [hu] at HC
        have HU : Hid (underB p.data.toList s.data.toList = true) := Lib.hid hu
        have hcs : (childB p s).size ≤ 140737488351232 := by
          have hf := first_take (restB p s).data.toList
          rw [size_list] at hf
          have h2 := rest_size p s
          have e : childB p s = toB (firstL (restB p s).data.toList) := by
            unfold childB childL restB
            unfold underT at hu
            rw [hu, toB_data]; rfl
          rw [e, toB_size]
          omega
        have HKey : Hid (keyOf Tryd.prog 9 (.string (childB p s)) = some (.string (childL p.data.toList s.data.toList))) := Lib.hid (keyOf_string_mk Tryd.underlying9 (by unfold maxLen; omega))
        clear hu hcs
        generalize childB p s = C at *
        go_wp2_with (first
          | (go_at_call 42; refine (HC.out _).mono ?_; rintro e w1 ⟨rfl, x1⟩; have X1 := Lib.hid x1; clear x1)
          | (at_mapUpdate; refine wpList_mapUpdate_own _ rfl _ _ _ 91 rfl 9 94 key_law Tryd.underlying91 (unitElem (H := Unit)) w.heap.size k D rfl (ownsMap_ext HO.out X1.out) (by unfold maxLen; omega) _ _ _ rfl rfl HKey.out _ [] unitElem_mk ?_; intro w2 hown2 hgrow2; have HO2 := Lib.hid hown2; have HG2 := Lib.hid hgrow2; clear hown2 hgrow2))
        go_roundw
        case rel => exact ⟨k + 1, _, by omega, by go_num, HO2.out, Lib.hid (has_names _ _ _ _ _ HSk.out ((HO.out.tidy key_law).isMap) hmem.out HU.out), ext_grownN (HE.out.trans X1.out) HG2.out (Nat.le_refl _)⟩
        case measure => simp [intOf]; omega
      | false =>
        rw [hu] at HC
        have HU : Hid (underB p.data.toList s.data.toList = false) := Lib.hid hu
        clear hu
        go_wp2_with (go_at_call 42; refine (HC.out _).mono ?_; rintro e w1 ⟨rfl, x1⟩; have X1 := Lib.hid x1; clear x1)
        go_roundw
        case rel => exact ⟨k + 1, D, by omega, by go_num, (ownsMap_ext HO.out X1.out).mono (by omega), Lib.hid (has_same _ _ _ _ _ HSk.out hmem.out HU.out), HE.out.trans X1.out⟩
        case measure => simp [intOf]; omega
    · obtain rfl : k = l.length := by omega
      have hm := hmem.out
      rw [List.take_of_length_le (by simp [dataL])] at hm
      have HF := Lib.hid (sorted_any _ _ D _ _ wr HO.out (by omega) (names_rises _ _) hm)
      clear hm hext
      go_wp2_with (first
        | (go_at_call 43; refine (HKy.out _ _).mono ?_; rintro e w1 ⟨rfl, hw⟩; rw [hw])
        | (go_at_call 21; refine HF.out.mono ?_; rintro e w2 ⟨v, rfl, hb, x2⟩; have HB := Lib.hid hb; have X2 := Lib.hid x2; clear hb x2))
      go_ret
      exact ⟨v, rfl, bufS_mono HB.out HE.out.size, HE.out.trans X2.out⟩
end Go.Proofs.YtkjcpjalldbahaaDoor
end
