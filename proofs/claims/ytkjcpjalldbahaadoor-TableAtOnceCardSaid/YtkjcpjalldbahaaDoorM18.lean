/- Contracts: the paths of a map of cells, sorted, by the library. -/
import Derived.Test.YtkjcpjalldbahaaDoorM04
import Derived.Test.YtkjcpjalldbahaaDoorM17
section
namespace Go.Proofs.YtkjcpjalldbahaaDoor
open Go.RowKit Go.Maps Go.Sort Go.Shelf

theorem keysC_any (mb : Option Nat) (W : World) : Calls Tryd.prog 22 #[.map mb] W fun e w' => e = .returned (.func (.func 37) #[] #[.pointer (some ⟨W.heap.size, 0, none⟩)]) ∧ w' = W.alloc (.cells #[.map mb] 61) :=
  callsIn_wide.1 (AnyZ.keys_in Tryd.keysC Fence.wide 5 trivial rfl mb W)
set_option maxHeartbeats 1000000 in
theorem sorted_keysC {H : Type} (b nn : Nat) (D0 : DataW H) (R : Value → Option (DataW H × List MemPlace)) (w : World) (hown : w.ownsMap Tryd.prog 9 R b nn D0) (hmax : Maps.size D0 ≤ maxLen) (hbytes : Maps.size D0 * 16 ≤ 140737488355328) :
    CallsIn Fence.wide 5 Tryd.prog 21 #[.func (.func 37) #[] #[.pointer (some ⟨w.heap.size, 0, none⟩)]] (w.alloc (.cells #[.map (some b)] 61)) fun e w' => ∃ (v : Value) (ss : List (List UInt8)), e = .returned v ∧ ss.Perm (strKeys D0) ∧
      w'.ownsRow (w.alloc (.cells #[.map (some b)] 61)).heap.size 9 1 v ss.length ((ss.mergeSort (fun x y => decide (x ≤ y))).map encStr) ∧ (v = .slice none 0 0 ↔ ss = []) ∧ Below (w.alloc (.cells #[.map (some b)] 61)).heap.size (w.alloc (.cells #[.map (some b)] 61)) w' := by
  have hbl := hown.lt
  have hseq : SeqGives Fence.wide 2 Tryd.prog 37 #[.pointer (some ⟨w.heap.size, 0, none⟩)] encStr (fun ss => ss.Perm (strKeys D0)) (Maps.size D0) (w.alloc (.cells #[.map (some b)] 61)) :=
    AnyZ.keys_gives (ρ := Tryd.keysC_ren) { Tryd.keysC with } Fence.wide _ trivial rfl (by omega) w.heap.size b nn D0 _ (by simp) (by simp) (by
      obtain ⟨es, clock, hb, Ft, hs, hD⟩ := hown
      exact ⟨es, clock, (Below.heap_alloc _ _ b hbl).trans hb, Ft, hs, hD⟩)
  exact AnyZ.sorted_in Tryd.sortedL Fence.wide 5 trivial trivial trivial trivial rfl (by omega) (sorts_in _) (enters_of Tryd.func36 (by kernel_rfl) rfl) 37 #[.pointer (some ⟨w.heap.size, 0, none⟩)] trivial (enters_of Tryd.func37 (by kernel_rfl) rfl) _ _ hmax hbytes _ hseq
open Go.WideElems Go.MapKept Go.ChangeMaps Go.WideShapes Go.ChangeShapes in
/-- How an element reads: in no way. -/
theorem MapL.owns {w : World} {b : Nat} {M : List Ent} (h : MapL w Tryd.prog 9 b (M.map kvE)) (hs : ∀ e ∈ M, e.p.size ≤ 140737488355328) (hl : M.length ≤ 1000000) :
    ∃ D : DataW Unit, w.ownsMap Tryd.prog 9 (fun _ => some (.agg [], [])) b M.length D ∧ (strKeys D).Perm (M.map fun e => e.p.data.toList) ∧ Maps.size D = M.length := by
  obtain ⟨es, clock, hb, hst, hl2, hk⟩ := h
  have hsz : es.size = M.length := by
    have := congrArg List.length hl2
    simpa using this
  have hkey : ∀ x ∈ es.toList, ∃ kl, keyOf Tryd.prog 9 x.key = some kl := keys_of (by rw [hl2]; exact hk)
  have hrd : ∀ x ∈ es.toList, ∃ y, WideElems.rd (H := Unit) Tryd.prog 9 (fun _ => some (.agg [], [])) x = some y := fun x hx => by
    obtain ⟨kl, e⟩ := hkey x hx
    exact ⟨(kl, .agg []), by simp [WideElems.rd, e]⟩
  refine ⟨_, ⟨es, clock, hb, ⟨by unfold maxLen; omega, hst, hrd⟩, by omega, rfl⟩, ?_, ?_⟩
  · show (List.map (fun p : Lit × DataW Unit => strOf p.1) _).Perm _
    refine ((sorted_perm _).map _).trans ?_
    rw [List.map_map]
    have e1 : es.toList.map ((fun p : Lit × DataW Unit => strOf p.1) ∘ WideElems.rg Tryd.prog 9 (fun _ => some (.agg [], []))) = (es.toList.map kv).map fun q => strOf ((keyOf Tryd.prog 9 q.1).getD (.bool false)) := by
      rw [List.map_map]
      refine List.map_congr_left fun x hx => ?_
      obtain ⟨kl, e⟩ := hkey x hx
      simp [WideElems.rg, WideElems.rd, kv, e]
    have e2 : (M.map kvE).map (fun q => strOf ((keyOf Tryd.prog 9 q.1).getD (.bool false))) = M.map fun e => e.p.data.toList := by
      rw [List.map_map]
      refine List.map_congr_left fun x hx => ?_
      have := keyS_at x.p (hs x hx)
      simp [kvE, this, strOf]
    rw [e1, hl2, e2]
  · have : Maps.size (DataW.map ((es.toList.map (WideElems.rg (H := Unit) Tryd.prog 9 (fun _ => some (.agg [], [])))).foldr DataW.insert [])) = es.size := length_read es
    rw [this, hsz]
/-- The paths of a map of rows, sorted. -/
theorem sorted_paths (w : World) (lo b : Nat) (R : List RowP) (h : IsM w lo b R) (hR : RisesR R) (hs : ∀ r ∈ R, r.p.size ≤ 128) (hl : R.length ≤ 1000000) :
    Calls Tryd.prog 21 #[.func (.func 37) #[] #[.pointer (some ⟨w.heap.size, 0, none⟩)]] (w.alloc (.cells #[.map (some b)] 61)) fun e w' => ∃ v, e = .returned v ∧ BufS w' w.heap.size v (R.map (·.p)) ∧ Ext w w' := by
  obtain ⟨M, hM⟩ := h
  have hperm := hM.perm hR
  have hlen : M.length = R.length := by have := hperm.length_eq; simpa using this
  obtain ⟨D, hown, hkeys, hsize⟩ := hM.map.owns (fun e he => by
    have := hs e.row ((hM.rows _).2 ⟨e, he, rfl⟩)
    have h2 : e.p.size ≤ 128 := this
    omega) (by omega)
  refine (callsIn_wide.1 (sorted_keysC b M.length D _ w hown (by rw [hsize]; unfold maxLen; omega) (by rw [hsize]; omega))).mono ?_
  rintro e w' ⟨v, ss, rfl, hp, hrow, _, hb⟩
  have hns : Rises (R.map keyR) := risesR_map.1 hR
  have hp2 : ss.Perm (R.map keyR) := by
    refine (hp.trans hkeys).trans ?_
    have := hperm.map keyR
    rw [List.map_map] at this
    exact this
  have e := sorted_names hp2 hns
  rw [e] at hrow
  have hl3 : ss.length = R.length := by have := hp2.length_eq; simpa using this
  refine ⟨v, rfl, ?_, Below.trans ((Ext.refl w).alloc _) (hb.mono (by simp))⟩
  have e2 : (R.map keyR).map encStr = (R.map (·.p)).map Value.string := by
    rw [List.map_map, List.map_map]
    rfl
  rw [e2, hl3] at hrow
  unfold BufS
  rw [List.length_map]
  exact ownsRow_base_a hrow (by simp)
end Go.Proofs.YtkjcpjalldbahaaDoor
end
