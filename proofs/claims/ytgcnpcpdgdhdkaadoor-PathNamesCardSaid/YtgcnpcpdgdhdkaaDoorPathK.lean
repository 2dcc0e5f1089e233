/- Contracts: a map's keys, and these sorted, by the library: of texts. -/
import Derived.Test.YtgcnpcpdgdhdkaaDoorIterL
import Derived.Test.YtgcnpcpdgdhdkaaDoorPathN
import Derived.Test.YtgcnpcpdgdhdkaaDoorBufS
import Derived.Maps.OwnSet
namespace Go.Proofs.YtgcnpcpdgdhdkaaDoor
open Go.RowKit Go.Maps Go.Sort Go.Shelf

theorem keys_any (mb : Option Nat) (W : World) : Calls Tryd.prog 29 #[.map mb] W fun e w' => e = .returned (.func (.func 37) #[] #[.pointer (some ⟨W.heap.size, 0, none⟩)]) ∧ w' = W.alloc (.cells #[.map mb] 39) :=
  callsIn_wide.1 (AnyZ.keys_in Tryd.keysL Fence.wide 5 trivial rfl mb W)
theorem sorts_in (m : Nat) : AnyZ.SortsIn Tryd.prog Tryd.sortedL_ren Fence.wide m :=
  ⟨fun blk off cap ss W hH hblk hsz => callsIn_wide.2 (AnyM.slices_Sort_string Tryd.sortL blk off cap ss W hH hblk hsz),
   fun p cap W => callsIn_wide.2 (AnyM.slices_Sort_string_none Tryd.sortL p cap W)⟩
set_option maxHeartbeats 1000000 in
theorem sorted_keys {H : Type} (b nn : Nat) (D0 : DataW H) (R : Value → Option (DataW H × List MemPlace)) (w : World) (hown : w.ownsMap Tryd.prog 9 R b nn D0) (hmax : Maps.size D0 ≤ maxLen) (hbytes : Maps.size D0 * 16 ≤ 140737488355328) :
    CallsIn Fence.wide 5 Tryd.prog 28 #[.func (.func 37) #[] #[.pointer (some ⟨w.heap.size, 0, none⟩)]] (w.alloc (.cells #[.map (some b)] 39)) fun e w' => ∃ (v : Value) (ss : List (List UInt8)), e = .returned v ∧ ss.Perm (strKeys D0) ∧
      w'.ownsRow (w.alloc (.cells #[.map (some b)] 39)).heap.size 9 1 v ss.length ((ss.mergeSort (fun x y => decide (x ≤ y))).map encStr) ∧ (v = .slice none 0 0 ↔ ss = []) ∧ Below (w.alloc (.cells #[.map (some b)] 39)).heap.size (w.alloc (.cells #[.map (some b)] 39)) w' := by
  have hbl := hown.lt
  have hseq : SeqGives Fence.wide 2 Tryd.prog 37 #[.pointer (some ⟨w.heap.size, 0, none⟩)] encStr (fun ss => ss.Perm (strKeys D0)) (Maps.size D0) (w.alloc (.cells #[.map (some b)] 39)) :=
    AnyZ.keys_gives (ρ := Tryd.keysL_ren) { Tryd.keysL with } Fence.wide _ trivial rfl (by omega) w.heap.size b nn D0 _ (by simp) (by simp) (by
      obtain ⟨es, clock, hb, Ft, hs, hD⟩ := hown
      exact ⟨es, clock, (Below.heap_alloc _ _ b hbl).trans hb, Ft, hs, hD⟩)
  exact AnyZ.sorted_in Tryd.sortedL Fence.wide 5 trivial trivial trivial trivial rfl (by omega) (sorts_in _) (enters_of Tryd.func36 (by kernel_rfl) rfl) 37 #[.pointer (some ⟨w.heap.size, 0, none⟩)] trivial (enters_of Tryd.func37 (by kernel_rfl) rfl) _ _ hmax hbytes _ hseq
/-- A rising list has no text twice. -/
theorem rises_nodup {l : List (List UInt8)} (h : Rises l) : l.Nodup := List.Pairwise.imp (fun {a b} hab => fun e => by subst e; exact absurd hab (List.lt_irrefl a)) h
theorem sorted_names {ss ns : List (List UInt8)} (hp : ss.Perm ns) (hn : Rises ns) : ss.mergeSort (fun x y => decide (x ≤ y)) = ns := by
  refine rises_ext _ _ ?_ hn (fun x => ?_)
  · have h1 : (ss.mergeSort (fun x y => decide (x ≤ y))).Pairwise (fun a b => decide (a ≤ b) = true) := List.pairwise_mergeSort (fun a b c h1 h2 => by simp only [decide_eq_true_eq] at *; exact List.le_trans h1 h2) (fun a b => by
      simp only [Bool.or_eq_true, decide_eq_true_eq]; exact List.le_total a b) ss
    have h2 : (ss.mergeSort (fun x y => decide (x ≤ y))).Nodup := (((List.mergeSort_perm ss _).trans hp).nodup_iff).2 (rises_nodup hn)
    have h3 := h1.and h2
    refine h3.imp ?_
    intro a b ⟨hab, hne⟩
    simp only [decide_eq_true_eq] at hab
    exact Decidable.byContradiction fun h => hne (List.le_antisymm hab (List.not_lt.1 h))
  · exact ((List.mergeSort_perm ss _).trans hp).mem_iff
theorem key_law : Keyed Tryd.prog 9 := string_keyed Tryd.underlying9
/-- What a set of names, by maps.Keys, sorted, is. -/
theorem sorted_any (b nn : Nat) (D : DataW Unit) (R : Value → Option (DataW Unit × List MemPlace)) (ns : List (List UInt8)) (w : World) (hown : w.ownsMap Tryd.prog 9 R b nn D) (hmax : nn ≤ 1000000) (hn : Rises ns) (hm : ∀ x, x ∈ ns ↔ Maps.has D (.string x) = true) :
    Calls Tryd.prog 28 #[.func (.func 37) #[] #[.pointer (some ⟨w.heap.size, 0, none⟩)]] (w.alloc (.cells #[.map (some b)] 39)) fun e w' => ∃ v, e = .returned v ∧ BufS w' w.heap.size v (ns.map toB) ∧ Ext w w' := by
  have hsz := hown.size_le
  have ht := hown.tidy key_law
  obtain ⟨es0, he0, hk⟩ := hown.keysOf
  refine (callsIn_wide.1 (sorted_keys b nn D R w hown (by unfold maxLen; omega) (by omega))).mono ?_
  rintro e w' ⟨v, ss, rfl, hp, hrow, _, hb⟩
  obtain ⟨es, he, hpw⟩ := ht
  have hp2 : ns.Perm (strKeys D) := by
    rw [he]
    refine perm_strKeys hpw ?_ (rises_nodup hn) (fun x => by rw [← he]; exact hm x)
    intro q hq
    rw [he] at he0
    obtain rfl : es = es0 := by cases he0; rfl
    obtain ⟨key, hkey⟩ := hk q hq
    obtain ⟨x, _, hx, _⟩ := Maps.keyOf_str Tryd.underlying9 hkey
    exact ⟨x, hx⟩
  have e := sorted_names (hp.trans hp2.symm) hn
  rw [e] at hrow
  have hl : ss.length = ns.length := (hp.trans hp2.symm).length_eq
  refine ⟨v, rfl, ?_, Below.trans ((Ext.refl w).alloc _) (hb.mono (by simp))⟩
  have e2 : ns.map encStr = (ns.map toB).map Value.string := by rw [List.map_map]; rfl
  rw [e2, hl] at hrow
  unfold BufS
  rw [List.length_map]
  exact ownsRow_base_a hrow (by simp)
end Go.Proofs.YtgcnpcpdgdhdkaaDoor
