/- Plain: slices of texts that grow by append. Contracts: a map's keys, and these sorted, by the library: of texts. -/
import Derived.Test.YtkjcpjalldbahaaDoorM03
import Derived.Test.YtkjcpjalldbahaaDoorIterL
import Derived.Test.YtkjcpjalldbahaaDoorM02
import Derived.Maps.OwnSet
section
namespace Go.Proofs.YtkjcpjalldbahaaDoor
open Go.RowKit
theorem infoS : (Tryd.prog.info? 9).map (fun i => (i.zero, i.size, i.bytes)) = some (some (.string ⟨#[]⟩), 1, 16) := by kernel_rfl
/-- A slice of texts of the call's own (nil, or in a block from B on) that holds just these. -/
def BufS (w : World) (B : Nat) (v : Value) (l : List ByteArray) : Prop := w.ownsRow B 9 1 v l.length (l.map Value.string)
/-- A slice that reads as these texts. -/
def SSl (w : World) (v : Value) (l : List ByteArray) : Prop := ∃ g c, v = .slice (some ⟨g, 0, none⟩) l.length c ∧ g < w.heap.size ∧ ∀ (i : Nat) (s : ByteArray), l[i]? = some s → w.cell? ⟨g, i, none⟩ = some (.string s)
theorem SSl.ext {w w' : World} {v : Value} {l : List ByteArray} (h : SSl w v l) (hx : Ext w w') : SSl w' v l := by
  obtain ⟨g, c, h1, h2, h3⟩ := h
  exact ⟨g, c, h1, Nat.lt_of_lt_of_le h2 hx.size, fun i b hb => (hx.below.cell (p := ⟨g, i, none⟩) h2).trans (h3 i b hb)⟩
section
variable {w w' : World} {B : Nat} {v : Value} {l : List ByteArray}
theorem BufS.nil (w : World) (B : Nat) : BufS w B (.slice none 0 0) [] := World.ownsRow_nil _ _ _ _
theorem BufS.made (w : World) (n : Nat) (hn : n ≤ maxLen) (hB : B ≤ w.heap.size) : BufS (w.alloc (.cells (madeCells #[.string ⟨#[]⟩] n) 9)) B (.slice (some ⟨w.heap.size, 0, none⟩) 0 n) [] :=
  World.ownsRow_made w _ n hB hn (by simp [size_madeCells])
theorem BufS.ext (h : BufS w B v l) (hx : Ext w w') : BufS w' B v l := by
  refine ⟨h.1, ?_⟩
  rcases h.2 with h0 | ⟨g, cap, cur, e1, e2, e3, e4⟩
  · exact .inl h0
  · exact .inr ⟨g, cap, cur, e1, e2, (hx.below.block g (heap_lt e3)).trans e3, e4⟩
theorem BufS.sl (h : BufS w B v l) (hl : l ≠ []) : SSl w v l := by
  unfold BufS at h
  rcases h.2 with ⟨_, h0⟩ | ⟨g, cap, cur, hv, _, hg, hle, _, hsz, ht⟩
  · exact absurd (List.length_eq_zero_iff.1 h0) hl
  · refine ⟨g, cap, hv, (Array.getElem?_eq_some_iff.1 hg).1, fun i b hb => ?_⟩
    have hi : i < l.length := (List.getElem?_eq_some_iff.1 hb).1
    rw [cell_of_row w g i cur _ (0, 0) hg]
    have e : cur.toList[i]? = (l.map Value.string)[i]? := by
      rw [← ht, List.getElem?_take, if_pos (by omega)]
    rw [← Array.getElem?_toList, e]
    simp [hb]
end
/-- append(l, s) of one text in a new block. -/
theorem append_text {w : World} {ops : Array Oper} {rest : List Oper} {o : Oper} {a : Act} {Q : Exit → Act → World → Prop} (hgd : o.guard = none) (s x : Operand)
    (ho : o.op = .call { callee := .builtin .append, args := #[s, x], argTypes := #[25, 25] })
    (B : Nat) (v : Value) (l : List ByteArray) (hs : a.eval s = v) (hbuf : BufS w B v l) (g : Nat) (new : ByteArray) (hx : a.eval x = .slice (some ⟨g, 0, none⟩) 1 1) (hrow : w.cell? ⟨g, 0, none⟩ = some (.string new))
    (hlen : l.length ≤ 1000000) (hB : B ≤ w.heap.size)
    (h : ∀ v' w', BufS w' B v' (l ++ [new]) → Below B w w' → wpList Tryd.prog ops Q rest (a.put o.dst v') w') : wpList Tryd.prog ops Q (o :: rest) a w := by
  obtain ⟨i0, hi, hz0, hz1, hz2⟩ := info_parts infoS
  refine wpList_append_own w hgd s x 25 ho B 9 i0 (.string ⟨#[]⟩) 1 16 Tryd.underlying25 hi hz0 hz1 hz2 rfl (by decide) v l.length (l.map Value.string) hs hbuf ⟨g, 0, none⟩ 1 1 [.string new] hx rfl ?_ ?_ (by unfold maxLen; omega) (by omega) hB ?_
  · intro j u hj
    match j, hj with
    | 0, hj => simp at hj; subst hj; exact hrow
    | n + 1, hj => simp at hj
  · intro u hu
    simp only [List.mem_singleton] at hu
    subst hu
    rfl
  · intro v' w' h1 h2 _
    refine h v' w' ?_ (Below.grown (Below.refl _ _) h2 hB fun k hk => (World.ownsRow.lt hbuf k hk).1)
    unfold BufS
    simpa using h1
/-- The same, as a step of a region that draws its order. -/
theorem step_append_text {w : World} {ops : Array Oper} {o : Oper} {a : Act} {K : Act → World → Prop} {Q : Exit → Act → World → Prop} {E : Prop} (hg : o.guard = none) (s x : Operand)
    (ho : o.op = .call { callee := .builtin .append, args := #[s, x], argTypes := #[25, 25] })
    (B : Nat) (v : Value) (l : List ByteArray) (hs : a.eval s = v) (hbuf : BufS w B v l) (g : Nat) (new : ByteArray) (hx : a.eval x = .slice (some ⟨g, 0, none⟩) 1 1) (hrow : w.cell? ⟨g, 0, none⟩ = some (.string new))
    (hlen : l.length ≤ 1000000) (hB : B ≤ w.heap.size)
    (h : ∀ v' w', BufS w' B v' (l ++ [new]) → Below B w w' → K (a.put o.dst v') w') : if Region.wanted o (yielded ops a.tmps) = true then Oper.wp Tryd.prog o a w K Q else E := by
  have hw : Region.wanted o (yielded ops a.tmps) = true := by simp [Region.wanted, hg]
  rw [if_pos hw]
  obtain ⟨i0, hi, hz0, hz1, hz2⟩ := info_parts infoS
  refine wp_append_own w s x 25 ho B 9 i0 (.string ⟨#[]⟩) 1 16 Tryd.underlying25 hi hz0 hz1 hz2 rfl (by decide) v l.length (l.map Value.string) hs hbuf ⟨g, 0, none⟩ 1 1 [.string new] hx rfl ?_ ?_ (by unfold maxLen; omega) (by omega) hB ?_
  · intro j u hj
    match j, hj with
    | 0, hj => simp at hj; subst hj; exact hrow
    | n + 1, hj => simp at hj
  · intro u hu
    simp only [List.mem_singleton] at hu
    subst hu
    rfl
  · intro v' w' h1 h2 _
    refine h v' w' ?_ (Below.grown (Below.refl _ _) h2 hB fun k hk => (World.ownsRow.lt hbuf k hk).1)
    unfold BufS
    simpa using h1
/-- make([]string, 0, n). -/
theorem make_texts (n : Nat) (hn : n ≤ 1000000) : ∀ u : World, (Instr.makeSlice 25 (.int .i64 0) (.int .i64 (n : Int))).run Tryd.prog u =
      .ok (.slice (some ⟨u.heap.size, 0, none⟩) 0 n) (u.alloc (.cells (madeCells #[.string ⟨#[]⟩] n) 9)) := fun u => by
  obtain ⟨i0, hi, hz0, hz1, hz2⟩ := info_parts infoS
  have h := run_make (P := Tryd.prog) u 25 9 i0 (.string ⟨#[]⟩) Tryd.underlying25 hi hz0 .i64 .i64 0 (n : Int) (Int.le_refl _) (by omega) (by rw [hz2]; omega) (by omega)
  simpa [hz1, Value.cells] using h
end Go.Proofs.YtkjcpjalldbahaaDoor
end

section
namespace Go.Proofs.YtkjcpjalldbahaaDoor
open Go.RowKit Go.Maps Go.Sort Go.Shelf

theorem keys_any (mb : Option Nat) (W : World) : Calls Tryd.prog 43 #[.map mb] W fun e w' => e = .returned (.func (.func 57) #[] #[.pointer (some ⟨W.heap.size, 0, none⟩)]) ∧ w' = W.alloc (.cells #[.map mb] 91) :=
  callsIn_wide.1 (AnyZ.keys_in Tryd.keysL Fence.wide 5 trivial rfl mb W)
theorem sorts_in (m : Nat) : AnyZ.SortsIn Tryd.prog Tryd.sortedL_ren Fence.wide m :=
  ⟨fun blk off cap ss W hH hblk hsz => callsIn_wide.2 (AnyM.slices_Sort_string Tryd.sortL blk off cap ss W hH hblk hsz),
   fun p cap W => callsIn_wide.2 (AnyM.slices_Sort_string_none Tryd.sortL p cap W)⟩
set_option maxHeartbeats 1000000 in
theorem sorted_keys {H : Type} (b nn : Nat) (D0 : DataW H) (R : Value → Option (DataW H × List MemPlace)) (w : World) (hown : w.ownsMap Tryd.prog 9 R b nn D0) (hmax : Maps.size D0 ≤ maxLen) (hbytes : Maps.size D0 * 16 ≤ 140737488355328) :
    CallsIn Fence.wide 5 Tryd.prog 21 #[.func (.func 57) #[] #[.pointer (some ⟨w.heap.size, 0, none⟩)]] (w.alloc (.cells #[.map (some b)] 91)) fun e w' => ∃ (v : Value) (ss : List (List UInt8)), e = .returned v ∧ ss.Perm (strKeys D0) ∧
      w'.ownsRow (w.alloc (.cells #[.map (some b)] 91)).heap.size 9 1 v ss.length ((ss.mergeSort (fun x y => decide (x ≤ y))).map encStr) ∧ (v = .slice none 0 0 ↔ ss = []) ∧ Below (w.alloc (.cells #[.map (some b)] 91)).heap.size (w.alloc (.cells #[.map (some b)] 91)) w' := by
  have hbl := hown.lt
  have hseq : SeqGives Fence.wide 2 Tryd.prog 57 #[.pointer (some ⟨w.heap.size, 0, none⟩)] encStr (fun ss => ss.Perm (strKeys D0)) (Maps.size D0) (w.alloc (.cells #[.map (some b)] 91)) :=
    AnyZ.keys_gives (ρ := Tryd.keysL_ren) { Tryd.keysL with } Fence.wide _ trivial rfl (by omega) w.heap.size b nn D0 _ (by simp) (by simp) (by
      obtain ⟨es, clock, hb, Ft, hs, hD⟩ := hown
      exact ⟨es, clock, (Below.heap_alloc _ _ b hbl).trans hb, Ft, hs, hD⟩)
  exact AnyZ.sorted_in Tryd.sortedL Fence.wide 5 trivial trivial trivial trivial rfl (by omega) (sorts_in _) (enters_of Tryd.func36 (by kernel_rfl) rfl) 57 #[.pointer (some ⟨w.heap.size, 0, none⟩)] trivial (enters_of Tryd.func57 (by kernel_rfl) rfl) _ _ hmax hbytes _ hseq
/-- A rising list has no text twice. -/
theorem rises_nodup {l : List (List UInt8)} (h : Rises l) : l.Nodup := List.Pairwise.imp (fun {a b} hab => fun e => by subst e; exact absurd hab (List.lt_irrefl a)) h
theorem sorted_names {ss ns : List (List UInt8)} (hp : ss.Perm ns) (hn : Rises ns) : ss.mergeSort (fun x y => decide (x ≤ y)) = ns := by
  refine rises_ext _ _ ?_ hn (fun x => ?_)
  · have h1 : (ss.mergeSort (fun x y => decide (x ≤ y))).Pairwise (fun a b => decide (a ≤ b) = true) := List.pairwise_mergeSort (fun a b c h1 h2 => by simp only [decide_eq_true_eq] at *; exact List.le_trans h1 h2) (fun a b => by
      simp only [Bool.or_eq_true, decide_eq_true_eq]; exact List.le_total a b) ss
    have h2 : (ss.mergeSort (fun x y => decide (x ≤ y))).Nodup := (((List.mergeSort_perm ss _).trans hp).nodup_iff).2 (rises_nodup hn)
    have h3 := h1.and h2
    refine h3.imp ?_
    intro a b ⟨hab, hne⟩
    simp only [decide_eq_true_eq] at hab
    exact Decidable.byContradiction fun h => hne (List.le_antisymm hab (List.not_lt.1 h))
  · exact ((List.mergeSort_perm ss _).trans hp).mem_iff
theorem key_law : Keyed Tryd.prog 9 := string_keyed Tryd.underlying9
/-- What a set of names, by maps.Keys, sorted, is. -/
theorem sorted_any (b nn : Nat) (D : DataW Unit) (R : Value → Option (DataW Unit × List MemPlace)) (ns : List (List UInt8)) (w : World) (hown : w.ownsMap Tryd.prog 9 R b nn D) (hmax : nn ≤ 1000000) (hn : Rises ns) (hm : ∀ x, x ∈ ns ↔ Maps.has D (.string x) = true) :
    Calls Tryd.prog 21 #[.func (.func 57) #[] #[.pointer (some ⟨w.heap.size, 0, none⟩)]] (w.alloc (.cells #[.map (some b)] 91)) fun e w' => ∃ v, e = .returned v ∧ BufS w' w.heap.size v (ns.map toB) ∧ Ext w w' := by
  have hsz := hown.size_le
  have ht := hown.tidy key_law
  obtain ⟨es0, he0, hk⟩ := hown.keysOf
  refine (callsIn_wide.1 (sorted_keys b nn D R w hown (by unfold maxLen; omega) (by omega))).mono ?_
  rintro e w' ⟨v, ss, rfl, hp, hrow, _, hb⟩
  obtain ⟨es, he, hpw⟩ := ht
  have hp2 : ns.Perm (strKeys D) := by
    rw [he]
    refine perm_strKeys hpw ?_ (rises_nodup hn) (fun x => by rw [← he]; exact hm x)
    intro q hq
    rw [he] at he0
    obtain rfl : es = es0 := by cases he0; rfl
    obtain ⟨key, hkey⟩ := hk q hq
    obtain ⟨x, _, hx, _⟩ := Maps.keyOf_str Tryd.underlying9 hkey
    exact ⟨x, hx⟩
  have e := sorted_names (hp.trans hp2.symm) hn
  rw [e] at hrow
  have hl : ss.length = ns.length := (hp.trans hp2.symm).length_eq
  refine ⟨v, rfl, ?_, Below.trans ((Ext.refl w).alloc _) (hb.mono (by simp))⟩
  have e2 : ns.map encStr = (ns.map toB).map Value.string := by rw [List.map_map]; rfl
  rw [e2, hl] at hrow
  unfold BufS
  rw [List.length_map]
  exact ownsRow_base_a hrow (by simp)
end Go.Proofs.YtkjcpjalldbahaaDoor
end
