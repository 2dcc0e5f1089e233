/- Plain: slices of texts that grow by append. Plain: slices of texts, nil or not, under one word. Texts cut: from, up to, between. Contract: a text, cut at its slashes, by the document. -/
import Derived.Test.YtkjcpjalldbahaaGreatDoorM16
import Derived.Test.YtkjcpjalldbahaaGreatDoorM00
import Derived.Test.YtkjcpjalldbahaaGreatDoorProg
import Derived.Test.YtkjcpjalldbahaaGreatDoorM07
import Derived.Outline
section
namespace Go.Proofs.YtkjcpjalldbahaaGreatDoor
open Go.RowKit
theorem infoS : (Tryz.prog.info? 9).map (fun i => (i.zero, i.size, i.bytes)) = some (some (.string ⟨#[]⟩), 1, 16) := by kernel_rfl
/-- A slice of texts of the call's own (nil, or in a block from B on) that holds just these. -/
def BufS (w : World) (B : Nat) (v : Value) (l : List ByteArray) : Prop := w.ownsRow B 9 1 v l.length (l.map Value.string)
/-- A slice that reads as these texts. -/
def SSl (w : World) (v : Value) (l : List ByteArray) : Prop := ∃ g c, v = .slice (some ⟨g, 0, none⟩) l.length c ∧ g < w.heap.size ∧ ∀ (i : Nat) (s : ByteArray), l[i]? = some s → w.cell? ⟨g, i, none⟩ = some (.string s)
theorem SSl.ext {w w' : World} {v : Value} {l : List ByteArray} (h : SSl w v l) (hx : Ext w w') : SSl w' v l := by
  obtain ⟨g, c, h1, h2, h3⟩ := h
  exact ⟨g, c, h1, Nat.lt_of_lt_of_le h2 hx.size, fun i b hb => (hx.below.cell (p := ⟨g, i, none⟩) h2).trans (h3 i b hb)⟩
section
variable {w w' : World} {B : Nat} {v : Value} {l : List ByteArray}
theorem BufS.nil (w : World) (B : Nat) : BufS w B (.slice none 0 0) [] := World.ownsRow_nil _ _ _ _
theorem BufS.made (w : World) (n : Nat) (hn : n ≤ maxLen) (hB : B ≤ w.heap.size) : BufS (w.alloc (.cells (madeCells #[.string ⟨#[]⟩] n) 9)) B (.slice (some ⟨w.heap.size, 0, none⟩) 0 n) [] :=
  World.ownsRow_made w _ n hB hn (by simp [size_madeCells])
theorem BufS.ext (h : BufS w B v l) (hx : Ext w w') : BufS w' B v l := by
  refine ⟨h.1, ?_⟩
  rcases h.2 with h0 | ⟨g, cap, cur, e1, e2, e3, e4⟩
  · exact .inl h0
  · exact .inr ⟨g, cap, cur, e1, e2, (hx.below.block g (heap_lt e3)).trans e3, e4⟩
theorem BufS.sl (h : BufS w B v l) (hl : l ≠ []) : SSl w v l := by
  unfold BufS at h
  rcases h.2 with ⟨_, h0⟩ | ⟨g, cap, cur, hv, _, hg, hle, _, hsz, ht⟩
  · exact absurd (List.length_eq_zero_iff.1 h0) hl
  · refine ⟨g, cap, hv, (Array.getElem?_eq_some_iff.1 hg).1, fun i b hb => ?_⟩
    have hi : i < l.length := (List.getElem?_eq_some_iff.1 hb).1
    rw [cell_of_row w g i cur _ (0, 0) hg]
    have e : cur.toList[i]? = (l.map Value.string)[i]? := by
      rw [← ht, List.getElem?_take, if_pos (by omega)]
    rw [← Array.getElem?_toList, e]
    simp [hb]
end
/-- append(l, s) of one text in a new block. -/
theorem append_text {w : World} {ops : Array Oper} {rest : List Oper} {o : Oper} {a : Act} {Q : Exit → Act → World → Prop} (hgd : o.guard = none) (s x : Operand)
    (ho : o.op = .call { callee := .builtin .append, args := #[s, x], argTypes := #[36, 36] })
    (B : Nat) (v : Value) (l : List ByteArray) (hs : a.eval s = v) (hbuf : BufS w B v l) (g : Nat) (new : ByteArray) (hx : a.eval x = .slice (some ⟨g, 0, none⟩) 1 1) (hrow : w.cell? ⟨g, 0, none⟩ = some (.string new))
    (hlen : l.length ≤ 1000000) (hB : B ≤ w.heap.size)
    (h : ∀ v' w', BufS w' B v' (l ++ [new]) → Below B w w' → wpList Tryz.prog ops Q rest (a.put o.dst v') w') : wpList Tryz.prog ops Q (o :: rest) a w := by
  obtain ⟨i0, hi, hz0, hz1, hz2⟩ := info_parts infoS
  refine wpList_append_own w hgd s x 36 ho B 9 i0 (.string ⟨#[]⟩) 1 16 Tryz.underlying36 hi hz0 hz1 hz2 rfl (by decide) v l.length (l.map Value.string) hs hbuf ⟨g, 0, none⟩ 1 1 [.string new] hx rfl ?_ ?_ (by unfold maxLen; omega) (by omega) hB ?_
  · intro j u hj
    match j, hj with
    | 0, hj => simp at hj; subst hj; exact hrow
    | n + 1, hj => simp at hj
  · intro u hu
    simp only [List.mem_singleton] at hu
    subst hu
    rfl
  · intro v' w' h1 h2 _
    refine h v' w' ?_ (Below.grown (Below.refl _ _) h2 hB fun k hk => (World.ownsRow.lt hbuf k hk).1)
    unfold BufS
    simpa using h1
/-- The same, as a step of a region that draws its order. -/
theorem step_append_text {w : World} {ops : Array Oper} {o : Oper} {a : Act} {K : Act → World → Prop} {Q : Exit → Act → World → Prop} {E : Prop} (hg : o.guard = none) (s x : Operand)
    (ho : o.op = .call { callee := .builtin .append, args := #[s, x], argTypes := #[36, 36] })
    (B : Nat) (v : Value) (l : List ByteArray) (hs : a.eval s = v) (hbuf : BufS w B v l) (g : Nat) (new : ByteArray) (hx : a.eval x = .slice (some ⟨g, 0, none⟩) 1 1) (hrow : w.cell? ⟨g, 0, none⟩ = some (.string new))
    (hlen : l.length ≤ 1000000) (hB : B ≤ w.heap.size)
    (h : ∀ v' w', BufS w' B v' (l ++ [new]) → Below B w w' → K (a.put o.dst v') w') : if Region.wanted o (yielded ops a.tmps) = true then Oper.wp Tryz.prog o a w K Q else E := by
  have hw : Region.wanted o (yielded ops a.tmps) = true := by simp [Region.wanted, hg]
  rw [if_pos hw]
  obtain ⟨i0, hi, hz0, hz1, hz2⟩ := info_parts infoS
  refine wp_append_own w s x 36 ho B 9 i0 (.string ⟨#[]⟩) 1 16 Tryz.underlying36 hi hz0 hz1 hz2 rfl (by decide) v l.length (l.map Value.string) hs hbuf ⟨g, 0, none⟩ 1 1 [.string new] hx rfl ?_ ?_ (by unfold maxLen; omega) (by omega) hB ?_
  · intro j u hj
    match j, hj with
    | 0, hj => simp at hj; subst hj; exact hrow
    | n + 1, hj => simp at hj
  · intro u hu
    simp only [List.mem_singleton] at hu
    subst hu
    rfl
  · intro v' w' h1 h2 _
    refine h v' w' ?_ (Below.grown (Below.refl _ _) h2 hB fun k hk => (World.ownsRow.lt hbuf k hk).1)
    unfold BufS
    simpa using h1
/-- make([]string, 0, n). -/
theorem make_texts (n : Nat) (hn : n ≤ 1000000) : ∀ u : World, (Instr.makeSlice 36 (.int .i64 0) (.int .i64 (n : Int))).run Tryz.prog u =
      .ok (.slice (some ⟨u.heap.size, 0, none⟩) 0 n) (u.alloc (.cells (madeCells #[.string ⟨#[]⟩] n) 9)) := fun u => by
  obtain ⟨i0, hi, hz0, hz1, hz2⟩ := info_parts infoS
  have h := run_make (P := Tryz.prog) u 36 9 i0 (.string ⟨#[]⟩) Tryz.underlying36 hi hz0 .i64 .i64 0 (n : Int) (Int.le_refl _) (by omega) (by rw [hz2]; omega) (by omega)
  simpa [hz1, Value.cells] using h
end Go.Proofs.YtkjcpjalldbahaaGreatDoor
end

section
namespace Go.Proofs.YtkjcpjalldbahaaGreatDoor
open Go.RowKit
/-- The cells from the address on, if there are any, are these texts. -/
def TextsP (w : World) (p : Option Addr) (l : List ByteArray) : Prop := ∀ i s, l[i]? = some s → ∃ a, p = some a ∧ a.block < w.heap.size ∧ w.cell? (a.add i) = some (.string s)
theorem TextsP.ext {w w' : World} {p : Option Addr} {l : List ByteArray} (h : TextsP w p l) (hx : Ext w w') : TextsP w' p l := fun i s hs => by
  obtain ⟨a, h1, h2, h3⟩ := h i s hs
  exact ⟨a, h1, Nat.lt_of_lt_of_le h2 hx.below.size, by rw [hx.below.cell (p := a.add i) (by rw [add_block]; exact h2)]; exact h3⟩
theorem TextsP.below {B : Nat} {w w' : World} {p : Option Addr} {l : List ByteArray} (h : TextsP w p l) (hx : Below B w w') (hb : ∀ a, p = some a → a.block < B) : TextsP w' p l := fun i s hs => by
  obtain ⟨a, h1, h2, h3⟩ := h i s hs
  exact ⟨a, h1, Nat.lt_of_lt_of_le h2 hx.size, by rw [hx.cell (p := a.add i) (by rw [add_block]; exact hb a h1)]; exact h3⟩
theorem TextsP.grown {w w' : World} {b : Nat} {p : Option Addr} {l : List ByteArray} (h : TextsP w p l) (hx : w.grownBy w' (some b)) (hb : ∀ a, p = some a → a.block ≠ b) : TextsP w' p l := fun i s hs => by
  obtain ⟨a, h1, h2, h3⟩ := h i s hs
  have e : w'.heap[(a.add i).block]? = w.heap[(a.add i).block]? := hx.block _ (by rw [add_block]; exact h2) (by rw [add_block]; simpa using hb a h1)
  exact ⟨a, h1, Nat.lt_of_lt_of_le h2 hx.size, by rw [World.cell?_of_block (w := w) e]; exact h3⟩
theorem TextsP.none (w : World) : TextsP w none [] := fun i s hs => by simp at hs
theorem Texts.p {w : World} {a : Addr} {l : List ByteArray} (h : Texts w a l) : TextsP w (some a) l := fun i s hs => ⟨a, rfl, (h i s hs).1, (h i s hs).2⟩
theorem TextsP.alloc {w : World} {p : Option Addr} {l : List ByteArray} (h : TextsP w p l) (o : Obj) : TextsP (w.alloc o) p l := h.ext ((Ext.refl w).alloc o)
theorem TextsP.drew {w : World} {p : Option Addr} {l : List ByteArray} (h : TextsP w p l) : TextsP w.drew p l := h
/-- A slice that was grown by append, as a row of texts: nil, or not. -/
theorem BufS.texts {w : World} {B : Nat} {v : Value} {l : List ByteArray} (h : BufS w B v l) : ∃ p c, v = .slice p l.length c ∧ TextsP w p l ∧ (∀ a, p = some a → B ≤ a.block ∧ a.block < w.heap.size ∧ ∃ cur T fz, w.heap[a.block]? = some (.cells cur T fz)) ∧ (∀ a, p = some a → a = ⟨a.block, 0, .none⟩ ∧ l.length ≤ c) := by
  unfold BufS at h
  rcases h.2 with ⟨hv, h0⟩ | ⟨g, cap, cur, hv, hB, hg, hle, _, hsz, ht⟩
  · have : l = [] := List.length_eq_zero_iff.1 h0
    subst this
    exact ⟨.none, 0, hv, TextsP.none w, by simp, by simp⟩
  · refine ⟨some ⟨g, 0, .none⟩, cap, hv, fun i s hs => ⟨_, rfl, heap_lt hg, ?_⟩, fun a ha => ?_, fun a ha => ?_⟩
    · have hi : i < l.length := (List.getElem?_eq_some_iff.1 hs).1
      have e0 : ((⟨g, 0, .none⟩ : Addr).add i) = ⟨g, i, .none⟩ := by unfold Addr.add; split <;> simp_all
      rw [e0, cell_of_row w g i cur _ (0, 0) hg]
      have e : cur.toList[i]? = (l.map Value.string)[i]? := by
        rw [← ht, List.getElem?_take, if_pos (by omega)]
      rw [← Array.getElem?_toList, e]
      simp [hs]
    · cases ha
      exact ⟨hB, heap_lt hg, cur, _, _, hg⟩
    · cases ha
      exact ⟨rfl, hle⟩
end Go.Proofs.YtkjcpjalldbahaaGreatDoor
end

section
namespace Go.Proofs.YtkjcpjalldbahaaGreatDoor
open Go.RowKit

theorem cut_to (X : ByteArray) (c : Nat) (h : c ≤ X.size) (u : World) : (Instr.slice 9 (.string X) none (some (.int .i64 (c : Int))) none).run Tryz.prog u = .ok (.string (X.extract 0 c)) u := by
  have hj : (0 : Int) ≤ (c : Int) ∧ (c : Int) ≤ (X.size : Int) := by omega
  simp [Instr.slice, Instr.sliceBounds, Instr.sliceBound, asIntOf, run_underlying Tryz.underlying9, hj]
  intro hgt
  omega
theorem cut_from (X : ByteArray) (c : Nat) (h : c ≤ X.size) (u : World) : (Instr.slice 9 (.string X) (some (.int .i64 (c : Int))) none none).run Tryz.prog u = .ok (.string (X.extract c X.size)) u := by
  have hj : (0 : Int) ≤ (c : Int) ∧ (c : Int) ≤ (X.size : Int) := by omega
  simp [Instr.slice, Instr.sliceBounds, Instr.sliceBound, asIntOf, run_underlying Tryz.underlying9, hj]
  intro hgt
  omega
theorem cut_mid (X : ByteArray) (a c : Nat) (ha : a ≤ c) (h : c ≤ X.size) (u : World) : (Instr.slice 9 (.string X) (some (.int .i64 (a : Int))) (some (.int .i64 (c : Int))) none).run Tryz.prog u = .ok (.string (X.extract a c)) u := by
  have hj : (0 : Int) ≤ (c : Int) ∧ (c : Int) ≤ (X.size : Int) := by omega
  have hk : (0 : Int) ≤ (a : Int) ∧ (a : Int) ≤ (c : Int) := by omega
  simp [Instr.slice, Instr.sliceBounds, Instr.sliceBound, asIntOf, run_underlying Tryz.underlying9, hj, hk]
  rw [if_pos h, if_pos ha]
theorem cut_list (X : ByteArray) (a c : Nat) : (X.extract a c).data.toList = (X.data.toList.drop a).take (c - a) := by
  rw [ByteArray.data_extract, Array.toList_extract, List.extract_eq_take_drop]
end Go.Proofs.YtkjcpjalldbahaaGreatDoor
end

section
namespace Go.Proofs.YtkjcpjalldbahaaGreatDoor
open Go.RowKit

/-- The end of a call that answers these texts. -/
def TextsR (l : List ByteArray) (w : World) (e : Ending) (w' : World) : Prop := ∃ p c, e = .returned (.slice p l.length c) ∧ TextsP w' p l ∧ Ext w w'
/-- How far a text is cut. -/
def CutAt (S : List UInt8) (a k : Nat) (L : List (List UInt8)) : Prop := a ≤ k ∧ k ≤ S.length ∧ cuts S = L ++ cuts (S.drop a) ∧ 47 ∉ (S.drop a).take (k - a)
theorem cutAt_start (S : List UInt8) : CutAt S 0 0 [] := ⟨Nat.le_refl _, Nat.zero_le _, rfl, by simp⟩
theorem cutAt_next {S : List UInt8} {a k : Nat} {L : List (List UInt8)} (h : CutAt S a k L) {b : UInt8} (hb : S[k]? = some b) (hn : b ≠ 47) : CutAt S a (k + 1) L := by
  obtain ⟨h1, h2, h3, h4⟩ := h
  have hk : k < S.length := (List.getElem?_eq_some_iff.1 hb).1
  refine ⟨by omega, hk, h3, ?_⟩
  rw [show k + 1 - a = (k - a) + 1 by omega, List.take_add_one, List.getElem?_drop, show a + (k - a) = k by omega, hb]
  simp only [Option.toList_some, List.mem_append, List.mem_singleton, not_or]
  exact ⟨h4, Ne.symm hn⟩
theorem drop_slash {S : List UInt8} {a k : Nat} (h1 : a ≤ k) (hb : S[k]? = some 47) : S.drop a = (S.drop a).take (k - a) ++ 47 :: S.drop (k + 1) := by
  have hk : k < S.length := (List.getElem?_eq_some_iff.1 hb).1
  conv => lhs; rw [← List.take_append_drop (k - a) (S.drop a)]
  rw [List.drop_drop, show a + (k - a) = k by omega, List.drop_eq_getElem_cons hk]
  rw [List.getElem?_eq_getElem hk] at hb
  rw [Option.some.inj hb]
theorem cutAt_slash {S : List UInt8} {a k : Nat} {L : List (List UInt8)} (h : CutAt S a k L) (hb : S[k]? = some 47) : CutAt S (k + 1) (k + 1) (L ++ [(S.drop a).take (k - a)]) := by
  obtain ⟨h1, h2, h3, h4⟩ := h
  have hk : k < S.length := (List.getElem?_eq_some_iff.1 hb).1
  refine ⟨Nat.le_refl _, hk, ?_, by simp⟩
  rw [h3, drop_slash h1 hb, cuts_app, cuts_one _ h4, ← drop_slash h1 hb]
  simp
theorem cutAt_end {S : List UInt8} {a : Nat} {L : List (List UInt8)} (h : CutAt S a S.length L) : cuts S = L ++ [(S.drop a).take (S.length - a)] := by
  obtain ⟨h1, h2, h3, h4⟩ := h
  have e : (S.drop a).take (S.length - a) = S.drop a := List.take_of_length_le (by simp)
  rw [e] at h4 ⊢
  rw [h3, cuts_one _ h4]
theorem cutAt_len {S : List UInt8} {a k : Nat} {L : List (List UInt8)} (h : CutAt S a k L) : L.length ≤ S.length := by
  have h2 := count_slash S
  rw [h.2.2.1] at h2
  have h3 : 1 ≤ (cuts (S.drop a)).length := by
    have := cuts_ne (S.drop a)
    cases e : cuts (S.drop a) with
    | nil => exact absurd e this
    | cons => simp
  simp at h2
  omega
theorem extract_toB (s : ByteArray) (a k : Nat) : s.extract a k = toB ((s.data.toList.drop a).take (k - a)) := by
  apply ByteArray.ext
  apply Array.toList_inj.1
  rw [cut_list, toB_data]
set_option maxRecDepth 100000 in
set_option maxHeartbeats 2000000 in
theorem rcut_any (s : ByteArray) (hs : s.size ≤ 1000) (w : World) :
    Calls Tryz.prog 61 #[.string s] w fun e w' => ∃ v, e = .returned v ∧ BufS w' w.heap.size v (cutsB s) ∧ Ext w w' := by
  have HSz := Lib.hid (size_list s)
  have HM := Lib.hid (fun a c (ha : a ≤ c) (h : c ≤ s.size) (u : World) => cut_mid s a c ha h u)
  have HEx := Lib.hid (fun a k => extract_toB s a k)
  go_enter Tryz.func61, Tryz.ntmps61
  go_wp2
  go_loopw [3, 4, 5] (fun v av iv wr => ∃ (a k : Nat) (L : List (List UInt8)), av = .int .i64 (a : Int) ∧ iv = .int .i64 (k : Int) ∧ k ≤ s.size + 1 ∧ BufS wr w.heap.size v (L.map toB) ∧ Ext w wr ∧
      Hid ((k ≤ s.size → CutAt s.data.toList a k L) ∧ (k = s.size + 1 → cuts s.data.toList = L))) (fun _ _ i _ => s.size + 1 - (intOf i).toNat)
  case atStart => exact ⟨0, 0, [], rfl, rfl, Nat.zero_le _, BufS.nil _ _, Ext.refl _, Lib.hid ⟨fun _ => cutAt_start _, fun h => by omega⟩⟩
  case round =>
    obtain ⟨a, k, L, rfl, rfl, hk, hbuf, hext, hcut⟩ := hrel
    have HB := Lib.hid hbuf; have HE := Lib.hid hext
    clear hbuf hext
    by_cases hle : k ≤ s.size
    · have hcA := hcut.out.1 hle
      have hak := hcA.1
      have hLl : (L.map toB).length ≤ 1000000 := by have := cutAt_len hcA; rw [HSz.out] at this; simp; omega
      have hmid := HM.out a k hak hle
      rw [HEx.out a k] at hmid
      have HCA := Lib.hid hcA
      clear hcA
      obtain ⟨T, hT⟩ : ∃ T, T = (s.data.toList.drop a).take (k - a) := ⟨_, rfl⟩
      rw [← hT] at hmid
      have HT := Lib.hid hT
      clear hT
      have HLe := Lib.hid hLl
      clear hLl
      have HX3 := Lib.hid ((Ext.refl wr).alloc (.cells #[.string (toB T)] 9))
      have HCl : Hid ((wr.alloc (.cells #[.string (toB T)] 9)).cell? ⟨wr.heap.size, 0, none⟩ = some (.string (toB T))) := Lib.hid ((Blk.new wr [.string (toB T)] 9).cell 0 _ rfl)
      rcases Nat.lt_or_ge k s.size with hlt | hge
      · obtain ⟨b, hb⟩ : ∃ b, s.data.toList[k]? = some b := ⟨_, List.getElem?_eq_getElem (by rw [HSz.out]; exact hlt)⟩
        have hix := index_text s k b hb
        have hne : ((k : Int) == (s.size : Int)) = false := by rw [beq_eq_false_iff_ne]; omega
        have HBb := Lib.hid hb
        clear hb
        by_cases h47 : b = 47
        · subst h47
          have hix2 : ∀ u, (Instr.index 9 (.string s) (.int .i64 (k : Int))).run Tryz.prog u = .ok (.int .u8 47) u := hix
          clear hix
          go_wp2_with (at_builtin; refine append_text rfl (.tmp 22) (.tmp 27) rfl w.heap.size _ _ rfl (HB.out.ext HX3.out) wr.heap.size (toB T) rfl HCl.out HLe.out (HE.out.trans HX3.out).size ?_; intro v1 w2 hb1 hx4; have X5 : Hid (Ext w w2) := Lib.hid (Below.trans (HE.out.trans HX3.out) hx4); have HB1 := Lib.hid hb1; clear hb1 hx4)
          go_roundw
          case rel =>
            refine ⟨k + 1, k + 1, L ++ [T], by go_num, by go_num, by omega, by have := HB1.out; simpa using this, X5.out, Lib.hid ⟨fun _ => ?_, fun h => by omega⟩⟩
            have := cutAt_slash HCA.out HBb.out
            rw [← HT.out] at this
            exact this
          case measure => simp [intOf]; omega
        · have hnb : ((b.toNat : Int) == 47) = false := by
            rw [beq_eq_false_iff_ne]
            intro e
            exact h47 (UInt8.toNat_inj.1 (by show b.toNat = 47; omega))
          have H47 := Lib.hid h47
          clear h47
          go_wp2
          go_roundw
          case rel => exact ⟨a, k + 1, L, rfl, by go_num, by omega, HB.out, HE.out, Lib.hid ⟨fun _ => cutAt_next HCA.out HBb.out H47.out, fun h => by omega⟩⟩
          case measure => simp [intOf]; omega
      · obtain rfl : k = s.size := by omega
        go_wp2_with (at_builtin; refine append_text rfl (.tmp 22) (.tmp 27) rfl w.heap.size _ _ rfl (HB.out.ext HX3.out) wr.heap.size (toB T) rfl HCl.out HLe.out (HE.out.trans HX3.out).size ?_; intro v1 w2 hb1 hx4; have X5 : Hid (Ext w w2) := Lib.hid (Below.trans (HE.out.trans HX3.out) hx4); have HB1 := Lib.hid hb1; clear hb1 hx4)
        go_roundw
        case rel =>
          refine ⟨s.size + 1, s.size + 1, L ++ [T], by go_num, by go_num, by omega, by have := HB1.out; simpa using this, X5.out, Lib.hid ⟨fun h => by omega, fun _ => ?_⟩⟩
          have hc := HCA.out
          rw [HT.out]
          rw [← HSz.out] at hc ⊢
          exact cutAt_end hc
        case measure => simp [intOf]
    · obtain rfl : k = s.size + 1 := by omega
      have hfin : Hid (cutsB s = L.map toB) := Lib.hid (by unfold cutsB; rw [hcut.out.2 rfl])
      go_wp2
      go_ret
      exact ⟨_, rfl, by rw [hfin.out]; exact HB.out, HE.out⟩
end Go.Proofs.YtkjcpjalldbahaaGreatDoor
end
