/- Contract: names of children, by the document. -/
import Derived.Test.YtgcnpcpdgdhdkaaDoorPathNm
import Derived.Test.YtgcnpcpdgdhdkaaDoorPathR
import Derived.Laws.AppendOwnNone
namespace Go.Proofs.YtgcnpcpdgdhdkaaDoor
open Go.RowKit

theorem insS_len (c : List UInt8) : ∀ l, (insS c l).length ≤ l.length + 1
  | [] => by simp [insS]
  | x :: t => by
    unfold insS
    have ih := insS_len c t
    split
    · simp; omega
    · split <;> simp
theorem names_len (p : List UInt8) : ∀ (l : List (List UInt8)) (k : Nat), (namesL p (l.take k)).length ≤ k := by
  intro l k
  induction k with
  | zero => simp [namesL]
  | succ k ih =>
    cases h : l[k]? with
    | none =>
      rw [List.take_add_one, h]
      simp
      omega
    | some s =>
      rw [List.take_add_one, h]
      simp only [Option.toList_some]
      rw [names_snoc]
      unfold stepN
      split
      · omega
      · have := insS_len (childL p s) (namesL p (l.take k))
        omega
/-- How many stand ahead of a text. -/
def aheadN (c : List UInt8) (l : List (List UInt8)) : Nat := (l.takeWhile (fun x => decide (x < c))).length
theorem ahead_le (c : List UInt8) (l : List (List UInt8)) : aheadN c l ≤ l.length := by unfold aheadN; exact (List.takeWhile_sublist _).length_le
theorem ahead_lt (c : List UInt8) : ∀ (l : List (List UInt8)) (i : Nat) (x : List UInt8), i < aheadN c l → l[i]? = some x → x < c
  | [], _, _, _, h => by cases h
  | y :: t, i, x, hi, h => by
    unfold aheadN at hi
    by_cases hy : y < c
    · rw [List.takeWhile_cons_of_pos (by simp [hy])] at hi
      cases i with
      | zero => cases h; exact hy
      | succ i => exact ahead_lt c t i x (by unfold aheadN; simpa using hi) (by simpa using h)
    · rw [List.takeWhile_cons_of_neg (by simp [hy])] at hi
      simp at hi
theorem ahead_not (c : List UInt8) : ∀ (l : List (List UInt8)) (x : List UInt8), l[aheadN c l]? = some x → ¬ x < c
  | [], _, h => by cases h
  | y :: t, x, h => by
    unfold aheadN at h
    by_cases hy : y < c
    · rw [List.takeWhile_cons_of_pos (by simp [hy])] at h
      exact ahead_not c t x (by unfold aheadN; simpa using h)
    · rw [List.takeWhile_cons_of_neg (by simp [hy])] at h
      cases h
      exact hy
theorem insS_ahead (c : List UInt8) (l : List (List UInt8)) (h : Rises l) : insS c l = if l[aheadN c l]? = some c then l else l.take (aheadN c l) ++ c :: l.drop (aheadN c l) :=
  insS_at c l _ h (ahead_le c l) (fun i x hi hx => ahead_lt c l i x hi hx) (fun x hx => ahead_not c l x hx)
theorem elemS : Tryd.prog.elem 23 = 9 := by kernel_rfl
theorem underS : Tryd.prog.underlying 23 = some (.slice (Tryd.prog.elem 23)) := by rw [elemS]; exact Tryd.underlying23
/-- The slices of a slice of texts, up to one, and from it on. -/
theorem cuts_texts (w : World) (g c n : Nat) (l : List ByteArray) (h : TextsP w (some ⟨g, 0, none⟩) l) (hn : l.length = n) (hc : n ≤ c) (hm : n ≤ 1000000) (k : Nat) (hk : k ≤ n) :
    (∀ u, (Instr.slice 23 (.slice (some ⟨g, 0, none⟩) n c) none (some (.int .i64 (k : Int))) none).run Tryd.prog u = .ok (.slice (some ⟨g, 0, none⟩) k c) u) ∧
    (∀ u, Ext w u → ∀ j s, (l.take k)[j]? = some s → u.cell? ((⟨g, 0, none⟩ : Addr).add j) = some (.string s)) ∧
    ∃ ad, (∀ u, (Instr.slice 23 (.slice (some ⟨g, 0, none⟩) n c) (some (.int .i64 (k : Int))) none none).run Tryd.prog u = .ok (.slice (some ad) (n - k) (c - k)) u) ∧
      (∀ u, Ext w u → ∀ j s, (l.drop k)[j]? = some s → u.cell? (ad.add j) = some (.string s)) := by
  have hcell : ∀ u, Ext w u → ∀ (j : Nat) s, l[j]? = some s → u.cell? ((⟨g, 0, none⟩ : Addr).add j) = some (.string s) := fun u hu j s hs => by
    obtain ⟨a, e, _, hc⟩ := (h.ext hu) j s hs
    cases e
    exact hc
  refine ⟨fun u => ?_, fun u hu j s hs => ?_, ?_⟩
  · rw [run_slice_h (P := Tryd.prog) u 23 (some ⟨g, 0, none⟩) n c underS .i64 (k : Int) (by omega) (by omega), elemS, show (sizeOf 9).run Tryd.prog u = .ok 1 u from Tryd.sizeOf9 u]
    simp [Result.andThen, sliced]
    intro q
    simp [Addr.add]
  · refine hcell u hu j s ?_
    have hj2 : j < k := by
      rcases Nat.lt_or_ge j k with q | q
      · exact q
      · rw [List.getElem?_take, if_neg (by omega)] at hs; cases hs
    rw [List.getElem?_take, if_pos hj2] at hs
    exact hs
  · by_cases he : c = k
    · refine ⟨⟨g, 0, none⟩, fun u => ?_, fun u _ j s hs => ?_⟩
      · rw [run_slice_l (P := Tryd.prog) u 23 (some ⟨g, 0, none⟩) n c underS .i64 (k : Int) (by omega) (by omega), elemS, show (sizeOf 9).run Tryd.prog u = .ok 1 u from Tryd.sizeOf9 u]
        simp only [Result.andThen, sliced, Int.toNat_natCast]
        rw [if_pos (by omega)]
      · rw [List.getElem?_drop, List.getElem?_eq_none (by omega)] at hs
        cases hs
    · refine ⟨⟨g, k, none⟩, fun u => ?_, fun u hu j s hs => ?_⟩
      · rw [run_slice_l (P := Tryd.prog) u 23 (some ⟨g, 0, none⟩) n c underS .i64 (k : Int) (by omega) (by omega), elemS, show (sizeOf 9).run Tryd.prog u = .ok 1 u from Tryd.sizeOf9 u]
        simp only [Result.andThen, sliced, Int.toNat_natCast]
        rw [if_neg (by omega)]
        simp [Addr.add_mid]
      · rw [List.getElem?_drop] at hs
        have := hcell u hu (k + j) s hs
        rw [Addr.add_mid] at this ⊢
        rwa [Nat.zero_add] at this
theorem nil_cuts : (∀ u, (Instr.slice 23 (.slice none 0 0) none (some (.int .i64 0)) none).run Tryd.prog u = .ok (.slice none 0 0) u) ∧ (∀ u, (Instr.slice 23 (.slice none 0 0) (some (.int .i64 0)) none none).run Tryd.prog u = .ok (.slice none 0 0) u) := by
  refine ⟨fun u => ?_, fun u => ?_⟩
  · rw [run_slice_h (P := Tryd.prog) u 23 none 0 0 underS .i64 0 (by omega) (by omega), elemS, show (sizeOf 9).run Tryd.prog u = .ok 1 u from Tryd.sizeOf9 u]
    simp [Result.andThen, sliced]
  · rw [run_slice_l (P := Tryd.prog) u 23 none 0 0 underS .i64 0 (by omega) (by omega), elemS, show (sizeOf 9).run Tryd.prog u = .ok 1 u from Tryd.sizeOf9 u]
    simp [Result.andThen, sliced]
/-- append(l, new...) of texts. -/
theorem append_list {w : World} {ops : Array Oper} {rest : List Oper} {o : Oper} {a : Act} {Q : Exit → Act → World → Prop} (hgd : o.guard = none) (s x : Operand)
    (ho : o.op = .call { callee := .builtin .append, args := #[s, x], argTypes := #[23, 23] })
    (B : Nat) (v : Value) (l : List ByteArray) (hs : a.eval s = v) (hbuf : BufS w B v l) (ad : Addr) (m c : Nat) (new : List ByteArray) (hm : new.length = m) (hx : a.eval x = .slice (some ad) m c)
    (hrow : ∀ j s, new[j]? = some s → w.cell? (ad.add j) = some (.string s))
    (hlen : l.length + m ≤ 1000000) (hB : B ≤ w.heap.size)
    (h : ∀ v' w', BufS w' B v' (l ++ new) → Below B w w' → wpList Tryd.prog ops Q rest (a.put o.dst v') w') : wpList Tryd.prog ops Q (o :: rest) a w := by
  obtain ⟨i0, hi, hz0, hz1, hz2⟩ := info_parts infoS
  refine wpList_append_own w hgd s x 23 ho B 9 i0 (.string ⟨#[]⟩) 1 16 Tryd.underlying23 hi hz0 hz1 hz2 rfl (by decide) v l.length (l.map Value.string) hs hbuf ad m c (new.map Value.string) hx (by simp [hm]) ?_ ?_ (by unfold maxLen; omega) (by omega) hB ?_
  · intro j u hj
    rw [List.getElem?_map] at hj
    cases hq : new[j]? with
    | none => rw [hq] at hj; cases hj
    | some s => rw [hq] at hj; cases hj; exact hrow j s hq
  · intro u hu
    obtain ⟨b, _, rfl⟩ := List.mem_map.1 hu
    rfl
  · intro v' w' h1 h2 _
    refine h v' w' ?_ (Below.grown (Below.refl _ _) h2 hB fun k hk => (World.ownsRow.lt hbuf k hk).1)
    unfold BufS
    rw [List.length_append, hm, List.map_append]
    exact h1
theorem append_nothing {w : World} {ops : Array Oper} {rest : List Oper} {o : Oper} {a : Act} {Q : Exit → Act → World → Prop} (hgd : o.guard = none) (s x : Operand)
    (ho : o.op = .call { callee := .builtin .append, args := #[s, x], argTypes := #[23, 23] })
    (B : Nat) (v : Value) (l : List ByteArray) (hs : a.eval s = v) (hbuf : BufS w B v l) (hx : a.eval x = .slice none 0 0)
    (h : wpList Tryd.prog ops Q rest (a.put o.dst v) w) : wpList Tryd.prog ops Q (o :: rest) a w := by
  obtain ⟨i0, hi, hz0, hz1, hz2⟩ := info_parts infoS
  exact wpList_append_own_none hgd s x 23 ho B 9 i0 1 Tryd.underlying23 hi v l.length (l.map Value.string) hs hbuf hx h
theorem less_is (x : List UInt8) (C : ByteArray) : Op.bytesLess (toB x).toList C.toList = decide (x < C.data.toList) := by
  rw [bytesLess_eq, Lib.toList_data, Lib.toList_data, toB_data]
theorem eq_is (x : List UInt8) (C : ByteArray) : ((toB x).toList == C.toList) = decide (x = C.data.toList) := by
  rw [Lib.toList_data, Lib.toList_data, toB_data, Bool.eq_iff_iff]
  simp
end Go.Proofs.YtgcnpcpdgdhdkaaDoor
