/- Plain: names: children by many paths, each once, rising; the library's split at a slash. -/
import Derived.Test.YtkjcpjalldbahaaGreatDoorM06
import Derived.Lib.Split
import Derived.Lib.SplitLaws
import Derived.Lib.IndexBytes
import Derived.Lib.IndexLaws
section
namespace Go.Proofs.YtkjcpjalldbahaaGreatDoor

/-! ### Rising lists -/
theorem lt_tri (a b : List UInt8) (h1 : ¬ a < b) (h2 : a ≠ b) : b < a :=
  Decidable.byContradiction fun h => h2 (List.le_antisymm (List.not_lt.1 h) (List.not_lt.1 h1))
/-- One more into a rising list, once. -/
def insS (c : List UInt8) : List (List UInt8) → List (List UInt8)
  | [] => [c]
  | x :: t => if x < c then x :: insS c t else if x = c then x :: t else c :: x :: t
def Rises (l : List (List UInt8)) : Prop := l.Pairwise (· < ·)
theorem insS_mem (c x : List UInt8) : ∀ l, x ∈ insS c l ↔ x = c ∨ x ∈ l
  | [] => by simp [insS]
  | y :: t => by
    unfold insS
    split
    · rw [List.mem_cons, insS_mem c x t, List.mem_cons]
      constructor
      · rintro (h | h | h) <;> simp [h]
      · rintro (h | h | h) <;> simp [h]
    · split
      · rename_i h
        rw [List.mem_cons]
        constructor
        · rintro (h | h) <;> simp [h]
        · rintro (h2 | h2 | h2)
          · left; rw [h2, h]
          · left; exact h2
          · right; exact h2
      · simp
theorem insS_rises (c : List UInt8) : ∀ l, Rises l → Rises (insS c l)
  | [], _ => by simp [insS, Rises]
  | y :: t, h => by
    have h' := List.pairwise_cons.1 h
    unfold insS
    split
    · rename_i hlt
      refine List.pairwise_cons.2 ⟨fun z hz => ?_, insS_rises c t h'.2⟩
      rcases (insS_mem c z t).1 hz with rfl | hz
      · exact hlt
      · exact h'.1 z hz
    · split
      · exact h
      · rename_i h1 h2
        have hcy := lt_tri y c h1 h2
        refine List.pairwise_cons.2 ⟨fun z hz => ?_, h⟩
        rcases List.mem_cons.1 hz with rfl | hz
        · exact hcy
        · exact List.lt_trans hcy (h'.1 z hz)
theorem rises_ext : ∀ (a b : List (List UInt8)), Rises a → Rises b → (∀ x, x ∈ a ↔ x ∈ b) → a = b
  | [], [], _, _, _ => rfl
  | [], y :: t, _, _, h => by have := (h y).2 (by simp); cases this
  | x :: t, [], _, _, h => by have := (h x).1 (by simp); cases this
  | x :: t, y :: u, h1, h2, h => by
    have p1 := List.pairwise_cons.1 h1
    have p2 := List.pairwise_cons.1 h2
    have e : x = y := by
      rcases List.mem_cons.1 ((h x).1 (by simp)) with e | e
      · exact e
      · rcases List.mem_cons.1 ((h y).2 (by simp)) with e2 | e2
        · exact e2.symm
        · exact absurd (List.lt_trans (p1.1 y e2) (p2.1 x e)) (List.lt_irrefl x)
    subst e
    congr 1
    refine rises_ext t u p1.2 p2.2 (fun z => ?_)
    constructor
    · intro hz
      rcases List.mem_cons.1 ((h z).1 (by simp [hz])) with e | e
      · subst e; exact absurd (p1.1 z hz) (List.lt_irrefl z)
      · exact e
    · intro hz
      rcases List.mem_cons.1 ((h z).2 (by simp [hz])) with e | e
      · subst e; exact absurd (p2.1 z hz) (List.lt_irrefl z)
      · exact e
/-- Where one more goes. -/
theorem insS_at (c : List UInt8) : ∀ (l : List (List UInt8)) (k : Nat), Rises l → k ≤ l.length → (∀ i x, i < k → l[i]? = some x → x < c) → (∀ x, l[k]? = some x → ¬ x < c) →
    insS c l = if l[k]? = some c then l else l.take k ++ c :: l.drop k
  | [], k, _, hk, _, _ => by
    have : k = 0 := by simpa using hk
    subst this
    simp [insS]
  | y :: t, 0, _, _, _, h2 => by
    have hy := h2 y (by simp)
    unfold insS
    rw [if_neg hy]
    by_cases e : y = c
    · simp [e]
    · simp [e]
  | y :: t, k + 1, hr, hk, h1, h2 => by
    have hy := h1 0 y (by omega) (by simp)
    unfold insS
    rw [if_pos hy]
    rw [insS_at c t k (List.pairwise_cons.1 hr).2 (by simpa using hk) (fun i x hi hx => h1 (i + 1) x (by omega) (by simpa using hx)) (fun x hx => h2 x (by simpa using hx))]
    simp only [List.getElem?_cons_succ, List.take_succ_cons, List.drop_succ_cons, List.cons_append]
    split <;> rfl
/-- The children by many paths. -/
def stepN (p : List UInt8) (out : List (List UInt8)) (s : List UInt8) : List (List UInt8) := if (childL p s).isEmpty then out else insS (childL p s) out
def namesL (p : List UInt8) (l : List (List UInt8)) : List (List UInt8) := l.foldl (stepN p) []
theorem names_snoc (p : List UInt8) (l : List (List UInt8)) (s : List UInt8) : namesL p (l ++ [s]) = stepN p (namesL p l) s := by simp [namesL]
theorem step_rises (p : List UInt8) (out : List (List UInt8)) (s : List UInt8) (h : Rises out) : Rises (stepN p out s) := by
  unfold stepN
  split
  · exact h
  · exact insS_rises _ _ h
theorem fold_rises (p : List UInt8) : ∀ (l out : List (List UInt8)), Rises out → Rises (l.foldl (stepN p) out)
  | [], _, h => h
  | s :: l, out, h => fold_rises p l _ (step_rises p out s h)
theorem names_rises (p : List UInt8) (l : List (List UInt8)) : Rises (namesL p l) := fold_rises p l [] List.Pairwise.nil
theorem fold_mem (p x : List UInt8) : ∀ (l out : List (List UInt8)), x ∈ l.foldl (stepN p) out ↔ x ∈ out ∨ ∃ s ∈ l, underB p s = true ∧ x = childL p s
  | [], out => by simp
  | s :: l, out => by
    rw [List.foldl_cons, fold_mem p x l]
    have e : x ∈ stepN p out s ↔ x ∈ out ∨ underB p s = true ∧ x = childL p s := by
      unfold stepN
      rw [child_is]
      split
      · rename_i h
        simp [h]
      · rename_i h
        rw [insS_mem]
        simp only [h, Bool.not_false, true_and]
        exact Or.comm
    rw [e]
    simp only [List.mem_cons, exists_eq_or_imp]
    rw [or_assoc]
theorem names_mem (p x : List UInt8) (l : List (List UInt8)) : x ∈ namesL p l ↔ ∃ s ∈ l, underB p s = true ∧ x = childL p s := by
  unfold namesL
  rw [fold_mem]
  simp
theorem names_one (p s : List UInt8) : namesL p [s] = if underB p s then [childL p s] else [] := by
  unfold namesL
  simp only [List.foldl_cons, List.foldl_nil]
  unfold stepN
  rw [child_is]
  cases (childL p s).isEmpty <;> simp [insS]
theorem names_two (p s : List UInt8) : namesL p [s, s] = if underB p s then [childL p s] else [] := by
  rw [show ([s, s] : List (List UInt8)) = [s] ++ [s] from rfl, names_snoc, names_one]
  unfold stepN
  rw [child_is]
  cases (childL p s).isEmpty
  · simp [insS, List.lt_irrefl]
  · simp
/-! ### The library's split -/
theorem index_slash {l : List UInt8} (h : 47 ∉ l) : Lib.index l [47] = -1 := by
  rw [Lib.index_one]
  have h1 := Lib.indexByte_ge l 47
  rcases Int.lt_or_eq_of_le h1 with h2 | h2
  · obtain ⟨o, ho⟩ : ∃ o : Nat, Lib.indexByte l 47 = o := ⟨(Lib.indexByte l 47).toNat, by omega⟩
    exact absurd (List.mem_of_getElem? (Lib.indexByte_some ho).1) h
  · exact h2.symm
theorem index_at (a r : List UInt8) (h : 47 ∉ a) : Lib.index (a ++ 47 :: r) [47] = a.length := by
  rw [Lib.index_one]
  have h1 := Lib.indexByte_ge (a ++ 47 :: r) 47
  rcases Int.lt_or_eq_of_le h1 with h2 | h2
  · obtain ⟨o, ho⟩ : ∃ o : Nat, Lib.indexByte (a ++ 47 :: r) 47 = o := ⟨(Lib.indexByte (a ++ 47 :: r) 47).toNat, by omega⟩
    rw [ho]
    obtain ⟨p1, p2⟩ := Lib.indexByte_some ho
    rcases Nat.lt_trichotomy o a.length with q | q | q
    · rw [List.getElem?_append_left q] at p1
      exact absurd (List.mem_of_getElem? p1) h
    · rw [q]
    · have := p2 a.length q
      simp at this
  · have := Lib.indexByte_none h2.symm a.length
    simp at this
/-- A text is one piece, or a piece, a slash, and the rest. -/
theorem slash_cases (l : List UInt8) : 47 ∉ l ∨ ∃ a r, 47 ∉ a ∧ l = a ++ 47 :: r := by
  induction l with
  | nil => left; simp
  | cons c l ih =>
    by_cases hc : c = 47
    · subst hc; exact .inr ⟨[], l, by simp, rfl⟩
    · rcases ih with h | ⟨a, r, h, rfl⟩
      · left; simp [h, Ne.symm hc]
      · exact .inr ⟨c :: a, r, by simp [h, Ne.symm hc], rfl⟩
theorem splitK_cuts : ∀ (k : Nat) (s : List UInt8), s.count 47 ≤ k → Lib.splitK [47] 0 k s = cuts s
  | 0, s, h => by
    have hn : 47 ∉ s := fun hm => by have := List.count_pos_iff.2 hm; omega
    rw [cuts_one s hn]; rfl
  | k + 1, s, h => by
    rcases slash_cases s with hn | ⟨a, r, ha, rfl⟩
    · unfold Lib.splitK
      rw [index_slash hn, cuts_one s hn]; rfl
    · unfold Lib.splitK
      rw [index_at a r ha]
      have e1 : (((a.length : Nat) : Int) == -1) = false := by rw [beq_eq_false_iff_ne]; omega
      rw [e1, cuts_app, cuts_one a ha]
      have hc : r.count 47 ≤ k := by
        rw [List.count_append, List.count_cons] at h
        simp at h
        omega
      have ih := splitK_cuts k r hc
      have e2 : (a ++ 47 :: r).drop (((a.length : Nat) : Int).toNat + ([47] : List UInt8).length) = r := by
        rw [Int.toNat_natCast, show a ++ 47 :: r = (a ++ [47]) ++ r by simp, show a.length + ([47] : List UInt8).length = (a ++ [47]).length by simp, List.drop_left]
      have e3 : (a ++ 47 :: r).take (((a.length : Nat) : Int).toNat + 0) = a := by
        rw [Int.toNat_natCast, Nat.add_zero, List.take_left]
      rw [e2, e3, ih]; rfl
/-! ### As texts -/
def toB (l : List UInt8) : ByteArray := ⟨l.toArray⟩
theorem toB_data (l : List UInt8) : (toB l).data.toList = l := rfl
theorem toB_of (s : ByteArray) : toB s.data.toList = s := rfl
theorem toB_inj {a b : List UInt8} (h : toB a = toB b) : a = b := by rw [← toB_data a, h]; rfl
def cutsB (s : ByteArray) : List ByteArray := (cuts s.data.toList).map toB
theorem split_cuts (s : ByteArray) : Lib.splitB ⟨#[47]⟩ 0 (Lib.countB s ⟨#[47]⟩) s = cutsB s := by
  have h := Lib.splitB_data ⟨#[47]⟩ 0 (Lib.countB s ⟨#[47]⟩) s
  have hc : Lib.countB s ⟨#[47]⟩ = s.data.toList.count 47 := by
    show Lib.count s.data.toList [47] = _
    rw [Lib.count_one]
  rw [show (⟨#[47]⟩ : ByteArray).data.toList = [47] from rfl, splitK_cuts _ _ (by rw [hc]; exact Nat.le_refl _)] at h
  unfold cutsB
  rw [← h, List.map_map]
  have : (toB ∘ fun x : ByteArray => x.data.toList) = id := by funext x; exact toB_of x
  rw [this, List.map_id]
theorem cuts_le : ∀ (l : List UInt8), ∀ x ∈ cuts l, x.length ≤ l.length
  | [], x, hx => by simp [cuts] at hx; subst hx; simp
  | c :: l, x, hx => by
    have ih := cuts_le l
    by_cases hc : c = 47
    · subst hc
      rw [cuts_slash] at hx
      rcases List.mem_cons.1 hx with rfl | hx
      · simp
      · have := ih x hx; simp; omega
    · obtain ⟨h, t, e⟩ : ∃ h t, cuts l = h :: t := by
        cases e : cuts l with
        | nil => exact absurd e (cuts_ne l)
        | cons h t => exact ⟨h, t, rfl⟩
      rw [cuts_cons hc l h t e] at hx
      rw [e] at ih
      rcases List.mem_cons.1 hx with rfl | hx
      · have := ih h (by simp); simp; omega
      · have := ih x (by simp [hx]); simp; omega
theorem cutsB_le (s : ByteArray) (x : ByteArray) (h : x ∈ cutsB s) : x.size ≤ s.size := by
  unfold cutsB at h
  obtain ⟨l, hl, rfl⟩ := List.mem_map.1 h
  have := cuts_le _ l hl
  rw [size_list] at this
  have e : (toB l).size = l.length := by rw [← size_list, toB_data]
  omega
theorem count_slash : ∀ (l : List UInt8), (cuts l).length ≤ l.length + 1
  | [] => by simp [cuts]
  | c :: l => by
    have ih := count_slash l
    by_cases hc : c = 47
    · subst hc; rw [cuts_slash]; simp; omega
    · obtain ⟨h, t, e⟩ : ∃ h t, cuts l = h :: t := by
        cases e : cuts l with
        | nil => exact absurd e (cuts_ne l)
        | cons h t => exact ⟨h, t, rfl⟩
      rw [cuts_cons hc l h t e]
      rw [e] at ih
      simp at ih ⊢; omega
theorem cutsB_length (s : ByteArray) : (cutsB s).length = (cuts s.data.toList).length := by simp [cutsB]
theorem cutsB_len_le (s : ByteArray) : (cutsB s).length ≤ s.size + 1 := by
  rw [cutsB_length, ← size_list]; exact count_slash _
/-- A path, by its pieces as texts. -/
theorem may_no (s : ByteArray) (x : ByteArray) (h : x ∈ cutsB s) (hx : pieceB x.data.toList = false) : mayB s.data.toList = false := by
  unfold cutsB at h
  obtain ⟨l, hl, rfl⟩ := List.mem_map.1 h
  rw [toB_data] at hx
  unfold mayB
  have : (cuts s.data.toList).all pieceB = false := by rw [List.all_eq_false]; exact ⟨l, hl, by simp [hx]⟩
  rw [this]; simp
theorem may_all (s : ByteArray) (h : s.size ≤ 128) (hx : ∀ x ∈ cutsB s, pieceB x.data.toList = true) : mayB s.data.toList = decide ((cutsB s).length ≤ 8) := by
  unfold mayB
  have : (cuts s.data.toList).all pieceB = true := by
    rw [List.all_eq_true]
    intro l hl
    exact hx (toB l) (by unfold cutsB; exact List.mem_map.2 ⟨l, hl, rfl⟩)
  rw [this, size_list, decide_eq_true h, cutsB_length]; simp
def piecesB (s : ByteArray) : List ByteArray := (piecesL s.data.toList).map toB
theorem piecesB_of {s : ByteArray} (h : mayB s.data.toList = true) : piecesB s = cutsB s := by unfold piecesB cutsB; rw [pieces_of h]
theorem piecesB_no {s : ByteArray} (h : mayB s.data.toList = false) : piecesB s = [] := by unfold piecesB; rw [pieces_no h]; rfl
theorem may_size {s : ByteArray} (h : mayB s.data.toList = true) : s.size ≤ 128 := by
  unfold mayB at h
  simp only [Bool.and_eq_true, decide_eq_true_eq] at h
  have := h.1.1
  rwa [size_list] at this
theorem first_one (r : List UInt8) (h : 47 ∉ r) : firstL r = r := by unfold firstL; rw [cuts_one r h]
theorem first_two (a t : List UInt8) (h : 47 ∉ a) : firstL (a ++ 47 :: t) = a ++ [47] := by
  unfold firstL
  rw [cuts_app, cuts_one a h]
  cases e : cuts t with
  | nil => exact absurd e (cuts_ne t)
  | cons => rfl
theorem index_first (r : List UInt8) : (Lib.indexByte r 47 = -1 ∧ firstL r = r) ∨ ∃ n : Nat, Lib.indexByte r 47 = (n : Int) ∧ n + 1 ≤ r.length ∧ firstL r = r.take (n + 1) := by
  rcases slash_cases r with h | ⟨a, t, h, rfl⟩
  · exact .inl ⟨by rw [← Lib.index_one]; exact index_slash h, first_one r h⟩
  · refine .inr ⟨a.length, by rw [← Lib.index_one]; exact index_at a t h, by simp, ?_⟩
    rw [first_two a t h, show a ++ 47 :: t = (a ++ [47]) ++ t by simp, show a.length + 1 = (a ++ [47]).length by simp, List.take_left]
theorem first_take (r : List UInt8) : r.take (firstL r).length = firstL r ∧ (firstL r).length ≤ r.length := by
  rcases index_first r with ⟨_, e⟩ | ⟨n, _, hn, e⟩
  · rw [e]; simp
  · rw [e]; simp
    omega
/-- The child, as a text. -/
def childB (p s : ByteArray) : ByteArray := toB (childL p.data.toList s.data.toList)
def restB (p s : ByteArray) : ByteArray := toB (restL p.data.toList s.data.toList)
def underT (p s : ByteArray) : Bool := underB p.data.toList s.data.toList
theorem toB_size (l : List UInt8) : (toB l).size = l.length := by rw [← size_list, toB_data]
theorem rest_size (p s : ByteArray) : (restB p s).size ≤ s.size := by
  unfold restB
  rw [toB_size, ← size_list s]
  unfold restL
  split
  · exact Nat.le_refl _
  · simp
theorem under_iff (p s : ByteArray) : underT p s = true ↔ prefB p.data.toList = true ∧ (piecesB p).length < (piecesB s).length ∧ ∀ i, i < (piecesB p).length → (piecesB p)[i]? = (piecesB s)[i]? := by
  unfold underT
  rw [under_pieces]
  unfold piecesB
  generalize piecesL p.data.toList = P
  generalize piecesL s.data.toList = L
  refine and_congr_right fun _ => ?_
  constructor
  · rintro ⟨m, hm, rfl⟩
    refine ⟨?_, fun i hi => ?_⟩
    · have : 0 < m.length := List.length_pos_iff.2 hm
      simp; omega
    · rw [List.map_append, List.getElem?_append_left hi]
  · rintro ⟨h1, h2⟩
    simp only [List.length_map] at h1 h2
    have e : L.take P.length = P := by
      apply List.ext_getElem?
      intro i
      by_cases hi : i < P.length
      · rw [List.getElem?_take, if_pos hi]
        have := h2 i hi
        rw [List.getElem?_map, List.getElem?_map] at this
        rw [List.getElem?_eq_getElem hi, List.getElem?_eq_getElem (by omega)] at this ⊢
        simp only [Option.map_some, Option.some.injEq] at this ⊢
        exact (toB_inj this).symm
      · rw [List.getElem?_eq_none (by rw [List.length_take]; omega), List.getElem?_eq_none (by omega)]
    refine ⟨L.drop P.length, fun q => ?_, ?_⟩
    · have := congrArg List.length q
      simp at this
      omega
    · conv => lhs; rw [← List.take_append_drop P.length L, e]
theorem child_at (p s : ByteArray) (h : underT p s = true) : ∃ x, (piecesB s)[(piecesB p).length]? = some x ∧ childB p s = if (piecesB p).length + 1 < (piecesB s).length then x ++ ⟨#[47]⟩ else x := by
  unfold underT at h
  obtain ⟨_, m, hm, e⟩ := (under_pieces _ _).1 h
  cases m with
  | nil => exact absurd rfl hm
  | cons x t =>
    have hd : (piecesL s.data.toList).drop (piecesL p.data.toList).length = x :: t := by rw [e, List.drop_left]
    have hc := child_pieces h x t hd
    refine ⟨toB x, ?_, ?_⟩
    · unfold piecesB
      rw [e, List.map_append, List.length_map, List.getElem?_append_right (by simp)]
      simp
    · unfold childB
      rw [hc]
      unfold piecesB
      rw [e]
      cases t with
      | nil => simp
      | cons y t =>
        rw [if_neg (by simp), if_pos (by simp)]
        apply ByteArray.ext
        apply Array.toList_inj.1
        rw [ByteArray.data_append, Array.toList_append, toB_data, toB_data]
theorem piecesB_size (s x : ByteArray) (h : x ∈ piecesB s) : x.size ≤ 32 := by
  unfold piecesB at h
  obtain ⟨l, hl, rfl⟩ := List.mem_map.1 h
  have := pieces_mem hl
  unfold pieceB at this
  simp only [Bool.and_eq_true, decide_eq_true_eq] at this
  rw [toB_size]
  exact this.1.2
theorem piecesB_len (s : ByteArray) : (piecesB s).length ≤ 8 := by
  cases h : mayB s.data.toList with
  | false => rw [piecesB_no h]; simp
  | true =>
    rw [piecesB_of h, cutsB_length]
    unfold mayB at h
    simp only [Bool.and_eq_true, decide_eq_true_eq] at h
    exact h.1.2
theorem piecesB_may (s : ByteArray) : mayB s.data.toList = decide (0 < (piecesB s).length) := by
  rw [← pieces_len]
  unfold piecesB
  simp
end Go.Proofs.YtkjcpjalldbahaaGreatDoor
end
