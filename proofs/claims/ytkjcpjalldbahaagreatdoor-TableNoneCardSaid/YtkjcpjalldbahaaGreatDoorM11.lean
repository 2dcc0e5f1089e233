/- Plain: versions that rise; what both sides' Read answer is one. Plain: texts cut at slashes, pieces, paths, what is under what, children. -/
import Derived.Test.YtkjcpjalldbahaaGreatDoorM10
import Derived.Test.YtkjcpjalldbahaaGreatDoorM00
section
namespace Go.Proofs.YtkjcpjalldbahaaGreatDoor
open Go.RowKit

theorem rise_step {v : Ver} {r : List Ver} {a b : Nat} (h : rise a (v :: r) = some b) : a < v.n ∧ okV v = true ∧ rise v.n r = some b := by
  unfold rise at h
  by_cases h1 : v.n ≤ a
  · rw [if_pos h1] at h; cases h
  · rw [if_neg h1] at h
    cases h2 : okV v with
    | false => rw [h2] at h; cases h
    | true => rw [h2] at h; exact ⟨by omega, rfl, h⟩
theorem rise_le : ∀ {L : List Ver} {a b : Nat}, rise a L = some b → a ≤ b
  | [], a, b, h => by simp [rise] at h; omega
  | v :: r, a, b, h => by
    obtain ⟨h1, _, h3⟩ := rise_step h
    have := rise_le h3
    omega
theorem rise_mem : ∀ {L : List Ver} {a b : Nat}, rise a L = some b → ∀ x ∈ L, a < x.n ∧ x.n ≤ b ∧ okV x = true
  | [], a, b, h, x, hx => by cases hx
  | v :: r, a, b, h, x, hx => by
    obtain ⟨h1, h2, h3⟩ := rise_step h
    rcases List.mem_cons.1 hx with rfl | hx
    · exact ⟨h1, rise_le h3, h2⟩
    · obtain ⟨q1, q2, q3⟩ := rise_mem h3 x hx
      exact ⟨by omega, q2, q3⟩
theorem rise_lt : ∀ {L : List Ver} {a b : Nat}, rise a L = some b → ∀ {i j : Nat} {x y : Ver}, L[i]? = some x → L[j]? = some y → i < j → x.n < y.n
  | [], a, b, h, i, j, x, y, hx, _, _ => by simp at hx
  | v :: r, a, b, h, i, j, x, y, hx, hy, hij => by
    obtain ⟨h1, h2, h3⟩ := rise_step h
    obtain ⟨j', rfl⟩ : ∃ j', j = j' + 1 := ⟨j - 1, by omega⟩
    rw [List.getElem?_cons_succ] at hy
    cases i with
    | zero =>
      simp at hx
      subst hx
      exact (rise_mem h3 y (List.mem_of_getElem? hy)).1
    | succ i => 
      rw [List.getElem?_cons_succ] at hx
      exact rise_lt h3 hx hy (by omega)
theorem rise_last {L : List Ver} {a b : Nat} (h : rise a L = some b) {j : Nat} {x : Ver} (hl : L.length = j + 1) (hx : L[j]? = some x) : x.n = b := by
  have e : L.take j ++ [x] = L := by
    have h1 := List.take_add_one (l := L) (i := j)
    rw [hx] at h1
    have h2 : L.take (j + 1) = L := List.take_of_length_le (by omega)
    rw [h2] at h1
    exact h1.symm
  rw [← e, rise_app] at h
  cases hr : rise a (L.take j) with
  | none => rw [hr] at h; cases h
  | some q =>
    rw [hr] at h
    have := rise_step (r := []) h
    simpa [rise] using this.2.2
theorem posL_at {L : List Ver} {a b : Nat} (h : rise a L = some b) {k : Nat} {x : Ver} (hx : L[k]? = some x) : posL x.n L = some k :=
  posL_some hx rfl fun j y hj hy => by
    have := rise_lt h hy hx hj
    omega
/-- One answer. -/
theorem read_one (m n : Nat) (L : List Ver) : rreadL m L n = readL m L n := by
  cases hm : mayL m L with
  | false => simp [rreadL_bad hm, readL, findL_bad hm]
  | true =>
    obtain ⟨_, hr⟩ := mayL_iff.1 hm
    by_cases hn : n = 0
    · subst hn
      by_cases hw : nowL L = 0
      · have hp : posL 0 L = none := posL_none fun j x hx => by
          have := (rise_mem hr x (List.mem_of_getElem? hx)).1
          omega
        rw [rreadL_now0 hm hw]
        exact (readL_err (mm := 0) (by rw [if_pos rfl, hw]) (findL_none hm hp) (by decide)).symm
      · have hne : L ≠ [] := fun e => hw (by rw [e]; rfl)
        have hpos : 0 < L.length := List.length_pos_iff.2 hne
        obtain ⟨j, hj⟩ : ∃ j, L.length = j + 1 := ⟨L.length - 1, by omega⟩
        obtain ⟨v, hv⟩ : ∃ v, L[j]? = some v := ⟨_, List.getElem?_eq_getElem (by omega)⟩
        rw [rreadL_now hm hw (v := v) (by rw [hj, Nat.add_sub_cancel]; exact hv)]
        have e1 := nowL_last hj hv
        by_cases hs : v.s = 1
        · rw [if_pos hs] at e1
          refine (readL_ok (mm := v.n) (by rw [if_pos rfl, e1]) ?_ hv).symm
          rw [findL_at hm (posL_at hr hv) hv, if_pos hs]
        · rw [if_neg hs] at e1
          exact absurd e1 hw
    · cases hf : findL m L n with
      | mk e k =>
        by_cases he : e = 0
        · subst he
          obtain ⟨v, hv, _⟩ := findL_ok hf
          rw [rreadL_ok hm hn hf hv]
          exact (readL_ok (by rw [if_neg hn]) hf hv).symm
        · rw [rreadL_err hm hn hf he]
          exact (readL_err (by rw [if_neg hn]) hf he).symm
end Go.Proofs.YtkjcpjalldbahaaGreatDoor
end

section
namespace Go.Proofs.YtkjcpjalldbahaaGreatDoor

/-- A byte that a piece may have. -/
def inB (b : UInt8) : Bool := b == 46 || b == 95 || b == 45 || (decide (97 ≤ b.toNat) && decide (b.toNat ≤ 122)) || (decide (48 ≤ b.toNat) && decide (b.toNat ≤ 57))
/-- A piece. -/
def pieceB (l : List UInt8) : Bool := decide (1 ≤ l.length) && decide (l.length ≤ 32) && l.all inB
/-- A text, cut at its slashes. -/
def cuts : List UInt8 → List (List UInt8)
  | [] => [[]]
  | c :: l => if c = 47 then [] :: cuts l else match cuts l with
    | [] => [[c]]
    | h :: t => (c :: h) :: t
/-- A path. -/
def mayB (s : List UInt8) : Bool := decide (s.length ≤ 128) && decide ((cuts s).length ≤ 8) && (cuts s).all pieceB
def piecesL (s : List UInt8) : List (List UInt8) := if mayB s then cuts s else []
def prefB (p : List UInt8) : Bool := p.isEmpty || mayB p
/-- Under: what is behind the prefix. -/
def underB (p s : List UInt8) : Bool := prefB p && mayB s && (p.isEmpty || (p ++ [47]).isPrefixOf s)
def restL (p s : List UInt8) : List UInt8 := if p.isEmpty then s else s.drop (p.length + 1)
/-- The first piece of some, with its slash. -/
def firstL (r : List UInt8) : List UInt8 := match cuts r with
  | [] => []
  | [h] => h
  | h :: _ :: _ => h ++ [47]
def childL (p s : List UInt8) : List UInt8 := if underB p s then firstL (restL p s) else []

theorem cuts_ne (l : List UInt8) : cuts l ≠ [] := by
  cases l with
  | nil => simp [cuts]
  | cons c l =>
    unfold cuts
    split
    · simp
    · split <;> simp
theorem cuts_slash (l : List UInt8) : cuts (47 :: l) = [] :: cuts l := by simp [cuts]
theorem cuts_cons {c : UInt8} (hc : c ≠ 47) (l h : List UInt8) (t : List (List UInt8)) (e : cuts l = h :: t) : cuts (c :: l) = (c :: h) :: t := by
  simp [cuts, hc, e]
/-- A slash behind a text. -/
theorem cuts_app : ∀ (p r : List UInt8), cuts (p ++ 47 :: r) = cuts p ++ cuts r
  | [], r => by simp [cuts]
  | c :: p, r => by
    by_cases hc : c = 47
    · subst hc
      rw [List.cons_append, cuts_slash, cuts_slash, cuts_app p r]; rfl
    · obtain ⟨h, t, e⟩ : ∃ h t, cuts p = h :: t := by
        cases e : cuts p with
        | nil => exact absurd e (cuts_ne p)
        | cons h t => exact ⟨h, t, rfl⟩
      have e2 := cuts_app p r
      rw [e] at e2
      rw [List.cons_append, cuts_cons hc _ h (t ++ cuts r) (by rw [e2]; rfl), cuts_cons hc _ h t e]; rfl
/-- A text without slashes. -/
theorem cuts_one : ∀ (l : List UInt8), 47 ∉ l → cuts l = [l]
  | [], _ => rfl
  | c :: l, h => by
    have hc : c ≠ 47 := fun e => h (by simp [e])
    exact cuts_cons hc l l [] (cuts_one l (fun e => h (by simp [e])))
theorem cuts_noslash : ∀ (l : List UInt8), ∀ x ∈ cuts l, 47 ∉ x
  | [], x, hx => by simp [cuts] at hx; subst hx; simp
  | c :: l, x, hx => by
    have ih := cuts_noslash l
    by_cases hc : c = 47
    · subst hc
      rw [cuts_slash] at hx
      rcases List.mem_cons.1 hx with rfl | hx
      · simp
      · exact ih x hx
    · obtain ⟨h, t, e⟩ : ∃ h t, cuts l = h :: t := by
        cases e : cuts l with
        | nil => exact absurd e (cuts_ne l)
        | cons h t => exact ⟨h, t, rfl⟩
      rw [cuts_cons hc l h t e] at hx
      rw [e] at ih
      rcases List.mem_cons.1 hx with rfl | hx
      · have := ih h (by simp)
        simp [this, Ne.symm hc]
      · exact ih x (by simp [hx])
/-- Pieces with slashes between. -/
def joinL : List (List UInt8) → List UInt8
  | [] => []
  | [h] => h
  | h :: t => h ++ 47 :: joinL t
theorem joinL_two (h x : List UInt8) (t : List (List UInt8)) : joinL (h :: x :: t) = h ++ 47 :: joinL (x :: t) := rfl
theorem join_cuts : ∀ (l : List UInt8), joinL (cuts l) = l
  | [] => rfl
  | c :: l => by
    obtain ⟨h, t, e⟩ : ∃ h t, cuts l = h :: t := by
      cases e : cuts l with
      | nil => exact absurd e (cuts_ne l)
      | cons h t => exact ⟨h, t, rfl⟩
    have ih := join_cuts l
    by_cases hc : c = 47
    · subst hc
      rw [cuts_slash, e, joinL_two, ← e, ih]; rfl
    · rw [cuts_cons hc l h t e]
      rw [e] at ih
      cases t with
      | nil => simp only [joinL] at ih ⊢; rw [ih]
      | cons x t => rw [joinL_two] at ih ⊢; rw [List.cons_append, ih]
theorem cuts_inj {a b : List UInt8} (h : cuts a = cuts b) : a = b := by rw [← join_cuts a, h, join_cuts b]
theorem join_app : ∀ (a b : List (List UInt8)), a ≠ [] → b ≠ [] → joinL (a ++ b) = joinL a ++ 47 :: joinL b
  | [], _, h, _ => absurd rfl h
  | [h], b, _, hb => by
    cases b with
    | nil => exact absurd rfl hb
    | cons x t => rfl
  | h :: x :: t, b, _, hb => by
    rw [List.cons_append, List.cons_append, joinL_two, ← List.cons_append, join_app (x :: t) b (by simp) hb, joinL_two]
    simp
/-- The pieces of one begin with another's just if that, and a slash, is a beginning of it. -/
theorem pre_cuts (p s : List UInt8) : (∃ r, s = p ++ 47 :: r) ↔ ∃ m, m ≠ [] ∧ cuts s = cuts p ++ m := by
  constructor
  · rintro ⟨r, rfl⟩
    exact ⟨cuts r, cuts_ne r, cuts_app p r⟩
  · rintro ⟨m, hm, e⟩
    refine ⟨joinL m, ?_⟩
    rw [← join_cuts s, e, join_app _ _ (cuts_ne p) hm, join_cuts]
theorem inB_slash : inB 47 = false := by decide
theorem piece_noslash {l : List UInt8} (h : pieceB l = true) : 47 ∉ l := by
  intro hm
  unfold pieceB at h
  simp only [Bool.and_eq_true, List.all_eq_true] at h
  have := h.2 47 hm
  rw [inB_slash] at this
  cases this
theorem may_nil : mayB [] = false := by decide
theorem pieces_nil : piecesL [] = [] := by decide
theorem pieces_of {s : List UInt8} (h : mayB s = true) : piecesL s = cuts s := by unfold piecesL; rw [if_pos h]
theorem pieces_no {s : List UInt8} (h : mayB s = false) : piecesL s = [] := by unfold piecesL; rw [if_neg (by simp [h])]
theorem pieces_len (s : List UInt8) : decide (0 < (piecesL s).length) = mayB s := by
  cases h : mayB s
  · rw [pieces_no h]; rfl
  · rw [pieces_of h]
    have := cuts_ne s
    cases e : cuts s with
    | nil => exact absurd e this
    | cons => simp
theorem prefix_iff (p s : List UInt8) : (p ++ [47]).isPrefixOf s = true ↔ ∃ r, s = p ++ 47 :: r := by
  rw [List.isPrefixOf_iff_prefix]
  constructor
  · rintro ⟨r, rfl⟩; exact ⟨r, by simp⟩
  · rintro ⟨r, rfl⟩; exact ⟨r, by simp⟩
/-- Under, by pieces. -/
theorem under_pieces (p s : List UInt8) : underB p s = true ↔ prefB p = true ∧ ∃ m, m ≠ [] ∧ piecesL s = piecesL p ++ m := by
  unfold underB
  cases hs : mayB s with
  | false =>
    simp only [Bool.and_false, Bool.false_and, Bool.false_eq_true, false_iff]
    rintro ⟨_, m, hm, e⟩
    rw [pieces_no hs] at e
    have := congrArg List.length e
    simp at this
    exact hm (List.length_eq_zero_iff.1 (by omega))
  | true =>
    cases p with
    | nil =>
      simp only [prefB, List.isEmpty_nil, Bool.true_or, Bool.and_true, true_and, pieces_nil, List.nil_append]
      rw [pieces_of hs]
      exact ⟨fun _ => ⟨_, cuts_ne s, rfl⟩, fun _ => trivial⟩
    | cons c p =>
      have e0 : (c :: p).isEmpty = false := rfl
      cases hp : mayB (c :: p) with
      | false => simp [prefB, hp]
      | true =>
        rw [pieces_of hs, pieces_of hp]
        simp only [prefB, e0, hp, Bool.false_or, Bool.and_true, Bool.true_and, true_and]
        rw [prefix_iff, pre_cuts]
theorem rest_of {p s : List UInt8} (h : underB p s = true) : cuts (restL p s) = (piecesL s).drop (piecesL p).length := by
  have hs : mayB s = true := by unfold underB at h; simp only [Bool.and_eq_true] at h; exact h.1.2
  cases p with
  | nil => rw [pieces_nil, pieces_of hs]; rfl
  | cons c p =>
    have hx := h
    unfold underB at hx
    simp only [Bool.and_eq_true, Bool.or_eq_true] at hx
    have hp : mayB (c :: p) = true := by
      have := hx.1.1
      simpa [prefB] using this
    have h2 : (c :: p ++ [47]).isPrefixOf s = true := by
      rcases hx.2 with h | h
      · cases h
      · exact h
    obtain ⟨r, rfl⟩ := (prefix_iff _ _).1 h2
    rw [pieces_of hs, pieces_of hp, cuts_app]
    have e : restL (c :: p) (c :: p ++ 47 :: r) = r := by
      unfold restL
      rw [if_neg (by simp)]
      rw [show (c :: p).length + 1 = (c :: p ++ [47]).length by simp, show c :: p ++ 47 :: r = (c :: p ++ [47]) ++ r by simp, List.drop_left]
    rw [e, List.drop_left]
/-- The child, by pieces. -/
theorem child_pieces {p s : List UInt8} (h : underB p s = true) (x : List UInt8) (t : List (List UInt8)) (e : (piecesL s).drop (piecesL p).length = x :: t) :
    childL p s = if t.isEmpty then x else x ++ [47] := by
  unfold childL firstL
  rw [if_pos h, rest_of h, e]
  cases t <;> rfl
theorem piece_ne {x : List UInt8} (h : pieceB x = true) : x ≠ [] := by
  rintro rfl
  cases h
theorem under_may {p s : List UInt8} (h : underB p s = true) : mayB s = true := by unfold underB at h; simp only [Bool.and_eq_true] at h; exact h.1.2
theorem under_pref {p s : List UInt8} (h : underB p s = true) : prefB p = true := by unfold underB at h; simp only [Bool.and_eq_true] at h; exact h.1.1
theorem pieces_mem {s x : List UInt8} (h : x ∈ piecesL s) : pieceB x = true := by
  cases hm : mayB s with
  | false => rw [pieces_no hm] at h; cases h
  | true =>
    rw [pieces_of hm] at h
    unfold mayB at hm
    simp only [Bool.and_eq_true, List.all_eq_true] at hm
    exact hm.2 x h
theorem child_ne {p s : List UInt8} (h : underB p s = true) : childL p s ≠ [] := by
  obtain ⟨_, m, hm, e⟩ := (under_pieces p s).1 h
  cases m with
  | nil => exact absurd rfl hm
  | cons x t =>
    have e2 : (piecesL s).drop (piecesL p).length = x :: t := by rw [e, List.drop_left]
    rw [child_pieces h x t e2]
    have : pieceB x = true := pieces_mem (s := s) (by rw [e]; simp)
    have := piece_ne this
    split
    · exact this
    · simp
theorem child_is (p s : List UInt8) : underB p s = !(childL p s).isEmpty := by
  cases h : underB p s with
  | false => unfold childL; rw [if_neg (by simp [h])]; rfl
  | true =>
    have := child_ne h
    cases e : childL p s with
    | nil => exact absurd e this
    | cons => rfl
/-- Under goes on. -/
theorem under_trans {a b c : List UInt8} (h1 : underB a b = true) (h2 : underB b c = true) : underB a c = true := by
  obtain ⟨ha, m, hm, e1⟩ := (under_pieces a b).1 h1
  obtain ⟨_, k, hk, e2⟩ := (under_pieces b c).1 h2
  exact (under_pieces a c).2 ⟨ha, m ++ k, by simp [hm], by rw [e2, e1, List.append_assoc]⟩
theorem under_irr (a : List UInt8) : underB a a = false := by
  rw [← Bool.not_eq_true]
  intro h
  obtain ⟨_, m, hm, e⟩ := (under_pieces a a).1 h
  have := congrArg List.length e
  simp at this
  exact hm this
/-- Of two prefixes of one path, one is under the other. -/
theorem under_beside {a b c : List UInt8} (ha : a ≠ []) (hb : b ≠ []) (h1 : underB a c = true) (h2 : underB b c = true) : a = b ∨ underB a b = true ∨ underB b a = true := by
  obtain ⟨pa, m, hm, e1⟩ := (under_pieces a c).1 h1
  obtain ⟨pb, k, hk, e2⟩ := (under_pieces b c).1 h2
  have ma : mayB a = true := by cases a with
    | nil => exact absurd rfl ha
    | cons => simpa [prefB] using pa
  have mb : mayB b = true := by cases b with
    | nil => exact absurd rfl hb
    | cons => simpa [prefB] using pb
  rw [e1] at e2
  rcases Nat.lt_trichotomy (piecesL a).length (piecesL b).length with hlt | heq | hgt
  · refine .inr (.inl ((under_pieces a b).2 ⟨pa, (piecesL b).drop (piecesL a).length, ?_, ?_⟩))
    · intro e
      have := congrArg List.length e
      simp at this
      omega
    · have := (List.append_eq_append_iff.1 e2)
      rcases this with ⟨x, hx, _⟩ | ⟨x, hx, _⟩
      · rw [hx, List.drop_left]
      · have := congrArg List.length hx
        simp at this
        omega
  · left
    have := List.append_inj_left e2 heq
    rw [pieces_of ma, pieces_of mb] at this
    exact cuts_inj this
  · refine .inr (.inr ((under_pieces b a).2 ⟨pb, (piecesL a).drop (piecesL b).length, ?_, ?_⟩))
    · intro e
      have := congrArg List.length e
      simp at this
      omega
    · have := (List.append_eq_append_iff.1 e2)
      rcases this with ⟨x, hx, _⟩ | ⟨x, hx, _⟩
      · have := congrArg List.length hx
        simp at this
        omega
      · rw [hx, List.drop_left]
end Go.Proofs.YtkjcpjalldbahaaGreatDoor
end
