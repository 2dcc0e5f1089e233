/- Plain: texts cut at slashes, pieces, paths, what is under what, children. -/
import Derived.Test.YtkjcpjalldbahaaGreatDoorM00
section
namespace Go.Proofs.YtkjcpjalldbahaaGreatDoor

/-- A byte that a piece may have. -/
def inB (b : UInt8) : Bool := b == 46 || b == 95 || b == 45 || (decide (97 ≤ b.toNat) && decide (b.toNat ≤ 122)) || (decide (48 ≤ b.toNat) && decide (b.toNat ≤ 57))
/-- A piece. -/
def pieceB (l : List UInt8) : Bool := decide (1 ≤ l.length) && decide (l.length ≤ 32) && l.all inB
/-- A text, cut at its slashes. -/
def cuts : List UInt8 → List (List UInt8)
  | [] => [[]]
  | c :: l => if c = 47 then [] :: cuts l else match cuts l with
    | [] => [[c]]
    | h :: t => (c :: h) :: t
/-- A path. -/
def mayB (s : List UInt8) : Bool := decide (s.length ≤ 128) && decide ((cuts s).length ≤ 8) && (cuts s).all pieceB
def piecesL (s : List UInt8) : List (List UInt8) := if mayB s then cuts s else []
def prefB (p : List UInt8) : Bool := p.isEmpty || mayB p
/-- Under: what is behind the prefix. -/
def underB (p s : List UInt8) : Bool := prefB p && mayB s && (p.isEmpty || (p ++ [47]).isPrefixOf s)
def restL (p s : List UInt8) : List UInt8 := if p.isEmpty then s else s.drop (p.length + 1)
/-- The first piece of some, with its slash. -/
def firstL (r : List UInt8) : List UInt8 := match cuts r with
  | [] => []
  | [h] => h
  | h :: _ :: _ => h ++ [47]
def childL (p s : List UInt8) : List UInt8 := if underB p s then firstL (restL p s) else []

theorem cuts_ne (l : List UInt8) : cuts l ≠ [] := by
  cases l with
  | nil => simp [cuts]
  | cons c l =>
    unfold cuts
    split
    · simp
    · split <;> simp
theorem cuts_slash (l : List UInt8) : cuts (47 :: l) = [] :: cuts l := by simp [cuts]
theorem cuts_cons {c : UInt8} (hc : c ≠ 47) (l h : List UInt8) (t : List (List UInt8)) (e : cuts l = h :: t) : cuts (c :: l) = (c :: h) :: t := by
  simp [cuts, hc, e]
/-- A slash behind a text. -/
theorem cuts_app : ∀ (p r : List UInt8), cuts (p ++ 47 :: r) = cuts p ++ cuts r
  | [], r => by simp [cuts]
  | c :: p, r => by
    by_cases hc : c = 47
    · subst hc
      rw [List.cons_append, cuts_slash, cuts_slash, cuts_app p r]; rfl
    · obtain ⟨h, t, e⟩ : ∃ h t, cuts p = h :: t := by
        cases e : cuts p with
        | nil => exact absurd e (cuts_ne p)
        | cons h t => exact ⟨h, t, rfl⟩
      have e2 := cuts_app p r
      rw [e] at e2
      rw [List.cons_append, cuts_cons hc _ h (t ++ cuts r) (by rw [e2]; rfl), cuts_cons hc _ h t e]; rfl
/-- A text without slashes. -/
theorem cuts_one : ∀ (l : List UInt8), 47 ∉ l → cuts l = [l]
  | [], _ => rfl
  | c :: l, h => by
    have hc : c ≠ 47 := fun e => h (by simp [e])
    exact cuts_cons hc l l [] (cuts_one l (fun e => h (by simp [e])))
theorem cuts_noslash : ∀ (l : List UInt8), ∀ x ∈ cuts l, 47 ∉ x
  | [], x, hx => by simp [cuts] at hx; subst hx; simp
  | c :: l, x, hx => by
    have ih := cuts_noslash l
    by_cases hc : c = 47
    · subst hc
      rw [cuts_slash] at hx
      rcases List.mem_cons.1 hx with rfl | hx
      · simp
      · exact ih x hx
    · obtain ⟨h, t, e⟩ : ∃ h t, cuts l = h :: t := by
        cases e : cuts l with
        | nil => exact absurd e (cuts_ne l)
        | cons h t => exact ⟨h, t, rfl⟩
      rw [cuts_cons hc l h t e] at hx
      rw [e] at ih
      rcases List.mem_cons.1 hx with rfl | hx
      · have := ih h (by simp)
        simp [this, Ne.symm hc]
      · exact ih x (by simp [hx])
/-- Pieces with slashes between. -/
def joinL : List (List UInt8) → List UInt8
  | [] => []
  | [h] => h
  | h :: t => h ++ 47 :: joinL t
theorem joinL_two (h x : List UInt8) (t : List (List UInt8)) : joinL (h :: x :: t) = h ++ 47 :: joinL (x :: t) := rfl
theorem join_cuts : ∀ (l : List UInt8), joinL (cuts l) = l
  | [] => rfl
  | c :: l => by
    obtain ⟨h, t, e⟩ : ∃ h t, cuts l = h :: t := by
      cases e : cuts l with
      | nil => exact absurd e (cuts_ne l)
      | cons h t => exact ⟨h, t, rfl⟩
    have ih := join_cuts l
    by_cases hc : c = 47
    · subst hc
      rw [cuts_slash, e, joinL_two, ← e, ih]; rfl
    · rw [cuts_cons hc l h t e]
      rw [e] at ih
      cases t with
      | nil => simp only [joinL] at ih ⊢; rw [ih]
      | cons x t => rw [joinL_two] at ih ⊢; rw [List.cons_append, ih]
theorem cuts_inj {a b : List UInt8} (h : cuts a = cuts b) : a = b := by rw [← join_cuts a, h, join_cuts b]
theorem join_app : ∀ (a b : List (List UInt8)), a ≠ [] → b ≠ [] → joinL (a ++ b) = joinL a ++ 47 :: joinL b
  | [], _, h, _ => absurd rfl h
  | [h], b, _, hb => by
    cases b with
    | nil => exact absurd rfl hb
    | cons x t => rfl
  | h :: x :: t, b, _, hb => by
    rw [List.cons_append, List.cons_append, joinL_two, ← List.cons_append, join_app (x :: t) b (by simp) hb, joinL_two]
    simp
/-- The pieces of one begin with another's just if that, and a slash, is a beginning of it. -/
theorem pre_cuts (p s : List UInt8) : (∃ r, s = p ++ 47 :: r) ↔ ∃ m, m ≠ [] ∧ cuts s = cuts p ++ m := by
  constructor
  · rintro ⟨r, rfl⟩
    exact ⟨cuts r, cuts_ne r, cuts_app p r⟩
  · rintro ⟨m, hm, e⟩
    refine ⟨joinL m, ?_⟩
    rw [← join_cuts s, e, join_app _ _ (cuts_ne p) hm, join_cuts]
theorem inB_slash : inB 47 = false := by decide
theorem piece_noslash {l : List UInt8} (h : pieceB l = true) : 47 ∉ l := by
  intro hm
  unfold pieceB at h
  simp only [Bool.and_eq_true, List.all_eq_true] at h
  have := h.2 47 hm
  rw [inB_slash] at this
  cases this
theorem may_nil : mayB [] = false := by decide
theorem pieces_nil : piecesL [] = [] := by decide
theorem pieces_of {s : List UInt8} (h : mayB s = true) : piecesL s = cuts s := by unfold piecesL; rw [if_pos h]
theorem pieces_no {s : List UInt8} (h : mayB s = false) : piecesL s = [] := by unfold piecesL; rw [if_neg (by simp [h])]
theorem pieces_len (s : List UInt8) : decide (0 < (piecesL s).length) = mayB s := by
  cases h : mayB s
  · rw [pieces_no h]; rfl
  · rw [pieces_of h]
    have := cuts_ne s
    cases e : cuts s with
    | nil => exact absurd e this
    | cons => simp
theorem prefix_iff (p s : List UInt8) : (p ++ [47]).isPrefixOf s = true ↔ ∃ r, s = p ++ 47 :: r := by
  rw [List.isPrefixOf_iff_prefix]
  constructor
  · rintro ⟨r, rfl⟩; exact ⟨r, by simp⟩
  · rintro ⟨r, rfl⟩; exact ⟨r, by simp⟩
/-- Under, by pieces. -/
theorem under_pieces (p s : List UInt8) : underB p s = true ↔ prefB p = true ∧ ∃ m, m ≠ [] ∧ piecesL s = piecesL p ++ m := by
  unfold underB
  cases hs : mayB s with
  | false =>
    simp only [Bool.and_false, Bool.false_and, Bool.false_eq_true, false_iff]
    rintro ⟨_, m, hm, e⟩
    rw [pieces_no hs] at e
    have := congrArg List.length e
    simp at this
    exact hm (List.length_eq_zero_iff.1 (by omega))
  | true =>
    cases p with
    | nil =>
      simp only [prefB, List.isEmpty_nil, Bool.true_or, Bool.and_true, true_and, pieces_nil, List.nil_append]
      rw [pieces_of hs]
      exact ⟨fun _ => ⟨_, cuts_ne s, rfl⟩, fun _ => trivial⟩
    | cons c p =>
      have e0 : (c :: p).isEmpty = false := rfl
      cases hp : mayB (c :: p) with
      | false => simp [prefB, hp]
      | true =>
        rw [pieces_of hs, pieces_of hp]
        simp only [prefB, e0, hp, Bool.false_or, Bool.and_true, Bool.true_and, true_and]
        rw [prefix_iff, pre_cuts]
theorem rest_of {p s : List UInt8} (h : underB p s = true) : cuts (restL p s) = (piecesL s).drop (piecesL p).length := by
  have hs : mayB s = true := by unfold underB at h; simp only [Bool.and_eq_true] at h; exact h.1.2
  cases p with
  | nil => rw [pieces_nil, pieces_of hs]; rfl
  | cons c p =>
    have hx := h
    unfold underB at hx
    simp only [Bool.and_eq_true, Bool.or_eq_true] at hx
    have hp : mayB (c :: p) = true := by
      have := hx.1.1
      simpa [prefB] using this
    have h2 : (c :: p ++ [47]).isPrefixOf s = true := by
      rcases hx.2 with h | h
      · cases h
      · exact h
    obtain ⟨r, rfl⟩ := (prefix_iff _ _).1 h2
    rw [pieces_of hs, pieces_of hp, cuts_app]
    have e : restL (c :: p) (c :: p ++ 47 :: r) = r := by
      unfold restL
      rw [if_neg (by simp)]
      rw [show (c :: p).length + 1 = (c :: p ++ [47]).length by simp, show c :: p ++ 47 :: r = (c :: p ++ [47]) ++ r by simp, List.drop_left]
    rw [e, List.drop_left]
/-- The child, by pieces. -/
theorem child_pieces {p s : List UInt8} (h : underB p s = true) (x : List UInt8) (t : List (List UInt8)) (e : (piecesL s).drop (piecesL p).length = x :: t) :
    childL p s = if t.isEmpty then x else x ++ [47] := by
  unfold childL firstL
  rw [if_pos h, rest_of h, e]
  cases t <;> rfl
theorem piece_ne {x : List UInt8} (h : pieceB x = true) : x ≠ [] := by
  rintro rfl
  cases h
theorem under_may {p s : List UInt8} (h : underB p s = true) : mayB s = true := by unfold underB at h; simp only [Bool.and_eq_true] at h; exact h.1.2
theorem under_pref {p s : List UInt8} (h : underB p s = true) : prefB p = true := by unfold underB at h; simp only [Bool.and_eq_true] at h; exact h.1.1
theorem pieces_mem {s x : List UInt8} (h : x ∈ piecesL s) : pieceB x = true := by
  cases hm : mayB s with
  | false => rw [pieces_no hm] at h; cases h
  | true =>
    rw [pieces_of hm] at h
    unfold mayB at hm
    simp only [Bool.and_eq_true, List.all_eq_true] at hm
    exact hm.2 x h
theorem child_ne {p s : List UInt8} (h : underB p s = true) : childL p s ≠ [] := by
  obtain ⟨_, m, hm, e⟩ := (under_pieces p s).1 h
  cases m with
  | nil => exact absurd rfl hm
  | cons x t =>
    have e2 : (piecesL s).drop (piecesL p).length = x :: t := by rw [e, List.drop_left]
    rw [child_pieces h x t e2]
    have : pieceB x = true := pieces_mem (s := s) (by rw [e]; simp)
    have := piece_ne this
    split
    · exact this
    · simp
theorem child_is (p s : List UInt8) : underB p s = !(childL p s).isEmpty := by
  cases h : underB p s with
  | false => unfold childL; rw [if_neg (by simp [h])]; rfl
  | true =>
    have := child_ne h
    cases e : childL p s with
    | nil => exact absurd e this
    | cons => rfl
/-- Under goes on. -/
theorem under_trans {a b c : List UInt8} (h1 : underB a b = true) (h2 : underB b c = true) : underB a c = true := by
  obtain ⟨ha, m, hm, e1⟩ := (under_pieces a b).1 h1
  obtain ⟨_, k, hk, e2⟩ := (under_pieces b c).1 h2
  exact (under_pieces a c).2 ⟨ha, m ++ k, by simp [hm], by rw [e2, e1, List.append_assoc]⟩
theorem under_irr (a : List UInt8) : underB a a = false := by
  rw [← Bool.not_eq_true]
  intro h
  obtain ⟨_, m, hm, e⟩ := (under_pieces a a).1 h
  have := congrArg List.length e
  simp at this
  exact hm this
/-- Of two prefixes of one path, one is under the other. -/
theorem under_beside {a b c : List UInt8} (ha : a ≠ []) (hb : b ≠ []) (h1 : underB a c = true) (h2 : underB b c = true) : a = b ∨ underB a b = true ∨ underB b a = true := by
  obtain ⟨pa, m, hm, e1⟩ := (under_pieces a c).1 h1
  obtain ⟨pb, k, hk, e2⟩ := (under_pieces b c).1 h2
  have ma : mayB a = true := by cases a with
    | nil => exact absurd rfl ha
    | cons => simpa [prefB] using pa
  have mb : mayB b = true := by cases b with
    | nil => exact absurd rfl hb
    | cons => simpa [prefB] using pb
  rw [e1] at e2
  rcases Nat.lt_trichotomy (piecesL a).length (piecesL b).length with hlt | heq | hgt
  · refine .inr (.inl ((under_pieces a b).2 ⟨pa, (piecesL b).drop (piecesL a).length, ?_, ?_⟩))
    · intro e
      have := congrArg List.length e
      simp at this
      omega
    · have := (List.append_eq_append_iff.1 e2)
      rcases this with ⟨x, hx, _⟩ | ⟨x, hx, _⟩
      · rw [hx, List.drop_left]
      · have := congrArg List.length hx
        simp at this
        omega
  · left
    have := List.append_inj_left e2 heq
    rw [pieces_of ma, pieces_of mb] at this
    exact cuts_inj this
  · refine .inr (.inr ((under_pieces b a).2 ⟨pb, (piecesL a).drop (piecesL b).length, ?_, ?_⟩))
    · intro e
      have := congrArg List.length e
      simp at this
      omega
    · have := (List.append_eq_append_iff.1 e2)
      rcases this with ⟨x, hx, _⟩ | ⟨x, hx, _⟩
      · have := congrArg List.length hx
        simp at this
        omega
      · rw [hx, List.drop_left]
end Go.Proofs.YtkjcpjalldbahaaGreatDoor
end
