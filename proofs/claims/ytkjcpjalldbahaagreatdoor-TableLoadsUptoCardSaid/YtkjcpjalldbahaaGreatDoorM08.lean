/- Plain: secrets by rising paths; what edits, loads and drops make of them. Plain: versions that rise, one more, one out. -/
import Derived.Test.YtkjcpjalldbahaaGreatDoorM05
import Derived.Test.YtkjcpjalldbahaaGreatDoorM07
section
namespace Go.Proofs.YtkjcpjalldbahaaGreatDoor
open Go.RowKit

/-- A row: its path, its cell's last number, its versions. -/
structure RowP where
  p : ByteArray
  m : Nat
  L : List Ver
/-- A path's bytes. -/
def keyR (r : RowP) : List UInt8 := r.p.data.toList
theorem path_ext {a b : ByteArray} (h : a.data.toList = b.data.toList) : a = b := by
  have e : a.data = b.data := Array.toList_inj.1 h
  cases a; cases b; simp_all
/-- By rising paths. -/
def RisesR (R : List RowP) : Prop := R.Pairwise fun x y => keyR x < keyR y
theorem risesR_map {R : List RowP} : RisesR R ↔ Rises (R.map keyR) := List.pairwise_map.symm
theorem RisesR.nil : RisesR [] := List.Pairwise.nil
theorem lt_not {a b : List UInt8} (h : a < b) (e : a = b) : False := by
  subst e
  exact List.lt_irrefl a h
theorem RisesR.inj {R : List RowP} (h : RisesR R) {x y : RowP} (hx : x ∈ R) (hy : y ∈ R) (e : x.p = y.p) : x = y := by
  induction R with
  | nil => cases hx
  | cons z t ih =>
    obtain ⟨h1, h2⟩ := List.pairwise_cons.1 h
    have ek : keyR x = keyR y := by unfold keyR; rw [e]
    rcases List.mem_cons.1 hx with e1 | hx' <;> rcases List.mem_cons.1 hy with e2 | hy'
    · rw [e1, e2]
    · rw [e1] at ek; exact (lt_not (h1 y hy') ek).elim
    · rw [e2] at ek; exact (lt_not (h1 x hx') ek.symm).elim
    · exact ih h2 hx' hy'
theorem RisesR.nodup {R : List RowP} (h : RisesR R) : (R.map (·.p)).Nodup := by
  have hi : ∀ {a b : RowP}, keyR a < keyR b → a.p ≠ b.p := fun {a b} q e => lt_not q (by unfold keyR; rw [e])
  exact List.pairwise_map.2 (List.Pairwise.imp hi h)
theorem RisesR.nodupR {R : List RowP} (h : RisesR R) : R.Nodup := by
  have hi : ∀ {a b : RowP}, keyR a < keyR b → a ≠ b := fun {a b} q e => lt_not q (by rw [e])
  exact List.Pairwise.imp hi h
theorem rows_ext : ∀ {R S : List RowP}, RisesR R → RisesR S → (∀ x, x ∈ R ↔ x ∈ S) → R = S
  | [], [], _, _, _ => rfl
  | [], y :: t, _, _, h => by have := (h y).2 (by simp); cases this
  | x :: t, [], _, _, h => by have := (h x).1 (by simp); cases this
  | x :: t, y :: u, h1, h2, h => by
    have p1 := List.pairwise_cons.1 h1
    have p2 := List.pairwise_cons.1 h2
    have e : x = y := by
      have q1 := (h x).1 (by simp)
      have q2 := (h y).2 (by simp)
      rcases List.mem_cons.1 q1 with e | q1
      · exact e
      · rcases List.mem_cons.1 q2 with e | q2
        · exact e.symm
        · exact (List.lt_irrefl _ (List.lt_trans (p1.1 y q2) (p2.1 x q1))).elim
    subst e
    congr 1
    refine rows_ext p1.2 p2.2 fun z => ?_
    constructor
    · intro hz
      rcases List.mem_cons.1 ((h z).1 (by simp [hz])) with rfl | q
      · exact (lt_not (p1.1 z hz) rfl).elim
      · exact q
    · intro hz
      rcases List.mem_cons.1 ((h z).2 (by simp [hz])) with rfl | q
      · exact (lt_not (p2.1 z hz) rfl).elim
      · exact q
/-- Rows with one, in its place. -/
def withR (r : RowP) : List RowP → List RowP
  | [] => [r]
  | x :: t => if keyR x < keyR r then x :: withR r t else if keyR x = keyR r then r :: t else r :: x :: t
/-- Rows without a path. -/
def dropR (p : ByteArray) (R : List RowP) : List RowP := R.filter fun x => decide (x.p ≠ p)
theorem dropR_mem {p : ByteArray} {R : List RowP} {x : RowP} : x ∈ dropR p R ↔ x ∈ R ∧ x.p ≠ p := by simp [dropR]
theorem dropR_rises {p : ByteArray} {R : List RowP} (h : RisesR R) : RisesR (dropR p R) := h.sublist List.filter_sublist
theorem withR_mem {r x : RowP} : ∀ {R : List RowP}, RisesR R → (x ∈ withR r R ↔ x = r ∨ (x ∈ R ∧ x.p ≠ r.p))
  | [], _ => by simp [withR]
  | y :: t, h => by
    obtain ⟨h1, h2⟩ := List.pairwise_cons.1 h
    unfold withR
    split
    · rename_i hlt
      rw [List.mem_cons, withR_mem h2, List.mem_cons]
      constructor
      · rintro (rfl | rfl | ⟨q1, q2⟩)
        · exact .inr ⟨.inl rfl, fun e => lt_not hlt (by unfold keyR; rw [e])⟩
        · exact .inl rfl
        · exact .inr ⟨.inr q1, q2⟩
      · rintro (rfl | ⟨rfl | q1, q2⟩)
        · exact .inr (.inl rfl)
        · exact .inl rfl
        · exact .inr (.inr ⟨q1, q2⟩)
    · split
      · rename_i _ he
        rw [List.mem_cons, List.mem_cons]
        have hp : y.p = r.p := path_ext he
        constructor
        · rintro (rfl | q)
          · exact .inl rfl
          · exact .inr ⟨.inr q, fun e => lt_not (h1 x q) (by unfold keyR; rw [hp, e])⟩
        · rintro (rfl | ⟨rfl | q1, q2⟩)
          · exact .inl rfl
          · exact absurd hp q2
          · exact .inr q1
      · rename_i hn he
        have hlt : keyR r < keyR y := lt_tri _ _ hn he
        rw [List.mem_cons]
        constructor
        · rintro (rfl | q)
          · exact .inl rfl
          · refine .inr ⟨q, fun e => ?_⟩
            rcases List.mem_cons.1 q with rfl | q
            · exact lt_not hlt (by unfold keyR; rw [e])
            · exact lt_not (List.lt_trans hlt (h1 x q)) (by unfold keyR; rw [e])
        · rintro (rfl | ⟨q, _⟩)
          · exact .inl rfl
          · exact .inr q
theorem withR_rises {r : RowP} : ∀ {R : List RowP}, RisesR R → RisesR (withR r R)
  | [], _ => by simp [withR, RisesR]
  | y :: t, h => by
    obtain ⟨h1, h2⟩ := List.pairwise_cons.1 h
    unfold withR
    split
    · rename_i hlt
      refine List.pairwise_cons.2 ⟨fun z hz => ?_, withR_rises h2⟩
      rcases (withR_mem h2).1 hz with rfl | ⟨q, _⟩
      · exact hlt
      · exact h1 z q
    · split
      · rename_i _ he
        refine List.pairwise_cons.2 ⟨fun z hz => ?_, h2⟩
        rw [← he]
        exact h1 z hz
      · rename_i hn he
        have hlt : keyR r < keyR y := lt_tri _ _ hn he
        refine List.pairwise_cons.2 ⟨fun z hz => ?_, h⟩
        rcases List.mem_cons.1 hz with rfl | hz
        · exact hlt
        · exact List.lt_trans hlt (h1 z hz)
theorem withR_perm {r : RowP} {R : List RowP} (h : RisesR R) : (withR r R).Perm (r :: dropR r.p R) := by
  refine (List.perm_ext_iff_of_nodup (withR_rises h).nodupR (List.nodup_cons.2 ⟨fun q => (dropR_mem.1 q).2 rfl, (dropR_rises h).nodupR⟩)).2 fun x => ?_
  rw [withR_mem h, List.mem_cons, dropR_mem]
theorem withR_drop {r : RowP} {R : List RowP} (h : RisesR R) : withR r (dropR r.p R) = withR r R := by
  refine rows_ext (withR_rises (dropR_rises h)) (withR_rises h) fun x => ?_
  rw [withR_mem (dropR_rises h), withR_mem h, dropR_mem]
  constructor
  · rintro (rfl | ⟨⟨q1, q2⟩, _⟩)
    · exact .inl rfl
    · exact .inr ⟨q1, q2⟩
  · rintro (rfl | ⟨q1, q2⟩)
    · exact .inl rfl
    · exact .inr ⟨⟨q1, q2⟩, q2⟩
/-- The row of a path. -/
def lookR (R : List RowP) (p : ByteArray) : Option RowP := R.find? fun x => decide (x.p = p)
theorem lookR_mem {R : List RowP} {p : ByteArray} {r : RowP} (h : lookR R p = some r) : r ∈ R ∧ r.p = p :=
  ⟨List.mem_of_find?_eq_some h, by simpa using List.find?_some h⟩
theorem lookR_none {R : List RowP} {p : ByteArray} : lookR R p = none ↔ ∀ x ∈ R, x.p ≠ p := by simp [lookR]
theorem lookR_of {R : List RowP} (h : RisesR R) {r : RowP} (hr : r ∈ R) : lookR R r.p = some r := by
  cases e : lookR R r.p with
  | none => exact absurd rfl (lookR_none.1 e r hr)
  | some y =>
    obtain ⟨h1, h2⟩ := lookR_mem e
    rw [h.inj h1 hr h2]
theorem dropR_none {R : List RowP} {p : ByteArray} (h : lookR R p = none) : dropR p R = R := by
  refine List.filter_eq_self.2 fun x hx => ?_
  simpa using lookR_none.1 h x hx
theorem dropR_some {R : List RowP} (h : RisesR R) {p : ByteArray} {r : RowP} (hr : lookR R p = some r) : R.Perm (r :: dropR p R) := by
  obtain ⟨h1, h2⟩ := lookR_mem hr
  refine (List.perm_ext_iff_of_nodup h.nodupR (List.nodup_cons.2 ⟨fun q => (dropR_mem.1 q).2 h2, (dropR_rises h).nodupR⟩)).2 fun x => ?_
  rw [List.mem_cons, dropR_mem]
  constructor
  · intro hx
    by_cases e : x.p = p
    · exact .inl (h.inj hx h1 (e.trans h2.symm))
    · exact .inr ⟨hx, e⟩
  · rintro (rfl | ⟨q, _⟩)
    · exact h1
    · exact q
/-- How many bytes a path and its texts have. -/
def szR (r : RowP) : Nat := r.p.size + sizeL r.L
def bytesR (R : List RowP) : Nat := (R.map szR).sum
theorem bytesR_nil : bytesR [] = 0 := rfl
theorem bytesR_cons (r : RowP) (R : List RowP) : bytesR (r :: R) = szR r + bytesR R := by simp [bytesR]
theorem bytesR_app (R S : List RowP) : bytesR (R ++ S) = bytesR R + bytesR S := by simp [bytesR]
theorem bytesR_perm {R S : List RowP} (h : R.Perm S) : bytesR R = bytesR S := (h.map szR).sum_nat
/-- What a path has, of bytes. -/
def oldR (R : List RowP) (p : ByteArray) : Nat := (lookR R p).elim 0 szR
def hasR (R : List RowP) (p : ByteArray) : Bool := (lookR R p).isSome
theorem bytes_drop {R : List RowP} (h : RisesR R) (p : ByteArray) : bytesR (dropR p R) + oldR R p = bytesR R := by
  unfold oldR
  cases e : lookR R p with
  | none => rw [dropR_none e]; rfl
  | some r => rw [bytesR_perm (dropR_some h e), bytesR_cons]; simp; omega
theorem bytes_with {R : List RowP} (h : RisesR R) (r : RowP) : bytesR (withR r R) + oldR R r.p = bytesR R + szR r := by
  have h1 := bytes_drop h r.p
  rw [bytesR_perm (withR_perm h), bytesR_cons]
  omega
theorem len_drop {R : List RowP} (h : RisesR R) (p : ByteArray) : (dropR p R).length + (if hasR R p then 1 else 0) = R.length := by
  unfold hasR
  cases e : lookR R p with
  | none => rw [dropR_none e]; rfl
  | some r => rw [(dropR_some h e).length_eq]; rfl
theorem len_with {R : List RowP} (h : RisesR R) (r : RowP) : (withR r R).length + (if hasR R r.p then 1 else 0) = R.length + 1 := by
  have h1 := len_drop h r.p
  rw [(withR_perm h).length_eq, List.length_cons]
  omega
theorem len_with_le {R : List RowP} (h : RisesR R) (r : RowP) : (withR r R).length ≤ R.length + 1 := by
  have := len_with h r
  omega
theorem len_drop_le (p : ByteArray) (R : List RowP) : (dropR p R).length ≤ R.length := List.length_filter_le _ _
theorem lookR_with {R : List RowP} (h : RisesR R) (r : RowP) (p : ByteArray) : lookR (withR r R) p = if r.p = p then some r else lookR R p := by
  by_cases e : r.p = p
  · subst e
    rw [if_pos rfl, lookR_of (withR_rises h) ((withR_mem h).2 (.inl rfl))]
  · rw [if_neg e]
    cases hl : lookR R p with
    | none =>
      refine lookR_none.2 fun x hx => ?_
      rcases (withR_mem h).1 hx with rfl | ⟨q, _⟩
      · exact e
      · exact lookR_none.1 hl x q
    | some y =>
      obtain ⟨h1, h2⟩ := lookR_mem hl
      rw [← h2]
      exact lookR_of (withR_rises h) ((withR_mem h).2 (.inr ⟨h1, fun q => e (q.symm.trans h2)⟩))

/-- What a table may have. -/
structure OkR (r : RowP) : Prop where
  path : mayB r.p.data.toList = true
  cell : mayL r.m r.L = true
  some_ : r.L ≠ []
  num : r.m < 18446744073709551616
theorem OkR.len {r : RowP} (h : OkR r) : r.L.length ≤ 8 := (mayL_iff.1 h.cell).1
theorem okV_size {v : Ver} (h : okV v = true) : v.t.size ≤ 4096 := by
  unfold okV at h
  split at h
  · simpa using h
  · split at h
    · have : v.t.size = 0 := by simpa using h
      omega
    · split at h
      · have : v.t.size = 0 := by simpa using h
        omega
      · cases h
theorem sizeL_le : ∀ {L : List Ver}, (∀ v ∈ L, v.t.size ≤ 4096) → sizeL L ≤ L.length * 4096
  | [], _ => Nat.zero_le _
  | v :: t, h => by
    have h1 := h v (by simp)
    have h2 := sizeL_le (L := t) fun x hx => h x (by simp [hx])
    simp only [sizeL, List.length_cons]
    omega
theorem mayL_size {m : Nat} {L : List Ver} (h : mayL m L = true) : sizeL L ≤ 32768 := by
  obtain ⟨h1, h2⟩ := mayL_iff.1 h
  have := sizeL_le (L := L) fun v hv => okV_size (rise_mem h2 v hv).2.2
  omega
theorem OkR.size {r : RowP} (h : OkR r) : szR r ≤ 32896 := by
  have h1 := may_size h.path
  have h2 := mayL_size h.cell
  unfold szR
  omega
structure GoodR (R : List RowP) : Prop where
  up : RisesR R
  each : ∀ r ∈ R, OkR r
theorem GoodR.nil : GoodR [] := ⟨RisesR.nil, fun _ h => by cases h⟩
theorem GoodR.bytes {R : List RowP} (h : ∀ r ∈ R, OkR r) : bytesR R ≤ R.length * 32896 := by
  induction R with
  | nil => exact Nat.zero_le _
  | cons r t ih =>
    have h1 := (h r (by simp)).size
    have h2 := ih fun x hx => h x (by simp [hx])
    rw [bytesR_cons, List.length_cons]
    omega
theorem GoodR.with_ {R : List RowP} (h : GoodR R) {r : RowP} (hr : OkR r) : GoodR (withR r R) :=
  ⟨withR_rises h.up, fun x hx => by
    rcases (withR_mem h.up).1 hx with rfl | ⟨q, _⟩
    · exact hr
    · exact h.each x q⟩
theorem GoodR.drop {R : List RowP} (h : GoodR R) (p : ByteArray) : GoodR (dropR p R) := ⟨dropR_rises h.up, fun x hx => h.each x (dropR_mem.1 hx).1⟩

/-- The cell of a path: its last number, its versions; none of a new one. -/
def cellR (R : List RowP) (p : ByteArray) : Nat × List Ver := (lookR R p).elim (0, []) fun r => (r.m, r.L)
theorem cellR_some {R : List RowP} {p : ByteArray} {r : RowP} (h : lookR R p = some r) : cellR R p = (r.m, r.L) := by simp [cellR, h]
theorem cellR_none {R : List RowP} {p : ByteArray} (h : lookR R p = none) : cellR R p = (0, []) := by simp [cellR, h]
theorem may_new : mayL 0 [] = true := rfl
theorem GoodR.cell {R : List RowP} (h : ∀ r ∈ R, OkR r) (p : ByteArray) : mayL (cellR R p).1 (cellR R p).2 = true ∧ (cellR R p).1 < 18446744073709551616 := by
  cases e : lookR R p with
  | none => rw [cellR_none e]; exact ⟨rfl, by decide⟩
  | some r =>
    have := h r (lookR_mem e).1
    rw [cellR_some e]
    exact ⟨this.cell, this.num⟩
/-- An edit. -/
structure EditP where
  k : Nat
  p : ByteArray
  any : Bool
  want : Nat
  n : Nat
  t : ByteArray
/-- Its outcome on a cell. -/
def outR (m : Nat) (L : List Ver) (e : EditP) : Out :=
  if mayB e.p.data.toList then
    if e.k = 1 then putL m L e.any e.want e.t else if e.k = 2 then delL m L e.any e.want else if e.k = 3 then desL m L e.n else ⟨2, 0, []⟩
  else ⟨2, 0, []⟩
/-- Rows behind an edit: the error, the rows, the number. -/
def editR (D : List RowP) (e : EditP) : Out × List RowP :=
  let O := outR (cellR D e.p).1 (cellR D e.p).2 e
  (O, if O.e = 0 then withR ⟨e.p, O.last, O.L⟩ D else D)
/-- What edits make, one behind the other. -/
structure Tri where
  e : Nat
  at_ : Nat
  D : List RowP
  v : List Nat
def runE (i : Nat) (D : List RowP) (v : List Nat) : List EditP → Tri
  | [] => ⟨0, i, D, v⟩
  | e :: l => if (editR D e).1.e = 0 then runE (i + 1) (editR D e).2 (v ++ [(editR D e).1.last]) l else ⟨(editR D e).1.e, i, D, v⟩
/-- Whether rows are more than a quota, and than there were. -/
def overR (qp qb : Int) (R D : List RowP) : Bool := (decide (qp < D.length) && decide (R.length < D.length)) || (decide (qb < bytesR D) && decide (bytesR R < bytesR D))
/-- What Apply makes. -/
def applyR (qp qb : Int) (R : List RowP) (l : List EditP) : Tri :=
  let T := runE 0 R [] l
  if T.e = 0 then if overR qp qb R T.D then ⟨180, l.length, R, []⟩ else ⟨0, 0, T.D, T.v⟩ else ⟨T.e, T.at_, R, []⟩
end Go.Proofs.YtkjcpjalldbahaaGreatDoor
end

section
namespace Go.Proofs.YtkjcpjalldbahaaGreatDoor
open Go.RowKit

theorem rise_snoc {L : List Ver} {m : Nat} (h : rise 0 L = some m) {s : Nat} {t : ByteArray} (hok : okV ⟨m + 1, s, t⟩ = true) : rise 0 (L ++ [⟨m + 1, s, t⟩]) = some (m + 1) := by
  rw [rise_app, h]
  show rise m [_] = _
  unfold rise
  rw [if_neg (by show ¬ m + 1 ≤ m; omega), hok]
  rfl
theorem rise_low : ∀ {L : List Ver} {a a' b : Nat}, a' ≤ a → L ≠ [] → rise a L = some b → rise a' L = some b
  | [], _, _, _, _, hne, _ => absurd rfl hne
  | v :: r, a, a', b, ha, _, h => by
    obtain ⟨h1, h2, h3⟩ := rise_step h
    unfold rise
    rw [if_neg (by omega), h2]
    exact h3
theorem rise_cut {L : List Ver} {b : Nat} (h : rise 0 L = some b) (h2 : 2 ≤ L.length) : rise 0 (L.drop 1) = some b := by
  cases L with
  | nil => simp at h2
  | cons v r =>
    obtain ⟨_, _, h3⟩ := rise_step h
    rw [List.drop_one, List.tail_cons]
    exact rise_low (Nat.zero_le _) (fun e => by subst e; simp at h2) h3
theorem rise_set : ∀ {L : List Ver} {k a : Nat} {v v' : Ver}, L[k]? = some v → v'.n = v.n → okV v = true → okV v' = true → rise a (L.set k v') = rise a L
  | [], _, _, _, _, h, _, _, _ => by simp at h
  | x :: r, 0, a, v, v', h, hn, h1, h2 => by
    simp at h
    subst h
    simp only [List.set_cons_zero, rise, hn, h1, h2]
  | x :: r, k + 1, a, v, v', h, hn, h1, h2 => by
    rw [List.getElem?_cons_succ] at h
    simp only [List.set_cons_succ, rise]
    rw [rise_set h hn h1 h2]
theorem may_grow {m : Nat} {L : List Ver} (h : mayL m L = true) (hm : m < 18446744073709551616) {an : Bool} {wt s : Nat} {t : ByteArray} (hok : okV ⟨m + 1, s, t⟩ = true) : mayL (growL m L an wt s t).last (growL m L an wt s t).L = true ∧ (growL m L an wt s t).last < 18446744073709551616 := by
  unfold growL
  split
  · exact ⟨h, hm⟩
  · split
    · exact ⟨h, hm⟩
    · obtain ⟨h8, hr⟩ := mayL_iff.1 h
      refine ⟨?_, by show m + 1 < _; omega⟩
      show mayL (m + 1) (cutL _) = true
      have hr2 := rise_snoc hr hok
      unfold cutL
      split
      · rename_i hl
        exact mayL_iff.2 ⟨by simp at hl ⊢; omega, rise_cut hr2 (by omega)⟩
      · rename_i hl
        exact mayL_iff.2 ⟨by omega, hr2⟩
theorem okV_live (m : Nat) {t : ByteArray} (h : ¬ 4096 < t.size) : okV ⟨m, 1, t⟩ = true := by
  simp [okV]; omega
end Go.Proofs.YtkjcpjalldbahaaGreatDoor
end
