/- Plain: versions of a secret, and what each call of a cell answers. -/
import Derived.Test.YtkjcpjalldbahaaDoorM05
import Derived.Deep.Slices
section
namespace Go.Proofs.YtkjcpjalldbahaaDoor
open Go.RowKit

/-- A version: its number, its state (1: live; 2: gone; 3: dead), its text. -/
structure Ver where
  n : Nat
  s : Nat
  t : ByteArray
def Ver.cells (v : Ver) : List Value := [.int .u64 (v.n : Int), .int .u8 (v.s : Int), .string v.t]
def verV (v : Ver) : Value := .agg #[.int .u64 (v.n : Int), .int .u8 (v.s : Int), .string v.t]
structure Ver.Ok (v : Ver) : Prop where
  n : v.n < 18446744073709551616
  s : v.s < 256
theorem Ver.ext' {a b : Ver} (h1 : a.n = b.n) (h2 : a.s = b.s) (h3 : a.t = b.t) : a = b := by
  cases a; cases b; simp_all
instance : DecidableEq Ver := fun a b =>
  if h1 : a.n = b.n then if h2 : a.s = b.s then if h3 : a.t = b.t then .isTrue (Ver.ext' h1 h2 h3) else .isFalse (fun e => h3 (by rw [e])) else .isFalse (fun e => h2 (by rw [e])) else .isFalse (fun e => h1 (by rw [e]))
/-- Whether a version may be, whatever its number. -/
def okV (v : Ver) : Bool := if v.s = 1 then decide (v.t.size ≤ 4096) else if v.s = 2 then decide (v.t.size = 0) else if v.s = 3 then decide (v.t.size = 0) else false
/-- The last number of versions that rise from a number on; none, if one may not be. -/
def rise (a : Nat) : List Ver → Option Nat
  | [] => some a
  | v :: r => if v.n ≤ a then none else if okV v then rise v.n r else none
theorem rise_app (L M : List Ver) : ∀ a, rise a (L ++ M) = (rise a L).bind fun b => rise b M := by
  induction L with
  | nil => intro a; rfl
  | cons v r ih =>
    intro a
    simp only [List.cons_append, rise]
    split
    · rfl
    · split
      · exact ih _
      · rfl
theorem rise_take {L : List Ver} {j : Nat} {x : Ver} (hx : L[j]? = some x) {a b : Nat} (h : rise a (L.take j) = some b) : rise a (L.take (j + 1)) = if x.n ≤ b then none else if okV x then some x.n else none := by
  rw [List.take_add_one, hx, rise_app, h]
  rfl
theorem rise_none {L : List Ver} (j : Nat) {a : Nat} (h : rise a (L.take j) = none) : rise a L = none := by
  have e := rise_app (L.take j) (L.drop j) a
  rw [List.take_append_drop, h] at e
  exact e
/-- Whether a cell may be. -/
def mayL (last : Nat) (L : List Ver) : Bool := decide (L.length ≤ 8) && decide (rise 0 L = some last)
theorem mayL_iff {last : Nat} {L : List Ver} : mayL last L = true ↔ L.length ≤ 8 ∧ rise 0 L = some last := by simp [mayL]
theorem mayL_long {last : Nat} {L : List Ver} (h : 8 < L.length) : mayL last L = false := by
  simp [mayL]; intro q; omega
theorem mayL_short {last : Nat} {L : List Ver} (h : L.length ≤ 8) {b : Nat} (hr : rise 0 L = some b) : mayL last L = decide (b = last) := by
  simp [mayL, h, hr]
theorem mayL_none {last : Nat} {L : List Ver} (hr : rise 0 L = none) : mayL last L = false := by
  simp [mayL, hr]
/-- The number of the last version; 0, if it is not live. -/
def nowL (L : List Ver) : Nat := match L.getLast? with
  | none => 0
  | some v => if v.s = 1 then v.n else 0
theorem getLast_get (L : List Ver) : L.getLast? = L[L.length - 1]? := List.getLast?_eq_getElem?
/-- How many bytes all texts have. -/
def sizeL : List Ver → Nat
  | [] => 0
  | v :: r => v.t.size + sizeL r
theorem sizeL_app (L M : List Ver) : sizeL (L ++ M) = sizeL L + sizeL M := by
  induction L with
  | nil => simp [sizeL]
  | cons v r ih => simp only [List.cons_append, sizeL, ih]; omega
theorem sizeL_take {L : List Ver} {j : Nat} {x : Ver} (hx : L[j]? = some x) : sizeL (L.take (j + 1)) = sizeL (L.take j) + x.t.size := by
  rw [List.take_add_one, hx, sizeL_app]
  rfl
theorem sizeL_take_le (L : List Ver) (j : Nat) : sizeL (L.take j) ≤ sizeL L := by
  have := sizeL_app (L.take j) (L.drop j)
  rw [List.take_append_drop] at this
  omega
theorem sizeL_mem {L : List Ver} {x : Ver} (h : x ∈ L) : x.t.size ≤ sizeL L := by
  induction L with
  | nil => cases h
  | cons y l ih =>
    rcases List.mem_cons.1 h with rfl | h
    · simp only [sizeL]; omega
    · have := ih h
      simp only [sizeL]; omega
/-- The place of the first version of a number. -/
def posL (n : Nat) (L : List Ver) : Option Nat := L.findIdx? fun v => decide (v.n = n)
theorem posL_some {n k : Nat} {L : List Ver} {v : Ver} (hv : L[k]? = some v) (hn : v.n = n) (h : ∀ j x, j < k → L[j]? = some x → x.n ≠ n) : posL n L = some k := by
  unfold posL
  rw [List.findIdx?_eq_some_iff_getElem]
  have hk : k < L.length := (List.getElem?_eq_some_iff.1 hv).1
  refine ⟨hk, ?_, fun j hj => ?_⟩
  · have : L[k] = v := (List.getElem?_eq_some_iff.1 hv).2
    simp [this, hn]
  · have := h j L[j] hj (List.getElem?_eq_getElem (by omega))
    simpa using this
theorem posL_none {n : Nat} {L : List Ver} (h : ∀ (j : Nat) (x : Ver), L[j]? = some x → x.n ≠ n) : posL n L = none := by
  unfold posL
  rw [List.findIdx?_eq_none_iff]
  intro x hx
  obtain ⟨j, hj⟩ := List.getElem?_of_mem hx
  simpa using h j x hj
theorem posL_get {n k : Nat} {L : List Ver} (h : posL n L = some k) : ∃ v, L[k]? = some v ∧ v.n = n ∧ k < L.length := by
  unfold posL at h
  rw [List.findIdx?_eq_some_iff_getElem] at h
  obtain ⟨hk, h1, _⟩ := h
  exact ⟨L[k], List.getElem?_eq_getElem hk, by simpa using h1, hk⟩
theorem posL_no {n : Nat} {L : List Ver} (h : posL n L = none) : ∀ (j : Nat) (x : Ver), L[j]? = some x → x.n ≠ n := by
  unfold posL at h
  rw [List.findIdx?_eq_none_iff] at h
  intro j x hx
  simpa using h x (List.mem_of_getElem? hx)
/-- The error and the place of a live version of a number. -/
def findL (last : Nat) (L : List Ver) (n : Nat) : Nat × Nat :=
  if mayL last L then match posL n L with
    | none => (3, 0)
    | some k => match L[k]? with
      | none => (3, 0)
      | some v => if v.s = 1 then (0, k) else (171, 0)
  else (2, 0)
/-- What Read answers, by the program. -/
def readL (last : Nat) (L : List Ver) (n : Nat) : Nat × Ver :=
  let m := if n = 0 then nowL L else n
  let r := findL last L m
  if r.1 = 0 then (0, (L[r.2]?).getD ⟨0, 0, ⟨#[]⟩⟩) else (r.1, ⟨0, 0, ⟨#[]⟩⟩)
/-- What a call makes of a cell: its error, the last number, the versions. -/
structure Out where
  e : Nat
  last : Nat
  L : List Ver
/-- Up to eight versions. -/
def cutL (L : List Ver) : List Ver := if 8 < L.length then L.drop 1 else L
def growL (last : Nat) (L : List Ver) (any : Bool) (want s : Nat) (t : ByteArray) : Out :=
  if any = false ∧ want ≠ nowL L then ⟨170, last, L⟩ else if last = 18446744073709551615 then ⟨4, last, L⟩ else ⟨0, last + 1, cutL (L ++ [⟨last + 1, s, t⟩])⟩
def putL (last : Nat) (L : List Ver) (any : Bool) (want : Nat) (t : ByteArray) : Out :=
  if mayL last L then if 4096 < t.size then ⟨5, last, L⟩ else growL last L any want 1 t else ⟨2, last, L⟩
def delL (last : Nat) (L : List Ver) (any : Bool) (want : Nat) : Out :=
  if mayL last L then if nowL L = 0 then ⟨3, last, L⟩ else growL last L any want 2 ⟨#[]⟩ else ⟨2, last, L⟩
def desL (last : Nat) (L : List Ver) (n : Nat) : Out :=
  let r := findL last L n
  if r.1 = 0 then ⟨0, last, L.set r.2 ⟨n, 3, ⟨#[]⟩⟩⟩ else ⟨r.1, last, L⟩

/-- Versions' cells, one behind the other. -/
def vsCells (L : List Ver) : List Value := L.flatMap Ver.cells
theorem vsCells_length (L : List Ver) : (vsCells L).length = L.length * 3 := by
  induction L with
  | nil => rfl
  | cons a r ih => simp only [vsCells, Ver.cells, List.flatMap_cons, List.length_append, List.length_cons, List.length_nil] at ih ⊢; omega
theorem vsCells_get : ∀ (L : List Ver) (i : Nat) (x : Ver), L[i]? = some x → ∀ (k : Nat) (u : Value), x.cells[k]? = some u → (vsCells L)[i * 3 + k]? = some u
  | [], i, x, h => by simp at h
  | a :: r, 0, x, h => by
    simp at h; subst h
    intro k u hu
    have : k < 3 := (List.getElem?_eq_some_iff.1 hu).1
    rw [vsCells, List.flatMap_cons, List.getElem?_append_left (by simp [Ver.cells]; omega)]
    simpa using hu
  | a :: r, i + 1, x, h => by
    intro k u hu
    have ih := vsCells_get r i x (by simpa using h) k u hu
    rw [vsCells, List.flatMap_cons, List.getElem?_append_right (by simp [Ver.cells]; omega)]
    rw [show (i + 1) * 3 + k - (Ver.cells a).length = i * 3 + k by simp [Ver.cells]; omega]
    exact ih
theorem vsCells_app (L M : List Ver) : vsCells (L ++ M) = vsCells L ++ vsCells M := by simp [vsCells]
theorem vsCells_one (L : List Ver) : ∀ u ∈ vsCells L, u.oneCell' = true := fun u hu => by
  obtain ⟨x, _, hx⟩ := List.mem_flatMap.1 hu
  simp only [Ver.cells, List.mem_cons, List.not_mem_nil, or_false] at hx
  rcases hx with rfl | rfl | rfl <;> rfl
theorem infoV : (Tryd.prog.info? 58).map (fun i => (i.zero, i.size, i.bytes)) = some (some (.agg #[.int .u64 0, .int .u8 0, .string ⟨#[]⟩]), 3, 32) := by kernel_rfl
/-- The cells from the address on, if there are any, are these versions. -/
def VersP (w : World) (p : Option Addr) (L : List Ver) : Prop := ∀ (k : Nat) (x : Ver), L[k]? = some x → ∃ a, p = some a ∧ a.block < w.heap.size ∧ ∀ (j : Nat) (v : Value), x.cells[j]? = some v → w.cell? (a.add (k * 3 + j)) = some v
theorem add_blockV (a : Addr) (i : Nat) : (a.add i).block = a.block := by unfold Addr.add; split <;> rfl
theorem ver_at {w : World} {a : Addr} {j k : Nat} {v : Option Value} (h : w.cell? (a.add (j * 3 + (k + 1))) = v) : w.cell? ⟨(a.add (j * 3)).block, (a.add (j * 3)).off + (k + 1), none⟩ = v := by
  rw [← Go.Deep.add_add] at h
  exact h
section
variable {w w' : World} {p : Option Addr} {L M : List Ver} {c : Nat}
theorem VersP.ext (h : VersP w p L) (hx : Ext w w') : VersP w' p L := fun k x hk => by
  obtain ⟨a, h1, h2, h4⟩ := h k x hk
  exact ⟨a, h1, Nat.lt_of_lt_of_le h2 hx.size, fun j v hv => by rw [hx.below.cell (p := a.add (k * 3 + j)) (by rw [add_blockV]; omega)]; exact h4 j v hv⟩
theorem VersP.nil (w : World) (p : Option Addr) : VersP w p [] := fun k x hk => by simp at hk
theorem VersP.drop1 (h : VersP w p L) : VersP w (p.map fun a => a.add 3) (L.drop 1) := fun k x hk => by
  rw [List.getElem?_drop] at hk
  obtain ⟨a, rfl, h2, h4⟩ := h (1 + k) x hk
  refine ⟨a.add 3, rfl, by rw [add_blockV]; exact h2, fun j v hv => ?_⟩
  rw [Go.Deep.add_add, show 3 + (k * 3 + j) = (1 + k) * 3 + j by omega]
  exact h4 j v hv
/-- Versions as what is appended. -/
theorem VersP.src (h : VersP w p L) (c : Nat) : Src Tryd.prog 3 52 (.slice p L.length c) L.length (vsCells L) w := by
  cases p with
  | none =>
    have hL : L = [] := by
      cases L with
      | nil => rfl
      | cons v r => obtain ⟨a, e, _⟩ := h 0 v rfl; cases e
    subst hL
    exact Src.ofNil w Tryd.underlying52 c
  | some a =>
    refine Src.ofSlice w Tryd.underlying52 a L.length c _ (vsCells_length L) (fun j u hj => ?_) (vsCells_one L)
    have hl : j < L.length * 3 := by rw [← vsCells_length]; exact (List.getElem?_eq_some_iff.1 hj).1
    obtain ⟨x, hx⟩ : ∃ x, L[j / 3]? = some x := ⟨_, List.getElem?_eq_getElem (by omega)⟩
    obtain ⟨u', hu⟩ : ∃ u', x.cells[j % 3]? = some u' := ⟨_, List.getElem?_eq_getElem (by simp [Ver.cells]; omega)⟩
    have e := vsCells_get L _ x hx _ _ hu
    rw [show j / 3 * 3 + j % 3 = j by omega, hj] at e
    cases e
    obtain ⟨a', e, _, hc⟩ := h _ x hx
    cases e
    have := hc _ _ hu
    rwa [show j / 3 * 3 + j % 3 = j by omega] at this
/-- A slice of these versions, in a block of its own; that does not lie below B. -/
structure IsV (w : World) (B : Nat) (p : Option Addr) (c : Nat) (L : List Ver) : Prop where
  sl : Sl w (kp p) 1 3 58 p L.length c (vsCells L)
  low : ∀ g, p = some ⟨g, 0, none⟩ → B ≤ g
theorem IsV.ext {B : Nat} (h : IsV w B p c L) (x : Ext w w') : IsV w' B p c L := ⟨h.sl.ext x, h.low⟩
theorem IsV.base {A B : Nat} (h : IsV w B p c L) (hA : A ≤ B) : IsV w A p c L := ⟨h.sl, fun g hg => Nat.le_trans hA (h.low g hg)⟩
theorem IsV.nil (w : World) (B : Nat) : IsV w B none 0 [] := ⟨Sl.nil _ _ _ _ _, fun _ h => by cases h⟩
theorem IsV.vers {B : Nat} (h : IsV w B p c L) : VersP w p L := fun k x hk => by
  obtain ⟨g, h1, h2, _, _, _⟩ := h.sl.cell (vsCells_get L k x hk 0 _ rfl)
  refine ⟨_, h1, h2, fun j v hv => ?_⟩
  obtain ⟨g', e, _, _, h4, _⟩ := h.sl.cell (vsCells_get L k x hk j v hv)
  rw [h1] at e
  cases e
  rw [Addr.add_mid, Nat.zero_add]
  exact h4
theorem IsV.none_cap {B : Nat} (h : IsV w B p c L) : p = none → c = 0 := fun e => by
  rcases Nat.eq_zero_or_pos c with q | q
  · exact q
  · obtain ⟨g, _, e', _⟩ := h.sl.2.2.2 q; rw [e] at e'; cases e'
theorem IsV.le {B : Nat} (h : IsV w B p c L) : L.length ≤ c := h.sl.2.1
end
end Go.Proofs.YtkjcpjalldbahaaDoor
end
