/- Plain: versions of a secret, and what each call of a cell answers. Versions compared; whether two cells are the same: the document's answer, and the program's. -/
import Derived.Test.YtkjcpjalldbahaaGreatDoorM01
import Derived.Deep.Slices
import Derived.BigQuiet
import Derived.Laws.StructEq
import Derived.Deep.QuietTactic
import Derived.Lib.Hide
import Derived.Outline
section
namespace Go.Proofs.YtkjcpjalldbahaaGreatDoor
open Go.RowKit

/-- A version: its number, its state (1: live; 2: gone; 3: dead), its text. -/
structure Ver where
  n : Nat
  s : Nat
  t : ByteArray
def Ver.cells (v : Ver) : List Value := [.int .u64 (v.n : Int), .int .u8 (v.s : Int), .string v.t]
def verV (v : Ver) : Value := .agg #[.int .u64 (v.n : Int), .int .u8 (v.s : Int), .string v.t]
structure Ver.Ok (v : Ver) : Prop where
  n : v.n < 18446744073709551616
  s : v.s < 256
theorem Ver.ext' {a b : Ver} (h1 : a.n = b.n) (h2 : a.s = b.s) (h3 : a.t = b.t) : a = b := by
  cases a; cases b; simp_all
instance : DecidableEq Ver := fun a b =>
  if h1 : a.n = b.n then if h2 : a.s = b.s then if h3 : a.t = b.t then .isTrue (Ver.ext' h1 h2 h3) else .isFalse (fun e => h3 (by rw [e])) else .isFalse (fun e => h2 (by rw [e])) else .isFalse (fun e => h1 (by rw [e]))
/-- Whether a version may be, whatever its number. -/
def okV (v : Ver) : Bool := if v.s = 1 then decide (v.t.size ≤ 4096) else if v.s = 2 then decide (v.t.size = 0) else if v.s = 3 then decide (v.t.size = 0) else false
/-- The last number of versions that rise from a number on; none, if one may not be. -/
def rise (a : Nat) : List Ver → Option Nat
  | [] => some a
  | v :: r => if v.n ≤ a then none else if okV v then rise v.n r else none
theorem rise_app (L M : List Ver) : ∀ a, rise a (L ++ M) = (rise a L).bind fun b => rise b M := by
  induction L with
  | nil => intro a; rfl
  | cons v r ih =>
    intro a
    simp only [List.cons_append, rise]
    split
    · rfl
    · split
      · exact ih _
      · rfl
theorem rise_take {L : List Ver} {j : Nat} {x : Ver} (hx : L[j]? = some x) {a b : Nat} (h : rise a (L.take j) = some b) : rise a (L.take (j + 1)) = if x.n ≤ b then none else if okV x then some x.n else none := by
  rw [List.take_add_one, hx, rise_app, h]
  rfl
theorem rise_none {L : List Ver} (j : Nat) {a : Nat} (h : rise a (L.take j) = none) : rise a L = none := by
  have e := rise_app (L.take j) (L.drop j) a
  rw [List.take_append_drop, h] at e
  exact e
/-- Whether a cell may be. -/
def mayL (last : Nat) (L : List Ver) : Bool := decide (L.length ≤ 8) && decide (rise 0 L = some last)
theorem mayL_iff {last : Nat} {L : List Ver} : mayL last L = true ↔ L.length ≤ 8 ∧ rise 0 L = some last := by simp [mayL]
theorem mayL_long {last : Nat} {L : List Ver} (h : 8 < L.length) : mayL last L = false := by
  simp [mayL]; intro q; omega
theorem mayL_short {last : Nat} {L : List Ver} (h : L.length ≤ 8) {b : Nat} (hr : rise 0 L = some b) : mayL last L = decide (b = last) := by
  simp [mayL, h, hr]
theorem mayL_none {last : Nat} {L : List Ver} (hr : rise 0 L = none) : mayL last L = false := by
  simp [mayL, hr]
/-- The number of the last version; 0, if it is not live. -/
def nowL (L : List Ver) : Nat := match L.getLast? with
  | none => 0
  | some v => if v.s = 1 then v.n else 0
theorem getLast_get (L : List Ver) : L.getLast? = L[L.length - 1]? := List.getLast?_eq_getElem?
/-- How many bytes all texts have. -/
def sizeL : List Ver → Nat
  | [] => 0
  | v :: r => v.t.size + sizeL r
theorem sizeL_app (L M : List Ver) : sizeL (L ++ M) = sizeL L + sizeL M := by
  induction L with
  | nil => simp [sizeL]
  | cons v r ih => simp only [List.cons_append, sizeL, ih]; omega
theorem sizeL_take {L : List Ver} {j : Nat} {x : Ver} (hx : L[j]? = some x) : sizeL (L.take (j + 1)) = sizeL (L.take j) + x.t.size := by
  rw [List.take_add_one, hx, sizeL_app]
  rfl
theorem sizeL_take_le (L : List Ver) (j : Nat) : sizeL (L.take j) ≤ sizeL L := by
  have := sizeL_app (L.take j) (L.drop j)
  rw [List.take_append_drop] at this
  omega
theorem sizeL_mem {L : List Ver} {x : Ver} (h : x ∈ L) : x.t.size ≤ sizeL L := by
  induction L with
  | nil => cases h
  | cons y l ih =>
    rcases List.mem_cons.1 h with rfl | h
    · simp only [sizeL]; omega
    · have := ih h
      simp only [sizeL]; omega
/-- The place of the first version of a number. -/
def posL (n : Nat) (L : List Ver) : Option Nat := L.findIdx? fun v => decide (v.n = n)
theorem posL_some {n k : Nat} {L : List Ver} {v : Ver} (hv : L[k]? = some v) (hn : v.n = n) (h : ∀ j x, j < k → L[j]? = some x → x.n ≠ n) : posL n L = some k := by
  unfold posL
  rw [List.findIdx?_eq_some_iff_getElem]
  have hk : k < L.length := (List.getElem?_eq_some_iff.1 hv).1
  refine ⟨hk, ?_, fun j hj => ?_⟩
  · have : L[k] = v := (List.getElem?_eq_some_iff.1 hv).2
    simp [this, hn]
  · have := h j L[j] hj (List.getElem?_eq_getElem (by omega))
    simpa using this
theorem posL_none {n : Nat} {L : List Ver} (h : ∀ (j : Nat) (x : Ver), L[j]? = some x → x.n ≠ n) : posL n L = none := by
  unfold posL
  rw [List.findIdx?_eq_none_iff]
  intro x hx
  obtain ⟨j, hj⟩ := List.getElem?_of_mem hx
  simpa using h j x hj
theorem posL_get {n k : Nat} {L : List Ver} (h : posL n L = some k) : ∃ v, L[k]? = some v ∧ v.n = n ∧ k < L.length := by
  unfold posL at h
  rw [List.findIdx?_eq_some_iff_getElem] at h
  obtain ⟨hk, h1, _⟩ := h
  exact ⟨L[k], List.getElem?_eq_getElem hk, by simpa using h1, hk⟩
theorem posL_no {n : Nat} {L : List Ver} (h : posL n L = none) : ∀ (j : Nat) (x : Ver), L[j]? = some x → x.n ≠ n := by
  unfold posL at h
  rw [List.findIdx?_eq_none_iff] at h
  intro j x hx
  simpa using h x (List.mem_of_getElem? hx)
/-- The error and the place of a live version of a number. -/
def findL (last : Nat) (L : List Ver) (n : Nat) : Nat × Nat :=
  if mayL last L then match posL n L with
    | none => (3, 0)
    | some k => match L[k]? with
      | none => (3, 0)
      | some v => if v.s = 1 then (0, k) else (171, 0)
  else (2, 0)
/-- What Read answers, by the program. -/
def readL (last : Nat) (L : List Ver) (n : Nat) : Nat × Ver :=
  let m := if n = 0 then nowL L else n
  let r := findL last L m
  if r.1 = 0 then (0, (L[r.2]?).getD ⟨0, 0, ⟨#[]⟩⟩) else (r.1, ⟨0, 0, ⟨#[]⟩⟩)
/-- What a call makes of a cell: its error, the last number, the versions. -/
structure Out where
  e : Nat
  last : Nat
  L : List Ver
/-- Up to eight versions. -/
def cutL (L : List Ver) : List Ver := if 8 < L.length then L.drop 1 else L
def growL (last : Nat) (L : List Ver) (any : Bool) (want s : Nat) (t : ByteArray) : Out :=
  if any = false ∧ want ≠ nowL L then ⟨170, last, L⟩ else if last = 18446744073709551615 then ⟨4, last, L⟩ else ⟨0, last + 1, cutL (L ++ [⟨last + 1, s, t⟩])⟩
def putL (last : Nat) (L : List Ver) (any : Bool) (want : Nat) (t : ByteArray) : Out :=
  if mayL last L then if 4096 < t.size then ⟨5, last, L⟩ else growL last L any want 1 t else ⟨2, last, L⟩
def delL (last : Nat) (L : List Ver) (any : Bool) (want : Nat) : Out :=
  if mayL last L then if nowL L = 0 then ⟨3, last, L⟩ else growL last L any want 2 ⟨#[]⟩ else ⟨2, last, L⟩
def desL (last : Nat) (L : List Ver) (n : Nat) : Out :=
  let r := findL last L n
  if r.1 = 0 then ⟨0, last, L.set r.2 ⟨n, 3, ⟨#[]⟩⟩⟩ else ⟨r.1, last, L⟩

/-- Versions' cells, one behind the other. -/
def vsCells (L : List Ver) : List Value := L.flatMap Ver.cells
theorem vsCells_length (L : List Ver) : (vsCells L).length = L.length * 3 := by
  induction L with
  | nil => rfl
  | cons a r ih => simp only [vsCells, Ver.cells, List.flatMap_cons, List.length_append, List.length_cons, List.length_nil] at ih ⊢; omega
theorem vsCells_get : ∀ (L : List Ver) (i : Nat) (x : Ver), L[i]? = some x → ∀ (k : Nat) (u : Value), x.cells[k]? = some u → (vsCells L)[i * 3 + k]? = some u
  | [], i, x, h => by simp at h
  | a :: r, 0, x, h => by
    simp at h; subst h
    intro k u hu
    have : k < 3 := (List.getElem?_eq_some_iff.1 hu).1
    rw [vsCells, List.flatMap_cons, List.getElem?_append_left (by simp [Ver.cells]; omega)]
    simpa using hu
  | a :: r, i + 1, x, h => by
    intro k u hu
    have ih := vsCells_get r i x (by simpa using h) k u hu
    rw [vsCells, List.flatMap_cons, List.getElem?_append_right (by simp [Ver.cells]; omega)]
    rw [show (i + 1) * 3 + k - (Ver.cells a).length = i * 3 + k by simp [Ver.cells]; omega]
    exact ih
theorem vsCells_app (L M : List Ver) : vsCells (L ++ M) = vsCells L ++ vsCells M := by simp [vsCells]
theorem vsCells_one (L : List Ver) : ∀ u ∈ vsCells L, u.oneCell' = true := fun u hu => by
  obtain ⟨x, _, hx⟩ := List.mem_flatMap.1 hu
  simp only [Ver.cells, List.mem_cons, List.not_mem_nil, or_false] at hx
  rcases hx with rfl | rfl | rfl <;> rfl
theorem infoV : (Tryz.prog.info? 41).map (fun i => (i.zero, i.size, i.bytes)) = some (some (.agg #[.int .u64 0, .int .u8 0, .string ⟨#[]⟩]), 3, 32) := by kernel_rfl
/-- The cells from the address on, if there are any, are these versions. -/
def VersP (w : World) (p : Option Addr) (L : List Ver) : Prop := ∀ (k : Nat) (x : Ver), L[k]? = some x → ∃ a, p = some a ∧ a.block < w.heap.size ∧ ∀ (j : Nat) (v : Value), x.cells[j]? = some v → w.cell? (a.add (k * 3 + j)) = some v
theorem add_blockV (a : Addr) (i : Nat) : (a.add i).block = a.block := by unfold Addr.add; split <;> rfl
theorem ver_at {w : World} {a : Addr} {j k : Nat} {v : Option Value} (h : w.cell? (a.add (j * 3 + (k + 1))) = v) : w.cell? ⟨(a.add (j * 3)).block, (a.add (j * 3)).off + (k + 1), none⟩ = v := by
  rw [← Go.Deep.add_add] at h
  exact h
section
variable {w w' : World} {p : Option Addr} {L M : List Ver} {c : Nat}
theorem VersP.ext (h : VersP w p L) (hx : Ext w w') : VersP w' p L := fun k x hk => by
  obtain ⟨a, h1, h2, h4⟩ := h k x hk
  exact ⟨a, h1, Nat.lt_of_lt_of_le h2 hx.size, fun j v hv => by rw [hx.below.cell (p := a.add (k * 3 + j)) (by rw [add_blockV]; omega)]; exact h4 j v hv⟩
theorem VersP.nil (w : World) (p : Option Addr) : VersP w p [] := fun k x hk => by simp at hk
theorem VersP.drop1 (h : VersP w p L) : VersP w (p.map fun a => a.add 3) (L.drop 1) := fun k x hk => by
  rw [List.getElem?_drop] at hk
  obtain ⟨a, rfl, h2, h4⟩ := h (1 + k) x hk
  refine ⟨a.add 3, rfl, by rw [add_blockV]; exact h2, fun j v hv => ?_⟩
  rw [Go.Deep.add_add, show 3 + (k * 3 + j) = (1 + k) * 3 + j by omega]
  exact h4 j v hv
/-- Versions as what is appended. -/
theorem VersP.src (h : VersP w p L) (c : Nat) : Src Tryz.prog 3 53 (.slice p L.length c) L.length (vsCells L) w := by
  cases p with
  | none =>
    have hL : L = [] := by
      cases L with
      | nil => rfl
      | cons v r => obtain ⟨a, e, _⟩ := h 0 v rfl; cases e
    subst hL
    exact Src.ofNil w Tryz.underlying53 c
  | some a =>
    refine Src.ofSlice w Tryz.underlying53 a L.length c _ (vsCells_length L) (fun j u hj => ?_) (vsCells_one L)
    have hl : j < L.length * 3 := by rw [← vsCells_length]; exact (List.getElem?_eq_some_iff.1 hj).1
    obtain ⟨x, hx⟩ : ∃ x, L[j / 3]? = some x := ⟨_, List.getElem?_eq_getElem (by omega)⟩
    obtain ⟨u', hu⟩ : ∃ u', x.cells[j % 3]? = some u' := ⟨_, List.getElem?_eq_getElem (by simp [Ver.cells]; omega)⟩
    have e := vsCells_get L _ x hx _ _ hu
    rw [show j / 3 * 3 + j % 3 = j by omega, hj] at e
    cases e
    obtain ⟨a', e, _, hc⟩ := h _ x hx
    cases e
    have := hc _ _ hu
    rwa [show j / 3 * 3 + j % 3 = j by omega] at this
/-- A slice of these versions, in a block of its own; that does not lie below B. -/
structure IsV (w : World) (B : Nat) (p : Option Addr) (c : Nat) (L : List Ver) : Prop where
  sl : Sl w (kp p) 1 3 41 p L.length c (vsCells L)
  low : ∀ g, p = some ⟨g, 0, none⟩ → B ≤ g
theorem IsV.ext {B : Nat} (h : IsV w B p c L) (x : Ext w w') : IsV w' B p c L := ⟨h.sl.ext x, h.low⟩
theorem IsV.base {A B : Nat} (h : IsV w B p c L) (hA : A ≤ B) : IsV w A p c L := ⟨h.sl, fun g hg => Nat.le_trans hA (h.low g hg)⟩
theorem IsV.nil (w : World) (B : Nat) : IsV w B none 0 [] := ⟨Sl.nil _ _ _ _ _, fun _ h => by cases h⟩
theorem IsV.vers {B : Nat} (h : IsV w B p c L) : VersP w p L := fun k x hk => by
  obtain ⟨g, h1, h2, _, _, _⟩ := h.sl.cell (vsCells_get L k x hk 0 _ rfl)
  refine ⟨_, h1, h2, fun j v hv => ?_⟩
  obtain ⟨g', e, _, _, h4, _⟩ := h.sl.cell (vsCells_get L k x hk j v hv)
  rw [h1] at e
  cases e
  rw [Addr.add_mid, Nat.zero_add]
  exact h4
theorem IsV.none_cap {B : Nat} (h : IsV w B p c L) : p = none → c = 0 := fun e => by
  rcases Nat.eq_zero_or_pos c with q | q
  · exact q
  · obtain ⟨g, _, e', _⟩ := h.sl.2.2.2 q; rw [e] at e'; cases e'
theorem IsV.le {B : Nat} (h : IsV w B p c L) : L.length ≤ c := h.sl.2.1
end
end Go.Proofs.YtkjcpjalldbahaaGreatDoor
end

section
namespace Go.Proofs.YtkjcpjalldbahaaGreatDoor
open Go.RowKit

theorem partV_n (x y z : Value) (u : World) : (part 25 #[x, y, z] 0).run Tryz.prog u = .ok x u := by
  simp [part, isAgg, run_underlying Tryz.underlying25]
theorem partV_s (x y z : Value) (u : World) : (part 5 #[x, y, z] 1).run Tryz.prog u = .ok y u := by
  simp [part, isAgg, run_underlying Tryz.underlying5]
theorem partV_t (x y z : Value) (u : World) : (part 9 #[x, y, z] 2).run Tryz.prog u = .ok z u := by
  simp [part, isAgg, run_underlying Tryz.underlying9]
theorem ver_fields : ∃ f g h : Field, (Tryz.prog.fieldsOf 41).toList = [f, g, h] ∧ f.name ≠ "_" ∧ f.type = 25 ∧ f.offset = 0 ∧ g.name ≠ "_" ∧ g.type = 5 ∧ g.offset = 1 ∧ h.name ≠ "_" ∧ h.type = 9 ∧ h.offset = 2 := by
  have hf : (Tryz.prog.fieldsOf 41).toList.map (fun f => (f.name != "_", f.type, f.offset)) = [(true, 25, 0), (true, 5, 1), (true, 9, 2)] := by kernel_rfl
  generalize (Tryz.prog.fieldsOf 41).toList = l at *
  rcases l with _ | ⟨f, _ | ⟨g, _ | ⟨h, _ | ⟨x, l⟩⟩⟩⟩
  · simp at hf
  · simp at hf
  · simp at hf
  · simp only [List.map_cons, List.map_nil, List.cons.injEq, Prod.mk.injEq, and_true, bne_iff_ne] at hf
    obtain ⟨⟨h1, h2, h3⟩, ⟨h4, h5, h6⟩, h7, h8, h9⟩ := hf
    exact ⟨f, g, h, rfl, h1, h2, h3, h4, h5, h6, h7, h8, h9⟩
  · simp at hf
theorem ver_eqIn (a b : Ver) (d : Nat) (u : World) : (Op.equalIn (d + 2) 41 (verV a) (verV b)).run Tryz.prog u = .ok ((a.n : Int) == (b.n : Int) && ((a.s : Int) == (b.s : Int) && a.t.toList == b.t.toList)) u := by
  unfold verV
  rw [run_equalIn_struct u (d + 1) 41 _ _ (by kernel_rfl) (by kernel_rfl)]
  obtain ⟨f, g, h, hl, h1, h2, h3, h4, h5, h6, h7, h8, h9⟩ := ver_fields
  rw [hl]
  simp only [Op.eqFields, h2, h3, h5, h6, h8, h9, if_pos h1, if_pos h4, if_pos h7]
  simp only [Sem.run_bind, partV_n, Result.andThen_ok, run_equalIn_int u d 25 .u64 .u64 _ _ Tryz.underlying25]
  cases ((a.n : Int) == (b.n : Int))
  · simp
  · simp only [Bool.not_true, Bool.false_eq_true, if_false, Sem.run_bind, partV_s, Result.andThen_ok, run_equalIn_int u d 5 .u8 .u8 _ _ Tryz.underlying5]
    cases ((a.s : Int) == (b.s : Int))
    · simp
    · simp only [Bool.not_true, Bool.false_eq_true, if_false, Sem.run_bind, partV_t, Result.andThen_ok, run_equalIn_string u d 9 _ _ Tryz.underlying9]
      cases (a.t.toList == b.t.toList) <;> simp
theorem ver_eqb (a b : Ver) : ((a.n : Int) == (b.n : Int) && ((a.s : Int) == (b.s : Int) && a.t.toList == b.t.toList)) = true ↔ a = b := by
  rw [Bool.and_eq_true, Bool.and_eq_true, beq_iff_eq, beq_iff_eq, beq_iff_eq, ByteArray.toList_eq, ByteArray.toList_eq]
  constructor
  · rintro ⟨h1, h2, h3⟩
    refine Ver.ext' (by omega) (by omega) ?_
    cases ha : a.t; cases hb : b.t
    rw [ha, hb] at h3
    congr 1
    exact Array.toList_inj.1 h3
  · rintro rfl
    exact ⟨rfl, rfl, rfl⟩
/-- Versions compared. -/
theorem ver_eql (a b : Ver) (d : Bool) (hd : d = true ↔ a = b) (u : World) : (binOp .eql 41 (.agg #[.int .u64 (a.n : Int), .int .u8 (a.s : Int), .string a.t]) (.agg #[.int .u64 (b.n : Int), .int .u8 (b.s : Int), .string b.t])).run Tryz.prog u = .ok (.bool d) u := by
  rw [run_eql_struct]
  have h := ver_eqIn a b 9998 u
  unfold verV at h
  have e : ((a.n : Int) == (b.n : Int) && ((a.s : Int) == (b.s : Int) && a.t.toList == b.t.toList)) = d := by
    rw [Bool.eq_iff_iff, ver_eqb, hd]
  rw [e] at h
  rw [h, Result.andThen_ok]
theorem ver_neq (a b : Ver) (d : Bool) (hd : d = true ↔ a ≠ b) (u : World) : (binOp .neq 41 (.agg #[.int .u64 (a.n : Int), .int .u8 (a.s : Int), .string a.t]) (.agg #[.int .u64 (b.n : Int), .int .u8 (b.s : Int), .string b.t])).run Tryz.prog u = .ok (.bool d) u := by
  rw [run_neq_struct]
  have h := ver_eqIn a b 9998 u
  unfold verV at h
  have e : ((a.n : Int) == (b.n : Int) && ((a.s : Int) == (b.s : Int) && a.t.toList == b.t.toList)) = !d := by
    rw [Bool.eq_iff_iff, ver_eqb]
    cases d
    · simp at hd ⊢; exact hd
    · simp at hd ⊢; exact hd
  rw [e] at h
  rw [h, Result.andThen_ok, Bool.not_not]
theorem ver_guard : Tryz.prog.eqGuardType Tryz.prog.depth 41 = false := by kernel_rfl
/-- The cells of version number j, as a walk spells them. -/
theorem VersP.three {w w' : World} {p : Option Addr} {L : List Ver} (h : VersP w p L) (hx : Ext w w') {j : Nat} {x : Ver} (hj : L[j]? = some x) : ∃ a, p = some a ∧ w'.cell? (a.add (j * 3)) = some (.int .u64 (x.n : Int)) ∧ w'.cell? ⟨(a.add (j * 3)).block, (a.add (j * 3)).off + 1, none⟩ = some (.int .u8 (x.s : Int)) ∧ w'.cell? ⟨(a.add (j * 3)).block, (a.add (j * 3)).off + 2, none⟩ = some (.string x.t) := by
  obtain ⟨a, h1, _, h4⟩ := (h.ext hx) j x hj
  exact ⟨a, h1, h4 0 _ rfl, ver_at (k := 0) (h4 1 _ rfl), ver_at (k := 1) (h4 2 _ rfl)⟩
theorem Blk.new1V (w : World) (o : Obj) (cs : List Value) (T : TypeId) : Blk ((w.alloc o).alloc (.cells cs.toArray T)) (w.heap.size + 1) T cs := by
  have h := Blk.new (w.alloc o) cs T
  rwa [show (w.alloc o).heap.size = w.heap.size + 1 by simp] at h
set_option maxRecDepth 100000 in
set_option maxHeartbeats 2000000 in
/-- The document's Same. -/
theorem rsame_any (w : World) (m n : Nat) (p q : Option Addr) (c d : Nat) (L M : List Ver) (hL : VersP w p L) (hM : VersP w q M) (hl : L.length ≤ 140737488355328) :
    Calls Tryz.prog 51 #[.agg #[.int .u64 (m : Int), .slice p L.length c], .agg #[.int .u64 (n : Int), .slice q M.length d]] w fun e w' => e = .returned (.bool (decide (m = n ∧ L = M))) ∧ Ext w w' := by
  by_cases hmn : m = n
  · subst hmn
    by_cases hne : L.length = M.length
    · have HL := Lib.hid hL; have HM := Lib.hid hM
      clear hL hM
      obtain ⟨k, hk⟩ : ∃ k, L.length = k := ⟨_, rfl⟩
      have HK := Lib.hid hk
      have HN := Lib.hid hne
      rw [← hne, hk]
      rw [hk] at hl
      clear hk hne
      have HB1 := Lib.hid ((Blk.new w [.int .u64 (m : Int), .slice p k c] 55).alloc (.cells #[.int .u64 (m : Int), .slice q k d] 55))
      have HB2 := Lib.hid (Blk.new1V w (.cells #[.int .u64 (m : Int), .slice p k c] 55) [.int .u64 (m : Int), .slice q k d] 55)
      have HX0 := Lib.hid (((Ext.refl w).alloc (.cells #[.int .u64 (m : Int), .slice p k c] 55)).alloc (.cells #[.int .u64 (m : Int), .slice q k d] 55))
      go_enter Tryz.func51, Tryz.ntmps51
      go_wp2
      go_loopw [5] (fun iv wr => ∃ j : Nat, j ≤ k ∧ iv = .int .i64 (j : Int) ∧ L.take j = M.take j ∧ Hid (Blk wr w.heap.size 55 [.int .u64 (m : Int), .slice p k c]) ∧ Hid (Blk wr (w.heap.size + 1) 55 [.int .u64 (m : Int), .slice q k d]) ∧ Ext w wr) (fun iv _ => k - (intOf iv).toNat)
      case atStart => exact ⟨0, Nat.zero_le _, rfl, rfl, HB1, HB2, HX0.out⟩
      case round =>
        obtain ⟨j, hj, rfl, htk, B1, B2, hx⟩ := hrel
        have HT := Lib.hid htk; have HX := Lib.hid hx
        have b1 := B1.out.cell 1 _ rfl
        have b2 := B2.out.cell 1 _ rfl
        clear htk hx
        by_cases hlt : j < k
        · have e1 := HK.out
          have e2 := HN.out
          obtain ⟨a, ha⟩ : ∃ a, L[j]? = some a := ⟨_, List.getElem?_eq_getElem (by omega)⟩
          obtain ⟨b, hb⟩ : ∃ b, M[j]? = some b := ⟨_, List.getElem?_eq_getElem (by omega)⟩
          clear e1 e2
          obtain ⟨g, rfl, c0, c1, c2⟩ := HL.out.three HX.out ha
          obtain ⟨g', rfl, d0, d1, d2⟩ := HM.out.three HX.out hb
          have Ha := Lib.hid ha; have Hb := Lib.hid hb
          clear ha hb
          have hgd := ver_guard
          by_cases hab : a = b
          · have hq := fun u => ver_neq a b false (by simp [hab]) u
            have hst : L.take (j + 1) = M.take (j + 1) := by rw [List.take_add_one, List.take_add_one, HT.out, Ha.out, Hb.out, hab]
            have HST := Lib.hid hst
            clear hst hab
            go_wp2
            go_quiet (fail)
            go_wp2
            go_roundw
            case rel => exact ⟨j + 1, hlt, by go_num, HST.out, Lib.hid B1.out.drew, Lib.hid B2.out.drew, HX.out.drewN _⟩
            case measure => simp [intOf]; omega
          · have hq := fun u => ver_neq a b true (by simp [hab]) u
            have hLM : ¬ L = M := fun e => hab (by
              have h1 := Ha.out
              rw [e, Hb.out] at h1
              exact (Option.some.inj h1).symm)
            have HLM := Lib.hid hLM
            clear hLM hab
            go_wp2
            go_quiet (fail)
            go_wp2
            go_ret
            exact ⟨by simp [HLM.out], HX.out.drewN _⟩
        · obtain rfl : j = k := by omega
          go_wp2
          go_ret
          refine ⟨?_, HX.out⟩
          have h1 := HT.out
          have e1 := HK.out
          have e2 := HN.out
          rw [List.take_of_length_le (by omega), List.take_of_length_le (by omega)] at h1
          simp [h1]
    · have hn : ((L.length : Int) != (M.length : Int)) = true := by
        have q : ¬ (L.length : Int) = (M.length : Int) := by omega
        simpa using q
      have hn2 : ¬ L = M := fun e => hne (by rw [e])
      clear hL hM
      go_enter Tryz.func51, Tryz.ntmps51
      go_wp2
      go_ret
      exact ⟨by simp [hn2], ((Ext.refl _).alloc _).alloc _⟩
  · have hn : ((m : Int) != (n : Int)) = true := by
      have q : ¬ (m : Int) = (n : Int) := by omega
      simpa using q
    clear hL hM
    go_enter Tryz.func51, Tryz.ntmps51
    go_wp2
    go_ret
    exact ⟨by simp [hmn], ((Ext.refl _).alloc _).alloc _⟩
end Go.Proofs.YtkjcpjalldbahaaGreatDoor
end
