/- Contract: the law's self-test, a table of two secrets. A slice of Quota among a law's arguments, opened: what its walk asks of it. (Printed by mkopen.py.) A slice of Edit among a law's arguments, opened: what its walk asks of it. (Printed by mkopen.py.) Plain: edits one by one, with room for all. -/
import Derived.Test.YtkjcpjalldbahaaGreatDoorM24
import Derived.Test.YtkjcpjalldbahaaGreatDoorM35
import Derived.Test.YtkjcpjalldbahaaGreatDoorM22
import Derived.Deep.Slices
import Derived.Deep.Fields
import Derived.ChangeArms
import Derived.Lib.SmallJoins
import Derived.Test.YtkjcpjalldbahaaGreatDoorM23
section
namespace Go.Proofs.YtkjcpjalldbahaaGreatDoor
open Go.RowKit

def exE : List EditP := [⟨1, ⟨#[97]⟩, false, 0, 0, ⟨#[120]⟩⟩, ⟨2, ⟨#[97]⟩, false, 1, 0, ⟨#[]⟩⟩, ⟨1, ⟨#[98]⟩, true, 0, 0, ⟨#[]⟩⟩]
def exF : List EditP := [⟨1, ⟨#[98]⟩, true, 0, 0, ⟨#[]⟩⟩, ⟨1, ⟨#[99]⟩, true, 0, 0, ⟨#[]⟩⟩]
def exD : List RowP := (applyR 2 100 [] exE).D
theorem ex_v : (applyR 2 100 [] exE).v = [1, 2, 1] := by decide +kernel
theorem ex_e : (applyR 2 100 [] exE).e = 0 := by decide +kernel
theorem ex_a : (applyR 2 100 [] exE).at_ = 0 := by decide +kernel
theorem ex_len : exD.length = 2 := by decide +kernel
theorem ex_bytes : bytesR exD = 3 := by decide +kernel
theorem ex_fe : (applyR 2 100 exD exF).e = 180 := by decide +kernel
theorem ex_fa : (applyR 2 100 exD exF).at_ = 2 := by decide +kernel
theorem ex_live : namesB ⟨#[]⟩ (liveR exD) = [⟨#[98]⟩] := by decide +kernel
/-- Edits' cells, one behind the other. -/
def esCells (l : List EditP) : List Value := l.flatMap EditP.cells
theorem esCells_get : ∀ (L : List EditP) (i : Nat) (x : EditP), L[i]? = some x → ∀ (k : Nat) (u : Value), x.cells[k]? = some u → (esCells L)[i * 6 + k]? = some u
  | [], i, x, h => by simp at h
  | a :: r, 0, x, h => by
    simp at h; subst h
    intro k u hu
    have : k < 6 := (List.getElem?_eq_some_iff.1 hu).1
    rw [esCells, List.flatMap_cons, List.getElem?_append_left (by simp [EditP.cells]; omega)]
    simpa using hu
  | a :: r, i + 1, x, h => by
    intro k u hu
    have ih := esCells_get r i x (by simpa using h) k u hu
    rw [esCells, List.flatMap_cons, List.getElem?_append_right (by simp [EditP.cells]; omega)]
    rw [show (i + 1) * 6 + k - (EditP.cells a).length = i * 6 + k by simp [EditP.cells]; omega]
    exact ih
theorem Blk.editsP {w : World} {b : Nat} {T : TypeId} {l : List EditP} (h : Blk w b T (esCells l)) : EditsP w (some ⟨b, 0, none⟩) l := fun k x hk =>
  ⟨_, rfl, h.lt, fun j v hv => by rw [Addr.add_mid, Nat.zero_add]; exact h.cell _ _ (esCells_get l k x hk j v hv)⟩
theorem Blk.textsP {w : World} {b : Nat} {T : TypeId} {l : List ByteArray} (h : Blk w b T (l.map Value.string)) : TextsP w (some ⟨b, 0, none⟩) l := fun i s hs =>
  ⟨_, rfl, h.lt, by rw [Addr.add_mid, Nat.zero_add]; exact h.cell i _ (by simp [hs])⟩
theorem ex_small : ∀ l : List EditP, l = exE ∨ l = exF → ∀ e ∈ l, e.p.size ≤ 140737488351232 ∧ e.t.size ≤ 140737488351232 := by
  intro l hl e he
  have h1 : ∀ e ∈ exE, e.p.size ≤ 140737488351232 ∧ e.t.size ≤ 140737488351232 := by decide +kernel
  have h2 : ∀ e ∈ exF, e.p.size ≤ 140737488351232 ∧ e.t.size ≤ 140737488351232 := by decide +kernel
  rcases hl with rfl | rfl
  · exact h1 e he
  · exact h2 e he
set_option maxRecDepth 100000 in
set_option maxHeartbeats 4000000 in
theorem works18_any (w : World) : Calls Tryz.prog 7 #[] w fun e w' => e = .returned (.bool true) ∧ Ext w w' := by
  have HNew := Lib.hid (tnew_any w 2 100 w.heap.size)
  have HAp := Lib.hid (fun u t b (h : IsT u w.heap.size t b 2 100 []) hlo p (hp : EditsP u p exE) => apply_any u w.heap.size t b 2 100 [] h hlo (by simp) p 3 exE hp (by decide) (ex_small _ (.inl rfl)))
  rw [ex_v, ex_e, ex_a] at HAp
  have HTr := Lib.hid (fun u t b (h : IsT u w.heap.size t b 2 100 exD) p (hp : EditsP u p exF) => try_any u w.heap.size t b 2 100 exD h (by rw [ex_len]; omega) p 2 exF hp (by decide) (ex_small _ (.inr rfl)))
  rw [ex_fe, ex_fa] at HTr
  have HSz := Lib.hid (fun u t b (h : IsT u w.heap.size t b 2 100 exD) => tSize_any u w.heap.size t b 2 100 exD h)
  rw [ex_len, ex_bytes] at HSz
  have HLi := Lib.hid (fun u t b (h : IsT u w.heap.size t b 2 100 exD) => tlist_any u w.heap.size t b 2 100 exD h (by rw [ex_len]; omega) ⟨#[]⟩ (by decide))
  rw [ex_live] at HLi
  have HNu := Lib.hid (fun u p c (h : NumsP u p [1, 2, 1]) q (h2 : NumsP u q [1, 2, 1]) => numbers18_dec u p q c 3 3 3 [1, 2, 1] [1, 2, 1] rfl rfl h h2 (by decide) (by decide))
  have HTx := Lib.hid (fun u p c (h : TextsP u p [(⟨#[98]⟩ : ByteArray)]) q (h2 : TextsP u q [(⟨#[98]⟩ : ByteArray)]) => texts18_dec u p q c 1 1 1 [⟨#[98]⟩] [⟨#[98]⟩] rfl rfl h h2 (by decide) (by decide))
  simp only [decide_true] at HNu HTx
  go_enter Tryz.func7, Tryz.ntmps7
  go_wp2_with (first
    | (go_at_call 8; refine HNew.out.mono ?_; rintro e w1 ⟨t, b, rfl, t1, x1, k1, k2⟩; have HX1 := Lib.hid x1; have HK : Hid (∀ g, TB t b g → w.heap.size ≤ g) := Lib.hid (fun g q => (by rcases q with q | q <;> (subst q; assumption))); have HT2 := Lib.hid (t1.ext ((Ext.refl w1).alloc (.cells #[.int .u8 1, .string ⟨#[97]⟩, .bool false, .int .u64 0, .int .u64 0, .string ⟨#[120]⟩, .int .u8 2, .string ⟨#[97]⟩, .bool false, .int .u64 1, .int .u64 0, .string ⟨#[]⟩, .int .u8 1, .string ⟨#[98]⟩, .bool true, .int .u64 0, .int .u64 0, .string ⟨#[]⟩] 62))); have HE2 : Hid (EditsP (w1.alloc (.cells #[.int .u8 1, .string ⟨#[97]⟩, .bool false, .int .u64 0, .int .u64 0, .string ⟨#[120]⟩, .int .u8 2, .string ⟨#[97]⟩, .bool false, .int .u64 1, .int .u64 0, .string ⟨#[]⟩, .int .u8 1, .string ⟨#[98]⟩, .bool true, .int .u64 0, .int .u64 0, .string ⟨#[]⟩] 62)) (some ⟨w1.heap.size, 0, none⟩) exE) := Lib.hid (Blk.editsP (l := exE) (Blk.new w1 [.int .u8 1, .string ⟨#[97]⟩, .bool false, .int .u64 0, .int .u64 0, .string ⟨#[120]⟩, .int .u8 2, .string ⟨#[97]⟩, .bool false, .int .u64 1, .int .u64 0, .string ⟨#[]⟩, .int .u8 1, .string ⟨#[98]⟩, .bool true, .int .u64 0, .int .u64 0, .string ⟨#[]⟩] 62)); have HX2 := Lib.hid (x1.alloc (.cells #[.int .u8 1, .string ⟨#[97]⟩, .bool false, .int .u64 0, .int .u64 0, .string ⟨#[120]⟩, .int .u8 2, .string ⟨#[97]⟩, .bool false, .int .u64 1, .int .u64 0, .string ⟨#[]⟩, .int .u8 1, .string ⟨#[98]⟩, .bool true, .int .u64 0, .int .u64 0, .string ⟨#[]⟩] 62)); clear t1 x1 k1 k2)
    | (go_at_call 24; refine (HAp.out _ t b HT2.out HX2.out.size _ HE2.out).mono ?_; rintro e w3 ⟨va, c', rfl, t3, k3, a3⟩; have HX3 : Hid (Ext w w3) := Lib.hid (((Turn.ofExt (TB t b) HX2.out).trans k3).toExt HK.out); have HT3 : Hid (IsT w3 w.heap.size t b 2 100 exD) := Lib.hid t3; have HN3 : Hid (NumsP w3 va [1, 2, 1]) := Lib.hid (IsA.numsP (l := [1, 2, 1]) a3); have HT4 := Lib.hid (HT3.out.ext ((Ext.refl w3).alloc (.cells #[.int .u8 1, .string ⟨#[98]⟩, .bool true, .int .u64 0, .int .u64 0, .string ⟨#[]⟩, .int .u8 1, .string ⟨#[99]⟩, .bool true, .int .u64 0, .int .u64 0, .string ⟨#[]⟩] 62))); have HE4 : Hid (EditsP (w3.alloc (.cells #[.int .u8 1, .string ⟨#[98]⟩, .bool true, .int .u64 0, .int .u64 0, .string ⟨#[]⟩, .int .u8 1, .string ⟨#[99]⟩, .bool true, .int .u64 0, .int .u64 0, .string ⟨#[]⟩] 62)) (some ⟨w3.heap.size, 0, none⟩) exF) := Lib.hid (Blk.editsP (l := exF) (Blk.new w3 [.int .u8 1, .string ⟨#[98]⟩, .bool true, .int .u64 0, .int .u64 0, .string ⟨#[]⟩, .int .u8 1, .string ⟨#[99]⟩, .bool true, .int .u64 0, .int .u64 0, .string ⟨#[]⟩] 62)); have HX4 := Lib.hid ((Ext.refl w3).alloc (.cells #[.int .u8 1, .string ⟨#[98]⟩, .bool true, .int .u64 0, .int .u64 0, .string ⟨#[]⟩, .int .u8 1, .string ⟨#[99]⟩, .bool true, .int .u64 0, .int .u64 0, .string ⟨#[]⟩] 62)); clear t3 k3 a3)
    | (go_at_call 27; refine (HTr.out _ t b HT4.out _ HE4.out).mono ?_; rintro e w5 ⟨rfl, x5⟩; have HX5 := Lib.hid (HX4.out.trans x5); clear x5)
    | (go_at_call 28; refine (HSz.out _ t b (HT3.out.ext HX5.out)).mono ?_; rintro e w6 ⟨rfl, x6⟩; have HX6 := Lib.hid (HX5.out.trans x6); have HX7 := Lib.hid (HX6.out.alloc (.cells #[.int .u64 1, .int .u64 2, .int .u64 1] 25)); have HN7 : Hid (NumsP (w6.alloc (.cells #[.int .u64 1, .int .u64 2, .int .u64 1] 25)) (some ⟨w6.heap.size, 0, none⟩) [1, 2, 1]) := Lib.hid (Blk.numsP (l := [1, 2, 1]) (Blk.new w6 [.int .u64 1, .int .u64 2, .int .u64 1] 25)); clear x6)
    | (go_at_call 25; refine (HNu.out _ va c' (HN3.out.ext HX7.out) _ HN7.out).mono ?_; rintro e w8 ⟨rfl, x8⟩; have HX8 := Lib.hid (HX7.out.trans x8); clear x8)
    | (go_at_call 18; refine (HLi.out _ t b (HT3.out.ext HX8.out)).mono ?_; rintro e w9 ⟨v, rfl, b9, x9⟩; obtain ⟨pl, cl, rfl, tl, -⟩ := b9.texts; have HX9 := Lib.hid (HX8.out.trans x9); have HTL := Lib.hid (tl.ext ((Ext.refl w9).alloc (.cells #[.string ⟨#[98]⟩] 9))); have HTM : Hid (TextsP (w9.alloc (.cells #[.string ⟨#[98]⟩] 9)) (some ⟨w9.heap.size, 0, none⟩) [(⟨#[98]⟩ : ByteArray)]) := Lib.hid (Blk.textsP (l := [(⟨#[98]⟩ : ByteArray)]) (Blk.new w9 [.string ⟨#[98]⟩] 9)); have HXa := Lib.hid (HX9.out.alloc (.cells #[.string ⟨#[98]⟩] 9)); clear b9 x9 tl)
    | (go_at_call 17; refine (HTx.out _ pl cl HTL.out _ HTM.out).mono ?_; rintro e wb ⟨rfl, xb⟩; have HXb := Lib.hid (HX3.out.trans (HXa.out.trans xb)); clear xb))
  go_ret
  exact ⟨rfl, HXb.out⟩
end Go.Proofs.YtkjcpjalldbahaaGreatDoor
end

section
namespace Go.Proofs.YtkjcpjalldbahaaGreatDoor
open Go.ChangeShapes Go.WideShapes Go.ChangeAt Go.RowKit
structure QuotaO where
  Paths : Int
  Bytes : Int
def QuotaO.cells (x : QuotaO) : List Value := [.int .i64 x.Paths, .int .i64 x.Bytes]
structure QuotaO.Ok (x : QuotaO) : Prop where
  Paths : -9223372036854775808 ≤ x.Paths ∧ x.Paths ≤ 9223372036854775807
  Bytes : -9223372036854775808 ≤ x.Bytes ∧ x.Bytes ≤ 9223372036854775807
/-- The cells from the address on, if there are any, are these. -/
def QuotaOsP (w : World) (p : Option Addr) (L : List QuotaO) : Prop := ∀ (k : Nat) (x : QuotaO), L[k]? = some x → ∃ a, p = some a ∧ a.block < w.heap.size ∧ ∀ (j : Nat) (v : Value), (x.cells)[j]? = some v → w.cell? (a.add (k * 2 + j)) = some v
theorem QuotaOsP.ext {w w' : World} {p : Option Addr} {L : List QuotaO} (h : QuotaOsP w p L) (hx : Ext w w') : QuotaOsP w' p L := fun k x hk => by
  obtain ⟨a, h1, h2, h4⟩ := h k x hk
  exact ⟨a, h1, Nat.lt_of_lt_of_le h2 hx.size, fun j v hv => by rw [hx.below.cell (p := a.add (k * 2 + j)) (by rw [add_block]; omega)]; exact h4 j v hv⟩
theorem quotao_at {w : World} {a : Addr} {j k : Nat} {v : Option Value} (h : w.cell? (a.add (j * 2 + (k + 1))) = v) : w.cell? ⟨(a.add (j * 2)).block, (a.add (j * 2)).off + (k + 1), none⟩ = v := by
  rw [← Deep.add_add] at h
  exact h
theorem cells_quotao : Tryz.prog.cellsOf 23 = 2 := by kernel_rfl
theorem bytes_quotao : Tryz.prog.bytesOf 23 = 16 := by kernel_rfl
section
variable {H : Type} {enc : TypeId × Value → H} {W : World} {base : Nat} {v : Value} {d : DataW H} {p : List MemPlace}
def quotaoTs : List TypeId := [3, 3]
theorem quotao_list {cs : List Value} {v0 v1 : Value} (hl : cs.length = 2) (e0 : cs[0]? = some v0) (e1 : cs[1]? = some v1) : cs = [v0, v1] := by
  apply List.ext_getElem?
  intro i
  rcases (show i = 0 ∨ i = 1 ∨ 2 ≤ i by omega) with rfl | rfl | h
  · exact e0
  · exact e1
  · rw [List.getElem?_eq_none (by omega), List.getElem?_eq_none (by simpa using h)]
theorem open_quotao_cells {fuel : Nat} {cs : List Value} (htr : DataW.trod enc Tryz.prog W 0 (fun _ => true) true fuel 23 cs = some (d, p)) (hlt : ∀ x ∈ p, x.block < W.heap.size) (hw : ∀ w ∈ d.weights Tryz.prog 23, w ≤ reachBytes) :
    ∃ (x : QuotaO), cs = x.cells ∧ x.Ok := by
  obtain ⟨xs, n', _, hD, hcl, hlen, hfl⟩ := DataW.trod_struct Tryz.underlying23 htr
  have hlenN : xs.length = 2 := hlen
  simp only [Prod.mk.injEq] at hD
  obtain ⟨rfl, rfl⟩ := hD
  rw [cells_quotao] at hcl
  have g0 : DataW.trod enc Tryz.prog W 0 (fun _ => true) true n' 3 ((cs.drop 0).take (Tryz.prog.cellsOf 3)) = xs[0]? := hfl 0 _ rfl
  rw [show Tryz.prog.cellsOf 3 = 1 from by kernel_rfl] at g0
  have g1 : DataW.trod enc Tryz.prog W 0 (fun _ => true) true n' 3 ((cs.drop 1).take (Tryz.prog.cellsOf 3)) = xs[1]? := hfl 1 _ rfl
  rw [show Tryz.prog.cellsOf 3 = 1 from by kernel_rfl] at g1
  have hwe : ∀ w ∈ DataW.weightsEach Tryz.prog quotaoTs (xs.map (·.1)), w ≤ reachBytes := fun w hw1 => hw w (by
    simp only [DataW.weights, Tryz.underlying23]
    exact hw1)
  have hwb : (DataW.weightsEach Tryz.prog quotaoTs (xs.map (·.1))).all (· ≤ reachBytes) = true := List.all_eq_true.2 (fun w hw1 => by simpa using hwe w hw1)
  obtain ⟨d0, e0, w0⟩ := field_at (k := .i64) (by omega) Tryz.underlying3 g0
  obtain ⟨d1, e1, w1⟩ := field_at (k := .i64) (by omega) Tryz.underlying3 g1
  simp [Lit.wf, IntKind.min, IntKind.max, IntKind.signed, IntKind.bits] at w0 w1
  refine ⟨⟨d0, d1⟩, ?_, ⟨by show _ ∧ _; omega, by show _ ∧ _; omega⟩⟩
  unfold QuotaO.cells
  dsimp only
  exact quotao_list hcl e0 e1
set_option maxRecDepth 100000 in
theorem open_quotao_v (hval : Value.okWide Tryz.prog W .any base 23 v) (h : DataW.Trod enc Tryz.prog W 0 (fun _ => true) true 23 v d p) (hlt : ∀ x ∈ p, x.block < W.heap.size)
    {ts : List TypeId} {ds : List (DataW H)} {j : Nat} (hsz : (DataW.weightsEach Tryz.prog ts ds).all (· ≤ reachBytes) = true) (ht : ts[j]? = some 23) (hd : ds[j]? = some d) :
    ∃ (x : QuotaO), v = .agg (x.cells).toArray ∧ x.Ok := by
  obtain ⟨cs, rfl, _⟩ := okWide_struct Tryz.underlying23 hval
  obtain ⟨fuel, hf⟩ := h
  obtain ⟨x, hcs, h1⟩ := open_quotao_cells hf hlt (fun w hw => by
    have := List.all_eq_true.1 hsz _ (DataW.weights_mem_each (P := Tryz.prog) ht hd w hw)
    simpa using this)
  refine ⟨x, ?_, h1⟩
  have e : cs.toList = x.cells := by simpa [Value.cells] using hcs
  rw [← e]
end
end Go.Proofs.YtkjcpjalldbahaaGreatDoor
end

section
namespace Go.Proofs.YtkjcpjalldbahaaGreatDoor
open Go.ChangeShapes Go.WideShapes Go.ChangeAt Go.RowKit
structure EditO where
  Kind : Nat
  Path : ByteArray
  Any : Bool
  Want : Nat
  N : Nat
  Text : ByteArray
def EditO.cells (x : EditO) : List Value := [.int .u8 (x.Kind : Int), .string x.Path, .bool x.Any, .int .u64 (x.Want : Int), .int .u64 (x.N : Int), .string x.Text]
structure EditO.Ok (x : EditO) : Prop where
  Kind : x.Kind < 256
  Path : x.Path.size ≤ 140737488351232
  Want : x.Want < 18446744073709551616
  N : x.N < 18446744073709551616
  Text : x.Text.size ≤ 140737488351232
/-- The cells from the address on, if there are any, are these. -/
def EditOsP (w : World) (p : Option Addr) (L : List EditO) : Prop := ∀ (k : Nat) (x : EditO), L[k]? = some x → ∃ a, p = some a ∧ a.block < w.heap.size ∧ ∀ (j : Nat) (v : Value), (x.cells)[j]? = some v → w.cell? (a.add (k * 6 + j)) = some v
theorem EditOsP.ext {w w' : World} {p : Option Addr} {L : List EditO} (h : EditOsP w p L) (hx : Ext w w') : EditOsP w' p L := fun k x hk => by
  obtain ⟨a, h1, h2, h4⟩ := h k x hk
  exact ⟨a, h1, Nat.lt_of_lt_of_le h2 hx.size, fun j v hv => by rw [hx.below.cell (p := a.add (k * 6 + j)) (by rw [add_block]; omega)]; exact h4 j v hv⟩
theorem edito_at {w : World} {a : Addr} {j k : Nat} {v : Option Value} (h : w.cell? (a.add (j * 6 + (k + 1))) = v) : w.cell? ⟨(a.add (j * 6)).block, (a.add (j * 6)).off + (k + 1), none⟩ = v := by
  rw [← Deep.add_add] at h
  exact h
theorem cells_edito : Tryz.prog.cellsOf 62 = 6 := by kernel_rfl
theorem bytes_edito : Tryz.prog.bytesOf 62 = 64 := by kernel_rfl
section
variable {H : Type} {enc : TypeId × Value → H} {W : World} {base : Nat} {v : Value} {d : DataW H} {p : List MemPlace}
def editoTs : List TypeId := [5, 9, 4, 25, 25, 9]
theorem edito_list {cs : List Value} {v0 v1 v2 v3 v4 v5 : Value} (hl : cs.length = 6) (e0 : cs[0]? = some v0) (e1 : cs[1]? = some v1) (e2 : cs[2]? = some v2) (e3 : cs[3]? = some v3) (e4 : cs[4]? = some v4) (e5 : cs[5]? = some v5) : cs = [v0, v1, v2, v3, v4, v5] := by
  apply List.ext_getElem?
  intro i
  rcases (show i = 0 ∨ i = 1 ∨ i = 2 ∨ i = 3 ∨ i = 4 ∨ i = 5 ∨ 6 ≤ i by omega) with rfl | rfl | rfl | rfl | rfl | rfl | h
  · exact e0
  · exact e1
  · exact e2
  · exact e3
  · exact e4
  · exact e5
  · rw [List.getElem?_eq_none (by omega), List.getElem?_eq_none (by simpa using h)]
theorem open_edito_cells {fuel : Nat} {cs : List Value} (htr : DataW.trod enc Tryz.prog W 0 (fun _ => true) true fuel 62 cs = some (d, p)) (hlt : ∀ x ∈ p, x.block < W.heap.size) (hw : ∀ w ∈ d.weights Tryz.prog 62, w ≤ reachBytes) :
    ∃ (x : EditO), cs = x.cells ∧ x.Ok := by
  obtain ⟨xs, n', _, hD, hcl, hlen, hfl⟩ := DataW.trod_struct Tryz.underlying62 htr
  have hlenN : xs.length = 6 := hlen
  simp only [Prod.mk.injEq] at hD
  obtain ⟨rfl, rfl⟩ := hD
  rw [cells_edito] at hcl
  have g0 : DataW.trod enc Tryz.prog W 0 (fun _ => true) true n' 5 ((cs.drop 0).take (Tryz.prog.cellsOf 5)) = xs[0]? := hfl 0 _ rfl
  rw [show Tryz.prog.cellsOf 5 = 1 from by kernel_rfl] at g0
  have g1 : DataW.trod enc Tryz.prog W 0 (fun _ => true) true n' 9 ((cs.drop 1).take (Tryz.prog.cellsOf 9)) = xs[1]? := hfl 1 _ rfl
  rw [show Tryz.prog.cellsOf 9 = 1 from by kernel_rfl] at g1
  have g2 : DataW.trod enc Tryz.prog W 0 (fun _ => true) true n' 4 ((cs.drop 2).take (Tryz.prog.cellsOf 4)) = xs[2]? := hfl 2 _ rfl
  rw [show Tryz.prog.cellsOf 4 = 1 from by kernel_rfl] at g2
  have g3 : DataW.trod enc Tryz.prog W 0 (fun _ => true) true n' 25 ((cs.drop 3).take (Tryz.prog.cellsOf 25)) = xs[3]? := hfl 3 _ rfl
  rw [show Tryz.prog.cellsOf 25 = 1 from by kernel_rfl] at g3
  have g4 : DataW.trod enc Tryz.prog W 0 (fun _ => true) true n' 25 ((cs.drop 4).take (Tryz.prog.cellsOf 25)) = xs[4]? := hfl 4 _ rfl
  rw [show Tryz.prog.cellsOf 25 = 1 from by kernel_rfl] at g4
  have g5 : DataW.trod enc Tryz.prog W 0 (fun _ => true) true n' 9 ((cs.drop 5).take (Tryz.prog.cellsOf 9)) = xs[5]? := hfl 5 _ rfl
  rw [show Tryz.prog.cellsOf 9 = 1 from by kernel_rfl] at g5
  have hwe : ∀ w ∈ DataW.weightsEach Tryz.prog editoTs (xs.map (·.1)), w ≤ reachBytes := fun w hw1 => hw w (by
    simp only [DataW.weights, Tryz.underlying62]
    exact hw1)
  have hwb : (DataW.weightsEach Tryz.prog editoTs (xs.map (·.1))).all (· ≤ reachBytes) = true := List.all_eq_true.2 (fun w hw1 => by simpa using hwe w hw1)
  obtain ⟨d0, e0, w0⟩ := field_at (k := .u8) (by omega) Tryz.underlying5 g0
  obtain ⟨s1, e1, x1⟩ := field_str (by omega) Tryz.underlying9 g1
  have hs1 := hwe s1.data.toList.length (DataW.weights_mem_each (P := Tryz.prog) (j := 1) (t := 9) rfl x1 _ (by simp [DataW.weights]))
  simp only [reachBytes, size_list] at hs1
  obtain ⟨b2, e2⟩ := field_bool (by omega) Tryz.underlying4 g2
  obtain ⟨d3, e3, w3⟩ := field_at (k := .u64) (by omega) Tryz.underlying25 g3
  obtain ⟨d4, e4, w4⟩ := field_at (k := .u64) (by omega) Tryz.underlying25 g4
  obtain ⟨s5, e5, x5⟩ := field_str (by omega) Tryz.underlying9 g5
  have hs5 := hwe s5.data.toList.length (DataW.weights_mem_each (P := Tryz.prog) (j := 5) (t := 9) rfl x5 _ (by simp [DataW.weights]))
  simp only [reachBytes, size_list] at hs5
  simp [Lit.wf, IntKind.min, IntKind.max, IntKind.signed, IntKind.bits] at w0 w3 w4
  have n0 : ((d0.toNat : Nat) : Int) = d0 := Int.toNat_of_nonneg (by omega)
  have n3 : ((d3.toNat : Nat) : Int) = d3 := Int.toNat_of_nonneg (by omega)
  have n4 : ((d4.toNat : Nat) : Int) = d4 := Int.toNat_of_nonneg (by omega)
  refine ⟨⟨d0.toNat, s1, b2, d3.toNat, d4.toNat, s5⟩, ?_, ⟨by show d0.toNat < _; omega, by show s1.size ≤ _; omega, by show d3.toNat < _; omega, by show d4.toNat < _; omega, by show s5.size ≤ _; omega⟩⟩
  unfold EditO.cells
  dsimp only
  rw [n0, n3, n4]
  exact edito_list hcl e0 e1 e2 e3 e4 e5
set_option maxRecDepth 100000 in
theorem open_editos_p (hval : Value.okWide Tryz.prog W .any base 35 v) (h : DataW.Trod enc Tryz.prog W 0 (fun _ => true) true 35 v d p) (hlt : ∀ x ∈ p, x.block < W.heap.size)
    {ts : List TypeId} {ds : List (DataW H)} {j : Nat} (hsz : (DataW.weightsEach Tryz.prog ts ds).all (· ≤ reachBytes) = true) (ht : ts[j]? = some 35) (hd : ds[j]? = some d) :
    ∃ (pa : Option Addr) (c : Nat) (L : List EditO), v = .slice pa L.length c ∧ EditOsP W pa L ∧ (∀ x, x ∈ L → x.Ok) ∧ L.length ≤ 140737488355328 := by
  obtain ⟨a0, len, cap, rfl⟩ := okWide_slice Tryz.underlying35 hval
  obtain ⟨fuel, hf⟩ := h
  rcases Deep.open_slice Tryz.underlying35 hf with ⟨hcs, hx⟩ | ⟨a, len', cap', m, n, D, Pl, hcs, _, hl, hm, hmm, hx, hi⟩
  · simp [Value.cells] at hcs
    obtain ⟨rfl, rfl, rfl⟩ := hcs
    exact ⟨none, 0, [], rfl, fun k x hk => by simp at hk, fun x hx => by simp at hx, by simp⟩
  · simp [Value.cells] at hcs
    obtain ⟨rfl, rfl, rfl⟩ := hcs
    simp only [Prod.mk.injEq] at hx
    obtain ⟨rfl, rfl⟩ := hx
    simp only [if_true] at hmm
    subst hmm
    have hr := sized_slice hsz ht hd Tryz.underlying35
    rw [bytes_edito] at hr
    simp only [List.length_map, List.length_range, reachBytes] at hr
    obtain ⟨L, hL, hP⟩ := list_of_all (α := EditO) (P := fun k x => x.Ok ∧ a.block < W.heap.size ∧ ∀ (i : Nat) (u : Value), (x.cells)[i]? = some u → W.cell? (a.add (k * 6 + i)) = some u) len (fun k hk => by
      obtain ⟨cs', hc, htr⟩ := hi k (by omega)
      rw [cells_edito] at hc
      obtain ⟨_, hcl, hat⟩ := World.cells?_some hc
      obtain ⟨x, rfl, h2⟩ := open_edito_cells htr (fun y hy => hlt y (List.mem_append_right _ (List.mem_flatMap.2 ⟨k, List.mem_range.2 (by omega), hy⟩))) (fun w hw => by
        have hw2 := DataW.weights_mem_each (P := Tryz.prog) ht hd w (by
          simp only [DataW.weights, Tryz.underlying35, List.mem_cons, List.mem_append]
          exact .inr (.inl (weightsAll_mem (x := D k) (List.mem_map.2 ⟨k, List.mem_range.2 hk, rfl⟩) hw)))
        have := List.all_eq_true.1 hsz _ hw2
        simpa using this)
      refine ⟨x, h2, hlt (.cell a.block (a.off + k * 6)) (List.mem_append_left _ (MemPlace.mem_row.2 ⟨k * 6, by rw [cells_edito]; omega, rfl⟩)), fun i u hu => ?_⟩
      have hiN : i < 6 := (List.getElem?_eq_some_iff.1 hu).1
      have := hat i hiN
      rw [Deep.add_add] at this
      rw [this]
      exact hu)
    refine ⟨some a, m, L, by rw [hL], fun k x hk => ?_, fun x hx => ?_, by rw [hL]; omega⟩
    · obtain ⟨_, h2, h4⟩ := hP k x hk
      exact ⟨a, rfl, h2, h4⟩
    · obtain ⟨k, hk⟩ := List.getElem?_of_mem hx
      exact (hP k x hk).1
set_option maxRecDepth 100000 in
theorem open_edito_v (hval : Value.okWide Tryz.prog W .any base 62 v) (h : DataW.Trod enc Tryz.prog W 0 (fun _ => true) true 62 v d p) (hlt : ∀ x ∈ p, x.block < W.heap.size)
    {ts : List TypeId} {ds : List (DataW H)} {j : Nat} (hsz : (DataW.weightsEach Tryz.prog ts ds).all (· ≤ reachBytes) = true) (ht : ts[j]? = some 62) (hd : ds[j]? = some d) :
    ∃ (x : EditO), v = .agg (x.cells).toArray ∧ x.Ok := by
  obtain ⟨cs, rfl, _⟩ := okWide_struct Tryz.underlying62 hval
  obtain ⟨fuel, hf⟩ := h
  obtain ⟨x, hcs, h1⟩ := open_edito_cells hf hlt (fun w hw => by
    have := List.all_eq_true.1 hsz _ (DataW.weights_mem_each (P := Tryz.prog) ht hd w hw)
    simpa using this)
  refine ⟨x, ?_, h1⟩
  have e : cs.toList = x.cells := by simpa [Value.cells] using hcs
  rw [← e]
end
end Go.Proofs.YtkjcpjalldbahaaGreatDoor
end

section
namespace Go.Proofs.YtkjcpjalldbahaaGreatDoor
open Go.RowKit Go.ChangeMaps Go.MapKept

theorem over_no {R D : List RowP} (hD : GoodR D) (hl : D.length ≤ 20000) : overR 1048576 1073741824 R D = false := by
  have := GoodR.bytes hD.each
  unfold overR
  simp
  omega
theorem apply_roomy {R : List RowP} (h : GoodR R) (l : List EditP) (hl : R.length + l.length ≤ 20000) : applyR 1048576 1073741824 R l = if (runE 0 R [] l).e = 0 then ⟨0, 0, (runE 0 R [] l).D, (runE 0 R [] l).v⟩ else ⟨(runE 0 R [] l).e, (runE 0 R [] l).at_, R, []⟩ := by
  obtain ⟨h1, h2, _⟩ := runE_good l 0 [] h
  unfold applyR
  dsimp only
  rw [over_no h1 (by omega)]
  rfl
theorem apply_one {R : List RowP} (h : GoodR R) (e : EditP) (hl : R.length ≤ 19000) : applyR 1048576 1073741824 R [e] = if (editR R e).1.e = 0 then ⟨0, 0, (editR R e).2, [(editR R e).1.last]⟩ else ⟨(editR R e).1.e, 0, R, []⟩ := by
  rw [apply_roomy h [e] (by simp; omega)]
  by_cases he : (editR R e).1.e = 0
  · rw [runE_go he, runE_nil, if_pos rfl, if_pos he]
    rfl
  · rw [runE_stop he, if_neg he, if_neg he]
/-- An argument's edit. -/
def EditO.toP (x : EditO) : EditP := ⟨x.Kind, x.Path, x.Any, x.Want, x.N, x.Text⟩
theorem EditOsP.edits {w : World} {p : Option Addr} {l : List EditO} (h : EditOsP w p l) : EditsP w p (l.map EditO.toP) := fun k x hk => by
  rw [List.getElem?_map] at hk
  cases hx : l[k]? with
  | none => rw [hx] at hk; cases hk
  | some y =>
    rw [hx] at hk
    cases hk
    obtain ⟨a, h1, h2, h3⟩ := h k y hx
    exact ⟨a, h1, h2, h3⟩
theorem edits_ok {l : List EditO} (h : ∀ x ∈ l, x.Ok) : ∀ e ∈ l.map EditO.toP, e.p.size ≤ 140737488351232 ∧ e.t.size ≤ 140737488351232 := fun e he => by
  obtain ⟨x, hx, rfl⟩ := List.mem_map.1 he
  exact ⟨(h x hx).Path, (h x hx).Text⟩
/-- A table while numbers are appended. -/
theorem IsT.keepA {w w' : World} {lo t b A : Nat} {qp qb : Int} {R : List RowP} {T' : TypeId} (h : IsT w lo t b qp qb R) (k : KeepA T' A w w') (h1 : 41 ≠ T') (h2 : 73 ≠ T') : IsT w' lo t b qp qb R := ⟨h.blk.keepA k h2, h.map.keepA k h1, h.good⟩
theorem KeepA.turn {w w' : World} {B : Nat} {T : TypeId} (k : KeepA T B w w') : Turn (fun g => B ≤ g) w w' := ⟨k.below.os, k.below.tape, k.below.output, k.below.size, fun g _ hn => k.below.block g (by omega)⟩
end Go.Proofs.YtkjcpjalldbahaaGreatDoor
end
