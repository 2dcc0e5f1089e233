/- Contract: the law's self-test, a table of two secrets. -/
import Derived.Test.YtkjcpjalldbahaaDoorM30
import Derived.Test.YtkjcpjalldbahaaDoorM32
namespace Go.Proofs.YtkjcpjalldbahaaDoor
open Go.RowKit

def exE : List EditP := [⟨1, ⟨#[97]⟩, false, 0, 0, ⟨#[120]⟩⟩, ⟨2, ⟨#[97]⟩, false, 1, 0, ⟨#[]⟩⟩, ⟨1, ⟨#[98]⟩, true, 0, 0, ⟨#[]⟩⟩]
def exF : List EditP := [⟨1, ⟨#[98]⟩, true, 0, 0, ⟨#[]⟩⟩, ⟨1, ⟨#[99]⟩, true, 0, 0, ⟨#[]⟩⟩]
def exD : List RowP := (applyR 2 100 [] exE).D
theorem ex_v : (applyR 2 100 [] exE).v = [1, 2, 1] := by decide +kernel
theorem ex_e : (applyR 2 100 [] exE).e = 0 := by decide +kernel
theorem ex_a : (applyR 2 100 [] exE).at_ = 0 := by decide +kernel
theorem ex_len : exD.length = 2 := by decide +kernel
theorem ex_bytes : bytesR exD = 3 := by decide +kernel
theorem ex_fe : (applyR 2 100 exD exF).e = 180 := by decide +kernel
theorem ex_fa : (applyR 2 100 exD exF).at_ = 2 := by decide +kernel
theorem ex_live : namesB ⟨#[]⟩ (liveR exD) = [⟨#[98]⟩] := by decide +kernel
/-- Edits' cells, one behind the other. -/
def esCells (l : List EditP) : List Value := l.flatMap EditP.cells
theorem esCells_get : ∀ (L : List EditP) (i : Nat) (x : EditP), L[i]? = some x → ∀ (k : Nat) (u : Value), x.cells[k]? = some u → (esCells L)[i * 6 + k]? = some u
  | [], i, x, h => by simp at h
  | a :: r, 0, x, h => by
    simp at h; subst h
    intro k u hu
    have : k < 6 := (List.getElem?_eq_some_iff.1 hu).1
    rw [esCells, List.flatMap_cons, List.getElem?_append_left (by simp [EditP.cells]; omega)]
    simpa using hu
  | a :: r, i + 1, x, h => by
    intro k u hu
    have ih := esCells_get r i x (by simpa using h) k u hu
    rw [esCells, List.flatMap_cons, List.getElem?_append_right (by simp [EditP.cells]; omega)]
    rw [show (i + 1) * 6 + k - (EditP.cells a).length = i * 6 + k by simp [EditP.cells]; omega]
    exact ih
theorem Blk.editsP {w : World} {b : Nat} {T : TypeId} {l : List EditP} (h : Blk w b T (esCells l)) : EditsP w (some ⟨b, 0, none⟩) l := fun k x hk =>
  ⟨_, rfl, h.lt, fun j v hv => by rw [Addr.add_mid, Nat.zero_add]; exact h.cell _ _ (esCells_get l k x hk j v hv)⟩
theorem Blk.textsP {w : World} {b : Nat} {T : TypeId} {l : List ByteArray} (h : Blk w b T (l.map Value.string)) : TextsP w (some ⟨b, 0, none⟩) l := fun i s hs =>
  ⟨_, rfl, h.lt, by rw [Addr.add_mid, Nat.zero_add]; exact h.cell i _ (by simp [hs])⟩
theorem ex_small : ∀ l : List EditP, l = exE ∨ l = exF → ∀ e ∈ l, e.p.size ≤ 140737488351232 ∧ e.t.size ≤ 140737488351232 := by
  intro l hl e he
  have h1 : ∀ e ∈ exE, e.p.size ≤ 140737488351232 ∧ e.t.size ≤ 140737488351232 := by decide +kernel
  have h2 : ∀ e ∈ exF, e.p.size ≤ 140737488351232 ∧ e.t.size ≤ 140737488351232 := by decide +kernel
  rcases hl with rfl | rfl
  · exact h1 e he
  · exact h2 e he
set_option maxRecDepth 100000 in
set_option maxHeartbeats 4000000 in
theorem works18_any (w : World) : Calls Tryd.prog 6 #[] w fun e w' => e = .returned (.bool true) ∧ Ext w w' := by
  have HNew := Lib.hid (tnew_any w 2 100 w.heap.size)
  have HAp := Lib.hid (fun u t b (h : IsT u w.heap.size t b 2 100 []) hlo p (hp : EditsP u p exE) => apply_any u w.heap.size t b 2 100 [] h hlo (by simp) p 3 exE hp (by decide) (ex_small _ (.inl rfl)))
  rw [ex_v, ex_e, ex_a] at HAp
  have HTr := Lib.hid (fun u t b (h : IsT u w.heap.size t b 2 100 exD) p (hp : EditsP u p exF) => try_any u w.heap.size t b 2 100 exD h (by rw [ex_len]; omega) p 2 exF hp (by decide) (ex_small _ (.inr rfl)))
  rw [ex_fe, ex_fa] at HTr
  have HSz := Lib.hid (fun u t b (h : IsT u w.heap.size t b 2 100 exD) => tSize_any u w.heap.size t b 2 100 exD h)
  rw [ex_len, ex_bytes] at HSz
  have HLi := Lib.hid (fun u t b (h : IsT u w.heap.size t b 2 100 exD) => tlist_any u w.heap.size t b 2 100 exD h (by rw [ex_len]; omega) ⟨#[]⟩ (by decide))
  rw [ex_live] at HLi
  have HNu := Lib.hid (fun u p c (h : NumsP u p [1, 2, 1]) q (h2 : NumsP u q [1, 2, 1]) => numbers18_dec u p q c 3 3 3 [1, 2, 1] [1, 2, 1] rfl rfl h h2 (by decide) (by decide))
  have HTx := Lib.hid (fun u p c (h : TextsP u p [(⟨#[98]⟩ : ByteArray)]) q (h2 : TextsP u q [(⟨#[98]⟩ : ByteArray)]) => texts18_dec u p q c 1 1 1 [⟨#[98]⟩] [⟨#[98]⟩] rfl rfl h h2 (by decide) (by decide))
  simp only [decide_true] at HNu HTx
  go_enter Tryd.func6, Tryd.ntmps6
  go_wp2_with (first
    | (go_at_call 7; refine HNew.out.mono ?_; rintro e w1 ⟨t, b, rfl, t1, x1, k1, k2⟩; have HX1 := Lib.hid x1; have HK : Hid (∀ g, TB t b g → w.heap.size ≤ g) := Lib.hid (fun g q => (by rcases q with q | q <;> (subst q; assumption))); have HT2 := Lib.hid (t1.ext ((Ext.refl w1).alloc (.cells #[.int .u8 1, .string ⟨#[97]⟩, .bool false, .int .u64 0, .int .u64 0, .string ⟨#[120]⟩, .int .u8 2, .string ⟨#[97]⟩, .bool false, .int .u64 1, .int .u64 0, .string ⟨#[]⟩, .int .u8 1, .string ⟨#[98]⟩, .bool true, .int .u64 0, .int .u64 0, .string ⟨#[]⟩] 40))); have HE2 : Hid (EditsP (w1.alloc (.cells #[.int .u8 1, .string ⟨#[97]⟩, .bool false, .int .u64 0, .int .u64 0, .string ⟨#[120]⟩, .int .u8 2, .string ⟨#[97]⟩, .bool false, .int .u64 1, .int .u64 0, .string ⟨#[]⟩, .int .u8 1, .string ⟨#[98]⟩, .bool true, .int .u64 0, .int .u64 0, .string ⟨#[]⟩] 40)) (some ⟨w1.heap.size, 0, none⟩) exE) := Lib.hid (Blk.editsP (l := exE) (Blk.new w1 [.int .u8 1, .string ⟨#[97]⟩, .bool false, .int .u64 0, .int .u64 0, .string ⟨#[120]⟩, .int .u8 2, .string ⟨#[97]⟩, .bool false, .int .u64 1, .int .u64 0, .string ⟨#[]⟩, .int .u8 1, .string ⟨#[98]⟩, .bool true, .int .u64 0, .int .u64 0, .string ⟨#[]⟩] 40)); have HX2 := Lib.hid (x1.alloc (.cells #[.int .u8 1, .string ⟨#[97]⟩, .bool false, .int .u64 0, .int .u64 0, .string ⟨#[120]⟩, .int .u8 2, .string ⟨#[97]⟩, .bool false, .int .u64 1, .int .u64 0, .string ⟨#[]⟩, .int .u8 1, .string ⟨#[98]⟩, .bool true, .int .u64 0, .int .u64 0, .string ⟨#[]⟩] 40)); clear t1 x1 k1 k2)
    | (go_at_call 8; refine (HAp.out _ t b HT2.out HX2.out.size _ HE2.out).mono ?_; rintro e w3 ⟨va, c', rfl, t3, k3, a3⟩; have HX3 : Hid (Ext w w3) := Lib.hid (((Turn.ofExt (TB t b) HX2.out).trans k3).toExt HK.out); have HT3 : Hid (IsT w3 w.heap.size t b 2 100 exD) := Lib.hid t3; have HN3 : Hid (NumsP w3 va [1, 2, 1]) := Lib.hid (IsA.numsP (l := [1, 2, 1]) a3); have HT4 := Lib.hid (HT3.out.ext ((Ext.refl w3).alloc (.cells #[.int .u8 1, .string ⟨#[98]⟩, .bool true, .int .u64 0, .int .u64 0, .string ⟨#[]⟩, .int .u8 1, .string ⟨#[99]⟩, .bool true, .int .u64 0, .int .u64 0, .string ⟨#[]⟩] 40))); have HE4 : Hid (EditsP (w3.alloc (.cells #[.int .u8 1, .string ⟨#[98]⟩, .bool true, .int .u64 0, .int .u64 0, .string ⟨#[]⟩, .int .u8 1, .string ⟨#[99]⟩, .bool true, .int .u64 0, .int .u64 0, .string ⟨#[]⟩] 40)) (some ⟨w3.heap.size, 0, none⟩) exF) := Lib.hid (Blk.editsP (l := exF) (Blk.new w3 [.int .u8 1, .string ⟨#[98]⟩, .bool true, .int .u64 0, .int .u64 0, .string ⟨#[]⟩, .int .u8 1, .string ⟨#[99]⟩, .bool true, .int .u64 0, .int .u64 0, .string ⟨#[]⟩] 40)); have HX4 := Lib.hid ((Ext.refl w3).alloc (.cells #[.int .u8 1, .string ⟨#[98]⟩, .bool true, .int .u64 0, .int .u64 0, .string ⟨#[]⟩, .int .u8 1, .string ⟨#[99]⟩, .bool true, .int .u64 0, .int .u64 0, .string ⟨#[]⟩] 40)); clear t3 k3 a3)
    | (go_at_call 15; refine (HTr.out _ t b HT4.out _ HE4.out).mono ?_; rintro e w5 ⟨rfl, x5⟩; have HX5 := Lib.hid (HX4.out.trans x5); clear x5)
    | (go_at_call 14; refine (HSz.out _ t b (HT3.out.ext HX5.out)).mono ?_; rintro e w6 ⟨rfl, x6⟩; have HX6 := Lib.hid (HX5.out.trans x6); have HX7 := Lib.hid (HX6.out.alloc (.cells #[.int .u64 1, .int .u64 2, .int .u64 1] 38)); have HN7 : Hid (NumsP (w6.alloc (.cells #[.int .u64 1, .int .u64 2, .int .u64 1] 38)) (some ⟨w6.heap.size, 0, none⟩) [1, 2, 1]) := Lib.hid (Blk.numsP (l := [1, 2, 1]) (Blk.new w6 [.int .u64 1, .int .u64 2, .int .u64 1] 38)); clear x6)
    | (go_at_call 11; refine (HNu.out _ va c' (HN3.out.ext HX7.out) _ HN7.out).mono ?_; rintro e w8 ⟨rfl, x8⟩; have HX8 := Lib.hid (HX7.out.trans x8); clear x8)
    | (go_at_call 17; refine (HLi.out _ t b (HT3.out.ext HX8.out)).mono ?_; rintro e w9 ⟨v, rfl, b9, x9⟩; obtain ⟨pl, cl, rfl, tl, -⟩ := b9.texts; have HX9 := Lib.hid (HX8.out.trans x9); have HTL := Lib.hid (tl.ext ((Ext.refl w9).alloc (.cells #[.string ⟨#[98]⟩] 9))); have HTM : Hid (TextsP (w9.alloc (.cells #[.string ⟨#[98]⟩] 9)) (some ⟨w9.heap.size, 0, none⟩) [(⟨#[98]⟩ : ByteArray)]) := Lib.hid (Blk.textsP (l := [(⟨#[98]⟩ : ByteArray)]) (Blk.new w9 [.string ⟨#[98]⟩] 9)); have HXa := Lib.hid (HX9.out.alloc (.cells #[.string ⟨#[98]⟩] 9)); clear b9 x9 tl)
    | (go_at_call 16; refine (HTx.out _ pl cl HTL.out _ HTM.out).mono ?_; rintro e wb ⟨rfl, xb⟩; have HXb := Lib.hid (HX3.out.trans (HXa.out.trans xb)); clear xb))
  go_ret
  exact ⟨rfl, HXb.out⟩
end Go.Proofs.YtkjcpjalldbahaaDoor
