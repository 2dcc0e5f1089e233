/- Contracts: the table of boxes, and what bytes are boxes of, by the document's answer. -/
import Derived.Test.YthglecfbcdikaaaRBox
namespace Go.Proofs.Ythglecfbcdikaaa
open Go.RowKit

/-- A slice that reads as these bytes. -/
def BSl (w : World) (v : Value) (l : List UInt8) : Prop := ∃ g c, v = .slice (some ⟨g, 0, none⟩) l.length c ∧ g < w.heap.size ∧ ∀ (i : Nat) (b : UInt8), l[i]? = some b → w.cell? ⟨g, i, none⟩ = some (.int .u8 (b.toNat : Int))
theorem BSl.ext {w w' : World} {v : Value} {l : List UInt8} (h : BSl w v l) (hx : Ext w w') : BSl w' v l := by
  obtain ⟨g, c, h1, h2, h3⟩ := h
  exact ⟨g, c, h1, Nat.lt_of_lt_of_le h2 hx.size, fun i b hb => (hx.below.cell (p := ⟨g, i, none⟩) h2).trans (h3 i b hb)⟩
theorem Buf.sl {w : World} {B : Nat} {v : Value} {l : List UInt8} (h : Buf w B v l) (hl : l ≠ []) : BSl w v l := by
  unfold Buf at h
  rcases h.2 with ⟨_, h0⟩ | ⟨g, cap, cur, hv, _, hg, hle, _, hsz, ht⟩
  · exact absurd (List.length_eq_zero_iff.1 h0) hl
  · refine ⟨g, cap, hv, (Array.getElem?_eq_some_iff.1 hg).1, fun i b hb => ?_⟩
    have hi : i < l.length := (List.getElem?_eq_some_iff.1 hb).1
    rw [cell_of_row w g i cur _ (0, 0) hg]
    have e : cur.toList[i]? = (l.map cellOf)[i]? := by
      rw [← ht, List.getElem?_take, if_pos (by omega)]
    rw [← Array.getElem?_toList, e]
    simp [hb, cellOf]
theorem Row.sl {w : World} {g : Nat} {t : TypeId} {l : List UInt8} (h : Row w g t l) (c : Nat) : BSl w (.slice (some ⟨g, 0, none⟩) l.length c) l := ⟨g, c, rfl, h.lt, fun i b hb => h.cell i b hb⟩
set_option maxRecDepth 100000 in
set_option maxHeartbeats 1000000 in
theorem rtable_any (w : World) : Calls Try.prog 17 #[] w fun e w' => ∃ v, e = .returned v ∧ BSl w' v boxT ∧ Ext w w' := by
  have HB := Lib.hid (fun j (h : j < 256) u => rbox_any j h u)
  go_enter Try.func17, Try.ntmps17
  go_wp2
  go_loopw [1, 2] (fun v i wr => ∃ j : Nat, j ≤ 256 ∧ i = .int .i64 j ∧ Buf wr w.heap.size v (boxT.take j) ∧ Ext w wr) (fun _ i _ => 256 - (intOf i).toNat)
  case atStart => exact ⟨0, by omega, rfl, by simpa using Buf.nil w w.heap.size, Ext.refl w⟩
  case round =>
    obtain ⟨j, hj, rfl, hbuf, hext⟩ := hrel
    by_cases hlt : j < 256
    · have hji : (j : Int) < 256 := by omega
      have hwj : IntKind.u8.wrap (j : Int) = (j : Int) := IntWalk.u8_in _ ⟨by omega, by omega⟩
      have HJ := Lib.hid (HB.out j hlt)
      have HT := Lib.hid (boxT_take j hlt)
      have H2 : Hid ((boxT.take j).length + 1 ≤ 140737488355328) := Lib.hid (by rw [List.length_take]; omega)
      have HBf := Lib.hid hbuf; have HE := Lib.hid hext
      clear hbuf hext
      go_wp2_with (first
        | (go_at_call 30; (with_reducible refine (HJ.out _).mono ?_); rintro e w1 ⟨rfl, rfl⟩)
        | (at_builtin; refine append_bytes rfl (.tmp 7) (.tmp 11) rfl w.heap.size _ _ rfl (HBf.out.alloc _) wr.heap.size 1 [boxB (UInt8.ofNat j)] rfl rfl (Row.one _ _ _ _ rfl) H2.out (HE.out.alloc _).size ?_; intro v1 w2 hb1 hx1; have hext1 : Ext w w2 := Below.trans (HE.out.alloc _) hx1))
      go_roundw
      case rel => exact ⟨j + 1, by omega, by go_num, by rw [HT.out]; exact hb1, hext1⟩
      case measure => simp [intOf]; omega
    · obtain rfl : j = 256 := by omega
      have e256 : ((256 : Nat) : Int) = 256 := rfl
      rw [e256]
      clear e256
      rw [List.take_of_length_le (by rw [boxT_length]; exact Nat.le_refl _)] at hbuf
      have HS := Lib.hid (hbuf.sl (by intro h; have := boxT_length; rw [h] at this; cases this))
      clear hbuf
      go_wp2
      go_ret
      exact ⟨_, rfl, HS.out, hext⟩
end Go.Proofs.Ythglecfbcdikaaa
