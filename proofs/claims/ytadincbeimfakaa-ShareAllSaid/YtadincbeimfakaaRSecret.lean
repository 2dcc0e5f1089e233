/- Contracts: the secret whose shares came, by the document's answer. -/
import Derived.Test.YtadincbeimfakaaRGather
import Derived.Test.YtadincbeimfakaaMixed
namespace Go.Proofs.Ytadincbeimfakaa
open Go.RowKit
attribute [local irreducible] xorL xorAll

set_option maxRecDepth 100000 in
set_option maxHeartbeats 4000000 in
theorem rsecret_no (w : World) (r : Nat) (v : Value) (n m : Nat) (L : List (Nat × ByteArray)) (h : IsR w r v n m L) (hl : L.length < n) :
    Calls Try.prog 19 #[.pointer (some ⟨r, 0, none⟩)] w fun e w' => e = .returned (.string ⟨#[]⟩) ∧ Ext w w' := by
  obtain ⟨p, c, rfl, hcl⟩ := h.buf.cells
  have cr := h.blk.cell 0 _ rfl
  by_cases h0 : L = []
  · subst h0
    clear h hcl
    go_enter Try.func19, Try.ntmps19
    go_wp2
    go_quiet (fail)
    go_wp2
    go_ret
    exact ⟨rfl, (Ext.refl w).drewN _⟩
  · obtain ⟨x, hx⟩ : ∃ x, L[0]? = some x := ⟨_, List.getElem?_eq_getElem (List.length_pos_iff.2 h0)⟩
    obtain ⟨q, rfl, hq1, hq2, hc0, hc1, hc2⟩ := hcl 0 x hx
    have hpos : 0 < L.length := List.length_pos_iff.2 h0
    have hposi : (0 : Int) < (L.length : Int) := by omega
    have c1 : w.cell? ⟨q, 1, none⟩ = some (.int .i64 (n : Int)) := by simpa using hc1
    have e1 : ((L.length : Int) == 0) = false := by rw [beq_eq_false_iff_ne]; omega
    have e2 : (L.length : Int) < (n : Int) := by omega
    clear h hcl h0 hx hq1 hq2 hc0 hc1 hc2
    generalize L.length = len at *
    go_enter Try.func19, Try.ntmps19
    go_wp2
    go_quiet (fail)
    go_wp2
    go_ret
    exact ⟨rfl, (Ext.refl w).drewN _⟩
/-- Shares' texts. -/
def txtsOf (L : List (Nat × ByteArray)) : List ByteArray := L.map (·.2)
set_option maxRecDepth 100000 in
set_option maxHeartbeats 4000000 in
theorem rsecret_yes (w : World) (r : Nat) (v : Value) (n m : Nat) (x : Nat × ByteArray) (L : List (Nat × ByteArray)) (h : IsR w r v n m (x :: L)) (hl : L.length + 1 = n) :
    Calls Try.prog 19 #[.pointer (some ⟨r, 0, none⟩)] w fun e w' => e = .returned (.string ⟨(xorAll x.2.data.toList (txtsOf L)).toArray⟩) ∧ Ext w w' := by
  obtain ⟨p, c, rfl, hcl⟩ := h.buf.cells
  have HB := Lib.hid h.blk
  have cr := h.blk.cell 0 _ rfl
  obtain ⟨q, rfl, hq1, hq2, hc0, hc1, hc2⟩ := hcl 0 x rfl
  have n16 := h.alike.n16
  have HCl := Lib.hid (fun (j : Nat) (y : Nat × ByteArray) (hy : L[j]? = some y) => (show w.cell? ⟨q, (j + 1) * 3 + 2, none⟩ = some (.string y.2) by
    obtain ⟨q', e, _, _, _, _, hc⟩ := hcl (j + 1) y (by simpa using hy)
    cases e
    exact hc))
  have c1 : w.cell? ⟨q, 1, none⟩ = some (.int .i64 (n : Int)) := by simpa using hc1
  have c2 : w.cell? ⟨q, 2, none⟩ = some (.string x.2) := by simpa using hc2
  have hsz : ∀ j, xorAll x.2.data.toList ((txtsOf L).take j) = xorAll x.2.data.toList ((txtsOf L).take j) := fun j => rfl
  have m64 := h.alike.m64
  have hx0 := (h.alike.each x (by simp)).2.2
  have HXr := Lib.hid (fun (j : Nat) (y : Nat × ByteArray) (hy : L[j]? = some y) u => (show Calls Try.prog 21 #[.string ⟨(xorAll x.2.data.toList ((txtsOf L).take j)).toArray⟩, .string y.2] u fun e w' => e = .returned (.string ⟨(xorAll x.2.data.toList ((txtsOf L).take (j + 1))).toArray⟩) ∧ Ext u w' by
    have hlen : (xorAll x.2.data.toList ((txtsOf L).take j)).length = m := xorAll_length _ _ (by rw [size_list, hx0]) (fun b hb => by
      obtain ⟨z, hz, rfl⟩ := List.mem_map.1 (List.mem_of_mem_take hb)
      exact (h.alike.each z (by simp [hz])).2.2)
    have hy2 := (h.alike.each y (by simp [List.mem_of_getElem? hy])).2.2
    have hr := rXor_yes ⟨(xorAll x.2.data.toList ((txtsOf L).take j)).toArray⟩ y.2 (by rw [txt_size, hlen, hy2]) (by rw [txt_size, hlen]; omega) u
    have exd : (⟨(xorAll x.2.data.toList ((txtsOf L).take j)).toArray⟩ : ByteArray).data.toList = xorAll x.2.data.toList ((txtsOf L).take j) := by simp
    rw [exd, ← xorAll_step _ _ _ _ (by unfold txtsOf; rw [List.getElem?_map, hy]; rfl)] at hr
    exact hr))
  have hX0 : xorAll x.2.data.toList ((txtsOf L).take 0) = x.2.data.toList := by rw [List.take_zero]; unfold xorAll; rfl
  have HX0 := Lib.hid hX0
  have HTL : Hid ((txtsOf L).length = L.length) := Lib.hid (by simp [txtsOf])
  have hlen : (x :: L).length = n := by simpa using hl
  rw [hlen] at cr HB
  have hposi : (0 : Int) < (n : Int) := by omega
  have hpos : 0 < n := by omega
  have e1 : ((n : Int) == 0) = false := by rw [beq_eq_false_iff_ne]; omega
  have HXS := Lib.hid (fun u (hu : Ext w u) j (y : Nat × ByteArray) (hy : L[j]? = some y) => (hu.below.cell (p := ⟨q, (j + 1) * 3 + 2, none⟩) hq2).trans (HCl.out j y hy))
  have hl1 : L.length + 1 ≤ n := by omega
  have hl2 : n ≤ L.length + 1 := by omega
  clear h hcl hsz hx0 hX0 hlen hq1 hq2 hc0 hc1 hc2 HCl hl
  go_enter Try.func19, Try.ntmps19
  go_wp2
  go_quiet (fail)
  go_wp2
  clear c1 c2 cr
  go_loopw [3, 4] (fun last iv wr => ∃ j : Nat, j ≤ L.length ∧ iv = .int .i64 ((j : Int) + 1) ∧ last = .string ⟨(xorAll x.2.data.toList ((txtsOf L).take j)).toArray⟩ ∧ Ext w wr) (fun _ iv _ => n - (intOf iv).toNat)
  case atStart => exact ⟨0, Nat.zero_le _, rfl, by rw [HX0.out], (Ext.refl w).drewN _⟩
  case round =>
    obtain ⟨j, hj, rfl, rfl, hext⟩ := hrel
    have HE := Lib.hid hext
    have cr := (HB.out.ext hext).cell 0 _ rfl
    clear hext
    by_cases hlt : j < L.length
    · obtain ⟨y, hy⟩ : ∃ y, L[j]? = some y := ⟨_, List.getElem?_eq_getElem hlt⟩
      have cy := HXS.out _ HE.out j y hy
      have HXj := Lib.hid (fun u => HXr.out j y hy u)
      clear hy
      generalize y.2 = t at *
      generalize (⟨(xorAll x.2.data.toList ((txtsOf L).take j)).toArray⟩ : ByteArray) = L0 at *
      go_wp2_with (go_at_call 21; refine (HXj.out _).mono ?_; rintro e w2 ⟨rfl, x2⟩)
      go_roundw
      case rel => exact ⟨j + 1, hlt, by go_num, rfl, HE.out.trans x2⟩
      case measure => simp [intOf]; omega
    · obtain rfl : j = L.length := by omega
      have ht := List.take_of_length_le (show (txtsOf L).length ≤ L.length by rw [HTL.out]; exact Nat.le_refl _)
      rw [ht]
      clear ht
      go_wp2
      go_ret
      exact ⟨rfl, HE.out⟩
end Go.Proofs.Ytadincbeimfakaa
