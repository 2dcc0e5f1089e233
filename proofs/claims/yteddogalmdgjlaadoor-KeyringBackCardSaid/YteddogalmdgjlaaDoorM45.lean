/- Contracts: keys by epochs: all epochs, rising; an epoch's two keys: by the program. Contract: the document's example: the laws of layer 13. -/
import Derived.Test.YteddogalmdgjlaaDoorM19
import Derived.Test.YteddogalmdgjlaaDoorSorted
import Derived.Test.YteddogalmdgjlaaDoorM13
import Derived.Test.YteddogalmdgjlaaDoorKeysK
import Derived.BigQuiet
section
namespace Go.Proofs.YteddogalmdgjlaaDoor
open Go.RowKit

theorem perm_sorted : ∀ {l m : List Nat}, l.Perm m → l.Pairwise (· ≤ ·) → m.Pairwise (· < ·) → l = m
  | [], _, h, _, _ => (List.nil_perm.1 h).symm
  | a :: l, [], h, _, _ => by have := h.length_eq; simp at this
  | a :: l, b :: m, h, h1, h2 => by
    have q1 := List.rel_of_pairwise_cons h1 (a' := b)
    have q2 := List.rel_of_pairwise_cons h2 (a' := a)
    have e : a = b := by
      rcases List.mem_cons.1 (h.mem_iff.1 (List.mem_cons_self (a := a) (l := l))) with q | q
      · exact q
      · rcases List.mem_cons.1 (h.mem_iff.2 (List.mem_cons_self (a := b) (l := m))) with p | p
        · exact p.symm
        · have := q1 p; have := q2 q; omega
    subst e
    rw [perm_sorted h.cons_inv h1.of_cons h2.of_cons]
theorem epochs_nil (w : World) :
    Calls Tryd.prog 22 #[.pointer none] w fun e w' => e = .returned (.slice none 0 0) ∧ w = w' := by
  go_enter Tryd.func22, Tryd.ntmps22
  go_wp2_with (go_at_call 30; refine (thereK_no _).mono ?_; rintro e w1 ⟨rfl, rfl⟩)
  go_ret
  exact ⟨rfl, rfl⟩
/-- A slice of a ring's epochs. -/
structure IsE (w : World) (B g c : Nat) (l : List Nat) : Prop where
  blk : ∃ pos, Blk w g 29 (l.map cN ++ pos) ∧ l.length + pos.length = c
  new : B ≤ g
  le : l.length ≤ c
theorem IsE.ext {w w' : World} {B g c : Nat} {l : List Nat} (h : IsE w B g c l) (x : Ext w w') : IsE w' B g c l := by
  obtain ⟨⟨pos, h1, h2⟩, h3, h4⟩ := h
  exact ⟨⟨pos, h1.ext x, h2⟩, h3, h4⟩
theorem IsE.cell {w : World} {B g c : Nat} {l : List Nat} (h : IsE w B g c l) (i : Nat) (hi : i < l.length) : w.cell? ⟨g, i, none⟩ = some (.int .u32 (l[i] : Int)) := by
  obtain ⟨⟨pos, h1, h2⟩, h3, h4⟩ := h
  refine h1.cell i _ ?_
  rw [List.getElem?_append_left (by simpa using hi), List.getElem?_map, List.getElem?_eq_getElem hi]
  rfl
set_option maxRecDepth 100000 in
theorem epochs_any (w : World) (r b : Nat) (L : List (Nat × ByteArray)) (h : IsK w r b L) :
    Calls Tryd.prog 22 #[.pointer (some ⟨r, 0, none⟩)] w fun e w' => ∃ g c, e = .returned (.slice (some ⟨g, 0, none⟩) L.length c) ∧ IsE w' w.heap.size g c (eps L) ∧ Ext w w' := by
  have hc := h.cell
  have h1 : 1 ≤ L.length := by have := h.good.ne; cases L with | nil => exact absurd rfl this | cons => simp
  have H1 := Lib.hid h1
  have h64 := h.good.few
  have hup := h.good.up
  obtain ⟨M, hp, hm⟩ := h.map
  have HU := Lib.hid hup
  have HP := Lib.hid hp
  obtain ⟨W0, hW0⟩ : ∃ W0, w.alloc (.cells #[.map (some b)] 60) = W0 := ⟨_, rfl⟩
  have hx0 : Ext w W0 := by rw [← hW0]; exact (Ext.refl w).alloc _
  have hz0 : w.heap.size < W0.heap.size := by rw [← hW0]; simp
  have hB0 : Blk W0 w.heap.size 60 [.map (some b)] := by rw [← hW0]; exact Blk.new w _ _
  have hlen := hp.length_eq
  have HS := Lib.hid (sorted_any w.heap.size b M W0 (by omega) (by omega) (hB0.cell 0 _ rfl) hz0 (hm.ext hx0))
  have HX := Lib.hid hx0
  clear h hup hm hp hx0 hz0 hB0 h1 h64
  go_enter Tryd.func22, Tryd.ntmps22
  go_wp2_with (first
    | (go_at_call 30; refine (thereK_yes _ r b hc).mono ?_; rintro e w1 ⟨rfl, rfl⟩)
    | (go_at_call 39; refine (keys_any (some b) _).mono ?_; rintro e w1 ⟨rfl, hw1⟩; rw [hW0] at hw1; subst hw1)
    | (go_at_call 38; refine (HS.out).mono ?_; rintro e w2 ⟨g, cap, zs, rfl, p2, s2, r2, x2⟩; have P2 := Lib.hid p2; have S2 := Lib.hid s2; have R2 := Lib.hid r2; have X2 := Lib.hid x2; clear p2 s2 r2 x2))
  go_ret
  have e : zs = eps L := perm_sorted (P2.out.trans (HP.out.map (·.1))) S2.out HU.out
  have hl2 : zs.length = L.length := by rw [e]; simp [eps]
  have hL0 : 0 < zs.length := by have := H1.out; omega
  obtain ⟨g', cap', pos, hv, hB, hle, hm, hz, hblk⟩ := owned_blk R2.out hL0
  cases hv
  exact ⟨g, cap, by rw [hl2] <;> rfl, ⟨⟨pos, by rw [← e]; exact hblk, by rw [← e]; exact hz⟩, Nat.le_trans HX.out.size hB, by rw [← e]; exact hle⟩, HX.out.trans X2.out⟩
end Go.Proofs.YteddogalmdgjlaaDoor
end

section
namespace Go.Proofs.YteddogalmdgjlaaDoor
open Go.RowKit

theorem Ext.grownBack {a b c : World} {k : Nat} (h : Ext a b) (hg : b.grownBy c (some k)) (hk : a.heap.size ≤ k) : Ext a c := Ext.grown h hg (fun q e => by cases e; exact hk)
theorem kd_size (s l : ByteArray) (n : Nat) (h : n ≤ 8160) : (kd s l n).size = n := by unfold kd; rw [txt_size]; exact derL_length _ _ _ h
section
variable {A B : ByteArray}
theorem ex_rot (hB : B.size = 32) (u : World) (r b : Nat) (h : IsK u r b [(1, A)]) :
    Calls Tryd.prog 17 #[.pointer (some ⟨r, 0, none⟩), .string B] u fun e w' => e = .returned (.tuple #[.int .u32 2, .int .i64 0]) ∧ IsK w' r b [(1, A), (2, B)] ∧ u.grownBy w' (some b) := by
  have ht : top (eps [(1, A)]) = 1 := by simp [eps, top]
  have := rotate_yes u r b _ h B hB (by simp) (by omega)
  rw [ht] at this
  exact this
theorem ex_ret1 (u : World) (r b : Nat) (h : IsK u r b [(1, A), (2, B)]) :
    Calls Tryd.prog 16 #[.pointer (some ⟨r, 0, none⟩), .int .u32 1] u fun e w' => e = .returned (.int .i64 0) ∧ IsK w' r b [(2, B)] ∧ u.grownBy w' (some b) := by
  have ht : top (eps [(1, A), (2, B)]) = 2 := by simp [eps, top]
  have := retire_yes u r b _ h 1 (by rw [ht]; omega) (by simp [eps])
  have e : outK [(1, A), (2, B)] 1 = [(2, B)] := by simp [outK]
  rw [e] at this
  exact this
theorem ex_ret2 (u : World) (r b : Nat) (h : IsK u r b [(1, A), (2, B)]) :
    Calls Tryd.prog 16 #[.pointer (some ⟨r, 0, none⟩), .int .u32 2] u fun e w' => e = .returned (.int .i64 2) ∧ Ext u w' := by
  have ht : top (eps [(1, A), (2, B)]) = 2 := by simp [eps, top]
  have := retire_top u r b _ h
  rw [ht] at this
  exact this
theorem ex_eps (u : World) (r b : Nat) (h : IsK u r b [(2, B)]) :
    Calls Tryd.prog 22 #[.pointer (some ⟨r, 0, none⟩)] u fun e w' => ∃ g c, e = .returned (.slice (some ⟨g, 0, none⟩) 1 c) ∧ IsE w' u.heap.size g c [2] ∧ Ext u w' := by
  have he : eps [(2, B)] = [2] := by simp [eps]
  have hl : [(2, B)].length = 1 := rfl
  have := epochs_any u r b _ h
  rw [he, hl] at this
  exact this
theorem ex_keys (u : World) (r b : Nat) (hL : Laid u) (h : IsK u r b [(2, B)]) :
    Calls Tryd.prog 21 #[.pointer (some ⟨r, 0, none⟩), .int .u32 2] u fun e w' => ∃ D1 D2 : ByteArray, e = .returned (.tuple #[.string D1, .string D2, .bool true]) ∧ D1.size = 16 ∧ D2.size = 32 ∧ Ext u w' := by
  have := keys_yes u r b _ hL h 2 B (by simp)
  exact this.mono fun _ _ he => ⟨_, _, he.1, kd_size _ _ _ (by omega), kd_size _ _ _ (by omega), he.2⟩
theorem ex_full1 (u : World) : Calls Tryd.prog 9 #[.string ⟨#[97]⟩] u fun e w' => ∃ A : ByteArray, e = .returned (.string A) ∧ A.size = 32 ∧ Ext u w' :=
  (fullK_any ⟨#[97]⟩ u).mono fun _ _ he => ⟨_, he.1, f32B_size _, he.2⟩
theorem ex_full2 (u : World) : Calls Tryd.prog 9 #[.string ⟨#[98]⟩] u fun e w' => ∃ A : ByteArray, e = .returned (.string A) ∧ A.size = 32 ∧ Ext u w' :=
  (fullK_any ⟨#[98]⟩ u).mono fun _ _ he => ⟨_, he.1, f32B_size _, he.2⟩
end
set_option maxRecDepth 100000 in
set_option maxHeartbeats 1000000 in
theorem worksK (w : World) (hL : Laid w) : Calls Tryd.prog 7 #[] w fun e w' => e = .returned (.bool true) ∧ Ext w w' := by
  have HL := Lib.hid hL
  clear hL
  go_enter Tryd.func7, Tryd.ntmps7
  go_wp2_with (first
    | (go_at_call 9; (with_reducible refine (ex_full1 _).mono ?_); rintro e w1 ⟨A, rfl, zA, x1⟩)
    | (go_at_call 15; refine (newK_yes _ A zA).mono ?_; rintro e w2 ⟨r, b, rfl, i2, q2, p2, x2⟩; have I2 := Lib.hid i2; have X2 := Lib.hid (x1.trans x2); have Q2 := Lib.hid (Nat.le_trans x1.size p2); clear i2 x1 x2 q2 p2)
    | (go_at_call 9; (with_reducible refine (ex_full2 _).mono ?_); rintro e w3 ⟨B, rfl, zB, x3⟩)
    | (go_at_call 17; refine (ex_rot zB _ _ _ (I2.out.ext x3)).mono ?_; rintro e w4 ⟨rfl, i4, g4⟩; have I4 := Lib.hid i4; have X4 := Lib.hid ((X2.out.trans x3).grownBack g4 Q2.out); clear i4 g4 x3)
    | (go_at_call 16; (with_reducible refine (ex_ret2 _ _ _ I4.out).mono ?_); rintro e w5 ⟨rfl, x5⟩; have I5 := Lib.hid (I4.out.ext x5); have X5 := Lib.hid (X4.out.trans x5); clear x5)
    | (go_at_call 16; (with_reducible refine (ex_ret1 _ _ _ I5.out).mono ?_); rintro e w6 ⟨rfl, i6, g6⟩; have I6 := Lib.hid i6; have X6 := Lib.hid (X5.out.grownBack g6 Q2.out); clear i6 g6)
    | (go_at_call 22; refine (ex_eps _ _ _ I6.out).mono ?_; rintro e w7 ⟨g, c, rfl, i7, x7⟩; have I7 := Lib.hid (I6.out.ext x7); have X7 := Lib.hid (X6.out.trans x7); have E7 := Lib.hid i7; clear x7 i7)
    | (go_at_call 21; refine (ex_keys _ _ _ (HL.out.ext X7.out) I7.out).mono ?_; rintro e w8 ⟨D1, D2, rfl, z1, z2, x8⟩; have X8 := Lib.hid (X7.out.trans x8); have c8 : w8.cell? ⟨g, 0, none⟩ = some (.int .u32 2) := (E7.out.ext x8).cell 0 (by simp); have hle := E7.out.le; clear x8))
  go_ret
  exact ⟨by first | rfl | simp, X8.out⟩
end Go.Proofs.YteddogalmdgjlaaDoor
end
