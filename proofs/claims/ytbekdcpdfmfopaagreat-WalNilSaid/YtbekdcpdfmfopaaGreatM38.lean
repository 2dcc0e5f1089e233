/- Contracts: closures of a log made: a part's file emptied, a record added; a sync. Contracts of the library's builder of strings, at this translation. -/
import Derived.Test.YtbekdcpdfmfopaaGreatWalB
import Derived.Test.YtbekdcpdfmfopaaGreatM34
import Derived.Laws.EntriesVeiled
import Derived.Deep.RegionHeld3
import Derived.Shelf.Strings.Builder1
import Derived.Shelf.Strings.BuilderF
import Derived.Test.YtbekdcpdfmfopaaGreatProg
import Derived.Test.YtbekdcpdfmfopaaGreatM00
section
namespace Go.Proofs.YtbekdcpdfmfopaaGreat
open Go.RowKit

/-- What each operation of the region leaves in its slot. -/
def EmF (b bd : Nat) (κ μ : Foot) (g n c i0 f p0 : Nat) (j : Nat) (v : Value) (w : World) : Prop :=
  match j with
  | 0 => v = .pointer (some ⟨b, 0, none⟩)
  | 1 => v = .pointer (some ⟨b, 0, none⟩)
  | 2 => v = .pointer (some ⟨b, 0, none⟩)
  | 3 => v = .pointer (some ⟨b, 7, none⟩)
  | 4 => v = .slice (some ⟨g, 0, none⟩) n c
  | 5 => v = .int .i64 (i0 : Int)
  | 6 => v = .pointer (some ⟨g, i0 * 2, none⟩)
  | 7 => v = .pointer (some ⟨g, i0 * 2, none⟩)
  | 8 => v = .int .i64 (f : Int)
  | 9 => ∃ y, v = y ∧ IsC w b bd κ μ y (.cut (f : Int) 0)
  | 10 => ∃ q, v = .pointer (some ⟨q, 0, none⟩) ∧ Blk w q 69 [.nilFunc] ∧ p0 + 2 ≤ q
  | _ => True
theorem EmF_ext (b bd : Nat) (κ μ : Foot) (g n c i0 f p0 : Nat) (j : Nat) (v : Value) (w w' : World) (hx : Ext w w') (h : EmF b bd κ μ g n c i0 f p0 j v w) : EmF b bd κ μ g n c i0 f p0 j v w' := by
  unfold EmF at h ⊢
  split at h
  all_goals first
    | exact h
    | (obtain ⟨q, h1, h2⟩ := h; exact ⟨q, h1, IsC.ext h2 hx⟩)
    | (obtain ⟨q, h1, h2, h3⟩ := h; exact ⟨q, h1, h2.ext hx, h3⟩)
def emSlots : List Nat := [6, 7, 8, 9, 10, 11, 12, 13, 14, 15, 5]
abbrev EmWay (b bd : Nat) (κ μ : Foot) (g n c i0 f p0 : Nat) (w0 : World) : Array Bool → Act → World → Prop := Way 12 17 emSlots [(2, Value.pointer (some ⟨p0, 0, none⟩)), (3, Value.pointer (some ⟨p0 + 1, 0, none⟩))] (EmF b bd κ μ g n c i0 f p0) w0
theorem emSlots_ok : ∀ t, t ∈ emSlots → t < 17 ∧ 2 ≠ t ∧ 3 ≠ t := by decide
theorem EmWay.go {b bd : Nat} {κ μ : Foot} {g n c i0 f p0 : Nat} {w0 w w' : World} {L : Array Bool} {a : Act} (h : EmWay b bd κ μ g n c i0 f p0 w0 L a w) (i sl : Nat) (hsl : emSlots[i]? = some sl) (v : Value) (hx : Ext w w') (hv : EmF b bd κ μ g n c i0 f p0 i v w') : EmWay b bd κ μ g n c i0 f p0 w0 (L.setIfInBounds i true) (a.put (some sl) v) w' :=
  h.put (EmF_ext b bd κ μ g n c i0 f p0) (by decide) (fun t ht => ⟨(emSlots_ok t ht).1, fun p hp => by
    obtain ⟨_, h2, h3⟩ := emSlots_ok t ht
    simp only [List.mem_cons, List.not_mem_nil, or_false] at hp
    rcases hp with rfl | rfl
    · exact h2
    · exact h3⟩) hsl v hx hv
theorem EmWay.at {b bd : Nat} {κ μ : Foot} {g n c i0 f p0 : Nat} {w0 w : World} {L : Array Bool} {a : Act} (h : EmWay b bd κ μ g n c i0 f p0 w0 L a w) (j sl : Nat) (hsl : emSlots[j]? = some sl) (hj : L.getD j false = true) : EmF b bd κ μ g n c i0 f p0 j (a.tmps[sl]?.getD undef) w := by
  have := h.facts j sl hsl (bit_of hj)
  rwa [Array.getD_eq_getD_getElem?] at this
theorem EmWay.ahead {b bd : Nat} {κ μ : Foot} {g n c i0 f p0 : Nat} {w0 w : World} {L : Array Bool} {a : Act} (h : EmWay b bd κ μ g n c i0 f p0 w0 L a w) (p : Nat × Value) (hp : p ∈ [(2, Value.pointer (some ⟨p0, 0, none⟩)), (3, Value.pointer (some ⟨p0 + 1, 0, none⟩))]) : a.tmps[p.1]?.getD undef = p.2 := by
  have := h.base p hp
  rwa [Array.getD_eq_getD_getElem?] at this
def EmFin (b bd : Nat) (κ μ : Foot) (f p0 : Nat) (W2 : World) (a : Act) (w : World) : Prop := a.defers = [] ∧ a.tmps.size = 17 ∧ a.tmps.getD 2 undef = .pointer (some ⟨p0, 0, none⟩) ∧ a.tmps.getD 3 undef = .pointer (some ⟨p0 + 1, 0, none⟩) ∧
  ∃ q y, a.tmps.getD 5 undef = .pointer (some ⟨q, 0, none⟩) ∧ p0 + 2 ≤ q ∧ Blk w q 69 [y] ∧ IsC w b bd κ μ y (.cut (f : Int) 0) ∧ Ext W2 w
def EmInv (b bd : Nat) (κ μ : Foot) (g n c i0 f p0 : Nat) (W2 : World) (L : Array Bool) (a : Act) (w : World) : Prop :=
  (L.getD 11 true = false ∧ EmWay b bd κ μ g n c i0 f p0 W2 L a w) ∨ (L.size = 12 ∧ (∀ j, j < 12 → L.getD j true = true) ∧ EmFin b bd κ μ f p0 W2 a w)
section
variable (w : World) (b bd : Nat) (κ μ : Foot) (s : WS) (d : DS) (h : LR w b bd κ μ s d)
theorem LR.free {w : World} {b bd : Nat} {κ μ : Foot} {s : WS} {d : DS} {g : Nat} {w' : World} (h : LR w b bd κ μ s d) (h1 : w.heap.size ≤ g) (h2 : g < w'.heap.size) : Free κ μ w' g := ⟨h2, Classical.byContradiction fun e => by have := h.wal.ins g e; omega, Classical.byContradiction fun e => by have := h.disk.ins g e; omega⟩
include h
theorem mkcut_lr (f n : Int) : Calls Tryz.prog 58 #[.pointer (some ⟨b, 0, none⟩), .int .i64 f, .int .i64 n] w fun e w' => ∃ v, e = .returned v ∧ IsC w' b bd κ μ v (.cut f n) ∧ v.oneCell' = true ∧ Ext w w' := by
  have HF := Lib.hid (fun g (w' : World) h1 h2 => LR.free (w' := w') (g := g) h h1 h2)
  have B0 := Lib.hid (((Blk.new w [.pointer (some ⟨b, 0, none⟩)] 27).alloc (.cells #[.int .i64 f] 3)).alloc (.cells #[.int .i64 n] 3))
  have B1 := Lib.hid ((Blk.new (w.alloc (.cells #[.pointer (some ⟨b, 0, none⟩)] 27)) [.int .i64 f] 3).alloc (.cells #[.int .i64 n] 3))
  have B2 := Lib.hid (Blk.new ((w.alloc (.cells #[.pointer (some ⟨b, 0, none⟩)] 27)).alloc (.cells #[.int .i64 f] 3)) [.int .i64 n] 3)
  have HX := Lib.hid ((((Ext.refl w).alloc (.cells #[.pointer (some ⟨b, 0, none⟩)] 27)).alloc (.cells #[.int .i64 f] 3)).alloc (.cells #[.int .i64 n] 3))
  clear h
  go_enter Tryz.func58, Tryz.ntmps58
  go_wp2
  go_ret
  exact ⟨_, rfl, ⟨w.heap.size, w.heap.size + 1, w.heap.size + 2, rfl, HF.out _ _ (by omega) (by simp <;> omega), HF.out _ _ (by omega) (by simp <;> omega), HF.out _ _ (by omega) (by simp <;> omega), B0.out, by simpa using B1.out, by simpa using B2.out⟩, rfl, HX.out⟩
theorem mkwr_lr (f : Int) (t : ByteArray) : Calls Tryz.prog 33 #[.pointer (some ⟨b, 0, none⟩), .int .i64 f, .string t] w fun e w' => ∃ v, e = .returned v ∧ IsC w' b bd κ μ v (.wr f t) ∧ v.oneCell' = true ∧ Ext w w' := by
  have HF := Lib.hid (fun g (w' : World) h1 h2 => LR.free (w' := w') (g := g) h h1 h2)
  have B0 := Lib.hid (((Blk.new w [.pointer (some ⟨b, 0, none⟩)] 27).alloc (.cells #[.int .i64 f] 3)).alloc (.cells #[.string t] 9))
  have B1 := Lib.hid ((Blk.new (w.alloc (.cells #[.pointer (some ⟨b, 0, none⟩)] 27)) [.int .i64 f] 3).alloc (.cells #[.string t] 9))
  have B2 := Lib.hid (Blk.new ((w.alloc (.cells #[.pointer (some ⟨b, 0, none⟩)] 27)).alloc (.cells #[.int .i64 f] 3)) [.string t] 9)
  have HX := Lib.hid ((((Ext.refl w).alloc (.cells #[.pointer (some ⟨b, 0, none⟩)] 27)).alloc (.cells #[.int .i64 f] 3)).alloc (.cells #[.string t] 9))
  clear h
  go_enter Tryz.func33, Tryz.ntmps33
  go_wp2
  go_ret
  exact ⟨_, rfl, ⟨w.heap.size, w.heap.size + 1, w.heap.size + 2, rfl, HF.out _ _ (by omega) (by simp <;> omega), HF.out _ _ (by omega) (by simp <;> omega), HF.out _ _ (by omega) (by simp <;> omega), B0.out, by simpa using B1.out, by simpa using B2.out⟩, rfl, HX.out⟩
theorem mkadd_lr (f n : Nat) (t : ByteArray) : Calls Tryz.prog 64 #[.pointer (some ⟨b, 0, none⟩), .int .i64 (f : Int), .agg #[.string ⟨#[]⟩, .int .u64 (n : Int), .string t]] w fun e w' => ∃ v, e = .returned v ∧ IsC w' b bd κ μ v (.add f ⟨#[]⟩ n t) ∧ v.oneCell' = true ∧ Ext w w' := by
  have HF := Lib.hid (fun g (w' : World) h1 h2 => LR.free (w' := w') (g := g) h h1 h2)
  have B0 := Lib.hid (((Blk.new w [.pointer (some ⟨b, 0, none⟩)] 27).alloc (.cells #[.int .i64 (f : Int)] 3)).alloc (.cells #[.string ⟨#[]⟩, .int .u64 (n : Int), .string t] 113))
  have B1 := Lib.hid ((Blk.new (w.alloc (.cells #[.pointer (some ⟨b, 0, none⟩)] 27)) [.int .i64 (f : Int)] 3).alloc (.cells #[.string ⟨#[]⟩, .int .u64 (n : Int), .string t] 113))
  have B2 := Lib.hid (Blk.new ((w.alloc (.cells #[.pointer (some ⟨b, 0, none⟩)] 27)).alloc (.cells #[.int .i64 (f : Int)] 3)) [.string ⟨#[]⟩, .int .u64 (n : Int), .string t] 113)
  have HX := Lib.hid ((((Ext.refl w).alloc (.cells #[.pointer (some ⟨b, 0, none⟩)] 27)).alloc (.cells #[.int .i64 (f : Int)] 3)).alloc (.cells #[.string ⟨#[]⟩, .int .u64 (n : Int), .string t] 113))
  clear h
  go_enter Tryz.func64, Tryz.ntmps64
  go_wp2
  go_ret
  exact ⟨_, rfl, ⟨w.heap.size + 2, w.heap.size, w.heap.size + 1, rfl, HF.out _ _ (by omega) (by simp <;> omega), HF.out _ _ (by omega) (by simp <;> omega), HF.out _ _ (by omega) (by simp <;> omega), by simpa using B2.out, B0.out, by simpa using B1.out⟩, rfl, HX.out⟩
set_option maxRecDepth 100000 in
set_option maxHeartbeats 4000000 in
theorem mkemp_lr (i : Nat) (q : Nat × Nat) (hq : s.P[i]? = some q) : Calls Tryz.prog 34 #[.pointer (some ⟨b, 0, none⟩), .int .i64 (i : Int)] w fun e w' => ∃ v, e = .returned v ∧ IsC w' b bd κ μ v (.emp i q.1) ∧ v.oneCell' = true ∧ Ext w w' := by
  have hx2 : Ext w ((w.alloc (.cells #[.pointer (some ⟨b, 0, none⟩)] 27)).alloc (.cells #[.int .i64 (i : Int)] 3)) := ((Ext.refl w).alloc _).alloc _
  have b0 : Blk ((w.alloc (.cells #[.pointer (some ⟨b, 0, none⟩)] 27)).alloc (.cells #[.int .i64 (i : Int)] 3)) w.heap.size 27 [.pointer (some ⟨b, 0, none⟩)] := (Blk.new w _ _).alloc _
  have b1 : Blk ((w.alloc (.cells #[.pointer (some ⟨b, 0, none⟩)] 27)).alloc (.cells #[.int .i64 (i : Int)] 3)) (w.heap.size + 1) 3 [.int .i64 (i : Int)] := by
    have := Blk.new (w.alloc (.cells #[.pointer (some ⟨b, 0, none⟩)] 27)) [.int .i64 (i : Int)] 3
    simpa using this
  have hsz : ((w.alloc (.cells #[.pointer (some ⟨b, 0, none⟩)] 27)).alloc (.cells #[.int .i64 (i : Int)] 3)).heap.size = w.heap.size + 2 := by simp
  have HF := Lib.hid (fun g (w' : World) h1 h2 => LR.free (w' := w') (g := g) h h1 h2)
  have H2 := Lib.hid (h.ext hx2)
  have k0 := b0.cell 0 _ rfl
  have k1 := b1.cell 0 _ rfl
  obtain ⟨p, c, c7, hs⟩ := H2.out.wal.parts
  obtain ⟨g, e, hg, _, kq, _⟩ := hs.cell (pcells_at _ _ _ hq).1
  subst e
  have hgn := Nat.ne_of_lt hg
  have hbl := H2.out.wal.lt
  have hil : i < s.P.length := (List.getElem?_eq_some_iff.1 hq).1
  have HX2 := Lib.hid hx2; have HB0 := Lib.hid b0; have HB1 := Lib.hid b1
  have HSz2 := Lib.hid hsz
  have HK := Lib.hid (fun u (hu : Ext ((w.alloc (.cells #[.pointer (some ⟨b, 0, none⟩)] 27)).alloc (.cells #[.int .i64 (i : Int)] 3)) u) => (⟨(b0.ext hu).cell 0 _ rfl, (b1.ext hu).cell 0 _ rfl, (hu.below.cell (p := ⟨b, 7, none⟩) hbl).trans c7, (hu.below.cell (p := ⟨g, i * 2, none⟩) hg).trans kq⟩ : u.cell? ⟨w.heap.size, 0, none⟩ = some (.pointer (some ⟨b, 0, none⟩)) ∧ u.cell? ⟨w.heap.size + 1, 0, none⟩ = some (.int .i64 (i : Int)) ∧ u.cell? ⟨b, 7, none⟩ = some (.slice (some ⟨g, 0, none⟩) s.P.length c) ∧ u.cell? ⟨g, i * 2, none⟩ = some (.int .i64 (q.1 : Int))))
  clear h hs hx2 b0 b1 hsz k0 k1 c7 kq hgn hbl hg
  go_enter Tryz.func34, Tryz.ntmps34
  go_upto_region 1 with (fail)
  generalize (w.alloc (.cells #[.pointer (some ⟨b, 0, none⟩)] 27)).alloc (.cells #[.int .i64 (i : Int)] 3) = W2 at *
  have HC := Lib.hid (fun u (hu : Ext W2 u) => mkcut_lr u b bd κ μ s d (H2.out.ext hu) (q.1 : Int) 0)
  refine wp_region_any (by kernel_rfl) ?_
  refine wpAny_inv (EmInv b bd κ μ g s.P.length c i q.1 w.heap.size W2) ?hsize ?step ?last _ _ _ _ (by decide) (.inl ⟨by decide, rfl, rfl, rfl, ?base, (Ext.refl _).drew, fun j sl hsl hj => ?none⟩)
  case hsize =>
    intro L a w h
    rcases h with ⟨_, h⟩ | ⟨h, _⟩
    · exact h.size
    · exact h
  case base =>
    intro p hp
    simp only [List.mem_cons, List.not_mem_nil, or_false] at hp
    rcases hp with rfl | rfl <;> rfl
  case none =>
    exfalso
    have hj2 : j < 12 := Nat.lt_succ_of_lt (List.getElem?_eq_some_iff.1 hsl).1
    have h0 : (Array.replicate 12 false).getD j true = false := by simp [Array.getD, hj2]
    have h1 : (Array.replicate 12 false).getD j true = true := hj
    rw [h0] at h1
    cases h1
  case step =>
    intro L a w' k hI hi
    have hlt : k < 12 := (ready_spec hi).1
    rcases hI with ⟨hn, h⟩ | ⟨_, hall, _⟩
    rotate_left
    · have := hall k hlt
      rw [(ready_spec hi).2.1] at this
      cases this
    obtain ⟨X, D⟩ := a
    obtain rfl : D = [] := h.defers
    have b2 : X[2]?.getD undef = Value.pointer (some ⟨w.heap.size, 0, none⟩) := h.ahead (2, _) (by simp)
    have b3 : X[3]?.getD undef = Value.pointer (some ⟨w.heap.size + 1, 0, none⟩) := h.ahead (3, _) (by simp)
    rcases (show k = 0 ∨ k = 1 ∨ k = 2 ∨ k = 3 ∨ k = 4 ∨ k = 5 ∨ k = 6 ∨ k = 7 ∨ k = 8 ∨ k = 9 ∨ k = 10 ∨ k = 11 by omega) with rfl | rfl | rfl | rfl | rfl | rfl | rfl | rfl | rfl | rfl | rfl | rfl
    · obtain ⟨k0, k1, c7, kq⟩ := HK.out _ h.ext
      refine wpOp_step rfl (fun K hK => ?_)
      go_simp
      exact hK _ _ (.inl ⟨(bit_other L (by decide)).trans hn, h.go 0 6 rfl _ (Ext.refl _) rfl⟩)
    · obtain ⟨k0, k1, c7, kq⟩ := HK.out _ h.ext
      refine wpOp_step rfl (fun K hK => ?_)
      go_simp
      exact hK _ _ (.inl ⟨(bit_other L (by decide)).trans hn, h.go 1 7 rfl _ (Ext.refl _) rfl⟩)
    · have d1 := ready_after hi _ rfl 0 _ rfl rfl
      have f1 : X[7]?.getD undef = .pointer (some ⟨b, 0, none⟩) := h.at 1 7 rfl d1
      refine wpOp_step rfl (fun K hK => ?_)
      go_simp
      exact hK _ _ (.inl ⟨(bit_other L (by decide)).trans hn, h.go 2 8 rfl _ (Ext.refl _) rfl⟩)
    · have d2 := ready_after hi _ rfl 0 _ rfl rfl
      have f2 : X[8]?.getD undef = .pointer (some ⟨b, 0, none⟩) := h.at 2 8 rfl d2
      refine wpOp_step rfl (fun K hK => ?_)
      go_simp
      exact hK _ _ (.inl ⟨(bit_other L (by decide)).trans hn, h.go 3 9 rfl _ (Ext.refl _) rfl⟩)
    · have d3 := ready_after hi _ rfl 0 _ rfl rfl
      have f3 : X[9]?.getD undef = .pointer (some ⟨b, 7, none⟩) := h.at 3 9 rfl d3
      obtain ⟨k0, k1, c7, kq⟩ := HK.out _ h.ext
      refine wpOp_step rfl (fun K hK => ?_)
      go_simp
      exact hK _ _ (.inl ⟨(bit_other L (by decide)).trans hn, h.go 4 10 rfl _ (Ext.refl _) rfl⟩)
    · obtain ⟨k0, k1, c7, kq⟩ := HK.out _ h.ext
      refine wpOp_step rfl (fun K hK => ?_)
      go_simp
      exact hK _ _ (.inl ⟨(bit_other L (by decide)).trans hn, h.go 5 11 rfl _ (Ext.refl _) rfl⟩)
    · have d4 := ready_after hi _ rfl 0 _ rfl rfl
      have f4 : X[10]?.getD undef = .slice (some ⟨g, 0, none⟩) s.P.length c := h.at 4 10 rfl d4
      have d5 := ready_after hi _ rfl 1 _ rfl rfl
      have f5 : X[11]?.getD undef = .int .i64 (i : Int) := h.at 5 11 rfl d5
      refine wpOp_step rfl (fun K hK => ?_)
      go_simp
      exact hK _ _ (.inl ⟨(bit_other L (by decide)).trans hn, h.go 6 12 rfl _ (Ext.refl _) rfl⟩)
    · have d6 := ready_after hi _ rfl 0 _ rfl rfl
      have f6 : X[12]?.getD undef = .pointer (some ⟨g, i * 2, none⟩) := h.at 6 12 rfl d6
      refine wpOp_step rfl (fun K hK => ?_)
      go_simp
      exact hK _ _ (.inl ⟨(bit_other L (by decide)).trans hn, h.go 7 13 rfl _ (Ext.refl _) rfl⟩)
    · have d7 := ready_after hi _ rfl 0 _ rfl rfl
      have f7 : X[13]?.getD undef = .pointer (some ⟨g, i * 2, none⟩) := h.at 7 13 rfl d7
      obtain ⟨k0, k1, c7, kq⟩ := HK.out _ h.ext
      refine wpOp_step rfl (fun K hK => ?_)
      go_simp
      exact hK _ _ (.inl ⟨(bit_other L (by decide)).trans hn, h.go 8 14 rfl _ (Ext.refl _) rfl⟩)
    · have d0 := ready_after hi _ rfl 0 _ rfl rfl
      have f0 : X[6]?.getD undef = .pointer (some ⟨b, 0, none⟩) := h.at 0 6 rfl d0
      have d8 := ready_after hi _ rfl 1 _ rfl rfl
      have f8 : X[14]?.getD undef = .int .i64 (q.1 : Int) := h.at 8 14 rfl d8
      refine wpOp_step rfl (fun K hK => ?_)
      go_simp
      go_at_call 58
      refine (HC.out _ h.ext).mono ?_
      rintro e w5 ⟨y, rfl, hy, ho, hx5⟩
      exact hK _ _ (.inl ⟨(bit_other L (by decide)).trans hn, h.go 9 15 rfl _ hx5 ⟨_, rfl, hy⟩⟩)
    · refine wpOp_step rfl (fun K hK => ?_)
      go_simp
      exact hK _ _ (.inl ⟨(bit_other L (by decide)).trans hn, h.go 10 5 rfl _ ((Ext.refl _).alloc _) ⟨_, rfl, Blk.new _ _ _, by rw [← HSz2.out]; exact h.ext.size⟩⟩)
    · have d10 := ready_after hi _ rfl 0 _ rfl rfl
      obtain ⟨q10, f10, r10, hq10⟩ : ∃ q, X[5]?.getD undef = .pointer (some ⟨q, 0, none⟩) ∧ Blk w' q 69 [.nilFunc] ∧ w.heap.size + 2 ≤ q := h.at 10 5 rfl d10
      have d9 := ready_after hi _ rfl 1 _ rfl rfl
      obtain ⟨y9, f9, r9⟩ : ∃ y, X[15]?.getD undef = y ∧ IsC w' b bd κ μ y (.cut (q.1 : Int) 0) := h.at 9 15 rfl d9
      obtain ⟨x2, y2, z2, rfl, e2, e3, e4, e5, e6, e7⟩ := r9
      have cn := r10.cell 0 _ rfl
      have fn := r10.frozen 0
      have hall := ready_all hi _ rfl 11 (by kernel_rfl)
      have hnx : ∀ {x : Nat} {T : TypeId} {cs : List Value}, Blk w' x T cs → T ≠ 69 → x ≠ q10 := fun hb hT e => by
        subst e
        unfold Blk at hb r10
        rw [hb] at r10
        injection r10 with r10
        injection r10 with _ r10
        exact hT r10
      have hext := h.ext
      have HSz := Lib.hid h.size
      have HTm := Lib.hid (show X.size = 17 from h.tmps)
      clear h
      refine wpOp_step rfl (fun K hK => ?_)
      go_simp
      refine hK _ _ (.inr ⟨by rw [Array.size_setIfInBounds]; exact HSz.out, fun j hj => ?_, rfl, HTm.out, by rw [Array.getD_eq_getD_getElem?]; exact b2, by rw [Array.getD_eq_getD_getElem?]; exact b3, q10, _, by rw [Array.getD_eq_getD_getElem?]; exact f10, hq10, r10.set_ 0 _, ⟨x2, y2, z2, rfl, ⟨by simpa [World.setCell] using e2.1, e2.2⟩, ⟨by simpa [World.setCell] using e3.1, e3.2⟩, ⟨by simpa [World.setCell] using e4.1, e4.2⟩, e5.other (hnx e5 (by decide)) 0 _, e6.other (hnx e6 (by decide)) 0 _, e7.other (hnx e7 (by decide)) 0 _⟩, hext.setCell (p := ⟨q10, 0, none⟩) (by rw [HSz2.out]; exact hq10) _⟩)
      by_cases e : j = 11
      · subst e
        exact bit_same L 11 (by rw [HSz.out]; decide)
      · rw [bit_other L (Ne.symm e)]
        exact hall j (by omega)
  case last =>
    intro L a w' hI hr
    have hsz : L.size = 12 := by
      rcases hI with ⟨_, h⟩ | ⟨h, _⟩
      · exact h.size
      · exact h
    have h11 := all_done_b hsz (by kernel_rfl) hr 11 (by decide)
    rcases hI with ⟨hn, _⟩ | ⟨_, _, hd, htm, hb2, hb3, q10, y, hb5, hq10, hbl, hisc, hext⟩
    · rw [hn] at h11; cases h11
    obtain ⟨X, D⟩ := a
    obtain rfl : D = [] := hd
    have b2 : X[2]?.getD undef = .pointer (some ⟨w.heap.size, 0, none⟩) := by rw [← Array.getD_eq_getD_getElem?]; exact hb2
    have b3 : X[3]?.getD undef = .pointer (some ⟨w.heap.size + 1, 0, none⟩) := by rw [← Array.getD_eq_getD_getElem?]; exact hb3
    have b5 : X[5]?.getD undef = .pointer (some ⟨q10, 0, none⟩) := by rw [← Array.getD_eq_getD_getElem?]; exact hb5
    have hX : X.size = 17 := htm
    obtain ⟨x2, y2, z2, rfl, e2⟩ := hisc
    have HBl := Lib.hid hbl; have HE2 := Lib.hid e2; have HEx := Lib.hid hext
    have Hq10 := Lib.hid hq10
    have x2' : X[2]'(by rw [hX]; decide) = .pointer (some ⟨w.heap.size, 0, none⟩) := by simpa [hX] using b2
    have x3' : X[3]'(by rw [hX]; decide) = .pointer (some ⟨w.heap.size + 1, 0, none⟩) := by simpa [hX] using b3
    have x5' : X[5]'(by rw [hX]; decide) = .pointer (some ⟨q10, 0, none⟩) := by simpa [hX] using b5
    clear hb2 hb3 hb5 hbl e2 hext hr h11 htm hsz hq10
    go_wp2
    go_ret
    refine ⟨.func (.func 59) #[] #[.pointer (some ⟨q10, 0, none⟩), .pointer (some ⟨w.heap.size, 0, none⟩), .pointer (some ⟨w.heap.size + 1, 0, none⟩)], by simp [hX], ⟨q10, w.heap.size, w.heap.size + 1, _, x2, y2, z2, rfl, ?_, ?_, ?_, HBl.out, HB0.out.ext HEx.out, HB1.out.ext HEx.out, rfl, HE2.out⟩, rfl, HX2.out.trans HEx.out⟩
    · exact HF.out _ _ (by have := HX2.out.size; have := Hq10.out; omega) HBl.out.lt
    · exact HF.out _ _ (Nat.le_refl _) (HB0.out.ext HEx.out).lt
    · exact HF.out _ _ (by omega) (HB1.out.ext HEx.out).lt
end
end Go.Proofs.YtbekdcpdfmfopaaGreat
end

section
namespace Go.Proofs.YtbekdcpdfmfopaaGreat
open Go.RowKit

def renS : Go.Shelf.Ren := ⟨fun | 169 => 108 | n => n, fun | 0 => 0 | 3 => 3 | 5 => 5 | 9 => 9 | 37 => 41 | 70 => 166 | 72 => 168 | 127 => 184 | n => n, fun n => n⟩
theorem laysS : Go.Proofs.Lays.n169 Tryz.prog renS := {
  mixed := by kernel_rfl
  f169 := Tryz.func108.trans (congrArg some (by kernel_rfl))
  t0 := Tryz.underlying0
  a0 := Tryz.isAgg0
  z0 := Tryz.sizeOf0
  v0 := Tryz.zeroValue0
  t3 := Tryz.underlying3
  a3 := Tryz.isAgg3
  z3 := Tryz.sizeOf3
  v3 := Tryz.zeroValue3
  t9 := Tryz.underlying9
  a9 := Tryz.isAgg9
  z9 := Tryz.sizeOf9
  v9 := Tryz.zeroValue9
  t37 := Tryz.underlying41
  a37 := Tryz.isAgg41
  z37 := Tryz.sizeOf41
  v37 := Tryz.zeroValue41
  t70 := Tryz.underlying166
  a70 := Tryz.isAgg166
  z70 := Tryz.sizeOf166
  v70 := Tryz.zeroValue166
  t72 := Tryz.underlying168
  a72 := Tryz.isAgg168
  z72 := Tryz.sizeOf168
  v72 := Tryz.zeroValue168
  t127 := Tryz.underlying184
  a127 := Tryz.isAgg184
  z127 := Tryz.sizeOf184
  v127 := Tryz.zeroValue184 }
theorem extraS : Builder.Extra Tryz.prog renS := {
  sizeBuilder := by kernel_rfl
  liesBuilder := by kernel_rfl
  t5 := Tryz.underlying5
  a5 := Tryz.isAgg5
  z5 := Tryz.sizeOf5
  v5 := Tryz.zeroValue5
  infoByte := by kernel_rfl
  cellsByte := by kernel_rfl
  sizeByte := by kernel_rfl
  neB5 := by decide }
/-- Block b is a builder that holds these bytes. -/
abbrev IsB (w : World) (B b : Nat) (l : List UInt8) : Prop := Lib.IsBuilderF 168 5 B b (Lib.byteCells l) w
theorem IsB.new (w : World) (B : Nat) (hB : B ≤ w.heap.size) : IsB (w.alloc (.cells #[.pointer none, .slice none 0 0] 168)) B w.heap.size [] :=
  .inl ⟨hB, _, heap_alloc_new w _, World.ownsRowF_of (World.ownsRow_nil _ _ _ _), by simp [Value.ownBlock]⟩
theorem IsB.ext {B b : Nat} {l : List UInt8} {w w' : World} (h : IsB w B b l) (hx : Ext w w') : IsB w' B b l := by
  have key : ∀ p, Lib.BuilderAtF 168 5 B b p (Lib.byteCells l) w → Lib.BuilderAtF 168 5 B b p (Lib.byteCells l) w' := by
    rintro p ⟨hB, v, hv, hown, hne⟩
    refine ⟨hB, v, (hx.below.block b (heap_lt hv)).trans hv, ⟨hown.1, ?_⟩, hne⟩
    rcases hown.2 with h0 | ⟨g, cap, cur, fz, e1, e2, e3, e4⟩
    · exact .inl h0
    · exact .inr ⟨g, cap, cur, fz, e1, e2, (hx.below.block g (heap_lt e3)).trans e3, e4⟩
  exact h.imp (key _) (key _)
theorem string_b (B b : Nat) (l : List UInt8) (w : World) (h : IsB w B b l) (hBw : B ≤ w.heap.size) :
    Calls Tryz.prog 108 #[.pointer (some ⟨b, 0, none⟩)] w fun e w' => e = .returned (.string ⟨l.toArray⟩) ∧ Below B w w' :=
  (Any.Builder_String_any_f laysS extraS B b l w h hBw).mono fun _ _ h => ⟨h.1, h.2.2⟩
end Go.Proofs.YtbekdcpdfmfopaaGreat
end
