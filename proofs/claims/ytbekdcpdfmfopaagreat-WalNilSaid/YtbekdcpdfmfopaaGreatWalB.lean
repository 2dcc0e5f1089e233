/- Contract: a log that is a head alone. -/
import Derived.Test.YtbekdcpdfmfopaaGreatM36
import Derived.BigRegion
namespace Go.Proofs.YtbekdcpdfmfopaaGreat
open Go.RowKit

section
variable (w : World) (b bd : Nat) (κ μ : Foot) (s : WS) (d : DS) (h : LS w b bd κ μ s d)
include h
/-- Parts in a block of their own are put in the place of those that there were. -/
theorem LS.newparts (P : List (Nat × Nat)) : LPost w b bd κ μ ((w.alloc (.cells (pcells P).toArray 75)).setCell ⟨b, 7, none⟩ (.slice (some ⟨w.heap.size, 0, none⟩) P.length P.length)) { s with P := P } d := by
  obtain ⟨p, c, k1, k2⟩ := h.wal.lay
  have hb := h.wal.lt
  have hne : b ≠ w.heap.size := Nat.ne_of_lt hb
  have ho : ∀ g, g < w.heap.size → g ≠ b → ((w.alloc (.cells (pcells P).toArray 75)).setCell ⟨b, 7, none⟩ (.slice (some ⟨w.heap.size, 0, none⟩) P.length P.length)).heap[g]? = w.heap[g]? := fun g hg hgb => (Below.heap_setCell _ _ _ _ hgb).trans (Below.heap_alloc _ _ _ hg)
  have k3 := (k1.alloc (.cells (pcells P).toArray 75)).set_ 7 (.slice (some ⟨w.heap.size, 0, none⟩) P.length P.length)
  have k4 := (Blk.new w (pcells P) 75).other (g := b) (by omega) 7 (.slice (some ⟨w.heap.size, 0, none⟩) P.length P.length)
  have hsz : ((w.alloc (.cells (pcells P).toArray 75)).setCell ⟨b, 7, none⟩ (.slice (some ⟨w.heap.size, 0, none⟩) P.length P.length)).heap.size = w.heap.size + 1 := by simp [World.setCell]
  refine ⟨setK κ w.heap.size 3, μ, ⟨⟨⟨_, _, k3, Sl.ofBlk k4 (pcells_length P) (setK_same _ _ _)⟩, (setK_other _ _ hne).trans h.wal.kind, fun g hg => ?_⟩, h.disk.keep (fun g hg hm => ho g hg (fun e => hm (by rw [e]; exact h.apart b (by rw [h.wal.kind]; decide)))) (by omega), fun g hg => ?_, fun g => ?_⟩, ⟨rfl, rfl, rfl, by omega, fun g hg h1 _ => ho g hg (fun e => by rw [e, h.wal.kind] at h1; omega), fun g hg => setK_other _ _ (by omega), fun _ _ => rfl⟩⟩
  · rw [hsz]
    by_cases e : g = w.heap.size
    · omega
    · rw [setK_other _ _ e] at hg
      have := h.wal.ins g hg
      omega
  · by_cases e : g = w.heap.size
    · exact Classical.byContradiction fun q => by have := h.disk.ins g q; omega
    · rw [setK_other _ _ e] at hg
      exact h.apart g hg
  · by_cases e : g = w.heap.size
    · rw [e, setK_same]; decide
    · rw [setK_other _ _ e]; exact h.low g
set_option maxRecDepth 100000 in
set_option maxHeartbeats 8000000 in
theorem begin_any (gen first f n : Nat) : Calls Tryz.prog 35 #[.pointer (some ⟨b, 0, none⟩), .int .u64 (gen : Int), .int .u64 (first : Int), .agg #[.int .i64 (f : Int), .int .i64 (n : Int)]] w fun e w' => e = .returned (.tuple #[]) ∧ LPost w b bd κ μ w' { s with g := gen, f := first, n := first, P := [(f, n)] } d := by
  have hx1 : Ext w (w.alloc (.cells #[.int .i64 (f : Int), .int .i64 (n : Int)] 75)) := (Ext.refl w).alloc _
  have hb : Blk (w.alloc (.cells #[.int .i64 (f : Int), .int .i64 (n : Int)] 75)) w.heap.size 75 [.int .i64 (f : Int), .int .i64 (n : Int)] := Blk.new w _ _
  have x0 := hb.cell 0 _ rfl
  have x1 := hb.cell 1 _ rfl
  have H1 := h.ext hx1
  have HX1 := Lib.hid hx1
  have hbW := H1.wal.lt
  obtain ⟨p, c, k7, _⟩ := H1.wal.parts
  obtain ⟨_, _, _, _, k4, k5, k6, _, _⟩ := H1.wal.cells
  have g4 := H1.wal.frozen 4
  have g5 := H1.wal.frozen 5
  have g6 := H1.wal.frozen 6
  have g7 := H1.wal.frozen 7
  have HL := Lib.hid H1
  clear h hx1 hb H1
  generalize hW1 : w.alloc (.cells #[.int .i64 (f : Int), .int .i64 (n : Int)] 75) = W1 at *
  have hbN : b ≠ W1.heap.size := Nat.ne_of_lt hbW
  go_enter Tryz.func35, Tryz.ntmps35
  go_upto_region 1 with (fail)
  go_region
  go_wp2
  go_end0
  obtain ⟨κ1, μ1, l1, r1⟩ := HL.out.setw 4 (.int .u64 (gen : Int)) (s' := { s with g := gen }) rfl (fun pv => rfl)
  obtain ⟨κ2, μ2, l2, r2⟩ := l1.setw 5 (.int .u64 (first : Int)) (s' := { s with g := gen, f := first }) rfl (fun pv => rfl)
  obtain ⟨κ3, μ3, l3, r3⟩ := l2.setw 6 (.int .u64 (first : Int)) (s' := { s with g := gen, f := first, n := first }) rfl (fun pv => rfl)
  have l4 := l3.newparts _ _ _ _ _ _ _ [(f, n)]
  refine ⟨rfl, LPost.after (HX1.out.fr2 κ μ) (LPost.after (r1.trans (r2.trans r3)) ?_)⟩
  have e4 : (((W1.setCell ⟨b, 4, none⟩ (.int .u64 (gen : Int))).setCell ⟨b, 5, none⟩ (.int .u64 (first : Int))).setCell ⟨b, 6, none⟩ (.int .u64 (first : Int))).heap.size = W1.heap.size := by simp [World.setCell]
  rw [e4, World.setCell_alloc_past _ _ _ _ (by rw [e4]; exact hbW)] at l4
  exact l4.ext (Ext.refl _).drew
end
end Go.Proofs.YtbekdcpdfmfopaaGreat
