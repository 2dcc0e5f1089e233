/- Contracts: what a share's bytes say, by the document's answer. Shares that came, as the document's answer keeps them; contracts: a share that comes, by the document's answer. Contracts: a share that comes, by the document's answer: where there is one of its place, or it is taken. Contracts: the document's own xor. Contracts: the secret whose shares came, by the document's answer. -/
import Derived.Test.YtobhbppogeghnaaGreatDoorM23
import Derived.Test.YtobhbppogeghnaaGreatDoorM05
import Derived.Test.YtobhbppogeghnaaGreatDoorM00
import Derived.Test.YtobhbppogeghnaaGreatDoorM01
import Derived.Laws.ResultCell
import Derived.Deep.QuietTactic
import Derived.BigQuiet
import Derived.StillTailTactics
import Derived.Test.YtobhbppogeghnaaGreatDoorM24
import Derived.Test.YtobhbppogeghnaaGreatDoorM02
import Derived.Outline
import Derived.Deep.RegionLaw
import Derived.Test.YtobhbppogeghnaaGreatDoorM06
import Derived.Test.YtobhbppogeghnaaGreatDoorM25
section
namespace Go.Proofs.YtobhbppogeghnaaGreatDoor
open Go.RowKit

theorem results_row_tmp {fn : Func} {p u : Tmp} {ty : TypeId} (h : fn.results = #[.cell p ty, .tmp u]) (tmps : Array Value) (w : World) (g : Nat) (cs : Array Value)
    (hp : tmps.getD p undef = .pointer (some ⟨g, 0, none⟩)) (hl : (loadVar ty ⟨g, 0, none⟩).run Tryz.prog w = .ok (.agg cs) w) :
    (results fn tmps).run Tryz.prog w = .ok (.tuple #[.agg cs, tmps.getD u undef]) w := by
  rw [results_cell_tmp h, hp]
  simp [asAddr, hl, Result.andThen]
theorem share_info : (Tryz.prog.info? 100).map (·.size) = some 3 := by kernel_rfl
theorem load_share (w : World) (g : Nat) (a b : Int) (S : ByteArray) (h : Blk w g 100 [.int .i64 a, .int .i64 b, .string S]) :
    (loadVar 100 ⟨g, 0, none⟩).run Tryz.prog w = .ok (.agg #[.int .i64 a, .int .i64 b, .string S]) w :=
  run_loadVar_row w g 100 100 #[.int .i64 a, .int .i64 b, .string S] (0, 0) _ h Tryz.underlying100 rfl share_info
set_option maxRecDepth 100000 in
set_option maxHeartbeats 2000000 in
theorem rshare_yes (s : ByteArray) (i n : Nat) (h : ShareOf s i n) (w : World) :
    Calls Tryz.prog 99 #[.string s] w fun e w' => e = .returned (.tuple #[.agg #[.int .i64 (i : Int), .int .i64 (n : Int), .string (s.extract 2 s.size)], .int .i64 0]) ∧ Ext w w' := by
  obtain ⟨h3, h66, n1, n16, i1, hin, x, y, hx, hy, ex, ey⟩ := h
  have d1 := slice_two s (by omega)
  have a0 : ∀ u, (Instr.index 9 (.string s) (.int .i64 0)).run Tryz.prog u = .ok (.int .u8 (x.toNat : Int)) u := fun u => index_text s 0 x hx u
  have a1 : ∀ u, (Instr.index 9 (.string s) (.int .i64 1)).run Tryz.prog u = .ok (.int .u8 (y.toNat : Int)) u := fun u => index_text s 1 y hy u
  rw [ex] at a0
  rw [ey] at a1
  generalize s.extract 2 s.size = S2 at *
  clear hx hy
  go_enter Tryz.func99, Tryz.ntmps99
  go_wp2
  go_region
  all_goals
    go_wp2
    exact bodyPost_ret (results_row_tmp rfl _ _ w.heap.size #[.int .i64 (i : Int), .int .i64 (n : Int), .string S2] rfl (load_share _ _ _ _ _ (((Blk.new w [.int .i64 (i : Int), .int .i64 (n : Int), .string S2] 100).alloc _).drew))) rfl ⟨rfl, (((Ext.refl w).alloc _).alloc _).drew⟩
set_option maxRecDepth 100000 in
set_option maxHeartbeats 4000000 in
theorem rshare_no (s : ByteArray) (h : NoShare s) (w : World) :
    Calls Tryz.prog 99 #[.string s] w fun e w' => e = .returned (.tuple #[.agg #[.int .i64 0, .int .i64 0, .string ⟨#[]⟩], .int .i64 7]) ∧ Ext w w' := by
  go_enter Tryz.func99, Tryz.ntmps99
  by_cases h3 : s.size < 3
  · have h3i : (s.size : Int) < 3 := by omega
    go_wp2
    exact bodyPost_ret (results_row_tmp rfl _ _ w.heap.size #[.int .i64 0, .int .i64 0, .string ⟨#[]⟩] rfl (load_share _ _ _ _ _ (Blk.new w [.int .i64 0, .int .i64 0, .string ⟨#[]⟩] 100))) rfl ⟨rfl, (Ext.refl w).alloc _⟩
  · by_cases h66 : 66 < s.size
    · have h66i : (66 : Int) < (s.size : Int) := by omega
      go_wp2
      exact bodyPost_ret (results_row_tmp rfl _ _ w.heap.size #[.int .i64 0, .int .i64 0, .string ⟨#[]⟩] rfl (load_share _ _ _ _ _ (Blk.new w [.int .i64 0, .int .i64 0, .string ⟨#[]⟩] 100))) rfl ⟨rfl, (Ext.refl w).alloc _⟩
    · have hl : 2 < s.data.toList.length := by rw [size_list]; omega
      obtain ⟨x, hx⟩ : ∃ x, s.data.toList[0]? = some x := ⟨_, List.getElem?_eq_getElem (by omega)⟩
      obtain ⟨y, hy⟩ : ∃ y, s.data.toList[1]? = some y := ⟨_, List.getElem?_eq_getElem (by omega)⟩
      have hno : ¬ (1 ≤ y.toNat ∧ y.toNat ≤ 16 ∧ 1 ≤ x.toNat ∧ x.toNat ≤ y.toNat) := fun q => h x.toNat y.toNat ⟨by omega, by omega, q.1, q.2.1, q.2.2.1, q.2.2.2, x, y, hx, hy, rfl, rfl⟩
      have d1 := slice_two s (by omega)
      have a0 : ∀ u, (Instr.index 9 (.string s) (.int .i64 0)).run Tryz.prog u = .ok (.int .u8 (x.toNat : Int)) u := fun u => index_text s 0 x hx u
      have a1 : ∀ u, (Instr.index 9 (.string s) (.int .i64 1)).run Tryz.prog u = .ok (.int .u8 (y.toNat : Int)) u := fun u => index_text s 1 y hy u
      have hi256 := x.toNat_lt
      have hn256 := y.toNat_lt
      generalize s.extract 2 s.size = S2 at *
      generalize x.toNat = i at *
      generalize y.toNat = n at *
      clear hx hy hl h
      go_wp2
      go_region
      all_goals
        have hcase : (n : Int) < 1 ∨ (¬ (n : Int) < 1 ∧ (16 : Int) < (n : Int)) ∨ (¬ (n : Int) < 1 ∧ ¬ (16 : Int) < (n : Int) ∧ (i : Int) < 1) ∨ (¬ (n : Int) < 1 ∧ ¬ (16 : Int) < (n : Int) ∧ ¬ (i : Int) < 1 ∧ (n : Int) < (i : Int)) := by omega
        clear hno
        rcases hcase with q1 | ⟨q1, q2⟩ | ⟨q1, q2, q3⟩ | ⟨q1, q2, q3, q4⟩
        all_goals
          go_wp2
          exact bodyPost_ret (results_row_tmp rfl _ _ w.heap.size #[.int .i64 0, .int .i64 0, .string ⟨#[]⟩] rfl (load_share _ _ _ _ _ (((Blk.new w [.int .i64 0, .int .i64 0, .string ⟨#[]⟩] 100).alloc _).drew))) rfl ⟨rfl, (((Ext.refl w).alloc _).alloc _).drew⟩
end Go.Proofs.YtobhbppogeghnaaGreatDoor
end

section
namespace Go.Proofs.YtobhbppogeghnaaGreatDoor
open Go.RowKit

/-- Shares' cells, one behind the other. -/
def shCells (n : Nat) (L : List (Nat × ByteArray)) : List Value := L.flatMap fun x => [.int .i64 (x.1 : Int), .int .i64 (n : Int), .string x.2]
theorem shCells_get (n : Nat) : ∀ (L : List (Nat × ByteArray)) (i : Nat) (x : Nat × ByteArray), L[i]? = some x → (shCells n L)[i * 3]? = some (.int .i64 (x.1 : Int)) ∧ (shCells n L)[i * 3 + 1]? = some (.int .i64 (n : Int)) ∧ (shCells n L)[i * 3 + 2]? = some (.string x.2)
  | [], i, x, h => by simp at h
  | a :: r, 0, x, h => by
    simp at h; subst h
    exact ⟨rfl, rfl, rfl⟩
  | a :: r, i + 1, x, h => by
    have ih := shCells_get n r i x (by simpa using h)
    have e : ∀ k, (shCells n (a :: r))[(i + 1) * 3 + k]? = (shCells n r)[i * 3 + k]? := fun k => by
      have e1 : (i + 1) * 3 + k = (i * 3 + k) + 3 := by omega
      rw [e1]; rfl
    exact ⟨(e 0).trans ih.1, (e 1).trans ih.2.1, (e 2).trans ih.2.2⟩
theorem shCells_snoc (n : Nat) (L : List (Nat × ByteArray)) (x : Nat × ByteArray) : shCells n (L ++ [x]) = shCells n L ++ [.int .i64 (x.1 : Int), .int .i64 (n : Int), .string x.2] := by simp [shCells]
theorem infoH : (Tryz.prog.info? 100).map (fun i => (i.zero, i.size, i.bytes)) = some (some (.agg #[.int .i64 0, .int .i64 0, .string ⟨#[]⟩]), 3, 32) := by kernel_rfl
/-- A slice of shares that grew by append. -/
def BufH (w : World) (B : Nat) (v : Value) (n : Nat) (L : List (Nat × ByteArray)) : Prop := w.ownsRow B 100 3 v L.length (shCells n L)
/-- Block r is the document's Gather, to which these came. -/
structure IsRG (w : World) (r : Nat) (v : Value) (n m : Nat) (L : List (Nat × ByteArray)) : Prop where
  blk : Blk w r 32 [v]
  buf : BufH w (r + 1) v n L
  alike : Alike n m L
section
variable {w w' : World} {r B n m : Nat} {v : Value} {L : List (Nat × ByteArray)}
theorem BufH.ext (h : BufH w B v n L) (hx : Ext w w') : BufH w' B v n L := by
  refine ⟨h.1, ?_⟩
  rcases h.2 with h0 | ⟨g, cap, cur, e1, e2, e3, e4⟩
  · exact .inl h0
  · exact .inr ⟨g, cap, cur, e1, e2, (hx.below.block g (heap_lt e3)).trans e3, e4⟩
theorem BufH.nil (w : World) (B n : Nat) : BufH w B (.slice none 0 0) n [] := World.ownsRow_nil _ _ _ _
/-- The slice, its cells. -/
theorem BufH.cells (h : BufH w B v n L) : ∃ p c, v = .slice p L.length c ∧ ∀ (i : Nat) (x : Nat × ByteArray), L[i]? = some x → ∃ q, p = some ⟨q, 0, none⟩ ∧ B ≤ q ∧ q < w.heap.size ∧
    w.cell? ⟨q, i * 3, none⟩ = some (.int .i64 (x.1 : Int)) ∧ w.cell? ⟨q, i * 3 + 1, none⟩ = some (.int .i64 (n : Int)) ∧ w.cell? ⟨q, i * 3 + 2, none⟩ = some (.string x.2) := by
  unfold BufH at h
  rcases h.2 with ⟨hv, h0⟩ | ⟨g, cap, cur, hv, hB, hg, hle, _, hsz, ht⟩
  · have : L = [] := List.length_eq_zero_iff.1 h0
    subst this
    exact ⟨none, 0, hv, by simp⟩
  · refine ⟨some ⟨g, 0, none⟩, cap, hv, fun i x hx => ⟨g, rfl, hB, heap_lt hg, ?_⟩⟩
    have hi : i < L.length := (List.getElem?_eq_some_iff.1 hx).1
    obtain ⟨c0, c1, c2⟩ := shCells_get n L i x hx
    have key : ∀ (k : Nat) (u : Value), k < L.length * 3 → (shCells n L)[k]? = some u → w.cell? ⟨g, k, none⟩ = some u := fun k u hk hu => by
      rw [cell_of_row w g k cur _ (0, 0) hg]
      have e : cur.toList[k]? = (shCells n L)[k]? := by
        rw [← ht, List.getElem?_take, if_pos hk]
      rw [← Array.getElem?_toList, e, hu]
    exact ⟨key _ _ (by omega) c0, key _ _ (by omega) c1, key _ _ (by omega) c2⟩
theorem IsRG.ext (h : IsRG w r v n m L) (hx : Ext w w') : IsRG w' r v n m L := ⟨h.blk.ext hx, h.buf.ext hx, h.alike⟩
theorem IsRG.grown {b : Nat} (h : IsRG w r v n m L) (hx : w.grownBy w' (some b)) (hb : ∃ es c, w.heap[b]? = some (.map es c)) : IsRG w' r v n m L := by
  obtain ⟨es, c, hm⟩ := hb
  have key : ∀ (k : Nat) (cs : Array Value) (T : TypeId) (fz : Nat × Nat), w.heap[k]? = some (.cells cs T fz) → w'.heap[k]? = some (.cells cs T fz) := fun k cs T fz hk =>
    (hx.block k (heap_lt hk) (by intro e; cases e; rw [hm] at hk; cases hk)).trans hk
  refine ⟨key _ _ _ _ h.blk, ⟨h.buf.1, ?_⟩, h.alike⟩
  rcases h.buf.2 with h0 | ⟨g, cap, cur, e1, e2, e3, e4⟩
  · exact .inl h0
  · exact .inr ⟨g, cap, cur, e1, e2, key _ _ _ _ e3, e4⟩
end
end Go.Proofs.YtobhbppogeghnaaGreatDoor
end

section
namespace Go.Proofs.YtobhbppogeghnaaGreatDoor
open Go.RowKit

theorem once_at {n m : Nat} {L : List (Nat × ByteArray)} (h : Alike n m L) {j k : Nat} {x y : Nat × ByteArray} (hj : L[j]? = some x) (hk : L[k]? = some y) (hjk : j < k) : x.1 ≠ y.1 := by
  have hj' := List.getElem?_eq_some_iff.1 hj
  have hk' := List.getElem?_eq_some_iff.1 hk
  obtain ⟨a, rfl⟩ := hj'
  obtain ⟨b, rfl⟩ := hk'
  exact List.pairwise_iff_getElem.1 h.once j k a b hjk
theorem Blk.drewN {w : World} {b : Nat} {T : TypeId} {cs : List Value} (h : Blk w b T cs) (n : Nat) : Blk (w.drewN n) b T cs := h
end Go.Proofs.YtobhbppogeghnaaGreatDoor
end

section
namespace Go.Proofs.YtobhbppogeghnaaGreatDoor
open Go.RowKit

theorem rXor_yes (a b : ByteArray) (hab : a.size = b.size) (ha : a.size ≤ 140737488351232) (w : World) :
    Calls Tryz.prog 100 #[.string a, .string b] w fun e w' => e = .returned (.string ⟨(xorL a.data.toList b.data.toList).toArray⟩) ∧ Ext w w' := by
  have hmk := make_bytes a.size (by omega)
  have Hab := Lib.hid hab; clear hab
  go_enter Tryz.func100, Tryz.ntmps100
  go_wp2
  go_loopw [6] (fun i wr => ∃ j : Nat, j ≤ a.size ∧ i = .int .i64 j ∧ Row wr w.heap.size 5 ((xorL a.data.toList b.data.toList).take j ++ List.replicate (a.size - j) 0) ∧ Ext w wr) (fun i _ => a.size - (intOf i).toNat)
  case atStart => exact ⟨0, Nat.zero_le _, rfl, by simpa using Row.made w 5 a.size, (Ext.refl w).alloc _⟩
  case round =>
    obtain ⟨j, hj, rfl, hrow, hext⟩ := hrel
    by_cases hlt : j < a.size
    · have hlt2 : j < b.size := by have := Hab.out; omega
      have hc := fill_cell hrow (xorL_length Hab.out) hlt
      have hf := hrow.frozen j
      go_wp2
      go_region
      go_wp2
      go_roundw
      case rel => exact ⟨j + 1, by omega, by go_num, (fill_step hrow (xorL_length Hab.out) hlt _ _ (xorL_at hlt hlt2) (or_sub_and _ _)).drew, (hext.setCell (Nat.le_refl _) _).drew⟩
      case measure => simp [intOf]; omega
    · obtain rfl : j = a.size := by omega
      have ht := (fill_done hrow (xorL_length Hab.out)).text (P := Tryz.prog) 43 5 9 Tryz.underlying43 Tryz.underlying5 Tryz.underlying9 a.size a.size (xorL_length Hab.out)
      clear hrow
      go_wp2
      go_ret
      exact ⟨rfl, hext⟩

end Go.Proofs.YtobhbppogeghnaaGreatDoor
end

section
namespace Go.Proofs.YtobhbppogeghnaaGreatDoor
open Go.RowKit
attribute [local irreducible] xorL xorAll

end Go.Proofs.YtobhbppogeghnaaGreatDoor
end
