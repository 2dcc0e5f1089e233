/- Shares that came, as the document's answer keeps them; contracts: a share that comes, by the document's answer. -/
import Derived.Test.YtadincbeimfakaaGather
import Derived.Test.YtadincbeimfakaaBuf
import Derived.Deep.QuietTactic
import Derived.BigQuiet
import Derived.Outline
namespace Go.Proofs.Ytadincbeimfakaa
open Go.RowKit

/-- Shares' cells, one behind the other. -/
def shCells (n : Nat) (L : List (Nat × ByteArray)) : List Value := L.flatMap fun x => [.int .i64 (x.1 : Int), .int .i64 (n : Int), .string x.2]
theorem shCells_length (n : Nat) (L : List (Nat × ByteArray)) : (shCells n L).length = L.length * 3 := by
  induction L with
  | nil => rfl
  | cons a r ih => simp only [shCells, List.flatMap_cons, List.length_append, List.length_cons, List.length_nil] at ih ⊢; omega
theorem shCells_get (n : Nat) : ∀ (L : List (Nat × ByteArray)) (i : Nat) (x : Nat × ByteArray), L[i]? = some x → (shCells n L)[i * 3]? = some (.int .i64 (x.1 : Int)) ∧ (shCells n L)[i * 3 + 1]? = some (.int .i64 (n : Int)) ∧ (shCells n L)[i * 3 + 2]? = some (.string x.2)
  | [], i, x, h => by simp at h
  | a :: r, 0, x, h => by
    simp at h; subst h
    exact ⟨rfl, rfl, rfl⟩
  | a :: r, i + 1, x, h => by
    have ih := shCells_get n r i x (by simpa using h)
    have e : ∀ k, (shCells n (a :: r))[(i + 1) * 3 + k]? = (shCells n r)[i * 3 + k]? := fun k => by
      have e1 : (i + 1) * 3 + k = (i * 3 + k) + 3 := by omega
      rw [e1]; rfl
    exact ⟨(e 0).trans ih.1, (e 1).trans ih.2.1, (e 2).trans ih.2.2⟩
theorem shCells_snoc (n : Nat) (L : List (Nat × ByteArray)) (x : Nat × ByteArray) : shCells n (L ++ [x]) = shCells n L ++ [.int .i64 (x.1 : Int), .int .i64 (n : Int), .string x.2] := by simp [shCells]
theorem infoH : (Try.prog.info? 33).map (fun i => (i.zero, i.size, i.bytes)) = some (some (.agg #[.int .i64 0, .int .i64 0, .string ⟨#[]⟩]), 3, 32) := by kernel_rfl
/-- A slice of shares that grew by append. -/
def BufH (w : World) (B : Nat) (v : Value) (n : Nat) (L : List (Nat × ByteArray)) : Prop := w.ownsRow B 33 3 v L.length (shCells n L)
/-- Block r is the document's Gather, to which these came. -/
structure IsR (w : World) (r : Nat) (v : Value) (n m : Nat) (L : List (Nat × ByteArray)) : Prop where
  blk : Blk w r 43 [v]
  buf : BufH w (r + 1) v n L
  alike : Alike n m L
section
variable {w w' : World} {r B n m : Nat} {v : Value} {L : List (Nat × ByteArray)}
theorem BufH.ext (h : BufH w B v n L) (hx : Ext w w') : BufH w' B v n L := by
  refine ⟨h.1, ?_⟩
  rcases h.2 with h0 | ⟨g, cap, cur, e1, e2, e3, e4⟩
  · exact .inl h0
  · exact .inr ⟨g, cap, cur, e1, e2, (hx.below.block g (heap_lt e3)).trans e3, e4⟩
theorem BufH.nil (w : World) (B n : Nat) : BufH w B (.slice none 0 0) n [] := World.ownsRow_nil _ _ _ _
/-- The slice, its cells. -/
theorem BufH.cells (h : BufH w B v n L) : ∃ p c, v = .slice p L.length c ∧ ∀ (i : Nat) (x : Nat × ByteArray), L[i]? = some x → ∃ q, p = some ⟨q, 0, none⟩ ∧ B ≤ q ∧ q < w.heap.size ∧
    w.cell? ⟨q, i * 3, none⟩ = some (.int .i64 (x.1 : Int)) ∧ w.cell? ⟨q, i * 3 + 1, none⟩ = some (.int .i64 (n : Int)) ∧ w.cell? ⟨q, i * 3 + 2, none⟩ = some (.string x.2) := by
  unfold BufH at h
  rcases h.2 with ⟨hv, h0⟩ | ⟨g, cap, cur, hv, hB, hg, hle, _, hsz, ht⟩
  · have : L = [] := List.length_eq_zero_iff.1 h0
    subst this
    exact ⟨none, 0, hv, by simp⟩
  · refine ⟨some ⟨g, 0, none⟩, cap, hv, fun i x hx => ⟨g, rfl, hB, heap_lt hg, ?_⟩⟩
    have hi : i < L.length := (List.getElem?_eq_some_iff.1 hx).1
    obtain ⟨c0, c1, c2⟩ := shCells_get n L i x hx
    have key : ∀ (k : Nat) (u : Value), k < L.length * 3 → (shCells n L)[k]? = some u → w.cell? ⟨g, k, none⟩ = some u := fun k u hk hu => by
      rw [cell_of_row w g k cur _ (0, 0) hg]
      have e : cur.toList[k]? = (shCells n L)[k]? := by
        rw [← ht, List.getElem?_take, if_pos hk]
      rw [← Array.getElem?_toList, e, hu]
    exact ⟨key _ _ (by omega) c0, key _ _ (by omega) c1, key _ _ (by omega) c2⟩
theorem IsR.ext (h : IsR w r v n m L) (hx : Ext w w') : IsR w' r v n m L := ⟨h.blk.ext hx, h.buf.ext hx, h.alike⟩
theorem IsR.grown {b : Nat} (h : IsR w r v n m L) (hx : w.grownBy w' (some b)) (hb : ∃ es c, w.heap[b]? = some (.map es c)) : IsR w' r v n m L := by
  obtain ⟨es, c, hm⟩ := hb
  have key : ∀ (k : Nat) (cs : Array Value) (T : TypeId) (fz : Nat × Nat), w.heap[k]? = some (.cells cs T fz) → w'.heap[k]? = some (.cells cs T fz) := fun k cs T fz hk =>
    (hx.block k (heap_lt hk) (by intro e; cases e; rw [hm] at hk; cases hk)).trans hk
  refine ⟨key _ _ _ _ h.blk, ⟨h.buf.1, ?_⟩, h.alike⟩
  rcases h.buf.2 with h0 | ⟨g, cap, cur, e1, e2, e3, e4⟩
  · exact .inl h0
  · exact .inr ⟨g, cap, cur, e1, e2, key _ _ _ _ e3, e4⟩
end
theorem radd_form (w : World) (r : Nat) (s : ByteArray) (hs : NoShare s) :
    Calls Try.prog 16 #[.pointer (some ⟨r, 0, none⟩), .string s] w fun e w' => e = .returned (.int .i64 7) ∧ Ext w w' := by
  have HR := Lib.hid (fun u => rread_no s hs u)
  clear hs
  go_enter Try.func16, Try.ntmps16
  go_wp2_with (go_at_call 13; refine (HR.out _).mono ?_; rintro e w1 ⟨rfl, x1⟩)
  go_ret
  exact ⟨rfl, x1.alloc _⟩
set_option maxRecDepth 100000 in
set_option maxHeartbeats 4000000 in
theorem radd_other (w : World) (r : Nat) (v : Value) (n m : Nat) (L : List (Nat × ByteArray)) (s : ByteArray) (i n' : Nat) (h : IsR w r v n m L) (hs : ShareOf s i n') (hL : L ≠ []) (hno : ¬ (n' = n ∧ s.size - 2 = m)) :
    Calls Try.prog 16 #[.pointer (some ⟨r, 0, none⟩), .string s] w fun e w' => e = .returned (.int .i64 60) ∧ Ext w w' := by
  obtain ⟨p, c, rfl, hcl⟩ := h.buf.cells
  obtain ⟨x, hx⟩ : ∃ x, L[0]? = some x := ⟨_, List.getElem?_eq_getElem (List.length_pos_iff.2 hL)⟩
  obtain ⟨q, rfl, hq1, hq2, hc0, hc1, hc2⟩ := hcl 0 x hx
  have hxs := (h.alike.each x (List.mem_of_getElem? hx)).2.2
  have hpos : 0 < L.length := List.length_pos_iff.2 hL
  have HR := Lib.hid (fun u => rread_yes s i n' hs u)
  have hS : (s.extract 2 s.size).size = s.size - 2 := by simp
  have HB := Lib.hid h.blk
  have hcase : ¬ n' = n ∨ (n' = n ∧ ¬ (s.extract 2 s.size).size = x.2.size) := by omega
  have HC1 := Lib.hid (fun u (hu : Ext w u) => (hu.below.cell (p := ⟨q, 1, none⟩) hq2).trans (by simpa using hc1))
  have HC2 := Lib.hid (fun u (hu : Ext w u) => (hu.below.cell (p := ⟨q, 2, none⟩) hq2).trans (by simpa using hc2))
  have hposi : (0 : Int) < (L.length : Int) := by omega
  generalize s.extract 2 s.size = S2 at *
  generalize x.2 = t at *
  generalize L.length = len at *
  clear h hs hL hno hS hcl hx hxs hq1 hq2 hc0 hc1 hc2
  have HCa := Lib.hid hcase
  clear hcase
  go_enter Try.func16, Try.ntmps16
  go_wp2_with (go_at_call 13; refine (HR.out _).mono ?_; rintro e w1 ⟨rfl, x1⟩; have kb := ((HB.out.ext x1).alloc (.cells #[.int .i64 (i : Int), .int .i64 (n' : Int), .string S2] 33)).cell 0 _ rfl; have HX := Lib.hid (x1.alloc (.cells #[.int .i64 (i : Int), .int .i64 (n' : Int), .string S2] 33)))
  have HBX := Lib.hid (Blk.new w1 [.int .i64 (i : Int), .int .i64 (n' : Int), .string S2] 33)
  generalize w1.heap.size = X at *
  clear kb x1
  go_loopw [7] (fun iv wr => iv = .int .i64 0 ∧ Blk wr X 33 [.int .i64 (i : Int), .int .i64 (n' : Int), .string S2] ∧ Ext w wr) (fun _ _ => 0)
  case atStart => exact ⟨rfl, HBX.out, HX.out⟩
  case round =>
    obtain ⟨rfl, hbx, hext⟩ := hrel
    have HE := Lib.hid hext
    have cr := (HB.out.ext hext).cell 0 _ rfl
    have x1 := hbx.cell 1 _ rfl
    have x2 := hbx.cell 2 _ rfl
    have c1 := HC1.out _ hext
    have c2 := HC2.out _ hext
    clear hbx hext
    rcases HCa.out with hn | ⟨rfl, hn⟩
    · have hne : ((n : Int) != (n' : Int)) = true := by
        have q : ¬ (n : Int) = (n' : Int) := by omega
        simpa using q
      clear hn
      go_wp2
      go_quiet (fail)
      go_wp2
      go_ret
      exact ⟨rfl, HE.out.drewN _⟩
    · have hne : ((t.size : Int) != (S2.size : Int)) = true := by
        have q : ¬ (t.size : Int) = (S2.size : Int) := by omega
        simpa using q
      clear hn
      go_wp2
      go_quiet (fail)
      go_wp2
      go_ret
      exact ⟨rfl, HE.out.drewN _⟩
end Go.Proofs.Ytadincbeimfakaa
