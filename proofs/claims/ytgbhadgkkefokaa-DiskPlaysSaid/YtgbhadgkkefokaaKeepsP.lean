/- Plain: what a crash leaves of writes; what is behind what. Contracts: three files' texts; does one text begin another one. -/
import Derived.Test.YtgbhadgkkefokaaFilesL
import Derived.Test.YtgbhadgkkefokaaCrashW
namespace Go.Proofs.Ytgbhadgkkefokaa
open Go.RowKit
def Pre (s t : ByteArray) : Prop := ∃ u, t = s ++ u
theorem Pre.refl (s : ByteArray) : Pre s s := ⟨⟨#[]⟩, (append_none s).symm⟩
theorem Pre.trans {a b c : ByteArray} (h : Pre a b) (k : Pre b c) : Pre a c := by
  obtain ⟨u, rfl⟩ := h
  obtain ⟨v, rfl⟩ := k
  exact ⟨u ++ v, by rw [ByteArray.append_assoc]⟩
theorem Pre.cut {s t : ByteArray} (h : Pre s t) : s.size ≤ t.size ∧ t.extract 0 s.size = s := by
  obtain ⟨u, rfl⟩ := h
  refine ⟨by rw [size_appendB]; omega, ?_⟩
  apply ByteArray.ext
  simp
theorem pre_extract (s : ByteArray) (k : Nat) : Pre (s.extract 0 (min k s.size)) s := ⟨s.extract (min k s.size) s.size, by
  apply ByteArray.ext
  simp⟩
def AllWr (L : List Chg) : Prop := ∀ c ∈ L, ∃ f s, c = Chg.wr f s
theorem AllWr.snoc {L : List Chg} (h : AllWr L) (f : Nat) (s : ByteArray) : AllWr (L ++ [.wr f s]) := fun c hc => by
  rcases List.mem_append.1 hc with h1 | h1
  · exact h c h1
  · simp at h1; exact ⟨f, s, h1⟩
theorem wr_pre (N : Fs) (f : Nat) (s : ByteArray) (i : Nat) : Pre (N i) (Chg.does N (.wr f s) i) := by
  simp only [Chg.does]
  by_cases e : i = f
  · subst e; rw [upd_same]; exact ⟨s, rfl⟩
  · rw [upd_other _ _ _ e]; exact Pre.refl _
theorem runs_pre : ∀ (L : List Chg) (N : Fs), AllWr L → ∀ i, Pre (N i) (runs N L i)
  | [], N, _, i => Pre.refl _
  | c :: r, N, h, i => by
    obtain ⟨f, s, rfl⟩ := h c (by simp)
    rw [runs_cons]
    exact (wr_pre N f s i).trans (runs_pre r _ (fun c hc => h c (by simp [hc])) i)
theorem runs_drop (N : Fs) (L : List Chg) (j : Nat) : runs N L = runs (runs N (L.take j)) (L.drop j) := by
  conv => lhs; rw [← List.take_append_drop j L]
  unfold runs
  rw [List.foldl_append]
theorem left_pre (d : DS) (h : AllWr d.L) (calls bytes : Int) (i : Nat) : Pre (d.S i) (d.left_ calls bytes i) ∧ Pre (d.left_ calls bytes i) (d.now i) := by
  have hall := runs_pre d.L d.S h i
  unfold DS.left_
  by_cases h0 : calls < 0
  · rw [if_pos h0]; exact ⟨Pre.refl _, hall⟩
  · rw [if_neg h0]
    rcases hc : d.L[calls.toNat]? with _ | c
    · exact ⟨hall, Pre.refl _⟩
    · obtain ⟨f, s, rfl⟩ := h c (List.mem_of_getElem? hc)
      have h1 : Pre (d.S i) (runs d.S (d.L.take calls.toNat) i) := runs_pre _ _ (fun c hc => h c (List.mem_of_mem_take hc)) i
      have h2 : Pre (runs d.S (d.L.take (calls.toNat + 1)) i) (d.now i) := by
        unfold DS.now
        rw [runs_drop d.S d.L (calls.toNat + 1)]
        exact runs_pre _ _ (fun c hc => h c (List.mem_of_mem_drop hc)) i
      rw [runs_take _ _ _ _ hc] at h2
      show Pre _ (Chg.torn _ _ _ i) ∧ Pre (Chg.torn _ _ _ i) _
      simp only [Chg.torn]
      simp only [Chg.does] at h2
      by_cases e : i = f
      · subst e
        rw [upd_same] at h2 ⊢
        refine ⟨h1.trans ⟨_, rfl⟩, Pre.trans ?_ h2⟩
        obtain ⟨u, hu⟩ := pre_extract s bytes.toNat
        exact ⟨u, by rw [ByteArray.append_assoc, ← hu]⟩
      · rw [upd_other _ _ _ e] at h2 ⊢
        exact ⟨h1, h2⟩
theorem left_none (d : DS) (h : d.L = []) (calls bytes : Int) : d.left_ calls bytes = d.S := by
  unfold DS.left_
  split
  · rfl
  · rw [h]
    show d.now = d.S
    unfold DS.now
    rw [h]; rfl
/-- A write, where there is no fuse. -/
theorem write_keeps (d : DS) (hf : d.fuse = -1) (f : Int) (s : ByteArray) (h : AllWr d.L) : (d.write f s).1.m = d.m ∧ (d.write f s).1.fuse = -1 ∧ (d.write f s).1.S = d.S ∧ AllWr (d.write f s).1.L ∧ (d.write f s).1.L.length ≤ d.L.length + 1 ∧ (d.write f s).1.room = d.room := by
  have hb : d.burnt.fuse = -1 := by unfold DS.burnt; simp only; rw [if_neg (by omega)]; exact hf
  unfold DS.write
  rw [if_neg (by omega)]
  split
  · exact ⟨rfl, hb, rfl, h, by show d.L.length ≤ _; omega, rfl⟩
  split
  · exact ⟨rfl, hb, rfl, h, by show d.L.length ≤ _; omega, rfl⟩
  · exact ⟨rfl, hb, rfl, h.snoc _ _, by show (d.L ++ [_]).length ≤ _; simp, rfl⟩
/-- What a block of three texts holds. -/
def TX3 (w : World) (g : Nat) (N : Fs) (n0 n1 : Nat) : Prop := n1 ≤ w.heap.size ∧ n0 ≤ g ∧ g < n1 ∧ ∀ j, j < 3 → w.cell? ⟨g, j, none⟩ = some (.string (N j))
theorem TX3.keep {w w' : World} {g : Nat} {N : Fs} {n0 n1 : Nat} (h : TX3 w g N n0 n1) (hs : w.heap.size ≤ w'.heap.size) (hb : w'.heap[g]? = w.heap[g]?) : TX3 w' g N n0 n1 :=
  ⟨Nat.le_trans h.1 hs, h.2.1, h.2.2.1, fun j hj => (World.cell?_of_block (w := w) (a := ⟨g, j, none⟩) hb).trans (h.2.2.2 j hj)⟩
theorem TX3.ext {w w' : World} {g : Nat} {N : Fs} {n0 n1 : Nat} (h : TX3 w g N n0 n1) (hx : Ext w w') : TX3 w' g N n0 n1 := h.keep hx.size (hx.block g (Nat.lt_of_lt_of_le h.2.2.1 h.1))
theorem TX3.fr {w w' : World} {g : Nat} {N : Fs} {n0 n1 : Nat} {κ κ' : Foot} (h : TX3 w g N n0 n1) (f : Fr κ (2 ≤ ·) w w' κ') (hz : κ g = 0) : TX3 w' g N n0 n1 ∧ κ' g = 0 :=
  ⟨h.keep f.size (f.other g (Nat.lt_of_lt_of_le h.2.2.1 h.1) (by rw [hz]; decide)), (f.foot g (Nat.lt_of_lt_of_le h.2.2.1 h.1)).trans hz⟩
end Go.Proofs.Ytgbhadgkkefokaa
