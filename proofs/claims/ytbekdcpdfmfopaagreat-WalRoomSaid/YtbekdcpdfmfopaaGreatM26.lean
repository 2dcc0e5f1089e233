/- Plain: files, calls that are loose, and what each call of a disk answers and leaves. No function of the program is named here. Plain: a log, its calls of a disk in a row, and what each leaves. No function of the program is named here. -/
import Derived.Test.YtbekdcpdfmfopaaGreatM00
import Derived.Deep.AppendSrc
import Derived.Test.YtbekdcpdfmfopaaGreatM05
section
namespace Go.Proofs.YtbekdcpdfmfopaaGreat
open Go.RowKit

/-- A loose call: a write of a text, a cut to so many bytes. -/
inductive Chg where
  | wr (f : Nat) (s : ByteArray)
  | cut (f n : Nat)
/-- Files, by their numbers. -/
abbrev Fs := Nat → ByteArray
def upd (N : Fs) (i : Nat) (x : ByteArray) : Fs := fun k => if k = i then x else N k
theorem upd_same (N : Fs) (i : Nat) (x : ByteArray) : upd N i x i = x := by simp [upd]
theorem upd_other (N : Fs) (i : Nat) (x : ByteArray) {k : Nat} (h : k ≠ i) : upd N i x k = N k := by simp [upd, h]
def Chg.does (N : Fs) : Chg → Fs
  | .wr f s => upd N f (N f ++ s)
  | .cut f n => upd N f ((N f).extract 0 n)
/-- The first k bytes of it. -/
def Chg.torn (N : Fs) (k : Nat) : Chg → Fs
  | .wr f s => upd N f (N f ++ s.extract 0 (min k s.size))
  | .cut _ _ => N
def runs (N : Fs) (L : List Chg) : Fs := L.foldl Chg.does N
theorem runs_nil (N : Fs) : runs N [] = N := rfl
theorem runs_snoc (N : Fs) (L : List Chg) (c : Chg) : runs N (L ++ [c]) = c.does (runs N L) := by simp [runs]
theorem runs_cons (N : Fs) (L : List Chg) (c : Chg) : runs N (c :: L) = runs (c.does N) L := rfl
theorem runs_take (N : Fs) (L : List Chg) (j : Nat) (c : Chg) (h : L[j]? = some c) : runs N (L.take (j + 1)) = c.does (runs N (L.take j)) := by
  obtain ⟨hj, rfl⟩ := List.getElem?_eq_some_iff.1 h
  rw [List.take_succ_eq_append_getElem hj, runs_snoc]
def Chg.ok (m : Nat) (N : Fs) : Chg → Prop
  | .wr f s => f < m ∧ (N f).size + s.size ≤ 4194304
  | .cut f n => f < m ∧ n ≤ (N f).size
def oks (m : Nat) (N : Fs) (L : List Chg) : Prop := ∀ (j : Nat) (c : Chg), L[j]? = some c → Chg.ok m (runs N (L.take j)) c
theorem oks_nil (m : Nat) (N : Fs) : oks m N [] := fun j c h => by simp at h
theorem oks_snoc {m : Nat} {N : Fs} {L : List Chg} (h : oks m N L) {c : Chg} (hc : c.ok m (runs N L)) : oks m N (L ++ [c]) := fun j x hx => by
  rcases Nat.lt_trichotomy j L.length with hj | rfl | hj
  · rw [List.getElem?_append_left hj] at hx
    have := h j x hx
    rwa [List.take_append_of_le_length (Nat.le_of_lt hj)]
  · rw [List.getElem?_append_right (Nat.le_refl _)] at hx
    simp at hx
    subst hx
    simpa using hc
  · rw [List.getElem?_append_right (by omega)] at hx
    have : 1 ≤ j - L.length := by omega
    rw [List.getElem?_eq_none (by simpa using this)] at hx
    cases hx
theorem size_appendB (a b : ByteArray) : (a ++ b).size = a.size + b.size := by simp
theorem cells_appendB (a b : ByteArray) : byteCells (a ++ b) = byteCells a ++ byteCells b := by simp [byteCells]
theorem cells_extract (a : ByteArray) (n : Nat) : byteCells (a.extract 0 n) = (byteCells a).take n := by
  simp [byteCells, List.map_take]
theorem size_extract (a : ByteArray) (n : Nat) (h : n ≤ a.size) : (a.extract 0 n).size = n := by simp; omega
theorem extract_all (a : ByteArray) : a.extract 0 a.size = a := by
  apply ByteArray.ext
  simp
theorem append_none (a : ByteArray) : a ++ (⟨#[]⟩ : ByteArray) = a := by
  apply ByteArray.ext
  simp
theorem empty_of_size {s : ByteArray} (h : s.size = 0) : s = ⟨#[]⟩ := by
  apply ByteArray.ext
  exact Array.eq_empty_of_size_eq_zero h
theorem Chg.torn_all (N : Fs) (f : Nat) (s : ByteArray) (k : Nat) (h : s.size ≤ k) : Chg.torn N k (.wr f s) = Chg.does N (.wr f s) := by
  simp only [Chg.torn, Chg.does]
  rw [Nat.min_eq_right h, extract_all]
theorem Chg.ok.bound {m : Nat} {N : Fs} {c : Chg} (h : c.ok m N) (hN : ∀ i, (N i).size ≤ 4194304) : ∀ i, (c.does N i).size ≤ 4194304 := fun i => by
  cases c with
  | wr f s =>
    simp only [Chg.does]
    by_cases e : i = f
    · subst e; rw [upd_same, size_appendB]; exact h.2
    · rw [upd_other _ _ _ e]; exact hN i
  | cut f n =>
    simp only [Chg.does]
    by_cases e : i = f
    · subst e; rw [upd_same, size_extract _ _ h.2]; exact Nat.le_trans h.2 (hN i)
    · rw [upd_other _ _ _ e]; exact hN i
theorem Chg.ok.none {m : Nat} {N : Fs} {c : Chg} (h : c.ok m N) (hN : ∀ i, m ≤ i → N i = ⟨#[]⟩) : ∀ i, m ≤ i → c.does N i = ⟨#[]⟩ := fun i hi => by
  cases c with
  | wr f s => simp only [Chg.does]; rw [upd_other _ _ _ (by have := h.1; omega)]; exact hN i hi
  | cut f n => simp only [Chg.does]; rw [upd_other _ _ _ (by have := h.1; omega)]; exact hN i hi
theorem torn_bound {m : Nat} {N : Fs} {c : Chg} (k : Nat) (h : c.ok m N) (hN : ∀ i, (N i).size ≤ 4194304) : ∀ i, (c.torn N k i).size ≤ 4194304 := fun i => by
  cases c with
  | wr f s =>
    simp only [Chg.torn]
    by_cases e : i = f
    · subst e; rw [upd_same, size_appendB, size_extract _ _ (Nat.min_le_right _ _)]; have := h.2; have := Nat.min_le_right k s.size; omega
    · rw [upd_other _ _ _ e]; exact hN i
  | cut f n => exact hN i
theorem torn_none {m : Nat} {N : Fs} {c : Chg} (k : Nat) (h : c.ok m N) (hN : ∀ i, m ≤ i → N i = ⟨#[]⟩) : ∀ i, m ≤ i → c.torn N k i = ⟨#[]⟩ := fun i hi => by
  cases c with
  | wr f s => simp only [Chg.torn]; rw [upd_other _ _ _ (by have := h.1; omega)]; exact hN i hi
  | cut f n => exact hN i hi
theorem oks.take {m : Nat} {N : Fs} {L : List Chg} (h : oks m N L) (hN : ∀ i, (N i).size ≤ 4194304) (hn : ∀ i, m ≤ i → N i = ⟨#[]⟩) : ∀ j, (∀ i, (runs N (L.take j) i).size ≤ 4194304) ∧ (∀ i, m ≤ i → runs N (L.take j) i = ⟨#[]⟩)
  | 0 => by simpa [runs_nil] using ⟨hN, hn⟩
  | j + 1 => by
    have ih := oks.take h hN hn j
    rcases hj : L[j]? with _ | c
    · have hl : L.length ≤ j := List.getElem?_eq_none_iff.1 hj
      rw [List.take_of_length_le (by omega)]
      rw [List.take_of_length_le hl] at ih
      exact ih
    · rw [runs_take _ _ _ _ hj]
      exact ⟨(h j c hj).bound ih.1, (h j c hj).none ih.2⟩

/-! ### A disk -/
structure DS where
  m : Nat
  room : Nat
  fuse : Int
  S : Fs
  L : List Chg
def DS.now (d : DS) : Fs := runs d.S d.L
structure DS.Ok (d : DS) : Prop where
  m1 : 1 ≤ d.m
  m16 : d.m ≤ 16
  room : d.room ≤ 4194304
  fuse0 : -1 ≤ d.fuse
  fuse1 : d.fuse ≤ 9223372036854775807
  sizes : ∀ i, (d.S i).size ≤ 4194304
  none : ∀ i, d.m ≤ i → d.S i = ⟨#[]⟩
  oks : oks d.m d.S d.L
theorem DS.Ok.now_size {d : DS} (h : d.Ok) (i : Nat) : (d.now i).size ≤ 4194304 := by
  have := (h.oks.take h.sizes h.none d.L.length).1 i
  rwa [List.take_length] at this
theorem DS.Ok.now_none {d : DS} (h : d.Ok) (i : Nat) (hi : d.m ≤ i) : d.now i = ⟨#[]⟩ := by
  have := (h.oks.take h.sizes h.none d.L.length).2 i hi
  rwa [List.take_length] at this
/-- Sizes of the first n files. -/
def szs (N : Fs) : Nat → Nat
  | 0 => 0
  | n + 1 => szs N n + (N n).size
theorem szs_le (N : Fs) (h : ∀ i, (N i).size ≤ 4194304) : ∀ n, szs N n ≤ n * 4194304
  | 0 => Nat.le_refl _
  | n + 1 => by have := szs_le N h n; have := h n; simp only [szs]; omega
theorem szs_none (N : Fs) (m : Nat) (h : ∀ i, m ≤ i → N i = ⟨#[]⟩) : ∀ k, szs N (m + k) = szs N m
  | 0 => rfl
  | k + 1 => by
    show szs N (m + k) + (N (m + k)).size = _
    rw [szs_none N m h k, h (m + k) (by omega)]
    rfl
theorem szs_at (N : Fs) : ∀ n i, i < n → (N i).size ≤ szs N n
  | 0, i, h => by omega
  | n + 1, i, h => by
    simp only [szs]
    rcases Nat.lt_or_ge i n with hi | hi
    · have := szs_at N n i hi; omega
    · obtain rfl : i = n := by omega
      omega
/-- How many bytes more there is room for. -/
def DS.left (d : DS) : Int := (d.room : Int) - (szs d.now d.m : Int)
theorem DS.Ok.left16 {d : DS} (h : d.Ok) : d.left = (d.room : Int) - (szs d.now 16 : Int) := by
  have := szs_none d.now d.m h.now_none (16 - d.m)
  have := h.m16
  rw [show d.m + (16 - d.m) = 16 by omega] at *
  unfold DS.left
  omega
def DS.isF (d : DS) (f : Int) : Prop := 0 ≤ f ∧ f < (d.m : Int)
instance (d : DS) (f : Int) : Decidable (d.isF f) := inferInstanceAs (Decidable (_ ∧ _))
/-- One off the fuse. -/
def DS.burnt (d : DS) : DS := { d with fuse := if 0 < d.fuse then d.fuse - 1 else d.fuse }
theorem DS.burnt_now (d : DS) : d.burnt.now = d.now := rfl
theorem DS.Ok.burnt {d : DS} (h : d.Ok) : d.burnt.Ok := ⟨h.m1, h.m16, h.room, by have := h.fuse0; unfold DS.burnt; simp only; split <;> omega, by have := h.fuse1; unfold DS.burnt; simp only; split <;> omega, h.sizes, h.none, h.oks⟩
def DS.write (d : DS) (f : Int) (s : ByteArray) : DS × Int :=
  if d.fuse = 0 then (d, 90) else if ¬ d.isF f then (d.burnt, 3) else if d.left < (s.size : Int) then (d.burnt, 4) else ({ d.burnt with L := d.L ++ [.wr f.toNat s] }, 0)
def DS.cutF (d : DS) (f n : Int) : DS × Int :=
  if d.fuse = 0 then (d, 90) else if ¬ d.isF f then (d.burnt, 3) else if n < 0 ∨ ((d.now f.toNat).size : Int) < n then (d.burnt, 2) else ({ d.burnt with L := d.L ++ [.cut f.toNat n.toNat] }, 0)
/-- What is there is there for good. -/
def DS.settled (d : DS) : DS := { d with S := d.now, L := [] }
def DS.sync (d : DS) : DS × Int := if d.fuse = 0 then (d, 90) else (d.burnt.settled, 0)
def DS.fused (d : DS) (n : Int) : DS := { d with fuse := max n (-1) }
def DS.read (d : DS) (f : Int) : ByteArray × Int := if d.fuse = 0 then (⟨#[]⟩, 90) else if ¬ d.isF f then (⟨#[]⟩, 3) else (d.now f.toNat, 0)
/-- What a crash leaves. -/
def DS.left_ (d : DS) (calls bytes : Int) : Fs :=
  if calls < 0 then d.S else match d.L[calls.toNat]? with
    | none => d.now
    | some c => c.torn (runs d.S (d.L.take calls.toNat)) bytes.toNat
def DS.crash (d : DS) (calls bytes : Int) : DS := { d with S := d.left_ calls bytes, L := [], fuse := -1 }
def xorAt (s : ByteArray) (i : Nat) (b : Nat) : ByteArray := ⟨(s.data.toList.set i (UInt8.ofNat ((s.data.toList.getD i 0).toNat ^^^ b))).toArray⟩
theorem xorAt_size (s : ByteArray) (i b : Nat) : (xorAt s i b).size = s.size := by
  show (s.data.toList.set i _).toArray.size = s.data.size
  simp
def DS.spoil (d : DS) (f n : Int) (b : Nat) : DS × Int :=
  if ¬ d.isF f then (d, 3) else if n < 0 ∨ ((d.now f.toNat).size : Int) ≤ n then (d, 2) else if 0 < d.L.length then (d, 9) else ({ d with S := upd d.S f.toNat (xorAt (d.S f.toNat) n.toNat b) }, 0)
theorem DS.Ok.write {d : DS} (h : d.Ok) (f : Int) (s : ByteArray) : (d.write f s).1.Ok := by
  unfold DS.write
  split
  · exact h
  split
  · exact h.burnt
  split
  · exact h.burnt
  · rename_i h1 h2 h3
    have hf : d.isF f := Classical.not_not.1 h2
    have hb := h.burnt
    refine ⟨hb.m1, hb.m16, hb.room, hb.fuse0, hb.fuse1, hb.sizes, hb.none, oks_snoc h.oks ⟨by have := hf.1; have := hf.2; show f.toNat < d.m; omega, ?_⟩⟩
    have h4 := szs_at d.now d.m f.toNat (by have := hf.1; have := hf.2; omega)
    have := h.room
    unfold DS.left at h3
    show (d.now f.toNat).size + s.size ≤ 4194304
    omega
theorem DS.Ok.cutF {d : DS} (h : d.Ok) (f n : Int) : (d.cutF f n).1.Ok := by
  unfold DS.cutF
  split
  · exact h
  split
  · exact h.burnt
  split
  · exact h.burnt
  · rename_i h1 h2 h3
    have hf : d.isF f := Classical.not_not.1 h2
    have hb := h.burnt
    refine ⟨hb.m1, hb.m16, hb.room, hb.fuse0, hb.fuse1, hb.sizes, hb.none, oks_snoc h.oks ⟨by have := hf.1; have := hf.2; show f.toNat < d.m; omega, ?_⟩⟩
    show n.toNat ≤ (d.now f.toNat).size
    omega
theorem DS.Ok.settled {d : DS} (h : d.Ok) : d.settled.Ok := ⟨h.m1, h.m16, h.room, h.fuse0, h.fuse1, h.now_size, h.now_none, oks_nil _ _⟩
theorem DS.Ok.sync {d : DS} (h : d.Ok) : d.sync.1.Ok := by
  unfold DS.sync
  split
  · exact h
  · exact h.burnt.settled
theorem DS.Ok.fused {d : DS} (h : d.Ok) (n : Int) (hn : n ≤ 9223372036854775807) : (d.fused n).Ok := ⟨h.m1, h.m16, h.room, by show -1 ≤ max n (-1); omega, by show max n (-1) ≤ _; omega, h.sizes, h.none, h.oks⟩
theorem DS.Ok.left_size {d : DS} (h : d.Ok) (calls bytes : Int) : (∀ i, (d.left_ calls bytes i).size ≤ 4194304) ∧ ∀ i, d.m ≤ i → d.left_ calls bytes i = ⟨#[]⟩ := by
  unfold DS.left_
  split
  · exact ⟨h.sizes, h.none⟩
  · rcases hc : d.L[calls.toNat]? with _ | c
    · exact ⟨h.now_size, h.now_none⟩
    · have := h.oks.take h.sizes h.none calls.toNat
      exact ⟨torn_bound _ (h.oks _ _ hc) this.1, torn_none _ (h.oks _ _ hc) this.2⟩
theorem DS.Ok.crash {d : DS} (h : d.Ok) (calls bytes : Int) : (d.crash calls bytes).Ok :=
  ⟨h.m1, h.m16, h.room, (by show (-1 : Int) ≤ -1; omega), (by show (-1 : Int) ≤ _; omega), (h.left_size calls bytes).1, (h.left_size calls bytes).2, oks_nil _ _⟩
theorem DS.Ok.spoil {d : DS} (h : d.Ok) (f n : Int) (b : Nat) : (d.spoil f n b).1.Ok := by
  unfold DS.spoil
  split
  · exact h
  split
  · exact h
  split
  · exact h
  · rename_i h1 h2 h3
    have hf : d.isF f := Classical.not_not.1 h1
    have hL : d.L = [] := List.length_eq_zero_iff.1 (by omega)
    refine ⟨h.m1, h.m16, h.room, h.fuse0, h.fuse1, fun i => ?_, fun i hi => ?_, ?_⟩
    · show (upd d.S _ _ i).size ≤ _
      by_cases e : i = f.toNat
      · subst e; rw [upd_same, xorAt_size]; exact h.sizes _
      · rw [upd_other _ _ _ e]; exact h.sizes _
    · show upd d.S _ _ i = _
      have := hf.1; have := hf.2
      rw [upd_other _ _ _ (by have : d.m ≤ i := hi; omega)]; exact h.none _ hi
    · show Go.Proofs.YtbekdcpdfmfopaaGreat.oks d.m _ d.L
      rw [hL]
      exact oks_nil _ _
end Go.Proofs.YtbekdcpdfmfopaaGreat
end

section
namespace Go.Proofs.YtbekdcpdfmfopaaGreat

/-- A log: its conf (files, size, check), its generation, its first and next number, its parts (file, bytes), what is reserved, by what it is down. -/
structure WS where
  nf : Nat
  sz : Nat
  ck : Nat
  g : Nat
  f : Nat
  n : Nat
  P : List (Nat × Nat)
  r : Int
  e : Int
/-- A call of the disk, as a log makes them: writes, cuts, a sync; a part's file emptied; a record added. -/
inductive WC where
  | wr (f : Int) (s : ByteArray)
  | cut (f n : Int)
  | sync
  | emp (i f : Nat)
  | add (f : Nat) (h : ByteArray) (n : Nat) (t : ByteArray)
def lastP (P : List (Nat × Nat)) : Nat × Nat := P.getD (P.length - 1) (0, 0)
/-- The parts behind a record that was added. -/
def addP (P : List (Nat × Nat)) (f : Nat) (h t : ByteArray) : List (Nat × Nat) :=
  let Q := if h.size = 0 then P else P ++ [(f, 0)]
  Q.set (Q.length - 1) ((lastP Q).1, (lastP Q).2 + (h.size + (16 + t.size)))
def WS.added (s : WS) (f : Nat) (h t : ByteArray) : WS := { s with P := addP s.P f h t, n := (s.n + 1) % 18446744073709551616 }
def WS.emptied (s : WS) (i f : Nat) : WS := { s with P := s.P.set i (f, 0) }
def WS.told (s : WS) (e : Int) : WS := { s with e := e }
def WC.run (s : WS) (d : DS) : WC → WS × DS × Int
  | .wr f t => (s, (d.write f t).1, (d.write f t).2)
  | .cut f n => (s, (d.cutF f n).1, (d.cutF f n).2)
  | .sync => (s, d.sync.1, d.sync.2)
  | .emp i f => (if (d.cutF f 0).2 = 0 then s.emptied i f else s, (d.cutF f 0).1, (d.cutF f 0).2)
  | .add f h n t => (if (d.write f (h ++ frameT ⟨n, t⟩)).2 = 0 then s.added f h t else s, (d.write f (h ++ frameT ⟨n, t⟩)).1, (d.write f (h ++ frameT ⟨n, t⟩)).2)
/-- Calls in a row, up to the first error. -/
def doF : List WC → WS → DS → WS × DS × Int
  | [], s, d => (s, d, 0)
  | c :: r, s, d => if (c.run s d).2.2 = 0 then doF r ((c.run s d).1.told 0) (c.run s d).2.1 else ((c.run s d).1.told (c.run s d).2.2, (c.run s d).2.1, (c.run s d).2.2)
/-- How many bytes the log's files have. -/
def sumP (P : List (Nat × Nat)) : Nat := (P.map (·.2)).sum
def WS.space (s : WS) (bytes room : Int) : Int := min (((s.nf : Int) - 1) * (s.sz : Int) - bytes) (room - (s.ck : Int))
def WS.room (s : WS) (d : DS) : Int := max (s.space (sumP s.P) d.left - s.r) 0
/-- Numbers so small that nothing goes round. -/
structure WS.Ok (s : WS) : Prop where
  nf : 2 ≤ s.nf ∧ s.nf ≤ 16
  sz : s.sz ≤ 4194304
  ck : s.ck ≤ 4194304
  g : s.g ≤ 281474976710656
  n : s.n ≤ 281474976710657
  f : s.f ≤ 281474976710657
  P : s.P.length ≤ 64
  b : ∀ p ∈ s.P, p.1 ≤ 16 ∧ p.2 ≤ 1099511627776
  r : 0 ≤ s.r ∧ s.r ≤ 1099511627776
  e : 0 ≤ s.e ∧ s.e ≤ 1000
theorem sumP_le (P : List (Nat × Nat)) (h : ∀ p ∈ P, p.1 ≤ 16 ∧ p.2 ≤ 1099511627776) : sumP P ≤ P.length * 1099511627776 := by
  induction P with
  | nil => simp [sumP]
  | cons p r ih =>
    have h1 := (h p (by simp)).2
    have h2 := ih (fun q hq => h q (by simp [hq]))
    unfold sumP at h2 ⊢
    simp only [List.map_cons, List.sum_cons, List.length_cons]
    omega
theorem sumP_take (P : List (Nat × Nat)) (j : Nat) (p : Nat × Nat) (h : P[j]? = some p) : sumP (P.take (j + 1)) = sumP (P.take j) + p.2 := by
  unfold sumP
  rw [List.take_add_one, h]
  simp
end Go.Proofs.YtbekdcpdfmfopaaGreat
end
