/- Contracts: New, Crash. -/
import Derived.Test.YtgbhadgkkefokaaWrite
import Derived.Test.YtgbhadgkkefokaaCopied
namespace Go.Proofs.Ytgbhadgkkefokaa
open Go.RowKit

/-- A struct built whose cells are told. -/
theorem wpList_builtD {P : Program} {ops : Array Oper} {rest : List Oper} {o : Oper} {a : Act} {w : World} {Q : Exit → Act → World → Prop} (hg : o.guard = none) (t : TypeId) (l : List (Nat × Operand)) (ho : o.op = .build t l.toArray) (vs : List (Nat × Value)) (hv : l.map (fun p => (p.1, a.eval p.2)) = vs) (cells : Array Value)
    (hc : P.built t vs = some cells) (h : wpList P ops Q rest (a.put o.dst (.agg cells)) w) : wpList P ops Q (o :: rest) a w := by
  have e : (l.toArray.map fun (i, x) => (i, a.eval x)).toList = vs := by rw [← hv]; simp
  refine wpList_build hg t l.toArray ho (by rw [e, hc]; rfl) ?_
  rw [e, hc]
  exact h
def noFs : Fs := fun _ => ⟨#[]⟩
def noP : Nat → Option Addr := fun _ => none
def noC : Nat → Nat := fun _ => 0
/-- A disk of empty files. -/
def DS.new (m room : Nat) : DS := ⟨m, room, -1, noFs, []⟩
theorem built_disk (m room : Nat) : Try.prog.built 56 [(0, .int .i64 (m : Int)), (1, .int .i64 (room : Int)), (2, .int .i64 (-1))] = some (rcells m room (-1) (sls noFs noP noC) (sls noFs noP noC) (.slice none 0 0)).toArray := by kernel_rfl
theorem DS.Ok.new {m room : Nat} (h1 : 1 ≤ m) (h2 : m ≤ 16) (h3 : room ≤ 4194304) : (DS.new m room).Ok :=
  ⟨h1, h2, h3, by show (-1 : Int) ≤ -1; omega, by show (-1 : Int) ≤ _; omega, fun i => by show (⟨#[]⟩ : ByteArray).size ≤ _; decide, fun _ _ => rfl, oks_nil _ _⟩
theorem built_is (w : World) (m room : Nat) (h1 : 1 ≤ m) (h2 : m ≤ 16) (h3 : room ≤ 4194304) : IsD (w.alloc (.cells (rcells m room (-1) (sls noFs noP noC) (sls noFs noP noC) (.slice none 0 0)).toArray 56)) w.heap.size (setK (fun _ => 0) w.heap.size 2) (DS.new m room) := by
  have hs : ∀ i, Sl (w.alloc (.cells (rcells m room (-1) (sls noFs noP noC) (sls noFs noP noC) (.slice none 0 0)).toArray 56)) (setK (fun _ => 0) w.heap.size 2) (4 + i) 1 5 (noP i) (noFs i).size (noC i) (byteCells (noFs i)) := fun i => Sl.nil _ _ _ _ _
  refine ⟨⟨noP, noP, noC, noC, none, 0, ⟨Blk.new w _ _, fun i hi => ⟨hs i, hs i, Al.same _ _ _ _⟩, setK_same _ _ _, fun g hg => ?_⟩, Loose.nil _ _⟩, DS.Ok.new h1 h2 h3⟩
  by_cases e : g = w.heap.size
  · subst e; simp
  · rw [setK_other _ _ e] at hg; exact absurd rfl hg
set_option maxRecDepth 100000 in
set_option maxHeartbeats 1000000 in
theorem New_yes (w : World) (m room : Nat) (h1 : 1 ≤ m) (h2 : m ≤ 16) (h3 : room ≤ 4194304) :
    Calls Try.prog 6 #[.int .i64 (m : Int), .int .i64 (room : Int)] w fun e w' => e = .returned (.tuple #[.pointer (some ⟨w.heap.size, 0, none⟩), .int .i64 0]) ∧ IsD w' w.heap.size (setK (fun _ => 0) w.heap.size 2) (DS.new m room) ∧ Ext w w' := by
  have HD := Lib.hid (built_is w m room h1 h2 h3)
  have g1 : ¬ (m : Int) < 1 := by omega
  have g2 : ¬ (16 : Int) < (m : Int) := by omega
  have g3 : ¬ (room : Int) < 0 := by omega
  have g4 : ¬ (4194304 : Int) < (room : Int) := by omega
  have HC := Lib.hid (built_disk m room)
  generalize (rcells m room (-1) (sls noFs noP noC) (sls noFs noP noC) (.slice none 0 0)).toArray = C at *
  generalize DS.new m room = D at *
  clear h1 h2 h3
  go_enter Try.func6, Try.ntmps6
  go_wp2_with (refine wpList_builtD rfl 56 [(0, .tmp 20), (1, .tmp 21), (2, .const (.int .i64 (-1)))] rfl [(0, .int .i64 (m : Int)), (1, .int .i64 (room : Int)), (2, .int .i64 (-1))] rfl C HC.out ?_)
  go_ret2
  exact ⟨rfl, HD.out, (Ext.refl w).alloc _⟩
theorem New_no (w : World) (m room : Int) (h : m < 1 ∨ 16 < m ∨ room < 0 ∨ 4194304 < room) :
    Calls Try.prog 6 #[.int .i64 m, .int .i64 room] w fun e w' => e = .returned (.tuple #[.pointer none, .int .i64 2]) ∧ w = w' := by
  by_cases h1 : m < 1
  · go_enter Try.func6, Try.ntmps6
    go_wp2
    go_ret2
    exact ⟨rfl, rfl⟩
  · by_cases h2 : 16 < m
    · go_enter Try.func6, Try.ntmps6
      go_wp2
      go_ret2
      exact ⟨rfl, rfl⟩
    · by_cases h3 : room < 0
      · go_enter Try.func6, Try.ntmps6
        go_wp2
        go_ret2
        exact ⟨rfl, rfl⟩
      · have h4 : 4194304 < room := by omega
        go_enter Try.func6, Try.ntmps6
        go_wp2
        go_ret2
        exact ⟨rfl, rfl⟩
theorem rcells_put_now {m room : Nat} {fuse : Int} {A B T : List Value} {lv : Value} (hA : A.length = 16) (hT : T.length = 16) : (rcells m room fuse A B lv).take 3 ++ (T ++ (rcells m room fuse A B lv).drop (3 + T.length)) = rcells m room fuse T B lv := by
  unfold rcells
  rw [hT]
  simp [hA]
/-- The files as they were at the last Sync, copied. -/
theorem Raw.restore {w w1 : World} {b : Nat} {κ κ1 : Foot} {m room : Nat} {fuse : Int} {N S : Fs} {pn qs : Nat → Option Addr} {cn ks : Nat → Nat} {lv : Value} (r : Raw w b κ m room fuse N S pn qs cn ks lv) (f : Fr κ (fun _ => False) w w1 κ1) {p' : Nat → Option Addr} {c' : Nat → Nat} (hF : FilesAt w1 κ1 S p' c') :
    Raw (w1.setCells b 3 (sls S p' c')) b κ1 m room fuse S S p' qs c' ks lv ∧ Fr κ (fun j => j = 2 ∨ 4 ≤ j) w (w1.setCells b 3 (sls S p' c')) κ1 := by
  have r1 := r.fr0 f
  have f1 : Fr κ1 (· = 2) w1 (w1.setCells b 3 (sls S p' c')) κ1 := setCells_fr (P := (· = 2)) r1.disk (sls S p' c') 3 w1
  have hl : 3 + (sls S p' c').length ≤ (rcells m room fuse (sls N pn cn) (sls S qs ks) lv).length := by rw [sls_length, rcells_length (sls_length _ _ _) (sls_length _ _ _)]; decide
  have h1 := r1.blk.setCells (sls S p' c') 3 _ hl
  rw [rcells_put_now (sls_length _ _ _) (sls_length _ _ _)] at h1
  exact ⟨⟨h1, fun i hi => ⟨(hF i hi).fr f1 (by omega), (r1.slot i hi).2.1.fr f1 (by omega), Al.same _ _ _ _⟩, r1.disk, f1.ins r1.ins⟩, f.none.trans (f1.mono (fun k e => .inl e))⟩
/-- The files behind j calls of a crash. -/
def DS.stage (d : DS) (calls bytes : Int) (j : Nat) : Fs :=
  if calls < 0 then d.S else if (j : Int) ≤ calls then runs d.S (d.L.take j) else match d.L[calls.toNat]? with
    | none => d.now
    | some c => c.torn (runs d.S (d.L.take calls.toNat)) bytes.toNat
theorem DS.stage_zero (d : DS) (calls bytes : Int) : d.stage calls bytes 0 = d.S := by
  unfold DS.stage
  split
  · rfl
  · rw [if_pos (by omega)]; simp [runs_nil]
theorem DS.stage_all (d : DS) (calls bytes : Int) : d.stage calls bytes d.L.length = d.left_ calls bytes := by
  unfold DS.stage DS.left_
  by_cases h0 : calls < 0
  · rw [if_pos h0, if_pos h0]
  · rw [if_neg h0, if_neg h0]
    by_cases h1 : (d.L.length : Int) ≤ calls
    · rw [if_pos h1, List.take_length, List.getElem?_eq_none (by omega)]
      rfl
    · rw [if_neg h1]
      rcases d.L[calls.toNat]? with _ | c <;> rfl
theorem DS.stage_done (d : DS) (calls bytes : Int) (j : Nat) (c : Chg) (hc : d.L[j]? = some c) (h : (j : Int) < calls) : d.stage calls bytes (j + 1) = c.does (d.stage calls bytes j) := by
  unfold DS.stage
  rw [if_neg (show ¬ calls < 0 by omega), if_pos (show ((j + 1 : Nat) : Int) ≤ calls by omega), if_pos (show (j : Int) ≤ calls by omega), if_neg (show ¬ calls < 0 by omega), runs_take _ _ _ _ hc]
theorem DS.stage_torn (d : DS) (calls bytes : Int) (j : Nat) (c : Chg) (hc : d.L[j]? = some c) (h : (j : Int) = calls) : d.stage calls bytes (j + 1) = c.torn (d.stage calls bytes j) bytes.toNat := by
  subst h
  unfold DS.stage
  rw [if_neg (show ¬ (j : Int) < 0 by omega), if_neg (show ¬ ((j + 1 : Nat) : Int) ≤ (j : Int) by omega), if_neg (show ¬ (j : Int) < 0 by omega), if_pos (Int.le_refl _), Int.toNat_natCast, hc]
theorem DS.stage_past (d : DS) (calls bytes : Int) (j : Nat) (h : calls < (j : Int)) : d.stage calls bytes (j + 1) = d.stage calls bytes j := by
  unfold DS.stage
  by_cases h0 : calls < 0
  · rw [if_pos h0, if_pos h0]
  · rw [if_neg h0, if_neg h0, if_neg (show ¬ ((j + 1 : Nat) : Int) ≤ calls by omega), if_neg (show ¬ (j : Int) ≤ calls by omega)]
theorem DS.Ok.stage_ok {d : DS} (h : d.Ok) (calls bytes : Int) (j : Nat) (c : Chg) (hc : d.L[j]? = some c) (hj : (j : Int) ≤ calls) : c.ok d.m (d.stage calls bytes j) := by
  unfold DS.stage
  rw [if_neg (by omega), if_pos hj]
  exact h.oks j c hc
end Go.Proofs.Ytgbhadgkkefokaa
