/- A law's arguments: the generic part: fields of structs, texts in a row, lists of what there is at each place. A slice of Edit among a law's arguments, opened: what its walk asks of it. (Printed by mkopen.py.) -/
import Derived.Test.YtkjcpjalldbahaaGreatDoorM02
import Derived.Deep.Slices
import Derived.Deep.Fields
import Derived.ChangeArms
import Derived.Lib.SmallJoins
section
namespace Go.Proofs.YtkjcpjalldbahaaGreatDoor
open Go.ChangeShapes Go.WideShapes Go.ChangeAt Go.RowKit
theorem one_at {l : List Value} {j : Nat} {v : Value} (h : (l.drop j).take 1 = [v]) : l[j]? = some v := by
  have h2 : ((l.drop j).take 1)[0]? = some v := by rw [h]; rfl
  rw [List.getElem?_take, if_pos (by decide), List.getElem?_drop] at h2
  simpa using h2
/-- A list of what there is at each place. -/
theorem list_of_all {α : Type} {P : Nat → α → Prop} : ∀ n, (∀ k, k < n → ∃ x, P k x) → ∃ L : List α, L.length = n ∧ ∀ k x, L[k]? = some x → P k x
  | 0, _ => ⟨[], rfl, fun k x h => by simp at h⟩
  | n + 1, h => by
    obtain ⟨L, hl, hp⟩ := list_of_all n (fun k hk => h k (by omega))
    obtain ⟨x, hx⟩ := h n (by omega)
    refine ⟨L ++ [x], by simp [hl], fun k y hy => ?_⟩
    rcases Nat.lt_trichotomy k n with hk | rfl | hk
    · rw [List.getElem?_append_left (by omega)] at hy
      exact hp k y hy
    · rw [List.getElem?_append_right (by omega)] at hy
      simp [hl] at hy
      subst hy
      exact hx
    · rw [List.getElem?_eq_none (by simp; omega)] at hy
      cases hy
section
variable {H : Type} {enc : TypeId × Value → H} {W : World} {base : Nat} {v : Value} {d : DataW H} {p : List MemPlace}
theorem field_at {cs : List Value} {xs : List (DataW H × List MemPlace)} {n j : Nat} {t : TypeId} {k : IntKind} (hl : j < xs.length) (ht : Tryz.prog.underlying t = some (.int k)) (h : DataW.trod enc Tryz.prog W 0 (fun _ => true) true n t ((cs.drop j).take 1) = xs[j]?) : ∃ z, cs[j]? = some (.int k z) ∧ (Lit.int k z).wf = true := by
  rw [List.getElem?_eq_getElem hl] at h
  obtain ⟨z, hz, _, hw⟩ := DataW.trod_int ht h
  exact ⟨z, one_at hz, hw⟩
theorem field_str {cs : List Value} {xs : List (DataW H × List MemPlace)} {n j : Nat} {t : TypeId} (hl : j < xs.length) (ht : Tryz.prog.underlying t = some .string) (h : DataW.trod enc Tryz.prog W 0 (fun _ => true) true n t ((cs.drop j).take 1) = xs[j]?) : ∃ s : ByteArray, cs[j]? = some (.string s) ∧ (xs.map (·.1))[j]? = some (.lit (.string s.data.toList)) := by
  have h0 := h
  rw [List.getElem?_eq_getElem hl] at h
  obtain ⟨s, hz, hx, _⟩ := DataW.trod_string ht h
  refine ⟨s, one_at hz, ?_⟩
  rw [List.getElem?_map, List.getElem?_eq_getElem hl, hx]
  rfl
theorem weightsAll_mem {P : Program} {e : TypeId} {w : Nat} {x : DataW H} : ∀ {l : List (DataW H)}, x ∈ l → w ∈ x.weights P e → w ∈ DataW.weightsAll P e l
  | [], h, _ => by cases h
  | a :: r, h, hw => by
    simp only [DataW.weightsAll, List.mem_append]
    rcases List.mem_cons.1 h with rfl | h
    · exact .inl hw
    · exact .inr (weightsAll_mem h hw)
theorem open_texts_f {a0 : Option Addr} {len cap : Nat} {fuel : Nat} (hf : DataW.trod enc Tryz.prog W 0 (fun _ => true) true fuel 36 [.slice a0 len cap] = some (d, p)) (hlt : ∀ x ∈ p, x.block < W.heap.size)
    {ts : List TypeId} {ds : List (DataW H)} {j : Nat} (hsz : (DataW.weightsEach Tryz.prog ts ds).all (· ≤ reachBytes) = true) (ht : ts[j]? = some 36) (hd : ds[j]? = some d) :
    ∃ (pa : Option Addr) (c : Nat) (l : List ByteArray), (Value.slice a0 len cap) = .slice pa (List.length l) c ∧ TextsP W pa l ∧ (l.length ≤ 140737488355328 ∧ ∀ s, s ∈ l → s.size ≤ 140737488351232) ∧ l.length ≤ c ∧ (pa = none → c = 0) := by
  rcases open_strings Tryz.underlying36 Tryz.underlying9 cells_string hf with ⟨hcs, hx⟩ | ⟨a, len', cap', ss, hcs, _, hl, hm, hz, hx, hcell, _⟩
  · exact ⟨none, 0, [], by simpa [Value.cells] using hcs, TextsP.none W, by simp, by simp, by simp⟩
  · simp at hcs
    obtain ⟨rfl, rfl, rfl⟩ := hcs
    simp only [Prod.mk.injEq] at hx
    obtain ⟨rfl, rfl⟩ := hx
    simp only [if_true] at hz
    have hll : (ss.take len).length = len := by rw [List.length_take]; omega
    have hr := sized_slice hsz ht hd Tryz.underlying36
    rw [bytes_string] at hr
    simp only [strs, List.length_map, List.length_take, List.length_drop, reachBytes] at hr
    refine ⟨some a, cap, ss.take len, by rw [hll], fun i s hs => ⟨a, rfl, ?_⟩, ⟨by rw [hll]; omega, fun s hs => ?_⟩, by rw [hll]; exact hl, fun e => by cases e⟩
    · have hi : i < len := by
        have := (List.getElem?_eq_some_iff.1 hs).1
        omega
      rw [List.getElem?_take, if_pos hi] at hs
      have hc := hcell i (by omega)
      have e : ss.getD i ByteArray.empty = s := by rw [List.getD_eq_getElem?_getD, hs]; rfl
      rw [e] at hc
      exact ⟨hlt (.cell a.block (a.off + i)) (MemPlace.mem_row.2 ⟨i, by omega, rfl⟩), hc⟩
    · have hw := DataW.weights_mem_each (P := Tryz.prog) ht hd s.data.toList.length (by
        simp only [DataW.weights, Tryz.underlying36, List.mem_cons, List.mem_append]
        exact .inr (.inl (weights_strs _ _ s hs)))
      have := List.all_eq_true.1 hsz _ hw
      simp only [decide_eq_true_eq, reachBytes, size_list] at this
      omega
theorem field_bool {cs : List Value} {xs : List (DataW H × List MemPlace)} {n j : Nat} {t : TypeId} (hl : j < xs.length) (ht : Tryz.prog.underlying t = some .bool) (h : DataW.trod enc Tryz.prog W 0 (fun _ => true) true n t ((cs.drop j).take 1) = xs[j]?) : ∃ z, cs[j]? = some (.bool z) := by
  rw [List.getElem?_eq_getElem hl] at h
  obtain ⟨z, hz, _⟩ := DataW.trod_bool ht h
  exact ⟨z, one_at hz⟩
end
end Go.Proofs.YtkjcpjalldbahaaGreatDoor
end

section
namespace Go.Proofs.YtkjcpjalldbahaaGreatDoor
open Go.ChangeShapes Go.WideShapes Go.ChangeAt Go.RowKit
structure EditO where
  Kind : Nat
  Path : ByteArray
  Any : Bool
  Want : Nat
  N : Nat
  Text : ByteArray
def EditO.cells (x : EditO) : List Value := [.int .u8 (x.Kind : Int), .string x.Path, .bool x.Any, .int .u64 (x.Want : Int), .int .u64 (x.N : Int), .string x.Text]
structure EditO.Ok (x : EditO) : Prop where
  Kind : x.Kind < 256
  Path : x.Path.size ≤ 140737488351232
  Want : x.Want < 18446744073709551616
  N : x.N < 18446744073709551616
  Text : x.Text.size ≤ 140737488351232
/-- The cells from the address on, if there are any, are these. -/
def EditOsP (w : World) (p : Option Addr) (L : List EditO) : Prop := ∀ (k : Nat) (x : EditO), L[k]? = some x → ∃ a, p = some a ∧ a.block < w.heap.size ∧ ∀ (j : Nat) (v : Value), (x.cells)[j]? = some v → w.cell? (a.add (k * 6 + j)) = some v
theorem EditOsP.ext {w w' : World} {p : Option Addr} {L : List EditO} (h : EditOsP w p L) (hx : Ext w w') : EditOsP w' p L := fun k x hk => by
  obtain ⟨a, h1, h2, h4⟩ := h k x hk
  exact ⟨a, h1, Nat.lt_of_lt_of_le h2 hx.size, fun j v hv => by rw [hx.below.cell (p := a.add (k * 6 + j)) (by rw [add_block]; omega)]; exact h4 j v hv⟩
theorem edito_at {w : World} {a : Addr} {j k : Nat} {v : Option Value} (h : w.cell? (a.add (j * 6 + (k + 1))) = v) : w.cell? ⟨(a.add (j * 6)).block, (a.add (j * 6)).off + (k + 1), none⟩ = v := by
  rw [← Deep.add_add] at h
  exact h
theorem cells_edito : Tryz.prog.cellsOf 62 = 6 := by kernel_rfl
theorem bytes_edito : Tryz.prog.bytesOf 62 = 64 := by kernel_rfl
section
variable {H : Type} {enc : TypeId × Value → H} {W : World} {base : Nat} {v : Value} {d : DataW H} {p : List MemPlace}
def editoTs : List TypeId := [5, 9, 4, 25, 25, 9]
theorem edito_list {cs : List Value} {v0 v1 v2 v3 v4 v5 : Value} (hl : cs.length = 6) (e0 : cs[0]? = some v0) (e1 : cs[1]? = some v1) (e2 : cs[2]? = some v2) (e3 : cs[3]? = some v3) (e4 : cs[4]? = some v4) (e5 : cs[5]? = some v5) : cs = [v0, v1, v2, v3, v4, v5] := by
  apply List.ext_getElem?
  intro i
  rcases (show i = 0 ∨ i = 1 ∨ i = 2 ∨ i = 3 ∨ i = 4 ∨ i = 5 ∨ 6 ≤ i by omega) with rfl | rfl | rfl | rfl | rfl | rfl | h
  · exact e0
  · exact e1
  · exact e2
  · exact e3
  · exact e4
  · exact e5
  · rw [List.getElem?_eq_none (by omega), List.getElem?_eq_none (by simpa using h)]
theorem open_edito_cells {fuel : Nat} {cs : List Value} (htr : DataW.trod enc Tryz.prog W 0 (fun _ => true) true fuel 62 cs = some (d, p)) (hlt : ∀ x ∈ p, x.block < W.heap.size) (hw : ∀ w ∈ d.weights Tryz.prog 62, w ≤ reachBytes) :
    ∃ (x : EditO), cs = x.cells ∧ x.Ok := by
  obtain ⟨xs, n', _, hD, hcl, hlen, hfl⟩ := DataW.trod_struct Tryz.underlying62 htr
  have hlenN : xs.length = 6 := hlen
  simp only [Prod.mk.injEq] at hD
  obtain ⟨rfl, rfl⟩ := hD
  rw [cells_edito] at hcl
  have g0 : DataW.trod enc Tryz.prog W 0 (fun _ => true) true n' 5 ((cs.drop 0).take (Tryz.prog.cellsOf 5)) = xs[0]? := hfl 0 _ rfl
  rw [show Tryz.prog.cellsOf 5 = 1 from by kernel_rfl] at g0
  have g1 : DataW.trod enc Tryz.prog W 0 (fun _ => true) true n' 9 ((cs.drop 1).take (Tryz.prog.cellsOf 9)) = xs[1]? := hfl 1 _ rfl
  rw [show Tryz.prog.cellsOf 9 = 1 from by kernel_rfl] at g1
  have g2 : DataW.trod enc Tryz.prog W 0 (fun _ => true) true n' 4 ((cs.drop 2).take (Tryz.prog.cellsOf 4)) = xs[2]? := hfl 2 _ rfl
  rw [show Tryz.prog.cellsOf 4 = 1 from by kernel_rfl] at g2
  have g3 : DataW.trod enc Tryz.prog W 0 (fun _ => true) true n' 25 ((cs.drop 3).take (Tryz.prog.cellsOf 25)) = xs[3]? := hfl 3 _ rfl
  rw [show Tryz.prog.cellsOf 25 = 1 from by kernel_rfl] at g3
  have g4 : DataW.trod enc Tryz.prog W 0 (fun _ => true) true n' 25 ((cs.drop 4).take (Tryz.prog.cellsOf 25)) = xs[4]? := hfl 4 _ rfl
  rw [show Tryz.prog.cellsOf 25 = 1 from by kernel_rfl] at g4
  have g5 : DataW.trod enc Tryz.prog W 0 (fun _ => true) true n' 9 ((cs.drop 5).take (Tryz.prog.cellsOf 9)) = xs[5]? := hfl 5 _ rfl
  rw [show Tryz.prog.cellsOf 9 = 1 from by kernel_rfl] at g5
  have hwe : ∀ w ∈ DataW.weightsEach Tryz.prog editoTs (xs.map (·.1)), w ≤ reachBytes := fun w hw1 => hw w (by
    simp only [DataW.weights, Tryz.underlying62]
    exact hw1)
  have hwb : (DataW.weightsEach Tryz.prog editoTs (xs.map (·.1))).all (· ≤ reachBytes) = true := List.all_eq_true.2 (fun w hw1 => by simpa using hwe w hw1)
  obtain ⟨d0, e0, w0⟩ := field_at (k := .u8) (by omega) Tryz.underlying5 g0
  obtain ⟨s1, e1, x1⟩ := field_str (by omega) Tryz.underlying9 g1
  have hs1 := hwe s1.data.toList.length (DataW.weights_mem_each (P := Tryz.prog) (j := 1) (t := 9) rfl x1 _ (by simp [DataW.weights]))
  simp only [reachBytes, size_list] at hs1
  obtain ⟨b2, e2⟩ := field_bool (by omega) Tryz.underlying4 g2
  obtain ⟨d3, e3, w3⟩ := field_at (k := .u64) (by omega) Tryz.underlying25 g3
  obtain ⟨d4, e4, w4⟩ := field_at (k := .u64) (by omega) Tryz.underlying25 g4
  obtain ⟨s5, e5, x5⟩ := field_str (by omega) Tryz.underlying9 g5
  have hs5 := hwe s5.data.toList.length (DataW.weights_mem_each (P := Tryz.prog) (j := 5) (t := 9) rfl x5 _ (by simp [DataW.weights]))
  simp only [reachBytes, size_list] at hs5
  simp [Lit.wf, IntKind.min, IntKind.max, IntKind.signed, IntKind.bits] at w0 w3 w4
  have n0 : ((d0.toNat : Nat) : Int) = d0 := Int.toNat_of_nonneg (by omega)
  have n3 : ((d3.toNat : Nat) : Int) = d3 := Int.toNat_of_nonneg (by omega)
  have n4 : ((d4.toNat : Nat) : Int) = d4 := Int.toNat_of_nonneg (by omega)
  refine ⟨⟨d0.toNat, s1, b2, d3.toNat, d4.toNat, s5⟩, ?_, ⟨by show d0.toNat < _; omega, by show s1.size ≤ _; omega, by show d3.toNat < _; omega, by show d4.toNat < _; omega, by show s5.size ≤ _; omega⟩⟩
  unfold EditO.cells
  dsimp only
  rw [n0, n3, n4]
  exact edito_list hcl e0 e1 e2 e3 e4 e5
set_option maxRecDepth 100000 in
theorem open_editos_p (hval : Value.okWide Tryz.prog W .any base 35 v) (h : DataW.Trod enc Tryz.prog W 0 (fun _ => true) true 35 v d p) (hlt : ∀ x ∈ p, x.block < W.heap.size)
    {ts : List TypeId} {ds : List (DataW H)} {j : Nat} (hsz : (DataW.weightsEach Tryz.prog ts ds).all (· ≤ reachBytes) = true) (ht : ts[j]? = some 35) (hd : ds[j]? = some d) :
    ∃ (pa : Option Addr) (c : Nat) (L : List EditO), v = .slice pa L.length c ∧ EditOsP W pa L ∧ (∀ x, x ∈ L → x.Ok) ∧ L.length ≤ 140737488355328 := by
  obtain ⟨a0, len, cap, rfl⟩ := okWide_slice Tryz.underlying35 hval
  obtain ⟨fuel, hf⟩ := h
  rcases Deep.open_slice Tryz.underlying35 hf with ⟨hcs, hx⟩ | ⟨a, len', cap', m, n, D, Pl, hcs, _, hl, hm, hmm, hx, hi⟩
  · simp [Value.cells] at hcs
    obtain ⟨rfl, rfl, rfl⟩ := hcs
    exact ⟨none, 0, [], rfl, fun k x hk => by simp at hk, fun x hx => by simp at hx, by simp⟩
  · simp [Value.cells] at hcs
    obtain ⟨rfl, rfl, rfl⟩ := hcs
    simp only [Prod.mk.injEq] at hx
    obtain ⟨rfl, rfl⟩ := hx
    simp only [if_true] at hmm
    subst hmm
    have hr := sized_slice hsz ht hd Tryz.underlying35
    rw [bytes_edito] at hr
    simp only [List.length_map, List.length_range, reachBytes] at hr
    obtain ⟨L, hL, hP⟩ := list_of_all (α := EditO) (P := fun k x => x.Ok ∧ a.block < W.heap.size ∧ ∀ (i : Nat) (u : Value), (x.cells)[i]? = some u → W.cell? (a.add (k * 6 + i)) = some u) len (fun k hk => by
      obtain ⟨cs', hc, htr⟩ := hi k (by omega)
      rw [cells_edito] at hc
      obtain ⟨_, hcl, hat⟩ := World.cells?_some hc
      obtain ⟨x, rfl, h2⟩ := open_edito_cells htr (fun y hy => hlt y (List.mem_append_right _ (List.mem_flatMap.2 ⟨k, List.mem_range.2 (by omega), hy⟩))) (fun w hw => by
        have hw2 := DataW.weights_mem_each (P := Tryz.prog) ht hd w (by
          simp only [DataW.weights, Tryz.underlying35, List.mem_cons, List.mem_append]
          exact .inr (.inl (weightsAll_mem (x := D k) (List.mem_map.2 ⟨k, List.mem_range.2 hk, rfl⟩) hw)))
        have := List.all_eq_true.1 hsz _ hw2
        simpa using this)
      refine ⟨x, h2, hlt (.cell a.block (a.off + k * 6)) (List.mem_append_left _ (MemPlace.mem_row.2 ⟨k * 6, by rw [cells_edito]; omega, rfl⟩)), fun i u hu => ?_⟩
      have hiN : i < 6 := (List.getElem?_eq_some_iff.1 hu).1
      have := hat i hiN
      rw [Deep.add_add] at this
      rw [this]
      exact hu)
    refine ⟨some a, m, L, by rw [hL], fun k x hk => ?_, fun x hx => ?_, by rw [hL]; omega⟩
    · obtain ⟨_, h2, h4⟩ := hP k x hk
      exact ⟨a, rfl, h2, h4⟩
    · obtain ⟨k, hk⟩ := List.getElem?_of_mem hx
      exact (hP k x hk).1
set_option maxRecDepth 100000 in
theorem open_edito_v (hval : Value.okWide Tryz.prog W .any base 62 v) (h : DataW.Trod enc Tryz.prog W 0 (fun _ => true) true 62 v d p) (hlt : ∀ x ∈ p, x.block < W.heap.size)
    {ts : List TypeId} {ds : List (DataW H)} {j : Nat} (hsz : (DataW.weightsEach Tryz.prog ts ds).all (· ≤ reachBytes) = true) (ht : ts[j]? = some 62) (hd : ds[j]? = some d) :
    ∃ (x : EditO), v = .agg (x.cells).toArray ∧ x.Ok := by
  obtain ⟨cs, rfl, _⟩ := okWide_struct Tryz.underlying62 hval
  obtain ⟨fuel, hf⟩ := h
  obtain ⟨x, hcs, h1⟩ := open_edito_cells hf hlt (fun w hw => by
    have := List.all_eq_true.1 hsz _ (DataW.weights_mem_each (P := Tryz.prog) ht hd w hw)
    simpa using this)
  refine ⟨x, ?_, h1⟩
  have e : cs.toList = x.cells := by simpa [Value.cells] using hcs
  rw [← e]
end
end Go.Proofs.YtkjcpjalldbahaaGreatDoor
end
