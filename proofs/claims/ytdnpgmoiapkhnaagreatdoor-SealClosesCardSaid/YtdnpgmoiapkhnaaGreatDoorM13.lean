/- Plain: a text's bytes copied into a block. A law's arguments: the generic part: fields of structs, texts in a row, lists of what there is at each place. A slice of Act among a law's arguments, opened: what its walk asks of it. (Printed by mkopen.py.) Contracts: a key of 32 bytes out of any text; whether calls are too heavy: the laws of layer 13. -/
import Derived.Test.YtdnpgmoiapkhnaaGreatDoorProg
import Derived.Test.YtdnpgmoiapkhnaaGreatDoorM01
import Derived.Lib.SlBuf
import Derived.Test.YtdnpgmoiapkhnaaGreatDoorM04
import Derived.Deep.Slices
import Derived.Deep.Fields
import Derived.ChangeArms
import Derived.Lib.SmallJoins
import Derived.Test.YtdnpgmoiapkhnaaGreatDoorM03
import Derived.Test.YtdnpgmoiapkhnaaGreatDoorM12
import Derived.Test.YtdnpgmoiapkhnaaGreatDoorM10
import Derived.Outline
section
namespace Go.Proofs.YtdnpgmoiapkhnaaGreatDoor
open Go.RowKit

theorem infoB : (Tryz.prog.info? 5).map (·.size) = some 1 := by kernel_rfl
theorem run_copy_text (w : World) (ty : TypeId) (g o dLen dCap : Nat) (s : ByteArray) (cs : List Value) (T : TypeId) (hg : Blk w g T cs) (hfit : o + dLen ≤ cs.length) (k : Nat) (hk : k = min s.size dLen) :
    (Builtin.copy_ #[53, 9] ty #[.slice (some ⟨g, o, none⟩) dLen dCap, .string s]).run Tryz.prog w =
      .ok (goInt k) (w.setRow g (cs.take o ++ (s.data.toList.take k).map cellOf ++ cs.drop (o + k)).toArray) := by
  have hmin : Nat.min s.size dLen = k := hk.symm
  have hk1 : k ≤ s.size := by rw [hk]; exact Nat.min_le_left _ _
  have hk2 : k ≤ dLen := by rw [hk]; exact Nat.min_le_right _ _
  have hlen : ((s.data.toList.take k).map cellOf).length = k := by rw [List.length_map, List.length_take, size_list]; omega
  have hst := run_storeCells_at Tryz.prog g o T ((s.data.toList.take k).map cellOf) 0 cs.toArray w hg (by rw [hlen]; simp; omega) (by
    intro v hv
    simp only [List.mem_map] at hv
    obtain ⟨b, _, rfl⟩ := hv
    rfl)
  rw [hlen] at hst
  simp only [Nat.add_zero] at hst
  have htk : List.take k (List.map (fun b : UInt8 => Value.int IntKind.u8 (b.toNat : Int)) s.data.toList) = (s.data.toList.take k).map cellOf := by rw [← List.map_take]; rfl
  have hu := Tryz.underlying53
  cases hq : Tryz.prog.info? 5 with
  | none => have := infoB; simp [hq] at this
  | some i =>
    simp [Builtin.copy_, run_underlying hu, Builtin.lenOf, Builtin.firstCells, sizeOf, typeInfo, hq, hmin]
    rw [htk, hst]
    simp [Result.andThen]
/-- A text of as many bytes over all of a block. -/
theorem copy_all (w : World) (ty : TypeId) (g n : Nat) (s : ByteArray) (l : List UInt8) (T : TypeId) (hg : Row w g T l) (hl : l.length = n) (hs : s.size = n) :
    (Builtin.copy_ #[53, 9] ty #[.slice (some ⟨g, 0, none⟩) n n, .string s]).run Tryz.prog w = .ok (.int .i64 (n : Int)) (w.setRow g (s.data.toList.map cellOf).toArray) := by
  have h := run_copy_text w ty g 0 n n s _ T hg.blk (by simp [hl]) n (by omega)
  have e : s.data.toList.take n = s.data.toList := List.take_of_length_le (by rw [size_list]; omega)
  have e2 : (l.map cellOf).drop (0 + n) = [] := List.drop_of_length_le (by simp [hl])
  rw [h, e, e2, List.take_zero, List.nil_append, List.append_nil]
  rfl
end Go.Proofs.YtdnpgmoiapkhnaaGreatDoor
end

section
namespace Go.Proofs.YtdnpgmoiapkhnaaGreatDoor
open Go.ChangeShapes Go.WideShapes Go.ChangeAt Go.RowKit
theorem one_at {l : List Value} {j : Nat} {v : Value} (h : (l.drop j).take 1 = [v]) : l[j]? = some v := by
  have h2 : ((l.drop j).take 1)[0]? = some v := by rw [h]; rfl
  rw [List.getElem?_take, if_pos (by decide), List.getElem?_drop] at h2
  simpa using h2
/-- A list of what there is at each place. -/
theorem list_of_all {α : Type} {P : Nat → α → Prop} : ∀ n, (∀ k, k < n → ∃ x, P k x) → ∃ L : List α, L.length = n ∧ ∀ k x, L[k]? = some x → P k x
  | 0, _ => ⟨[], rfl, fun k x h => by simp at h⟩
  | n + 1, h => by
    obtain ⟨L, hl, hp⟩ := list_of_all n (fun k hk => h k (by omega))
    obtain ⟨x, hx⟩ := h n (by omega)
    refine ⟨L ++ [x], by simp [hl], fun k y hy => ?_⟩
    rcases Nat.lt_trichotomy k n with hk | rfl | hk
    · rw [List.getElem?_append_left (by omega)] at hy
      exact hp k y hy
    · rw [List.getElem?_append_right (by omega)] at hy
      simp [hl] at hy
      subst hy
      exact hx
    · rw [List.getElem?_eq_none (by simp; omega)] at hy
      cases hy
section
variable {H : Type} {enc : TypeId × Value → H} {W : World} {base : Nat} {v : Value} {d : DataW H} {p : List MemPlace}
theorem field_at {cs : List Value} {xs : List (DataW H × List MemPlace)} {n j : Nat} {t : TypeId} {k : IntKind} (hl : j < xs.length) (ht : Tryz.prog.underlying t = some (.int k)) (h : DataW.trod enc Tryz.prog W 0 (fun _ => true) true n t ((cs.drop j).take 1) = xs[j]?) : ∃ z, cs[j]? = some (.int k z) ∧ (Lit.int k z).wf = true := by
  rw [List.getElem?_eq_getElem hl] at h
  obtain ⟨z, hz, _, hw⟩ := DataW.trod_int ht h
  exact ⟨z, one_at hz, hw⟩
theorem field_str {cs : List Value} {xs : List (DataW H × List MemPlace)} {n j : Nat} {t : TypeId} (hl : j < xs.length) (ht : Tryz.prog.underlying t = some .string) (h : DataW.trod enc Tryz.prog W 0 (fun _ => true) true n t ((cs.drop j).take 1) = xs[j]?) : ∃ s : ByteArray, cs[j]? = some (.string s) ∧ (xs.map (·.1))[j]? = some (.lit (.string s.data.toList)) := by
  have h0 := h
  rw [List.getElem?_eq_getElem hl] at h
  obtain ⟨s, hz, hx, _⟩ := DataW.trod_string ht h
  refine ⟨s, one_at hz, ?_⟩
  rw [List.getElem?_map, List.getElem?_eq_getElem hl, hx]
  rfl
theorem weightsAll_mem {P : Program} {e : TypeId} {w : Nat} {x : DataW H} : ∀ {l : List (DataW H)}, x ∈ l → w ∈ x.weights P e → w ∈ DataW.weightsAll P e l
  | [], h, _ => by cases h
  | a :: r, h, hw => by
    simp only [DataW.weightsAll, List.mem_append]
    rcases List.mem_cons.1 h with rfl | h
    · exact .inl hw
    · exact .inr (weightsAll_mem h hw)
theorem open_texts_f {a0 : Option Addr} {len cap : Nat} {fuel : Nat} (hf : DataW.trod enc Tryz.prog W 0 (fun _ => true) true fuel 42 [.slice a0 len cap] = some (d, p)) (hlt : ∀ x ∈ p, x.block < W.heap.size)
    {ts : List TypeId} {ds : List (DataW H)} {j : Nat} (hsz : (DataW.weightsEach Tryz.prog ts ds).all (· ≤ reachBytes) = true) (ht : ts[j]? = some 42) (hd : ds[j]? = some d) :
    ∃ (pa : Option Addr) (c : Nat) (l : List ByteArray), (Value.slice a0 len cap) = .slice pa (List.length l) c ∧ TextsP W pa l ∧ (l.length ≤ 140737488355328 ∧ ∀ s, s ∈ l → s.size ≤ 140737488351232) ∧ l.length ≤ c ∧ (pa = none → c = 0) := by
  rcases open_strings Tryz.underlying42 Tryz.underlying9 cells_string hf with ⟨hcs, hx⟩ | ⟨a, len', cap', ss, hcs, _, hl, hm, hz, hx, hcell, _⟩
  · exact ⟨none, 0, [], by simpa [Value.cells] using hcs, TextsP.none W, by simp, by simp, by simp⟩
  · simp at hcs
    obtain ⟨rfl, rfl, rfl⟩ := hcs
    simp only [Prod.mk.injEq] at hx
    obtain ⟨rfl, rfl⟩ := hx
    simp only [if_true] at hz
    have hll : (ss.take len).length = len := by rw [List.length_take]; omega
    have hr := sized_slice hsz ht hd Tryz.underlying42
    rw [bytes_string] at hr
    simp only [strs, List.length_map, List.length_take, List.length_drop, reachBytes] at hr
    refine ⟨some a, cap, ss.take len, by rw [hll], fun i s hs => ⟨a, rfl, ?_⟩, ⟨by rw [hll]; omega, fun s hs => ?_⟩, by rw [hll]; exact hl, fun e => by cases e⟩
    · have hi : i < len := by
        have := (List.getElem?_eq_some_iff.1 hs).1
        omega
      rw [List.getElem?_take, if_pos hi] at hs
      have hc := hcell i (by omega)
      have e : ss.getD i ByteArray.empty = s := by rw [List.getD_eq_getElem?_getD, hs]; rfl
      rw [e] at hc
      exact ⟨hlt (.cell a.block (a.off + i)) (MemPlace.mem_row.2 ⟨i, by omega, rfl⟩), hc⟩
    · have hw := DataW.weights_mem_each (P := Tryz.prog) ht hd s.data.toList.length (by
        simp only [DataW.weights, Tryz.underlying42, List.mem_cons, List.mem_append]
        exact .inr (.inl (weights_strs _ _ s hs)))
      have := List.all_eq_true.1 hsz _ hw
      simp only [decide_eq_true_eq, reachBytes, size_list] at this
      omega
theorem field_bool {cs : List Value} {xs : List (DataW H × List MemPlace)} {n j : Nat} {t : TypeId} (hl : j < xs.length) (ht : Tryz.prog.underlying t = some .bool) (h : DataW.trod enc Tryz.prog W 0 (fun _ => true) true n t ((cs.drop j).take 1) = xs[j]?) : ∃ z, cs[j]? = some (.bool z) := by
  rw [List.getElem?_eq_getElem hl] at h
  obtain ⟨z, hz, _⟩ := DataW.trod_bool ht h
  exact ⟨z, one_at hz⟩
end
end Go.Proofs.YtdnpgmoiapkhnaaGreatDoor
end

section
namespace Go.Proofs.YtdnpgmoiapkhnaaGreatDoor
open Go.ChangeShapes Go.WideShapes Go.ChangeAt Go.RowKit
structure Act13 where
  Go : Bool
  Epoch : Nat
  Key : ByteArray
  Fit : Bool
def Act13.cells (x : Act13) : List Value := [.bool x.Go, .int .u32 (x.Epoch : Int), .string x.Key, .bool x.Fit]
structure Act13.Ok (x : Act13) : Prop where
  Epoch : x.Epoch < 4294967296
  Key : x.Key.size ≤ 140737488351232
/-- The cells from the address on, if there are any, are these. -/
def Act13sP (w : World) (p : Option Addr) (L : List Act13) : Prop := ∀ (k : Nat) (x : Act13), L[k]? = some x → ∃ a, p = some a ∧ a.block < w.heap.size ∧ ∀ (j : Nat) (v : Value), (x.cells)[j]? = some v → w.cell? (a.add (k * 4 + j)) = some v
theorem Act13sP.ext {w w' : World} {p : Option Addr} {L : List Act13} (h : Act13sP w p L) (hx : Ext w w') : Act13sP w' p L := fun k x hk => by
  obtain ⟨a, h1, h2, h4⟩ := h k x hk
  exact ⟨a, h1, Nat.lt_of_lt_of_le h2 hx.size, fun j v hv => by rw [hx.below.cell (p := a.add (k * 4 + j)) (by rw [add_block]; omega)]; exact h4 j v hv⟩
theorem act13_at {w : World} {a : Addr} {j k : Nat} {v : Option Value} (h : w.cell? (a.add (j * 4 + (k + 1))) = v) : w.cell? ⟨(a.add (j * 4)).block, (a.add (j * 4)).off + (k + 1), none⟩ = v := by
  rw [← Deep.add_add] at h
  exact h
theorem cells_act13 : Tryz.prog.cellsOf 34 = 4 := by kernel_rfl
theorem bytes_act13 : Tryz.prog.bytesOf 34 = 32 := by kernel_rfl
section
variable {H : Type} {enc : TypeId × Value → H} {W : World} {base : Nat} {v : Value} {d : DataW H} {p : List MemPlace}
def act13Ts : List TypeId := [4, 23, 9, 4]
theorem act13_list {cs : List Value} {v0 v1 v2 v3 : Value} (hl : cs.length = 4) (e0 : cs[0]? = some v0) (e1 : cs[1]? = some v1) (e2 : cs[2]? = some v2) (e3 : cs[3]? = some v3) : cs = [v0, v1, v2, v3] := by
  apply List.ext_getElem?
  intro i
  rcases (show i = 0 ∨ i = 1 ∨ i = 2 ∨ i = 3 ∨ 4 ≤ i by omega) with rfl | rfl | rfl | rfl | h
  · exact e0
  · exact e1
  · exact e2
  · exact e3
  · rw [List.getElem?_eq_none (by omega), List.getElem?_eq_none (by simpa using h)]
theorem open_act13_cells {fuel : Nat} {cs : List Value} (htr : DataW.trod enc Tryz.prog W 0 (fun _ => true) true fuel 34 cs = some (d, p)) (hlt : ∀ x ∈ p, x.block < W.heap.size) (hw : ∀ w ∈ d.weights Tryz.prog 34, w ≤ reachBytes) :
    ∃ (x : Act13), cs = x.cells ∧ x.Ok := by
  obtain ⟨xs, n', _, hD, hcl, hlen, hfl⟩ := DataW.trod_struct Tryz.underlying34 htr
  have hlenN : xs.length = 4 := hlen
  simp only [Prod.mk.injEq] at hD
  obtain ⟨rfl, rfl⟩ := hD
  rw [cells_act13] at hcl
  have g0 : DataW.trod enc Tryz.prog W 0 (fun _ => true) true n' 4 ((cs.drop 0).take (Tryz.prog.cellsOf 4)) = xs[0]? := hfl 0 _ rfl
  rw [show Tryz.prog.cellsOf 4 = 1 from by kernel_rfl] at g0
  have g1 : DataW.trod enc Tryz.prog W 0 (fun _ => true) true n' 23 ((cs.drop 1).take (Tryz.prog.cellsOf 23)) = xs[1]? := hfl 1 _ rfl
  rw [show Tryz.prog.cellsOf 23 = 1 from by kernel_rfl] at g1
  have g2 : DataW.trod enc Tryz.prog W 0 (fun _ => true) true n' 9 ((cs.drop 2).take (Tryz.prog.cellsOf 9)) = xs[2]? := hfl 2 _ rfl
  rw [show Tryz.prog.cellsOf 9 = 1 from by kernel_rfl] at g2
  have g3 : DataW.trod enc Tryz.prog W 0 (fun _ => true) true n' 4 ((cs.drop 3).take (Tryz.prog.cellsOf 4)) = xs[3]? := hfl 3 _ rfl
  rw [show Tryz.prog.cellsOf 4 = 1 from by kernel_rfl] at g3
  have hwe : ∀ w ∈ DataW.weightsEach Tryz.prog act13Ts (xs.map (·.1)), w ≤ reachBytes := fun w hw1 => hw w (by
    simp only [DataW.weights, Tryz.underlying34]
    exact hw1)
  have hwb : (DataW.weightsEach Tryz.prog act13Ts (xs.map (·.1))).all (· ≤ reachBytes) = true := List.all_eq_true.2 (fun w hw1 => by simpa using hwe w hw1)
  obtain ⟨b0, e0⟩ := field_bool (by omega) Tryz.underlying4 g0
  obtain ⟨d1, e1, w1⟩ := field_at (k := .u32) (by omega) Tryz.underlying23 g1
  obtain ⟨s2, e2, x2⟩ := field_str (by omega) Tryz.underlying9 g2
  have hs2 := hwe s2.data.toList.length (DataW.weights_mem_each (P := Tryz.prog) (j := 2) (t := 9) rfl x2 _ (by simp [DataW.weights]))
  simp only [reachBytes, size_list] at hs2
  obtain ⟨b3, e3⟩ := field_bool (by omega) Tryz.underlying4 g3
  simp [Lit.wf, IntKind.min, IntKind.max, IntKind.signed, IntKind.bits] at w1
  have n1 : ((d1.toNat : Nat) : Int) = d1 := Int.toNat_of_nonneg (by omega)
  refine ⟨⟨b0, d1.toNat, s2, b3⟩, ?_, ⟨by show d1.toNat < _; omega, by show s2.size ≤ _; omega⟩⟩
  unfold Act13.cells
  dsimp only
  rw [n1]
  exact act13_list hcl e0 e1 e2 e3
set_option maxRecDepth 100000 in
theorem open_act13s_p (hval : Value.okWide Tryz.prog W .any base 22 v) (h : DataW.Trod enc Tryz.prog W 0 (fun _ => true) true 22 v d p) (hlt : ∀ x ∈ p, x.block < W.heap.size)
    {ts : List TypeId} {ds : List (DataW H)} {j : Nat} (hsz : (DataW.weightsEach Tryz.prog ts ds).all (· ≤ reachBytes) = true) (ht : ts[j]? = some 22) (hd : ds[j]? = some d) :
    ∃ (pa : Option Addr) (c : Nat) (L : List Act13), v = .slice pa L.length c ∧ Act13sP W pa L ∧ (∀ x, x ∈ L → x.Ok) ∧ L.length ≤ 140737488355328 := by
  obtain ⟨a0, len, cap, rfl⟩ := okWide_slice Tryz.underlying22 hval
  obtain ⟨fuel, hf⟩ := h
  rcases Deep.open_slice Tryz.underlying22 hf with ⟨hcs, hx⟩ | ⟨a, len', cap', m, n, D, Pl, hcs, _, hl, hm, hmm, hx, hi⟩
  · simp [Value.cells] at hcs
    obtain ⟨rfl, rfl, rfl⟩ := hcs
    exact ⟨none, 0, [], rfl, fun k x hk => by simp at hk, fun x hx => by simp at hx, by simp⟩
  · simp [Value.cells] at hcs
    obtain ⟨rfl, rfl, rfl⟩ := hcs
    simp only [Prod.mk.injEq] at hx
    obtain ⟨rfl, rfl⟩ := hx
    simp only [if_true] at hmm
    subst hmm
    have hr := sized_slice hsz ht hd Tryz.underlying22
    rw [bytes_act13] at hr
    simp only [List.length_map, List.length_range, reachBytes] at hr
    obtain ⟨L, hL, hP⟩ := list_of_all (α := Act13) (P := fun k x => x.Ok ∧ a.block < W.heap.size ∧ ∀ (i : Nat) (u : Value), (x.cells)[i]? = some u → W.cell? (a.add (k * 4 + i)) = some u) len (fun k hk => by
      obtain ⟨cs', hc, htr⟩ := hi k (by omega)
      rw [cells_act13] at hc
      obtain ⟨_, hcl, hat⟩ := World.cells?_some hc
      obtain ⟨x, rfl, h2⟩ := open_act13_cells htr (fun y hy => hlt y (List.mem_append_right _ (List.mem_flatMap.2 ⟨k, List.mem_range.2 (by omega), hy⟩))) (fun w hw => by
        have hw2 := DataW.weights_mem_each (P := Tryz.prog) ht hd w (by
          simp only [DataW.weights, Tryz.underlying22, List.mem_cons, List.mem_append]
          exact .inr (.inl (weightsAll_mem (x := D k) (List.mem_map.2 ⟨k, List.mem_range.2 hk, rfl⟩) hw)))
        have := List.all_eq_true.1 hsz _ hw2
        simpa using this)
      refine ⟨x, h2, hlt (.cell a.block (a.off + k * 4)) (List.mem_append_left _ (MemPlace.mem_row.2 ⟨k * 4, by rw [cells_act13]; omega, rfl⟩)), fun i u hu => ?_⟩
      have hiN : i < 4 := (List.getElem?_eq_some_iff.1 hu).1
      have := hat i hiN
      rw [Deep.add_add] at this
      rw [this]
      exact hu)
    refine ⟨some a, m, L, by rw [hL], fun k x hk => ?_, fun x hx => ?_, by rw [hL]; omega⟩
    · obtain ⟨_, h2, h4⟩ := hP k x hk
      exact ⟨a, rfl, h2, h4⟩
    · obtain ⟨k, hk⟩ := List.getElem?_of_mem hx
      exact (hP k x hk).1
end
end Go.Proofs.YtdnpgmoiapkhnaaGreatDoor
end

section
namespace Go.Proofs.YtdnpgmoiapkhnaaGreatDoor
open Go.RowKit

/-- The first 32 bytes, with bytes 0 behind. -/
def f32L (s : ByteArray) : List UInt8 := (s.data.toList ++ List.replicate 32 0).take 32
theorem f32L_length (s : ByteArray) : (f32L s).length = 32 := by unfold f32L; rw [List.length_take, List.length_append, List.length_replicate]; omega
def f32B (s : ByteArray) : ByteArray := ⟨(f32L s).toArray⟩
theorem f32B_size (s : ByteArray) : (f32B s).size = 32 := by unfold f32B; rw [txt_size, f32L_length]
theorem make32 (u : World) : (Instr.makeSlice 53 (.int .i64 32) (.int .i64 32)).run Tryz.prog u = .ok (.slice (some ⟨u.heap.size, 0, none⟩) 32 32) (u.alloc (.cells (zc 32) 5)) := by
  have h := make_bytes 32 (by decide) u
  have e : madeCells #[Value.int .u8 0] 32 = zc 32 := by kernel_rfl
  rw [e] at h
  exact h
theorem fullK_any (s : ByteArray) (w : World) : Calls Tryz.prog 10 #[.string s] w fun e w' => e = .returned (.string (f32B s)) ∧ Ext w w' := by
  unfold f32B
  have hmk := make32
  have hr0 := Row.zero w 5 32
  obtain ⟨k, hk⟩ : ∃ k, k = min s.size 32 := ⟨_, rfl⟩
  have hcp := fun ty => run_copy_text (w.alloc (.cells (zc 32) 5)) ty w.heap.size 0 32 32 s _ 5 hr0.blk (by simp) k hk
  have e : ((List.replicate 32 (0 : UInt8)).map cellOf).take 0 ++ (s.data.toList.take k).map cellOf ++ ((List.replicate 32 (0 : UInt8)).map cellOf).drop (0 + k) = (f32L s).map cellOf := by
    rw [List.take_zero, List.nil_append, ← List.map_drop, ← List.map_append]
    congr 1
    unfold f32L
    rw [List.drop_replicate, List.take_append, size_list, List.take_replicate]
    congr 1
    · rcases Nat.le_total s.size 32 with h | h
      · rw [List.take_of_length_le (by rw [size_list]; omega), List.take_of_length_le (by rw [size_list]; omega)]
      · rw [show k = 32 by omega]
    · congr 1; omega
  rw [e] at hcp
  have hr1 : Row ((w.alloc (.cells (zc 32) 5)).setRow w.heap.size ((f32L s).map cellOf).toArray) w.heap.size 5 (f32L s) := setRow_heap _ _ _ _ _ _ hr0
  have ht := hr1.text (P := Tryz.prog) 53 5 9 Tryz.underlying53 Tryz.underlying5 Tryz.underlying9 32 32 (f32L_length s)
  have hx : Ext w ((w.alloc (.cells (zc 32) 5)).setRow w.heap.size ((f32L s).map cellOf).toArray) := ((Ext.refl w).alloc _).setRow (Nat.le_refl _) _
  have HX := Lib.hid hx
  clear hr0 hr1 e hk hx
  go_enter Tryz.func10, Tryz.ntmps10
  go_wp2
  go_ret
  exact ⟨rfl, HX.out⟩
/-- An answer: where it is no, there are few calls. -/
def HeavyE (n : Nat) (e : Ending) : Prop := ∃ b, e = .returned (.bool b) ∧ (b = false → n ≤ 80)
set_option maxRecDepth 100000 in
set_option maxHeartbeats 4000000 in
/-- Too many calls, or a long key among the first hundred. -/
theorem heavyK_any (w : World) (p : Option Addr) (c : Nat) (L : List Act13) (h : Act13sP w p L) (hok : ∀ x ∈ L, x.Ok) (hl : L.length ≤ 140737488355328) :
    Calls Tryz.prog 7 #[.slice p L.length c] w fun e w' => HeavyE L.length e ∧ w = w' := by
  have HH := Lib.hid h; have HOk := Lib.hid hok
  clear h hok
  go_enter Tryz.func7, Tryz.ntmps7
  go_wp2
  go_loopw [3] (fun iv wr => ∃ j : Nat, j ≤ L.length ∧ j ≤ 100 ∧ iv = .int .i64 (j : Int) ∧ w = wr) (fun iv _ => 100 - (intOf iv).toNat)
  case atStart => exact ⟨0, Nat.zero_le _, by omega, rfl, rfl⟩
  case round =>
    obtain ⟨j, hj, h100, rfl, rfl⟩ := hrel
    by_cases hlt : j < L.length ∧ j < 100
    · obtain ⟨h1, h2⟩ := hlt
      have h1i : (j : Int) < (L.length : Int) := by omega
      have h2i : (j : Int) < 100 := by omega
      obtain ⟨x, hx⟩ : ∃ x, L[j]? = some x := ⟨_, List.getElem?_eq_getElem h1⟩
      obtain ⟨a, rfl, ha, hc⟩ := HH.out j x hx
      have k2 := act13_at (k := 1) (hc 2 _ rfl)
      have hok := HOk.out x (List.mem_of_getElem? hx)
      have hs := hok.Key
      clear hx hc hok
      generalize x.Key = s at *
      by_cases h200 : 200 < s.size
      · have h200i : (200 : Int) < (s.size : Int) := by omega
        go_wp2
        go_ret
        exact ⟨⟨_, rfl, fun q => by cases q⟩, rfl⟩
      · have h200i : ¬ (200 : Int) < (s.size : Int) := by omega
        go_wp2
        go_roundw
        case rel => first | exact ⟨j + 1, by omega, by omega, by go_num, rfl⟩ | exact ⟨j + 1, by omega, by omega, by go_num, trivial⟩ | exact ⟨j + 1, by omega, by omega, by go_num⟩
        case measure => simp [intOf]; omega
    · by_cases h1 : j < L.length
      · have h2 : ¬ j < 100 := fun q => hlt ⟨h1, q⟩
        have h1i : (j : Int) < (L.length : Int) := by omega
        have h2i : ¬ (j : Int) < 100 := by omega
        have h80 : (80 : Int) < (L.length : Int) := by omega
        go_wp2
        go_ret
        exact ⟨⟨_, rfl, fun q => by simp at q <;> omega⟩, rfl⟩
      · have h1i : ¬ (j : Int) < (L.length : Int) := by omega
        go_wp2
        go_ret
        exact ⟨⟨_, rfl, fun q => by simp at q <;> omega⟩, rfl⟩
end Go.Proofs.YtdnpgmoiapkhnaaGreatDoor
end
