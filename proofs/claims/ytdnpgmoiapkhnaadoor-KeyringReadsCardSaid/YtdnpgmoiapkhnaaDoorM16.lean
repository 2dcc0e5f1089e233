/- append in a walk, to slices by footprints. Plain: new blocks of zeros, of any size. Plain: a text's bytes copied into a block. A law's arguments: the generic part: fields of structs, texts in a row, lists of what there is at each place. -/
import Derived.Test.YtdnpgmoiapkhnaaDoorProg
import Derived.Test.YtdnpgmoiapkhnaaDoorSl
import Derived.Test.YtdnpgmoiapkhnaaDoorM04
import Derived.Outline
import Derived.WalkSpells
import Derived.Test.YtdnpgmoiapkhnaaDoorM02
import Derived.Lib.SlBuf
import Derived.Test.YtdnpgmoiapkhnaaDoorM05
import Derived.Deep.Slices
import Derived.Deep.Fields
import Derived.ChangeArms
import Derived.Lib.SmallJoins
section
namespace Go.Proofs.YtdnpgmoiapkhnaaDoor
open Go.RowKit

theorem Fr.toExt {κ κ' : Foot} {w w' : World} (h : Fr κ (fun _ => False) w w' κ') : Ext w w' := ⟨h.os, h.tape, h.output, h.size, fun g hg => h.other g hg (fun x => x)⟩
/-- append(s, x...), in a plain region. -/
theorem wpList_append_sl {w : World} {ops : Array Oper} {rest : List Oper} {o : Oper} {a : Act} {Q : Exit → Act → World → Prop} (hgd : o.guard = none) (s x : Operand) (t tx : TypeId)
    (ho : o.op = .call { callee := .builtin .append, args := #[s, x], argTypes := #[t, tx] }) {T : TypeId} {zv : Value} {z bytes : Nat} (ht : Tryd.prog.underlying t = some (.slice T))
    (hinfo : (Tryd.prog.info? T).map (fun i => (i.zero, i.size, i.bytes)) = some (some zv, z, bytes)) (hzs : zv.cells.size = z) (hb : bytes ≤ 128)
    {κ : Foot} {k : Nat} {p : Option Addr} {n c : Nat} {vs : List Value} (hs : a.eval s = .slice p n c) (h : Sl w κ k z T p n c vs) (hone : ∀ u ∈ vs, u.oneCell' = true)
    (xv : Value) (hx : a.eval x = xv) (m : Nat) (news : List Value) (hsrc : Src Tryd.prog z tx xv m news w) (h63 : n + m ≤ 1000000000)
    (hQ : ∀ p' c' w' κ', Sl w' κ' k z T p' (n + m) c' (vs ++ news) → Fr κ (fun j => j = k) w w' κ' → (p' = p ∨ p' = some ⟨w.heap.size, 0, .none⟩) → (c = 0 → Ext w w') → (∀ q n0 c0 vs0, Sl w κ k z T q n0 c0 vs0 → Al p n c q n0 → Sl w' κ' k z T q n0 c0 vs0 ∧ Al p' (n + m) c' q n0) →
      wpList Tryd.prog ops Q rest (a.put o.dst (.slice p' (n + m) c')) w') : wpList Tryd.prog ops Q (o :: rest) a w := by
  obtain ⟨p', c', w', κ', hr, h1, h2, h3, h4, h5⟩ := run_append_sl h t tx o.type zv bytes ht hinfo hzs xv m news hsrc hone h63 hb
  refine wpList_plain hgd fun K hK => ?_
  unfold Oper.wp execOp
  simp only [ho, resolve, invoke, builtin, Sem.run_bind, Sem.run_pure, Result.andThen_ok, List.map_toArray, List.map_cons, List.map_nil, hs, hx, hr]
  exact hK _ _ (hQ p' c' w' κ' h1 h2 h3 h4 h5)
/-- The same, as a step of a region that draws its order. -/
theorem step_append_sl {w : World} {ops : Array Oper} {o : Oper} {a : Act} {K : Act → World → Prop} {Q : Exit → Act → World → Prop} {E : Prop} (hgd : o.guard = none) (s x : Operand) (t tx : TypeId)
    (ho : o.op = .call { callee := .builtin .append, args := #[s, x], argTypes := #[t, tx] }) {T : TypeId} {zv : Value} {z bytes : Nat} (ht : Tryd.prog.underlying t = some (.slice T))
    (hinfo : (Tryd.prog.info? T).map (fun i => (i.zero, i.size, i.bytes)) = some (some zv, z, bytes)) (hzs : zv.cells.size = z) (hb : bytes ≤ 128)
    {κ : Foot} {k : Nat} {p : Option Addr} {n c : Nat} {vs : List Value} (hs : a.eval s = .slice p n c) (h : Sl w κ k z T p n c vs) (hone : ∀ u ∈ vs, u.oneCell' = true)
    (xv : Value) (hx : a.eval x = xv) (m : Nat) (news : List Value) (hsrc : Src Tryd.prog z tx xv m news w) (h63 : n + m ≤ 1000000000)
    (hQ : ∀ p' c' w' κ', Sl w' κ' k z T p' (n + m) c' (vs ++ news) → Fr κ (fun j => j = k) w w' κ' → (p' = p ∨ p' = some ⟨w.heap.size, 0, .none⟩) → (c = 0 → Ext w w') → (∀ q n0 c0 vs0, Sl w κ k z T q n0 c0 vs0 → Al p n c q n0 → Sl w' κ' k z T q n0 c0 vs0 ∧ Al p' (n + m) c' q n0) →
      K (a.put o.dst (.slice p' (n + m) c')) w') : if Region.wanted o (yielded ops a.tmps) = true then Oper.wp Tryd.prog o a w K Q else E := by
  have hw : Region.wanted o (yielded ops a.tmps) = true := by simp [Region.wanted, hgd]
  rw [if_pos hw]
  obtain ⟨p', c', w', κ', hr, h1, h2, h3, h4, h5⟩ := run_append_sl h t tx o.type zv bytes ht hinfo hzs xv m news hsrc hone h63 hb
  unfold Oper.wp execOp
  simp only [ho, resolve, invoke, builtin, Sem.run_bind, Sem.run_pure, Result.andThen_ok, List.map_toArray, List.map_cons, List.map_nil, hs, hx, hr]
  exact hQ p' c' w' κ' h1 h2 h3 h4 h5
end Go.Proofs.YtdnpgmoiapkhnaaDoor
end

section
namespace Go.Proofs.YtdnpgmoiapkhnaaDoor
open Go.RowKit

/-- n bytes 0. -/
def zc (n : Nat) : Array Value := ((List.replicate n (0 : UInt8)).map cellOf).toArray
theorem zero_run {P : Program} {t : TypeId} {z : Value} (h : (P.info? t).bind (·.zero) = some z) (w : World) : (zeroValue t).run P w = .ok z w := by
  cases hq : P.info? t with
  | none => simp [hq] at h
  | some i =>
    have hz : i.zero = some z := by simpa [hq] using h
    simp [zeroValue, typeInfo, hq, hz]
theorem Row.zero (w : World) (t : TypeId) (n : Nat) : Row (w.alloc (.cells (zc n) t)) w.heap.size t (List.replicate n 0) := heap_alloc_new w _
theorem sized {t n : Nat} {l : List UInt8} (h : (Tryd.prog.info? t).map (·.size) = some n) (hl : l.length = n) : (Tryd.prog.info? t).map (·.size) = some ((l.map cellOf).toArray).size := by simp [h, hl]
end Go.Proofs.YtdnpgmoiapkhnaaDoor
end

section
namespace Go.Proofs.YtdnpgmoiapkhnaaDoor
open Go.RowKit

theorem infoB : (Tryd.prog.info? 5).map (·.size) = some 1 := by kernel_rfl
theorem run_copy_text (w : World) (ty : TypeId) (g o dLen dCap : Nat) (s : ByteArray) (cs : List Value) (T : TypeId) (hg : Blk w g T cs) (hfit : o + dLen ≤ cs.length) (k : Nat) (hk : k = min s.size dLen) :
    (Builtin.copy_ #[35, 9] ty #[.slice (some ⟨g, o, none⟩) dLen dCap, .string s]).run Tryd.prog w =
      .ok (goInt k) (w.setRow g (cs.take o ++ (s.data.toList.take k).map cellOf ++ cs.drop (o + k)).toArray) := by
  have hmin : Nat.min s.size dLen = k := hk.symm
  have hk1 : k ≤ s.size := by rw [hk]; exact Nat.min_le_left _ _
  have hk2 : k ≤ dLen := by rw [hk]; exact Nat.min_le_right _ _
  have hlen : ((s.data.toList.take k).map cellOf).length = k := by rw [List.length_map, List.length_take, size_list]; omega
  have hst := run_storeCells_at Tryd.prog g o T ((s.data.toList.take k).map cellOf) 0 cs.toArray w hg (by rw [hlen]; simp; omega) (by
    intro v hv
    simp only [List.mem_map] at hv
    obtain ⟨b, _, rfl⟩ := hv
    rfl)
  rw [hlen] at hst
  simp only [Nat.add_zero] at hst
  have htk : List.take k (List.map (fun b : UInt8 => Value.int IntKind.u8 (b.toNat : Int)) s.data.toList) = (s.data.toList.take k).map cellOf := by rw [← List.map_take]; rfl
  have hu := Tryd.underlying35
  cases hq : Tryd.prog.info? 5 with
  | none => have := infoB; simp [hq] at this
  | some i =>
    simp [Builtin.copy_, run_underlying hu, Builtin.lenOf, Builtin.firstCells, sizeOf, typeInfo, hq, hmin]
    rw [htk, hst]
    simp [Result.andThen]
/-- A text of as many bytes over all of a block. -/
theorem copy_all (w : World) (ty : TypeId) (g n : Nat) (s : ByteArray) (l : List UInt8) (T : TypeId) (hg : Row w g T l) (hl : l.length = n) (hs : s.size = n) :
    (Builtin.copy_ #[35, 9] ty #[.slice (some ⟨g, 0, none⟩) n n, .string s]).run Tryd.prog w = .ok (.int .i64 (n : Int)) (w.setRow g (s.data.toList.map cellOf).toArray) := by
  have h := run_copy_text w ty g 0 n n s _ T hg.blk (by simp [hl]) n (by omega)
  have e : s.data.toList.take n = s.data.toList := List.take_of_length_le (by rw [size_list]; omega)
  have e2 : (l.map cellOf).drop (0 + n) = [] := List.drop_of_length_le (by simp [hl])
  rw [h, e, e2, List.take_zero, List.nil_append, List.append_nil]
  rfl
end Go.Proofs.YtdnpgmoiapkhnaaDoor
end

section
namespace Go.Proofs.YtdnpgmoiapkhnaaDoor
open Go.ChangeShapes Go.WideShapes Go.ChangeAt Go.RowKit
theorem one_at {l : List Value} {j : Nat} {v : Value} (h : (l.drop j).take 1 = [v]) : l[j]? = some v := by
  have h2 : ((l.drop j).take 1)[0]? = some v := by rw [h]; rfl
  rw [List.getElem?_take, if_pos (by decide), List.getElem?_drop] at h2
  simpa using h2
/-- A list of what there is at each place. -/
theorem list_of_all {α : Type} {P : Nat → α → Prop} : ∀ n, (∀ k, k < n → ∃ x, P k x) → ∃ L : List α, L.length = n ∧ ∀ k x, L[k]? = some x → P k x
  | 0, _ => ⟨[], rfl, fun k x h => by simp at h⟩
  | n + 1, h => by
    obtain ⟨L, hl, hp⟩ := list_of_all n (fun k hk => h k (by omega))
    obtain ⟨x, hx⟩ := h n (by omega)
    refine ⟨L ++ [x], by simp [hl], fun k y hy => ?_⟩
    rcases Nat.lt_trichotomy k n with hk | rfl | hk
    · rw [List.getElem?_append_left (by omega)] at hy
      exact hp k y hy
    · rw [List.getElem?_append_right (by omega)] at hy
      simp [hl] at hy
      subst hy
      exact hx
    · rw [List.getElem?_eq_none (by simp; omega)] at hy
      cases hy
section
variable {H : Type} {enc : TypeId × Value → H} {W : World} {base : Nat} {v : Value} {d : DataW H} {p : List MemPlace}
theorem field_at {cs : List Value} {xs : List (DataW H × List MemPlace)} {n j : Nat} {t : TypeId} {k : IntKind} (hl : j < xs.length) (ht : Tryd.prog.underlying t = some (.int k)) (h : DataW.trod enc Tryd.prog W 0 (fun _ => true) true n t ((cs.drop j).take 1) = xs[j]?) : ∃ z, cs[j]? = some (.int k z) ∧ (Lit.int k z).wf = true := by
  rw [List.getElem?_eq_getElem hl] at h
  obtain ⟨z, hz, _, hw⟩ := DataW.trod_int ht h
  exact ⟨z, one_at hz, hw⟩
theorem field_str {cs : List Value} {xs : List (DataW H × List MemPlace)} {n j : Nat} {t : TypeId} (hl : j < xs.length) (ht : Tryd.prog.underlying t = some .string) (h : DataW.trod enc Tryd.prog W 0 (fun _ => true) true n t ((cs.drop j).take 1) = xs[j]?) : ∃ s : ByteArray, cs[j]? = some (.string s) ∧ (xs.map (·.1))[j]? = some (.lit (.string s.data.toList)) := by
  have h0 := h
  rw [List.getElem?_eq_getElem hl] at h
  obtain ⟨s, hz, hx, _⟩ := DataW.trod_string ht h
  refine ⟨s, one_at hz, ?_⟩
  rw [List.getElem?_map, List.getElem?_eq_getElem hl, hx]
  rfl
theorem weightsAll_mem {P : Program} {e : TypeId} {w : Nat} {x : DataW H} : ∀ {l : List (DataW H)}, x ∈ l → w ∈ x.weights P e → w ∈ DataW.weightsAll P e l
  | [], h, _ => by cases h
  | a :: r, h, hw => by
    simp only [DataW.weightsAll, List.mem_append]
    rcases List.mem_cons.1 h with rfl | h
    · exact .inl hw
    · exact .inr (weightsAll_mem h hw)
theorem open_texts_f {a0 : Option Addr} {len cap : Nat} {fuel : Nat} (hf : DataW.trod enc Tryd.prog W 0 (fun _ => true) true fuel 42 [.slice a0 len cap] = some (d, p)) (hlt : ∀ x ∈ p, x.block < W.heap.size)
    {ts : List TypeId} {ds : List (DataW H)} {j : Nat} (hsz : (DataW.weightsEach Tryd.prog ts ds).all (· ≤ reachBytes) = true) (ht : ts[j]? = some 42) (hd : ds[j]? = some d) :
    ∃ (pa : Option Addr) (c : Nat) (l : List ByteArray), (Value.slice a0 len cap) = .slice pa (List.length l) c ∧ TextsP W pa l ∧ (l.length ≤ 140737488355328 ∧ ∀ s, s ∈ l → s.size ≤ 140737488351232) ∧ l.length ≤ c ∧ (pa = none → c = 0) := by
  rcases open_strings Tryd.underlying42 Tryd.underlying9 cells_string hf with ⟨hcs, hx⟩ | ⟨a, len', cap', ss, hcs, _, hl, hm, hz, hx, hcell, _⟩
  · exact ⟨none, 0, [], by simpa [Value.cells] using hcs, TextsP.none W, by simp, by simp, by simp⟩
  · simp at hcs
    obtain ⟨rfl, rfl, rfl⟩ := hcs
    simp only [Prod.mk.injEq] at hx
    obtain ⟨rfl, rfl⟩ := hx
    simp only [if_true] at hz
    have hll : (ss.take len).length = len := by rw [List.length_take]; omega
    have hr := sized_slice hsz ht hd Tryd.underlying42
    rw [bytes_string] at hr
    simp only [strs, List.length_map, List.length_take, List.length_drop, reachBytes] at hr
    refine ⟨some a, cap, ss.take len, by rw [hll], fun i s hs => ⟨a, rfl, ?_⟩, ⟨by rw [hll]; omega, fun s hs => ?_⟩, by rw [hll]; exact hl, fun e => by cases e⟩
    · have hi : i < len := by
        have := (List.getElem?_eq_some_iff.1 hs).1
        omega
      rw [List.getElem?_take, if_pos hi] at hs
      have hc := hcell i (by omega)
      have e : ss.getD i ByteArray.empty = s := by rw [List.getD_eq_getElem?_getD, hs]; rfl
      rw [e] at hc
      exact ⟨hlt (.cell a.block (a.off + i)) (MemPlace.mem_row.2 ⟨i, by omega, rfl⟩), hc⟩
    · have hw := DataW.weights_mem_each (P := Tryd.prog) ht hd s.data.toList.length (by
        simp only [DataW.weights, Tryd.underlying42, List.mem_cons, List.mem_append]
        exact .inr (.inl (weights_strs _ _ s hs)))
      have := List.all_eq_true.1 hsz _ hw
      simp only [decide_eq_true_eq, reachBytes, size_list] at this
      omega
theorem field_bool {cs : List Value} {xs : List (DataW H × List MemPlace)} {n j : Nat} {t : TypeId} (hl : j < xs.length) (ht : Tryd.prog.underlying t = some .bool) (h : DataW.trod enc Tryd.prog W 0 (fun _ => true) true n t ((cs.drop j).take 1) = xs[j]?) : ∃ z, cs[j]? = some (.bool z) := by
  rw [List.getElem?_eq_getElem hl] at h
  obtain ⟨z, hz, _⟩ := DataW.trod_bool ht h
  exact ⟨z, one_at hz⟩
end
end Go.Proofs.YtdnpgmoiapkhnaaDoor
end
