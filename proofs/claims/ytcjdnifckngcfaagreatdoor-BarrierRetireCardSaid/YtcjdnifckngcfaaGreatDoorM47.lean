/- A slice of texts of which one is taken out, in its own block. Texts in a row among a law's arguments, opened: what its walk asks of them. Plain: slices of values of one cell each, nil or not, under one word; a copy of one by append([]T{}, x...). -/
import Derived.Test.YtcjdnifckngcfaaGreatDoorM45
import Derived.Test.YtcjdnifckngcfaaGreatDoorM39
import Derived.SizedLaws
import Derived.SliceStrings
import Derived.ChangeSlices
import Derived.Carry
import Derived.Deep.AppendSrc
section
namespace Go.Proofs.YtcjdnifckngcfaaGreatDoor
open Go.RowKit

/-- A slice of these texts, in a block of its own; that does not lie below B. -/
structure IsL (w : World) (B : Nat) (p : Option Addr) (c : Nat) (l : List ByteArray) : Prop where
  sl : Sl w (kp p) 1 1 9 p l.length c (l.map Value.string)
  low : ∀ g, p = some ⟨g, 0, none⟩ → B ≤ g
/-- All but texts' blocks were kept. -/
structure KeepS (B : Nat) (w w' : World) : Prop where
  below : Below B w w'
  keep : ∀ (g : Nat) (o : Obj), w.heap[g]? = some o → (∀ cur fr, o ≠ .cells cur 9 fr) → w'.heap[g]? = some o
section
variable {w w' : World} {B : Nat} {p : Option Addr} {c : Nat} {l : List ByteArray}
theorem IsL.ext (h : IsL w B p c l) (x : Ext w w') : IsL w' B p c l := ⟨h.sl.ext x, h.low⟩
theorem IsL.turnP {A : Nat} (h : IsL w B p c l) (t : TurnP A w w') : IsL w' B p c l := by
  refine ⟨⟨h.sl.1, h.sl.2.1, h.sl.2.2.1, fun hc => ?_⟩, h.low⟩
  obtain ⟨g, cur, h1, h2, h3, h4⟩ := h.sl.2.2.2 hc
  exact ⟨g, cur, h1, h2, t.keep _ _ h3 ⟨fun _ _ e => (by cases e), fun _ _ e => (by cases e)⟩, h4⟩
theorem IsL.at_ (h : IsL w B p c l) {i : Nat} {s : ByteArray} (hs : l[i]? = some s) : ∃ g, p = some ⟨g, 0, none⟩ ∧ w.cell? ⟨g, i, none⟩ = some (.string s) := by
  obtain ⟨g, h1, _, _, h4, _⟩ := h.sl.cell (j := i) (u := .string s) (by simp [hs])
  exact ⟨g, h1, h4⟩
theorem keep_of_fr {κ' : Foot} {n : Nat} {vs : List Value} (hs : Sl w (kp p) 1 1 9 p n c vs) (hl : ∀ g, p = some ⟨g, 0, none⟩ → B ≤ g) (hB : B ≤ w.heap.size) (f : Fr (kp p) (fun j => j = 1) w w' κ') (hx : c = 0 → Ext w w') : KeepS B w w' := by
  refine ⟨f.below (by decide) (fun g hg => ?_) hB, fun g o ho hn => ?_⟩
  · unfold kp
    rw [if_neg fun e => by have := hl g e; omega]
  · by_cases hc : c = 0
    · exact ((hx hc).block g (heap_lt ho)).trans ho
    · obtain ⟨g', cur, e1, _, h3, _⟩ := hs.2.2.2 (by omega)
      by_cases e : g = g'
      · subst e
        rw [h3] at ho
        cases ho
        exact absurd rfl (hn _ _)
      · refine (f.other g (heap_lt ho) fun q => ?_).trans ho
        have := kp_one q
        rw [e1] at this
        cases this
        exact e rfl
theorem IsM.keepS {b : Nat} {L : List (Nat × ByteArray)} (h : IsM w b L) (k : KeepS B w w') : IsM w' b L := by
  obtain ⟨es, cl, hm⟩ := h.is
  exact h.same ((k.keep _ _ hm (fun _ _ e => by cases e)).trans hm.symm)
theorem Blk.keepS {b : Nat} {T : TypeId} {cs : List Value} (h : Blk w b T cs) (k : KeepS B w w') (hT : T ≠ 9) : Blk w' b T cs := k.keep _ _ h (fun _ _ e => hT (by cases e; rfl))
theorem IsK.keepS {r b : Nat} {L : List (Nat × ByteArray)} (h : IsK w r b L) (k : KeepS B w w') : IsK w' r b L := ⟨h.ring.keepS k (by decide), h.map.keepS k, h.good⟩
theorem IsG.keepS {g b n m : Nat} {L : List (Nat × ByteArray)} (h : IsG w g b n m L) (k : KeepS B w w') : IsG w' g b n m L := by
  obtain ⟨es, cl, hm⟩ := h.map.is
  exact ⟨h.blk.keepS k (by decide), h.map.same ((k.keep _ _ hm (fun _ _ e => by cases e)).trans hm.symm), h.alike⟩
theorem IsP.keepS {A b : Nat} {S : BS} (h : IsP w A b S) (k : KeepS B w w') : IsP w' A b S := by
  cases S with
  | none => obtain ⟨g, bm, i⟩ := h; exact ⟨g, bm, i.blk.keepS k (by decide), i.gat.keepS k, i.low, i.lowm⟩
  | closed n E L => obtain ⟨g, bm, i⟩ := h; exact ⟨g, bm, i.blk.keepS k (by decide), i.gat.keepS k, i.low, i.lowm⟩
  | opened n E root K => obtain ⟨g, bm, r1, k1, r2, k2, i, j⟩ := h; exact ⟨g, bm, r1, k1, r2, k2, ⟨i.blk.keepS k (by decide), i.gat.keepS k, i.low, i.lowm⟩, ⟨j.one.keepS k, j.two.keepS k, j.low, j.a1, j.a2⟩⟩
theorem Ext.keptS {v : World} (hv : Ext v w) (k : KeepS v.heap.size w w') : Ext v w' := hv.trans3 k.below
end
theorem elemS : Tryz.prog.elem 35 = 9 := by kernel_rfl
theorem underS : Tryz.prog.underlying 35 = some (.slice (Tryz.prog.elem 35)) := by rw [elemS]; exact Tryz.underlying35
/-- The slices of an append that takes number k out. -/
theorem left_cuts (w : World) (B g c : Nat) (l : List ByteArray) (h : IsL w B (some ⟨g, 0, none⟩) c l) (k n : Nat) (hn : l.length = n) (hk : k < n) (hm : n ≤ 1000000) :
    (∀ u, (Instr.slice 35 (.slice (some ⟨g, 0, none⟩) n c) none (some (.int .i64 (k : Int))) none).run Tryz.prog u = .ok (.slice (some ⟨g, 0, none⟩) k c) u) ∧
    ∃ ad, (∀ u, (Instr.slice 35 (.slice (some ⟨g, 0, none⟩) n c) (some (.int .i64 ((k : Int) + 1))) none none).run Tryz.prog u = .ok (.slice (some ad) (n - (k + 1)) (c - (k + 1))) u) ∧
      (∀ u, Ext w u → Src Tryz.prog 1 35 (.slice (some ad) (n - (k + 1)) (c - (k + 1))) (n - (k + 1)) ((l.drop (k + 1)).map Value.string) u) ∧
      (∀ u, Ext w u → Sl u (kp (some ⟨g, 0, none⟩)) 1 1 9 (some ⟨g, 0, none⟩) k c ((l.take k).map Value.string)) := by
  have hc : l.length ≤ c := h.sl.2.1
  refine ⟨fun u => ?_, ?_⟩
  · rw [run_slice_h (P := Tryz.prog) u 35 (some ⟨g, 0, none⟩) n c underS .i64 (k : Int) (by omega) (by omega), elemS, show (sizeOf 9).run Tryz.prog u = .ok 1 u from Tryz.sizeOf9 u]
    simp [Result.andThen, sliced]
    intro q
    simp [Addr.add]
  · have hld : (l.drop (k + 1)).length = n - (k + 1) := by rw [List.length_drop, hn]
    have hsl : ∀ u, Ext w u → Sl u (kp (some ⟨g, 0, none⟩)) 1 1 9 (some ⟨g, 0, none⟩) k c ((l.take k).map Value.string) := fun u x => by
      have h2 := (h.sl.ext x)
      refine ⟨by simp; omega, by omega, h2.2.2.1, fun q => ?_⟩
      obtain ⟨g', cur, e1, e2, e3, e4, e5⟩ := h2.2.2.2 q
      refine ⟨g', cur, e1, e2, e3, e4, fun j v hj => e5 j v ?_⟩
      rw [List.getElem?_map] at hj ⊢
      have hj2 : j < k := by
        rcases Nat.lt_or_ge j k with q | q
        · exact q
        · rw [List.getElem?_take, if_neg (by omega)] at hj; cases hj
      rw [List.getElem?_take, if_pos hj2] at hj
      exact hj
    by_cases he : c = k + 1
    · have hnk : n = k + 1 := by omega
      refine ⟨⟨g, 0, none⟩, fun u => ?_, fun u _ => ?_, hsl⟩
      · rw [run_slice_l (P := Tryz.prog) u 35 (some ⟨g, 0, none⟩) n c underS .i64 ((k : Int) + 1) (by omega) (by omega), elemS, show (sizeOf 9).run Tryz.prog u = .ok 1 u from Tryz.sizeOf9 u]
        have e1 : ((k : Int) + 1).toNat = k + 1 := by omega
        simp only [Result.andThen, sliced, e1]
        rw [if_pos (by omega)]
      · refine Src.ofSlice u Tryz.underlying35 ⟨g, 0, none⟩ (n - (k + 1)) _ _ (by simp; omega) (fun j v hj => ?_) (strs_one _)
        have : (l.drop (k + 1)).length = 0 := by omega
        rw [List.getElem?_map, List.getElem?_eq_none (by omega)] at hj
        cases hj
    · refine ⟨⟨g, k + 1, none⟩, fun u => ?_, fun u x => ?_, hsl⟩
      · rw [run_slice_l (P := Tryz.prog) u 35 (some ⟨g, 0, none⟩) n c underS .i64 ((k : Int) + 1) (by omega) (by omega), elemS, show (sizeOf 9).run Tryz.prog u = .ok 1 u from Tryz.sizeOf9 u]
        have e1 : ((k : Int) + 1).toNat = k + 1 := by omega
        simp only [Result.andThen, sliced, e1]
        rw [if_neg (by omega)]
        simp [Addr.add_mid]
      · refine Src.ofSlice u Tryz.underlying35 ⟨g, k + 1, none⟩ (n - (k + 1)) _ _ (by simp; omega) (fun j v hj => ?_) (strs_one _)
        rw [List.getElem?_map, List.getElem?_drop, ← List.getElem?_map] at hj
        obtain ⟨g', q, _, _, hc', _⟩ := (h.ext x).sl.cell hj
        cases q
        rw [Addr.add_mid]
        exact hc'
/-- What that append leaves. -/
theorem left_made {w w' : World} {B g c c' k n : Nat} {p' : Option Addr} {κ' : Foot} {l : List ByteArray} (h : IsL w B (some ⟨g, 0, none⟩) c l) (hB : B ≤ w.heap.size) (hn : l.length = n) (hk : k < n) {u : World} (x : Ext w u)
    (s : Sl w' κ' 1 1 9 p' (k + (n - (k + 1))) c' ((l.take k).map Value.string ++ (l.drop (k + 1)).map Value.string)) (f : Fr (kp (some ⟨g, 0, none⟩)) (fun j => j = 1) u w' κ') (e : p' = some ⟨g, 0, none⟩ ∨ p' = some ⟨u.heap.size, 0, none⟩) :
    IsL w' B p' c' (l.take k ++ l.drop (k + 1)) ∧ KeepS B u w' := by
  have hc : l.length ≤ c := h.sl.2.1
  refine ⟨⟨?_, fun q hq => ?_⟩, keep_of_fr (h.ext x).sl h.low (Nat.le_trans hB x.size) f (fun q => by omega)⟩
  · have := s.kp
    rw [← List.map_append] at this
    rw [show (l.take k ++ l.drop (k + 1)).length = k + (n - (k + 1)) by simp; omega]
    exact this
  · rcases e with e | e
    · rw [e] at hq; cases hq; exact h.low _ rfl
    · rw [e] at hq; cases hq; exact Nat.le_trans hB x.size
/-- One text more. -/
theorem left_more {w u w' : World} {B n c c' : Nat} {p p' : Option Addr} {κ' : Foot} {l : List ByteArray} {t : ByteArray} (h : IsL w B p c l) (hB : B ≤ w.heap.size) (hn : l.length = n) (x : Ext w u)
    (s : Sl w' κ' 1 1 9 p' (n + 1) c' (l.map Value.string ++ [.string t])) (f : Fr (kp p) (fun j => j = 1) u w' κ') (e : p' = p ∨ p' = some ⟨u.heap.size, 0, none⟩) (hx : c = 0 → Ext u w') :
    IsL w' B p' c' (l ++ [t]) ∧ KeepS B u w' := by
  refine ⟨⟨?_, fun q hq => ?_⟩, keep_of_fr (h.ext x).sl h.low (Nat.le_trans hB x.size) f hx⟩
  · have := s.kp
    rw [show l.map Value.string ++ [.string t] = (l ++ [t]).map Value.string by simp] at this
    rw [show (l ++ [t]).length = n + 1 by simp [hn]]
    exact this
  · rcases e with e | e
    · rw [e] at hq; exact h.low _ hq
    · rw [e] at hq; cases hq; exact Nat.le_trans hB x.size
theorem IsL.slN {w : World} {B c n : Nat} {p : Option Addr} {l : List ByteArray} (h : IsL w B p c l) (hn : l.length = n) : Sl w (kp p) 1 1 9 p n c (l.map Value.string) := by rw [← hn]; exact h.sl
theorem IsL.nil (w : World) (B : Nat) : IsL w B none 0 [] := ⟨Sl.nil _ _ _ _ _, fun _ h => by cases h⟩
theorem IsL.textsP {w : World} {B c : Nat} {p : Option Addr} {l : List ByteArray} (h : IsL w B p c l) : TextsP w p l := fun i s hs => by
  obtain ⟨g, h1, h2, _, h4, _⟩ := h.sl.cell (j := i) (u := .string s) (by simp [hs])
  refine ⟨_, h1, h2, ?_⟩
  rw [Addr.add_mid, Nat.zero_add]
  exact h4
/-- One text, as what is appended. -/
theorem src_one (w : World) (g : Nat) (s : ByteArray) (h : w.cell? ⟨g, 0, none⟩ = some (.string s)) : Src Tryz.prog 1 35 (.slice (some ⟨g, 0, none⟩) 1 1) 1 [.string s] w := by
  refine Src.ofSlice w Tryz.underlying35 ⟨g, 0, none⟩ 1 1 _ (by simp) (fun j v hj => ?_) (fun u hu => by simp at hu; subst hu; rfl)
  match j, hj with
  | 0, hj => simp at hj; subst hj; rw [Addr.add_mid, Nat.zero_add]; exact h
  | n + 1, hj => simp at hj
/-- A new slice of texts. -/
theorem left_new {w w' : World} {B : Nat} {p' : Option Addr} {c' m : Nat} {κ' : Foot} {l : List ByteArray} (hB : B ≤ w.heap.size) (hm : l.length = m)
    (s : Sl w' κ' 1 1 9 p' m c' (l.map Value.string)) (e : p' = none ∨ p' = some ⟨w.heap.size, 0, none⟩) : IsL w' B p' c' l := by
  subst hm
  refine ⟨s.kp, fun g hg => ?_⟩
  rcases e with e | e
  · rw [e] at hg; cases hg
  · rw [e] at hg; cases hg; exact hB
/-- A slice that grew by append, as what is appended. -/
theorem BufS.srcS {w : World} {A : Nat} {q : Option Addr} {n c : Nat} {l : List ByteArray} (h : BufS w A (.slice q n c) l) (hl : l ≠ []) (hn : l.length = n) : Src Tryz.prog 1 35 (.slice q n c) n (l.map Value.string) w := by
  obtain ⟨g, c', e, _, hc⟩ := h.sl hl
  cases e
  refine Src.ofSlice w Tryz.underlying35 ⟨g, 0, none⟩ _ _ _ (by simp) (fun j v hj => ?_) (strs_one _)
  rw [List.getElem?_map] at hj
  cases hq : l[j]? with
  | none => rw [hq] at hj; cases hj
  | some s =>
    rw [hq] at hj
    cases hj
    rw [Addr.add_mid, Nat.zero_add]
    exact hc j s hq
end Go.Proofs.YtcjdnifckngcfaaGreatDoor
end

section
namespace Go.Proofs.YtcjdnifckngcfaaGreatDoor
open Go.ChangeShapes Go.WideShapes Go.ChangeAt Go.RowKit

theorem laidOut : laidOutB Tryz.prog = true := by kernel_rfl
theorem cells_string : Tryz.prog.cellsOf 9 = 1 := by kernel_rfl
theorem bytes_string : Tryz.prog.bytesOf 9 = 16 := by kernel_rfl
section
variable {H : Type} {enc : TypeId × Value → H} {W : World} {base : Nat} {v : Value} {d : DataW H} {p : List MemPlace}
theorem weights_strs (e : TypeId) (l : List ByteArray) (s : ByteArray) (hs : s ∈ l) : s.data.toList.length ∈ DataW.weightsAll Tryz.prog e (strs (H := H) l) := by
  induction l with
  | nil => cases hs
  | cons x r ih =>
    simp only [strs, List.map_cons, DataW.weightsAll, List.mem_append]
    rcases List.mem_cons.1 hs with rfl | h
    · left; simp [DataW.weights]
    · right; exact ih h
set_option maxRecDepth 100000 in
theorem open_texts_p (hval : Value.okWide Tryz.prog W .any base 35 v) (h : DataW.Trod enc Tryz.prog W 0 (fun _ => true) true 35 v d p) (hlt : ∀ x ∈ p, x.block < W.heap.size)
    {ts : List TypeId} {ds : List (DataW H)} {j : Nat} (hsz : (DataW.weightsEach Tryz.prog ts ds).all (· ≤ reachBytes) = true) (ht : ts[j]? = some 35) (hd : ds[j]? = some d) :
    ∃ (pa : Option Addr) (c : Nat) (l : List ByteArray), v = .slice pa (List.length l) c ∧ TextsP W pa l ∧ l.length ≤ 140737488355328 ∧ ∀ s, s ∈ l → s.size ≤ 140737488351232 := by
  obtain ⟨a0, len, cap, rfl⟩ := okWide_slice Tryz.underlying35 hval
  obtain ⟨fuel, hf⟩ := h
  rcases open_strings Tryz.underlying35 Tryz.underlying9 cells_string hf with ⟨hcs, hx⟩ | ⟨a, len', cap', ss, hcs, _, hl, hm, hz, hx, hcell, _⟩
  · exact ⟨none, 0, [], by simpa [Value.cells] using hcs, TextsP.none W, by simp, by simp⟩
  · simp [Value.cells] at hcs
    obtain ⟨rfl, rfl, rfl⟩ := hcs
    simp only [Prod.mk.injEq] at hx
    obtain ⟨rfl, rfl⟩ := hx
    simp only [if_true] at hz
    have hll : (ss.take len).length = len := by rw [List.length_take]; omega
    have hr := sized_slice hsz ht hd Tryz.underlying35
    rw [bytes_string] at hr
    simp only [strs, List.length_map, List.length_take, List.length_drop, reachBytes] at hr
    refine ⟨some a, cap, ss.take len, by rw [hll], fun i s hs => ⟨a, rfl, ?_⟩, by rw [hll]; omega, fun s hs => ?_⟩
    · have hi : i < len := by
        have := (List.getElem?_eq_some_iff.1 hs).1
        omega
      rw [List.getElem?_take, if_pos hi] at hs
      have hc := hcell i (by omega)
      have e : ss.getD i ByteArray.empty = s := by rw [List.getD_eq_getElem?_getD, hs]; rfl
      rw [e] at hc
      exact ⟨hlt (.cell a.block (a.off + i)) (MemPlace.mem_row.2 ⟨i, by omega, rfl⟩), hc⟩
    · have hw := DataW.weights_mem_each (P := Tryz.prog) ht hd s.data.toList.length (by
        simp only [DataW.weights, Tryz.underlying35, List.mem_cons, List.mem_append]
        exact .inr (.inl (weights_strs _ _ s hs)))
      have := List.all_eq_true.1 hsz _ hw
      simp only [decide_eq_true_eq, reachBytes, size_list] at this
      omega
end
end Go.Proofs.YtcjdnifckngcfaaGreatDoor
end

section
namespace Go.Proofs.YtcjdnifckngcfaaGreatDoor
open Go.RowKit

/-- The cells from the address on, if there are any, are these. -/
def ValsP (w : World) (p : Option Addr) (l : List Value) : Prop := ∀ i v, l[i]? = some v → ∃ a, p = some a ∧ a.block < w.heap.size ∧ w.cell? (a.add i) = some v
theorem ValsP.ext {w w' : World} {p : Option Addr} {l : List Value} (h : ValsP w p l) (hx : Ext w w') : ValsP w' p l := fun i s hs => by
  obtain ⟨a, h1, h2, h3⟩ := h i s hs
  exact ⟨a, h1, Nat.lt_of_lt_of_le h2 hx.below.size, by rw [hx.below.cell (p := a.add i) (by rw [add_block]; exact h2)]; exact h3⟩
theorem ValsP.below {B : Nat} {w w' : World} {p : Option Addr} {l : List Value} (h : ValsP w p l) (hx : Below B w w') (hb : ∀ a, p = some a → a.block < B) : ValsP w' p l := fun i s hs => by
  obtain ⟨a, h1, h2, h3⟩ := h i s hs
  exact ⟨a, h1, Nat.lt_of_lt_of_le h2 hx.size, by rw [hx.cell (p := a.add i) (by rw [add_block]; exact hb a h1)]; exact h3⟩
theorem ValsP.none (w : World) : ValsP w none [] := fun i s hs => by simp at hs
theorem add_zero_off (g j : Nat) : (⟨g, 0, .none⟩ : Addr).add j = ⟨g, j, .none⟩ := by unfold Addr.add; split <;> simp_all
theorem Blk.vals {w : World} {g : Nat} {T : TypeId} {l : List Value} (h : Blk w g T l) : ValsP w (some ⟨g, 0, .none⟩) l := fun i v hv =>
  ⟨_, rfl, h.lt, by rw [add_zero_off]; exact h.cell i v hv⟩
theorem TextsP.vals {w : World} {p : Option Addr} {l : List ByteArray} (h : TextsP w p l) : ValsP w p (l.map Value.string) := fun i v hv => by
  rw [List.getElem?_map] at hv
  rcases hs : l[i]? with _ | s
  · rw [hs] at hv; cases hv
  · rw [hs] at hv
    cases hv
    exact h i s hs
theorem ValsP.texts {w : World} {p : Option Addr} {l : List ByteArray} (h : ValsP w p (l.map Value.string)) : TextsP w p l := fun i s hs => h i (.string s) (by rw [List.getElem?_map, hs]; rfl)
theorem ValsP.nil {w : World} {p : Option Addr} {l : List Value} (h : ValsP w p l) (hp : p = .none) : l = [] := by
  cases l with
  | nil => rfl
  | cons v r => obtain ⟨a, e, _⟩ := h 0 v rfl; rw [hp] at e; cases e
/-- append([]T{}, x...): a copy. -/
theorem run_copy {w : World} {t e ty : TypeId} {i0 : TypeInfo} {z : Value} {bytes : Nat} (ht : Tryz.prog.underlying t = some (.slice e)) (hi : Tryz.prog.info? e = some i0) (hz : i0.zero = some z) (hsize : i0.size = 1) (hby : i0.bytes = bytes) (hzs : z.cells.size = 1) (hb : bytes ≤ 16)
    (g : Nat) (hg : w.heap[g]? = some (.cells #[] e (0, 0))) (p : Option Addr) (c : Nat) (l : List Value) (hv : ValsP w p l) (h1 : ∀ u ∈ l, u.oneCell' = true) (hlen : l.length ≤ 1000000) :
    ∃ q c' w', (Builtin.append_ #[t, t] ty #[.slice (some ⟨g, 0, .none⟩) 0 0, .slice p l.length c]).run Tryz.prog w = .ok (.slice (some q) l.length c') w' ∧ ValsP w' (some q) l ∧ Below g w w' := by
  have hgl := heap_lt hg
  cases l with
  | nil =>
    have hs : Src Tryz.prog i0.size t (.slice p 0 c) 0 [] w := by
      cases p with
      | none => exact Src.ofNil w ht c
      | some a => exact Src.ofSlice w ht a 0 c [] (by simp) (fun j u hj => by simp at hj) (fun u hu => by cases hu)
    refine ⟨⟨g, 0, .none⟩, 0, w, ?_, fun j v hj => by simp at hj, Below.refl _ _⟩
    exact run_append_room_src (P := Tryz.prog) w t t ty e i0 ht hi g 0 0 0 (.slice p 0 c) 0 [] hs (by omega) (fun j hj => by simp at hj) (fun j hj => by simp at hj)
  | cons v r =>
    obtain ⟨a, rfl, ha, hc⟩ := hv 0 v rfl
    have hown : w.ownsRow g e 1 (.slice (some ⟨g, 0, .none⟩) 0 0) 0 [] := ⟨rfl, .inr ⟨g, 0, #[], rfl, Nat.le_refl _, hg, Nat.le_refl _, Nat.zero_le _, rfl, rfl⟩⟩
    have hcells : ∀ j u, (v :: r)[j]? = some u → w.cell? (a.add j) = some u := fun j u hj => by
      obtain ⟨b, e, _, hcc⟩ := hv j u hj
      cases e
      exact hcc
    obtain ⟨v', w', hr, hown', hgr, hnil⟩ := run_append_own (P := Tryz.prog) w g t ty e i0 z 1 bytes ht hi hz hsize hby hzs (by decide) _ 0 [] hown a (v :: r).length c (v :: r) (by simp) hcells h1 (by unfold maxLen; omega) (by rw [Nat.zero_add]; exact Nat.le_trans (Nat.mul_le_mul hlen hb) (by decide)) (by omega)
    rw [Nat.zero_add, List.nil_append] at hown'
    rcases hown'.2 with ⟨_, h0⟩ | ⟨g', cap, cur, rfl, hB, hg', hle, _, hsz, htk⟩
    · simp at h0
    · have hbel : Below g w w' := Below.grown (Below.refl _ _) hgr (by omega) (fun k hk => by simp [Value.ownBlock] at hk; omega)
      refine ⟨⟨g', 0, .none⟩, cap, w', hr, fun j u hj => ⟨_, rfl, heap_lt hg', ?_⟩, hbel⟩
      have hj2 : j < (v :: r).length := (List.getElem?_eq_some_iff.1 hj).1
      rw [add_zero_off, cell_of_row w' g' j cur _ (0, 0) hg', ← Array.getElem?_toList]
      have e2 : cur.toList[j]? = (v :: r)[j]? := by rw [← htk, List.getElem?_take, if_pos (by omega)]
      rw [e2, hj]
/-- The same in a walk, behind '[]T{}', whatever guards it. -/
theorem wpList_copy {w : World} {ops : Array Oper} {rest : List Oper} {o : Oper} {a : Act} {Q : Exit → Act → World → Prop} (hw : Region.wanted o (yielded ops a.tmps) = true) (s x : Operand) (t e : TypeId)
    (ho : o.op = .call { callee := .builtin .append, args := #[s, x], argTypes := #[t, t] }) {z : Value} {bytes : Nat} (ht : Tryz.prog.underlying t = some (.slice e)) (hinfo : (Tryz.prog.info? e).map (fun i => (i.zero, i.size, i.bytes)) = some (some z, 1, bytes)) (hzs : z.cells.size = 1) (hb : bytes ≤ 16)
    (g : Nat) (hs : a.eval s = .slice (some ⟨g, 0, .none⟩) 0 0) (hg : w.heap[g]? = some (.cells #[] e (0, 0))) (p : Option Addr) (n c : Nat) (l : List Value) (hn : l.length = n) (hx : a.eval x = .slice p n c) (hv : ValsP w p l) (h1 : ∀ u ∈ l, u.oneCell' = true) (hlen : n ≤ 1000000)
    (h : ∀ q c' w', ValsP w' (some q) l → Below g w w' → wpList Tryz.prog ops Q rest (a.put o.dst (.slice (some q) n c')) w') : wpList Tryz.prog ops Q (o :: rest) a w := by
  subst hn
  obtain ⟨i0, hi, hz0, hz1, hz2⟩ := info_parts hinfo
  refine wpList_step fun K hK => ?_
  rw [if_pos hw]
  obtain ⟨q, c', w', hr, h2, h3⟩ := run_copy (ty := o.type) ht hi hz0 hz1 hz2 hzs hb g hg p c l hv h1 hlen
  unfold Oper.wp execOp
  simp only [ho, resolve, invoke, builtin, Sem.run_bind, Sem.run_pure, Result.andThen_ok, List.map_toArray, List.map_cons, List.map_nil, hs, hx, hr]
  exact hK _ _ (h q c' w' h2 h3)
/-- Values, and what they are. -/
def vU (l : List Nat) : List Value := l.map fun (n : Nat) => Value.int .u64 (n : Int)
def vI (l : List Int) : List Value := l.map fun (n : Int) => Value.int .i64 n
def vS (l : List ByteArray) : List Value := l.map Value.string
def vB (l : List Bool) : List Value := l.map Value.bool
theorem oneU (l : List Nat) : ∀ u ∈ vU l, u.oneCell' = true := by unfold vU; intro u hu; obtain ⟨n, _, rfl⟩ := List.mem_map.1 hu; rfl
theorem oneI (l : List Int) : ∀ u ∈ vI l, u.oneCell' = true := by unfold vI; intro u hu; obtain ⟨n, _, rfl⟩ := List.mem_map.1 hu; rfl
theorem oneS (l : List ByteArray) : ∀ u ∈ vS l, u.oneCell' = true := by unfold vS; intro u hu; obtain ⟨n, _, rfl⟩ := List.mem_map.1 hu; rfl
theorem oneB (l : List Bool) : ∀ u ∈ vB l, u.oneCell' = true := by unfold vB; intro u hu; obtain ⟨n, _, rfl⟩ := List.mem_map.1 hu; rfl
theorem vU_length (l : List Nat) : (vU l).length = l.length := by simp [vU]
theorem vI_length (l : List Int) : (vI l).length = l.length := by simp [vI]
theorem vS_length (l : List ByteArray) : (vS l).length = l.length := by simp [vS]
theorem vB_length (l : List Bool) : (vB l).length = l.length := by simp [vB]
theorem vU_get {l : List Nat} {j n : Nat} (h : l[j]? = some n) : (vU l)[j]? = some (.int .u64 (n : Int)) := by simp [vU, h]
theorem vI_get {l : List Int} {j : Nat} {n : Int} (h : l[j]? = some n) : (vI l)[j]? = some (.int .i64 n) := by simp [vI, h]
theorem vS_get {l : List ByteArray} {j : Nat} {n : ByteArray} (h : l[j]? = some n) : (vS l)[j]? = some (.string n) := by simp [vS, h]
theorem vB_get {l : List Bool} {j : Nat} {n : Bool} (h : l[j]? = some n) : (vB l)[j]? = some (.bool n) := by simp [vB, h]
end Go.Proofs.YtcjdnifckngcfaaGreatDoor
end
