/- Contracts: a barrier, by the program: the shares of its root, in any order. Contract: a key of 32 bytes out of any text: the laws of layer 13. The first 12 bytes of any text. Contracts: what the laws of layer 15 play with: a nonce, a root out of any text; the self-test. The law's play of two barriers: what it is, behind any of its calls. A slice of texts of which one is taken out, in its own block. Plain: the ring of a barrier behind rotations; contracts: Rotate by it. Plain: a ring of which epochs were retired; contracts: Retire and Get by it. What a store into another block, or an append of texts, leaves of a barrier and of slices. -/
import Derived.Test.YtobhbppogeghnaaGreatDoorM28
import Derived.Test.YtobhbppogeghnaaGreatDoorM02
import Derived.Test.YtobhbppogeghnaaGreatDoorM18
import Derived.Test.YtobhbppogeghnaaGreatDoorM07
import Derived.Test.YtobhbppogeghnaaGreatDoorM05
import Derived.Outline
import Derived.Test.YtobhbppogeghnaaGreatDoorM41
import Derived.Test.YtobhbppogeghnaaGreatDoorM03
import Derived.Deep.RegionHeld3
import Derived.Deep.DeepCutAuto
import Derived.Test.YtobhbppogeghnaaGreatDoorM25
section
namespace Go.Proofs.YtobhbppogeghnaaGreatDoor
open Go.RowKit
attribute [local irreducible] rkey expand enc dec ctrB ctrC ctrL xorL xorAll turnL turnT kd t4 t8 env5 chk tagT sealT ringL hdT

/-- The shares of a root by their places. -/
def rowF (root : ByteArray) (l : List ByteArray) : List (Nat × ByteArray) := (allT root l).mapIdx fun i s => (i + 1, s)
theorem rowF_length (root : ByteArray) (l : List ByteArray) : (rowF root l).length = l.length + 1 := by simp [rowF, allT_length]
theorem rowF_at (root : ByteArray) (l : List ByteArray) (j : Nat) (s : ByteArray) (h : (allT root l)[j]? = some s) : (j + 1, s) ∈ rowF root l := by
  have : (rowF root l)[j]? = some (j + 1, s) := by simp [rowF, h]
  exact List.mem_of_getElem? this
theorem rowF_mem (root : ByteArray) (l : List ByteArray) {x : Nat × ByteArray} (h : x ∈ rowF root l) : 1 ≤ x.1 ∧ x.1 ≤ l.length + 1 ∧ x.2 ∈ allT root l := by
  obtain ⟨j, hj⟩ := List.getElem?_of_mem h
  have hlt : j < (allT root l).length := by
    have := (List.getElem?_eq_some_iff.1 hj).1
    simpa [rowF] using this
  simp [rowF, List.getElem?_eq_getElem hlt] at hj
  subst hj
  rw [allT_length] at hlt
  exact ⟨by simp, by simp only; omega, List.getElem_mem _⟩
theorem rowF_once (root : ByteArray) (l : List ByteArray) : (rowF root l).Pairwise (fun x y => x.1 ≠ y.1) := by
  rw [List.pairwise_iff_getElem]
  intro i j hi hj hij
  simp [rowF]
  omega
theorem splitT_row (root : ByteArray) (l : List ByteArray) : splitT root l = (rowF root l).map fun x => shareT x.1 (l.length + 1) x.2 := by
  rw [splitT_all]
  unfold sharesT rowF
  apply List.ext_getElem?
  intro i
  simp [Function.comp_def]
section
variable (w : World) (B b n : Nat) (E : ByteArray) (G : List (Nat × ByteArray)) (x : Nat × ByteArray)
theorem badd_row (g bm : Nat) (h : IsBar w B b g bm (hdT n E) none none n 32 G) (h1 : 1 ≤ x.1) (h2 : x.1 ≤ n) (h3 : x.2.size = 32) (h4 : ∀ y ∈ G, y.1 ≠ x.1) :
    Calls Tryz.prog 50 #[.pointer (some ⟨b, 0, none⟩), .string (shareT x.1 n x.2)] w fun e w' => e = .returned (.int .i64 0) ∧ IsBar w' B b g bm (hdT n E) none none n 32 (G ++ [x]) ∧ TurnP B w w' := by
  have hso : ShareOf (shareT x.1 n x.2) x.1 n := shareT_of _ _ _ h1 h2 h.gat.alike.n16 (by omega) (by omega)
  have hsz : (shareT x.1 n x.2).size - 2 = 32 := by rw [shareT_size]; omega
  refine badd_is w B b g bm n E G (G ++ [x]) h _ x.1 hso hsz 0 fun u hx => ?_
  have := add_ok u g bm n 32 G _ x.1 (h.gat.ext hx) hso hsz h4
  rw [shareT_rest] at this
  exact this
theorem unseal_row (h : IsP w B b (.closed n E G)) (h1 : 1 ≤ x.1) (h2 : x.1 ≤ n) (h3 : x.2.size = 32) (h4 : ∀ y ∈ G, y.1 ≠ x.1) (hl : G.length + 1 < n) :
    Calls Tryz.prog 21 #[.pointer (some ⟨b, 0, none⟩), .string (shareT x.1 n x.2)] w fun e w' => e = .returned (.tuple #[.bool false, .int .i64 0]) ∧ IsP w' B b (.closed n E (G ++ [x])) ∧ TurnP B w w' := by
  obtain ⟨g, bm, i⟩ := h
  exact unseal_more w B b g bm n E G (G ++ [x]) i _ (by simpa using hl) (badd_row w B b n E G x g bm i h1 h2 h3 h4)
/-- A root opens the header that it closed. -/
theorem ringIn_yes (w : World) (hL : Laid w) (r k n : Nat) (root nonce : ByteArray) (K : List (Nat × ByteArray)) (hr : IsK w r k [(1, root)]) (hG : GoodK K) (hn : n < 256) (hz : nonce.size = 12) :
    Calls Tryz.prog 92 #[.string (hdT n (envOf root n nonce K)), .pointer (some ⟨r, 0, none⟩)] w fun e w' => (∃ a k', e = .returned (.tuple #[.pointer (some ⟨a, 0, none⟩), .bool true]) ∧ IsK w' a k' K ∧ w.heap.size ≤ k') ∧ Ext w w' := by
  have hrl := ringB_le hG
  have := ringIn_is w r n (envOf root n nonce K) (ringB K) hn (fun a u w' => ∃ a' k', a = some ⟨a', 0, none⟩ ∧ IsK w' a' k' K ∧ u.heap.size ≤ k') 0
    (fun u hx => open_sealed u r k _ (hL.ext hx) (hr.ext hx) 1 root (by simp) pathB n nonce (ringB K) hz (by decide) (by omega))
    (fun u => (read_yes u K hG).mono fun e w' he => by
      obtain ⟨a, k', h1, h2, _, h4, h5⟩ := he
      exact ⟨⟨some ⟨a, 0, none⟩, h1, a, k', rfl, h2, h4⟩, h5⟩)
  refine this.mono fun e w' he => ?_
  obtain ⟨⟨a, u, h1, ⟨a', k', rfl, h2, h3⟩, h4⟩, h5⟩ := he
  exact ⟨⟨a', k', h1, h2, Nat.le_trans h4.size h3⟩, h5⟩
theorem unseal_last (hB2 : 2 ≤ B) (hL : Laid w) (root nonce : ByteArray) (K : List (Nat × ByteArray)) (l : List ByteArray) (hE : E = envOf root n nonce K) (hG : GoodK K) (hz : nonce.size = 12) (hr : root.size = 32) (hls : ∀ s ∈ l, s.size = root.size) (hln : l.length + 1 = n)
    (h : IsP w B b (.closed n E G)) (hp : ([x] ++ G).Perm (rowF root l)) :
    Calls Tryz.prog 21 #[.pointer (some ⟨b, 0, none⟩), .string (shareT x.1 n x.2)] w fun e w' => e = .returned (.tuple #[.bool true, .int .i64 0]) ∧ IsP w' B b (.opened n E root K) ∧ TurnP B w w' := by
  obtain ⟨g, bm, i⟩ := h
  have n16 := i.gat.alike.n16
  have hx : x ∈ rowF root l := hp.subset (by simp)
  have hm := rowF_mem root l hx
  have hxs := allT_size root l hls x.2 hm.2.2
  have honce : ([x] ++ G).Pairwise (fun x y => x.1 ≠ y.1) := hp.symm.pairwise (rowF_once root l) (fun h => Ne.symm h)
  have h4 : ∀ y ∈ G, y.1 ≠ x.1 := fun y hy => Ne.symm ((List.pairwise_cons.1 honce).1 y hy)
  have hlen : (G ++ [x]).length = n := by have := hp.length_eq; rw [rowF_length] at this; simp at this ⊢; omega
  have hmem : ∀ (j : Nat) (s : ByteArray), (allT root l)[j]? = some s → (j + 1, s) ∈ G ++ [x] := fun j s hj => by
    have := hp.symm.subset (rowF_at root l j s hj)
    simp at this ⊢
    rcases this with h | h
    · exact .inr h
    · exact .inl h
  have hsec : ∀ u, IsG u g bm n 32 (G ++ [x]) → Calls Tryz.prog 51 #[.pointer (some ⟨g, 0, none⟩)] u fun e u' => e = .returned (.tuple #[.string root, .bool true]) ∧ Ext u u' := fun u hu => by
    cases hS : allT root l with
    | nil => have := allT_length root l; rw [hS] at this; simp at this
    | cons s0 St =>
      have h0 := allT_length root l
      rw [hS] at h0
      have hh := secret_yes u g bm n 32 _ hu hlen s0 St (by simp at h0; omega) (fun j s hj => hmem j s (by rw [hS]; exact hj))
      have e := allT_secret root l hls s0 St hS
      rw [e, string_of] at hh
      exact hh
  refine unseal_all w B b g bm n E root G (G ++ [x]) i _ true 0 (.opened n E root K) (badd_row w B b n E G x g bm i hm.1 (by omega) (by omega) h4) hsec fun u t iu => ?_
  subst hE
  exact openBy_yes u B b g bm n _ root K iu hr fun v r k hv hk => ringIn_yes v ((hL.turnP t hB2).ext hv) r k n root nonce K hk hG (by omega) hz
end
end Go.Proofs.YtobhbppogeghnaaGreatDoor
end

section
namespace Go.Proofs.YtobhbppogeghnaaGreatDoor
open Go.RowKit

/-- The first 32 bytes, with bytes 0 behind. -/
def f32L (s : ByteArray) : List UInt8 := (s.data.toList ++ List.replicate 32 0).take 32
theorem f32L_length (s : ByteArray) : (f32L s).length = 32 := by unfold f32L; rw [List.length_take, List.length_append, List.length_replicate]; omega
def f32B (s : ByteArray) : ByteArray := ⟨(f32L s).toArray⟩
theorem f32B_size (s : ByteArray) : (f32B s).size = 32 := by unfold f32B; rw [txt_size, f32L_length]
theorem make32 (u : World) : (Instr.makeSlice 43 (.int .i64 32) (.int .i64 32)).run Tryz.prog u = .ok (.slice (some ⟨u.heap.size, 0, none⟩) 32 32) (u.alloc (.cells (zc 32) 5)) := by
  have h := make_bytes 32 (by decide) u
  have e : madeCells #[Value.int .u8 0] 32 = zc 32 := by kernel_rfl
  rw [e] at h
  exact h
theorem fullK_any (s : ByteArray) (w : World) : Calls Tryz.prog 12 #[.string s] w fun e w' => e = .returned (.string (f32B s)) ∧ Ext w w' := by
  unfold f32B
  have hmk := make32
  have hr0 := Row.zero w 5 32
  obtain ⟨k, hk⟩ : ∃ k, k = min s.size 32 := ⟨_, rfl⟩
  have hcp := fun ty => run_copy_text (w.alloc (.cells (zc 32) 5)) ty w.heap.size 0 32 32 s _ 5 hr0.blk (by simp) k hk
  have e : ((List.replicate 32 (0 : UInt8)).map cellOf).take 0 ++ (s.data.toList.take k).map cellOf ++ ((List.replicate 32 (0 : UInt8)).map cellOf).drop (0 + k) = (f32L s).map cellOf := by
    rw [List.take_zero, List.nil_append, ← List.map_drop, ← List.map_append]
    congr 1
    unfold f32L
    rw [List.drop_replicate, List.take_append, size_list, List.take_replicate]
    congr 1
    · rcases Nat.le_total s.size 32 with h | h
      · rw [List.take_of_length_le (by rw [size_list]; omega), List.take_of_length_le (by rw [size_list]; omega)]
      · rw [show k = 32 by omega]
    · congr 1; omega
  rw [e] at hcp
  have hr1 : Row ((w.alloc (.cells (zc 32) 5)).setRow w.heap.size ((f32L s).map cellOf).toArray) w.heap.size 5 (f32L s) := setRow_heap _ _ _ _ _ _ hr0
  have ht := hr1.text (P := Tryz.prog) 43 5 9 Tryz.underlying43 Tryz.underlying5 Tryz.underlying9 32 32 (f32L_length s)
  have hx : Ext w ((w.alloc (.cells (zc 32) 5)).setRow w.heap.size ((f32L s).map cellOf).toArray) := ((Ext.refl w).alloc _).setRow (Nat.le_refl _) _
  have HX := Lib.hid hx
  clear hr0 hr1 e hk hx
  go_enter Tryz.func12, Tryz.ntmps12
  go_wp2
  go_ret
  exact ⟨rfl, HX.out⟩
end Go.Proofs.YtobhbppogeghnaaGreatDoor
end

section
namespace Go.Proofs.YtobhbppogeghnaaGreatDoor
open Go.RowKit

/-- The first 12 bytes, with bytes 0 behind. -/
def f12L (s : ByteArray) : List UInt8 := (s.data.toList ++ List.replicate 12 0).take 12
theorem f12L_length (s : ByteArray) : (f12L s).length = 12 := by unfold f12L; rw [List.length_take, List.length_append, List.length_replicate]; omega
def f12B (s : ByteArray) : ByteArray := ⟨(f12L s).toArray⟩
theorem f12B_size (s : ByteArray) : (f12B s).size = 12 := by unfold f12B; rw [txt_size, f12L_length]
theorem make12 (u : World) : (Instr.makeSlice 43 (.int .i64 12) (.int .i64 12)).run Tryz.prog u = .ok (.slice (some ⟨u.heap.size, 0, none⟩) 12 12) (u.alloc (.cells (zc 12) 5)) := by
  have h := make_bytes 12 (by decide) u
  have e : madeCells #[Value.int .u8 0] 12 = zc 12 := by kernel_rfl
  rw [e] at h
  exact h
end Go.Proofs.YtobhbppogeghnaaGreatDoor
end

section
namespace Go.Proofs.YtobhbppogeghnaaGreatDoor
open Go.RowKit
attribute [local irreducible] rkey expand enc dec ctrB ctrC ctrL xorL xorAll turnL turnT kd t4 t8 env5 chk tagT sealT ringL hdT envOf f32B

theorem nonce15_fit (s : ByteArray) (w : World) : Calls Tryz.prog 14 #[.string s, .bool true] w fun e w' => e = .returned (.string (f12B s)) ∧ Ext w w' := by
  unfold f12B
  have hmk := make12
  have hr0 := Row.zero w 5 12
  obtain ⟨k, hk⟩ : ∃ k, k = min s.size 12 := ⟨_, rfl⟩
  have hcp := fun ty => run_copy_text (w.alloc (.cells (zc 12) 5)) ty w.heap.size 0 12 12 s _ 5 hr0.blk (by simp) k hk
  have e : ((List.replicate 12 (0 : UInt8)).map cellOf).take 0 ++ (s.data.toList.take k).map cellOf ++ ((List.replicate 12 (0 : UInt8)).map cellOf).drop (0 + k) = (f12L s).map cellOf := by
    rw [List.take_zero, List.nil_append, ← List.map_drop, ← List.map_append]
    congr 1
    unfold f12L
    rw [List.drop_replicate, List.take_append, size_list, List.take_replicate]
    congr 1
    · rcases Nat.le_total s.size 12 with h | h
      · rw [List.take_of_length_le (by rw [size_list]; omega), List.take_of_length_le (by rw [size_list]; omega)]
      · rw [show k = 12 by omega]
    · congr 1; omega
  rw [e] at hcp
  have hr1 : Row ((w.alloc (.cells (zc 12) 5)).setRow w.heap.size ((f12L s).map cellOf).toArray) w.heap.size 5 (f12L s) := setRow_heap _ _ _ _ _ _ hr0
  have ht := hr1.text (P := Tryz.prog) 43 5 9 Tryz.underlying43 Tryz.underlying5 Tryz.underlying9 12 12 (f12L_length s)
  have hx : Ext w ((w.alloc (.cells (zc 12) 5)).setRow w.heap.size ((f12L s).map cellOf).toArray) := ((Ext.refl w).alloc _).setRow (Nat.le_refl _) _
  have HX := Lib.hid hx
  clear hr0 hr1 e hk hx
  go_enter Tryz.func14, Tryz.ntmps14
  go_wp2
  go_ret
  exact ⟨rfl, HX.out⟩
theorem nonce15_any (s : ByteArray) (w : World) : Calls Tryz.prog 14 #[.string s, .bool false] w fun e w' => e = .returned (.string s) ∧ Ext w w' := by
  go_enter Tryz.func14, Tryz.ntmps14
  go_wp2
  go_ret
  exact ⟨rfl, Ext.refl _⟩
/-- The text, or as much of it as fits. -/
def n15 (fit : Bool) (s : ByteArray) : ByteArray := if fit then f12B s else s
theorem nonce15 (fit : Bool) (s : ByteArray) (w : World) : Calls Tryz.prog 14 #[.string s, .bool fit] w fun e w' => e = .returned (.string (n15 fit s)) ∧ Ext w w' := by
  cases fit
  · exact nonce15_any s w
  · exact nonce15_fit s w
def r15 (fit : Bool) (s : ByteArray) : ByteArray := if fit then f32B s else s
theorem root15 (fit : Bool) (s : ByteArray) (w : World) : Calls Tryz.prog 32 #[.string s, .bool fit] w fun e w' => e = .returned (.string (r15 fit s)) ∧ Ext w w' := by
  have HF := Lib.hid (fullK_any s w)
  cases fit
  · unfold r15
    go_enter Tryz.func32, Tryz.ntmps32
    go_wp2
    go_ret
    exact ⟨rfl, Ext.refl _⟩
  · unfold r15
    go_enter Tryz.func32, Tryz.ntmps32
    go_wp2_with (go_at_call 12; refine (HF.out).mono ?_; rintro e w1 ⟨rfl, x1⟩)
    go_ret
    exact ⟨by simp, x1⟩
theorem text_one (w : World) (s : ByteArray) : TextsP (w.alloc (.cells #[.string s] 9)) (some ⟨w.heap.size, 0, none⟩) [s] := fun i t ht => ⟨_, rfl, texts_lit w [s] 9 i t ht⟩
/-- A text of a slice that grew. -/
theorem BufS.text {w : World} {A : Nat} {q : Option Addr} {n c : Nat} {l : List ByteArray} (h : BufS w A (.slice q n c) l) {i : Nat} {s : ByteArray} (hs : l[i]? = some s) : ∃ g, q = some ⟨g, 0, none⟩ ∧ w.cell? ⟨g, i, none⟩ = some (.string s) := by
  obtain ⟨g, c', e, _, hc⟩ := h.sl (by intro e; rw [e] at hs; cases hs)
  cases e
  exact ⟨g, rfl, hc i s hs⟩
/-- What is put is the envelope by the newest key. -/
theorem put_is (w : World) (hL : Laid w) (B b n : Nat) (E root s : ByteArray) (K : List (Nat × ByteArray)) (h : IsP w B b (.opened n E root K)) (t : Nat) (ht : top (eps K) = t) (hm : (t, s) ∈ K) (path : ByteArray) (v : Nat) (nonce text : ByteArray) (hz : nonce.size = 12) (hp : path.size ≤ 1048576) (hx : text.size ≤ 1048576) :
    Calls Tryz.prog 15 #[.pointer (some ⟨b, 0, none⟩), .string path, .int .u64 (v : Int), .string nonce, .string text] w fun e w' => e = .returned (.tuple #[.string (sealT s t path v nonce text), .int .i64 0]) ∧ Ext w w' := by
  refine put_open w B b n E root K h path v nonce text _ 0 fun r k hk => ?_
  have := close_yes w r k K hL hk s (by rw [ht]; exact hm) path v nonce text hz hp hx
  rw [ht] at this
  exact this
/-- What was put is got. -/
theorem get_is (w : World) (hL : Laid w) (B b n : Nat) (E root s : ByteArray) (K : List (Nat × ByteArray)) (h : IsP w B b (.opened n E root K)) (t : Nat) (hm : (t, s) ∈ K) (path : ByteArray) (v : Nat) (nonce text : ByteArray) (hz : nonce.size = 12) (hp : path.size ≤ 1048576) (hx : text.size ≤ 1048576) :
    Calls Tryz.prog 20 #[.pointer (some ⟨b, 0, none⟩), .string path, .int .u64 (v : Int), .string (sealT s t path v nonce text)] w fun e w' => e = .returned (.tuple #[.string text, .int .i64 0]) ∧ Ext w w' :=
  get_open w B b n E root K h path v _ text 0 fun r k hk => open_sealed w r k K hL hk t s hm path v nonce text hz hp hx
set_option maxRecDepth 100000 in
set_option maxHeartbeats 4000000 in
theorem works15 (w : World) (hL : Laid w) : Calls Tryz.prog 8 #[] w fun e w' => e = .returned (.bool true) ∧ Ext w w' := by
  have HF1 := Lib.hid (fun u => fullK_any ⟨#[114]⟩ u)
  have HF2 := Lib.hid (fun u => fullK_any ⟨#[107]⟩ u)
  have HF3 := Lib.hid (fun u => fullK_any ⟨#[120]⟩ u)
  have HN1 := Lib.hid (fun u => nonce15_fit ⟨#[110]⟩ u)
  have HN2 := Lib.hid (fun u => nonce15_fit ⟨#[109]⟩ u)
  have z1 := f32B_size ⟨#[114]⟩
  have z2 := f32B_size ⟨#[107]⟩
  have z3 := f32B_size ⟨#[120]⟩
  have y1 := f12B_size ⟨#[110]⟩
  have y2 := f12B_size ⟨#[109]⟩
  generalize f32B ⟨#[114]⟩ = R at *
  generalize f32B ⟨#[107]⟩ = K at *
  generalize f32B ⟨#[120]⟩ = X at *
  generalize f12B ⟨#[110]⟩ = N at *
  generalize f12B ⟨#[109]⟩ = M at *
  have hB2 := hL.size
  have HLd := Lib.hid (fun u (x : Ext w u) => hL.ext x)
  have HNw := Lib.hid (fun u => bnew_any u)
  have hlX : ∀ s ∈ [X], s.size = R.size := by intro s hs; simp at hs; subst hs; omega
  obtain ⟨E, hE⟩ : ∃ E, envOf R 2 N [(1, K)] = E := ⟨_, rfl⟩
  have HB := Lib.hid (fun u b p c (x : Ext w u) (hu : IsP u w.heap.size b .none) (ht : TextsP u p [X]) => by
    have := begin_yes u w.heap.size b hB2 (hL.ext x) hu R K N p c [X] z1 z2 y1 (by simp) ht hlX
    simp only [List.length_cons, List.length_nil, Nat.zero_add, Nat.reduceAdd, hE] at this
    exact this)
  have hg1 : GoodK [(1, K)] := GoodK.one K z2
  obtain ⟨V, hV⟩ : ∃ V, sealT K 1 ⟨#[97]⟩ 1 M ⟨#[116, 101, 120, 116]⟩ = V := ⟨_, rfl⟩
  have HP := Lib.hid (fun u b (x : Ext w u) (hu : IsP u w.heap.size b (.opened 2 E R [(1, K)])) => by
    have := put_is u (hL.ext x) w.heap.size b 2 E R K [(1, K)] hu 1 (top_one1 K) (by simp) ⟨#[97]⟩ 1 M ⟨#[116, 101, 120, 116]⟩ y2 (by decide) (by decide)
    rw [hV] at this
    exact this)
  have HS := Lib.hid (fun u b (hu : IsP u w.heap.size b (.opened 2 E R [(1, K)])) => seal_yes u w.heap.size b 2 E R [(1, K)] hu)
  have HG0 := Lib.hid (fun u b (hu : IsP u w.heap.size b (.closed 2 E [])) => get_shut u w.heap.size b _ hu (by simp [stN]) ⟨#[97]⟩ 1 V)
  have hm0 : mayE (.closed 2 E []) = 150 := rfl
  rw [hm0] at HG0
  have hrow : rowF R [X] = [(1, X), (2, lastT R [X])] := by simp [rowF, allT]
  have hsp : splitT R [X] = [shareT 1 2 X, shareT 2 2 (lastT R [X])] := by rw [splitT_row, hrow]; rfl
  have zl := lastT_size R [X] hlX
  generalize lastT R [X] = T at *
  have HU1 := Lib.hid (fun u b (hu : IsP u w.heap.size b (.closed 2 E [])) => unseal_row u w.heap.size b 2 E [] (2, T) hu (by simp) (by simp) (by simp only; omega) (by simp) (by simp))
  have HU2 := Lib.hid (fun u b (x : Ext w u) (hu : IsP u w.heap.size b (.closed 2 E [(2, T)])) => unseal_last u w.heap.size b 2 E [(2, T)] (1, X) hB2 (hL.ext x) R N [(1, K)] [X] hE.symm hg1 y1 z1 hlX (by simp) hu (by rw [hrow]; exact .refl _))
  have HG1 := Lib.hid (fun u b (x : Ext w u) (hu : IsP u w.heap.size b (.opened 2 E R [(1, K)])) => by
    have := get_is u (hL.ext x) w.heap.size b 2 E R K [(1, K)] hu 1 (by simp) ⟨#[97]⟩ 1 M ⟨#[116, 101, 120, 116]⟩ y2 (by decide) (by decide)
    rw [hV] at this
    exact this)
  have HSt := Lib.hid (fun u b (hu : IsP u w.heap.size b (.opened 2 E R [(1, K)])) => bstate_any u w.heap.size b _ hu)
  have hst : (stN (.opened 2 E R [(1, K)]) : Int) = 2 := rfl
  simp only [hst] at HSt
  have HSP := Lib.hid hsp
  clear hL hV hE hg1 hm0 hrow hsp hst hlX z1 z2 z3 y1 y2 zl
  go_enter Tryz.func8, Tryz.ntmps8
  go_wp2_with (first
    | (go_at_call 9; refine (HNw.out _).mono ?_; rintro e w1 ⟨b, rfl, i1, x1⟩; have I := Lib.hid i1; have XX := x1; clear i1 x1)
    | (go_at_call 12; (with_reducible refine (HF1.out _).mono ?_); rintro e w1 ⟨rfl, x1⟩; replace I := Lib.hid (I.out.ext x1); replace XX := XX.trans x1)
    | (go_at_call 12; (with_reducible refine (HF2.out _).mono ?_); rintro e w1 ⟨rfl, x1⟩; replace I := Lib.hid (I.out.ext x1); replace XX := XX.trans x1)
    | (go_at_call 12; (with_reducible refine (HF3.out _).mono ?_); rintro e w1 ⟨rfl, x1⟩; replace I := Lib.hid (I.out.ext x1); replace XX := XX.trans x1; have A1 := (Ext.refl w1).alloc (.cells #[.string X] 9); have TX := text_one w1 X)
    | (go_at_call 14; (with_reducible refine (HN1.out _).mono ?_); rintro e w1 ⟨rfl, x1⟩; replace I := Lib.hid (I.out.ext x1); replace XX := XX.trans x1)
    | (go_at_call 14; (with_reducible refine (HN2.out _).mono ?_); rintro e w1 ⟨rfl, x1⟩; replace I := Lib.hid (I.out.ext x1); replace XX := XX.trans x1; replace SH := Lib.hid (SH.out.ext x1))
    | (go_at_call 13; refine (HB.out _ _ _ _ (XX.trans A1) (I.out.ext A1) TX).mono ?_; rintro e w2 ⟨⟨q, c', rfl, b2⟩, i2, t2⟩; replace I := Lib.hid i2; replace XX := (XX.trans A1).turnedB t2; have SH := Lib.hid b2; clear i2 t2 b2 A1 TX)
    | (go_at_call 15; refine (HP.out _ _ XX I.out).mono ?_; rintro e w3 ⟨rfl, x3⟩; replace I := Lib.hid (I.out.ext x3); replace XX := XX.trans x3; replace SH := Lib.hid (SH.out.ext x3))
    | (go_at_call 18; refine (HS.out _ _ I.out).mono ?_; rintro e w4 ⟨rfl, i4, t4⟩; replace I := Lib.hid i4; replace XX := XX.turnedB t4; replace SH := Lib.hid (SH.out.turnP t4); clear i4 t4)
    | (go_at_call 20; refine (HG0.out _ _ I.out).mono ?_; rintro e w5 ⟨rfl, rfl⟩; have SB := SH.out; rw [HSP.out] at SB; obtain ⟨ga, ea, ca⟩ := SB.text (i := 1) rfl; subst ea)
    | (go_at_call 21; (with_reducible refine (HU1.out _ _ I.out).mono ?_); rintro e w6 ⟨rfl, i6, t6⟩; replace I := Lib.hid i6; replace XX := XX.turnedB t6; replace SH := Lib.hid (SH.out.turnP t6); have SB := SH.out; rw [HSP.out] at SB; obtain ⟨gb, eb, cb⟩ := SB.text (i := 0) rfl; cases eb; clear i6 t6)
    | (go_at_call 21; (with_reducible refine (HU2.out _ _ XX I.out).mono ?_); rintro e w7 ⟨rfl, i7, t7⟩; replace I := Lib.hid i7; replace XX := XX.turnedB t7; clear i7 t7)
    | (go_at_call 20; refine (HG1.out _ _ XX I.out).mono ?_; rintro e w8 ⟨rfl, x8⟩; replace I := Lib.hid (I.out.ext x8); replace XX := XX.trans x8)
    | (go_at_call 24; refine (HSt.out _ _ I.out).mono ?_; rintro e w9 ⟨rfl, rfl⟩))
  go_ret
  exact ⟨rfl, XX⟩
end Go.Proofs.YtobhbppogeghnaaGreatDoor
end

section
namespace Go.Proofs.YtobhbppogeghnaaGreatDoor
open Go.RowKit
attribute [local irreducible] rkey expand enc dec ctrB ctrC ctrL xorL xorAll turnL turnT kd t4 t8 env5 chk tagT sealT ringL hdT envOf hdOf

/-- Neither side's blocks. -/
def Not2 (o : Obj) : Prop := NotB o ∧ NotQ o
/-- Only both sides' blocks were written, none below B. -/
structure Turn2 (B : Nat) (w w' : World) : Prop where
  below : Below B w w'
  size : w.heap.size ≤ w'.heap.size
  keep : ∀ (g : Nat) (o : Obj), w.heap[g]? = some o → Not2 o → w'.heap[g]? = some o
section
variable {B : Nat} {v w w' w'' : World}
theorem Turn2.trans (h : Turn2 B w w') (k : Turn2 B w' w'') : Turn2 B w w'' := ⟨h.below.trans k.below, Nat.le_trans h.size k.size, fun g o hg hn => k.keep g o (h.keep g o hg hn) hn⟩
theorem Ext.turn2 (h : Ext w w') (hB : B ≤ w.heap.size) : Turn2 B w w' := ⟨Below.mono h hB, h.size, fun g _ hg _ => (h.block g (heap_lt hg)).trans hg⟩
theorem TurnP.turn2 (h : TurnP B w w') : Turn2 B w w' := ⟨h.below, h.size, fun g o hg hn => h.keep g o hg hn.1⟩
theorem TurnQ.turn2 (h : TurnQ B w w') : Turn2 B w w' := ⟨h.below, h.size, fun g o hg hn => h.keep g o hg hn.2⟩
theorem Ext.turned2 (hv : Ext v w) (t : Turn2 v.heap.size w w') : Ext v w' := hv.trans3 t.below
theorem not2_cells {cs : Array Value} {T : TypeId} {fr : Nat × Nat} (h1 : T ≠ 73) (h2 : T ≠ 34) (h3 : T ≠ 100) (h4 : T ≠ 77) (h5 : T ≠ 79) : Not2 (.cells cs T fr) :=
  ⟨⟨fun _ _ e => h1 (by cases e; rfl), fun _ _ e => by cases e⟩, fun _ _ e => h2 (by cases e; rfl), fun _ _ e => h3 (by cases e; rfl), fun _ _ e => h4 (by cases e; rfl), fun _ _ e => h5 (by cases e; rfl)⟩
theorem Turn2.blk {b : Nat} {T : TypeId} {cs : List Value} (t : Turn2 B w w') (h : Blk w b T cs) (h1 : T ≠ 73) (h2 : T ≠ 34) (h3 : T ≠ 100) (h4 : T ≠ 77) (h5 : T ≠ 79) : Blk w' b T cs :=
  t.keep _ _ h (not2_cells h1 h2 h3 h4 h5)
theorem BufS.turn2 {A : Nat} {x : Value} {l : List ByteArray} (h : BufS w A x l) (t : Turn2 B w w') : BufS w' A x l := by
  refine ⟨h.1, ?_⟩
  rcases h.2 with h0 | ⟨g, cap, cur, e1, e2, e3, e4⟩
  · exact .inl h0
  · exact .inr ⟨g, cap, cur, e1, e2, t.keep _ _ e3 (not2_cells (by decide) (by decide) (by decide) (by decide) (by decide)), e4⟩
end
/-- The play's own block. -/
def PlayBlk (w : World) (pb b d : Nat) (sh : Value) (hd pt : ByteArray) (n : Nat) : Prop := Blk w pb 38 [.pointer (some ⟨b, 0, none⟩), .pointer (some ⟨d, 0, none⟩), sh, .string hd, .string pt, .int .u64 (n : Int)]
theorem PlayBlk.turn2 {B : Nat} {w w' : World} {pb b d : Nat} {sh : Value} {hd pt : ByteArray} {n : Nat} (h : PlayBlk w pb b d sh hd pt n) (t : Turn2 B w w') : PlayBlk w' pb b d sh hd pt n := Turn2.blk t h (by decide) (by decide) (by decide) (by decide) (by decide)
/-- Both barriers in one state. -/
structure Duo (B : Nat) (w : World) (b d : Nat) (S : BS) : Prop where
  p : IsP w B b S
  q : IsQ w B d S
  ok : OkS S
theorem Duo.ext {B b d : Nat} {S : BS} {w w' : World} (h : Duo B w b d S) (x : Ext w w') : Duo B w' b d S := ⟨h.p.ext x, h.q.ext x, h.ok⟩
theorem Duo.alike {B b d : Nat} {S : BS} {w : World} (h : Duo B w b d S) : ∀ n E L, S = .closed n E L → Alike n 32 L := fun n E L e => by
  subst e
  obtain ⟨v, i, _⟩ := h.q
  exact i.alike
/-- The play. -/
def Sit (w0 w : World) (pb : Nat) : Prop := ∃ b d S sh T hd pt n, PlayBlk w pb b d sh hd pt n ∧ Duo w0.heap.size w b d S ∧ BufS w w0.heap.size sh T ∧ T.length ≤ 5 ∧ hd.size ≤ 140737488351233 ∧ n < 18446744073709551616 ∧ Ext w0 w ∧ w0.heap.size ≤ pb
end Go.Proofs.YtobhbppogeghnaaGreatDoor
end

section
namespace Go.Proofs.YtobhbppogeghnaaGreatDoor
open Go.RowKit

/-- A slice of these texts, in a block of its own; that does not lie below B. -/
structure IsL (w : World) (B : Nat) (p : Option Addr) (c : Nat) (l : List ByteArray) : Prop where
  sl : Sl w (kp p) 1 1 9 p l.length c (l.map Value.string)
  low : ∀ g, p = some ⟨g, 0, none⟩ → B ≤ g
/-- All but texts' blocks were kept. -/
structure KeepS (B : Nat) (w w' : World) : Prop where
  below : Below B w w'
  keep : ∀ (g : Nat) (o : Obj), w.heap[g]? = some o → (∀ cur fr, o ≠ .cells cur 9 fr) → w'.heap[g]? = some o
section
variable {w w' : World} {B : Nat} {p : Option Addr} {c : Nat} {l : List ByteArray}
theorem IsL.ext (h : IsL w B p c l) (x : Ext w w') : IsL w' B p c l := ⟨h.sl.ext x, h.low⟩
theorem IsL.turnP {A : Nat} (h : IsL w B p c l) (t : TurnP A w w') : IsL w' B p c l := by
  refine ⟨⟨h.sl.1, h.sl.2.1, h.sl.2.2.1, fun hc => ?_⟩, h.low⟩
  obtain ⟨g, cur, h1, h2, h3, h4⟩ := h.sl.2.2.2 hc
  exact ⟨g, cur, h1, h2, t.keep _ _ h3 ⟨fun _ _ e => (by cases e), fun _ _ e => (by cases e)⟩, h4⟩
theorem IsL.at_ (h : IsL w B p c l) {i : Nat} {s : ByteArray} (hs : l[i]? = some s) : ∃ g, p = some ⟨g, 0, none⟩ ∧ w.cell? ⟨g, i, none⟩ = some (.string s) := by
  obtain ⟨g, h1, _, _, h4, _⟩ := h.sl.cell (j := i) (u := .string s) (by simp [hs])
  exact ⟨g, h1, h4⟩
theorem keep_of_fr {κ' : Foot} {n : Nat} {vs : List Value} (hs : Sl w (kp p) 1 1 9 p n c vs) (hl : ∀ g, p = some ⟨g, 0, none⟩ → B ≤ g) (hB : B ≤ w.heap.size) (f : Fr (kp p) (fun j => j = 1) w w' κ') (hx : c = 0 → Ext w w') : KeepS B w w' := by
  refine ⟨f.below (by decide) (fun g hg => ?_) hB, fun g o ho hn => ?_⟩
  · unfold kp
    rw [if_neg fun e => by have := hl g e; omega]
  · by_cases hc : c = 0
    · exact ((hx hc).block g (heap_lt ho)).trans ho
    · obtain ⟨g', cur, e1, _, h3, _⟩ := hs.2.2.2 (by omega)
      by_cases e : g = g'
      · subst e
        rw [h3] at ho
        cases ho
        exact absurd rfl (hn _ _)
      · refine (f.other g (heap_lt ho) fun q => ?_).trans ho
        have := kp_one q
        rw [e1] at this
        cases this
        exact e rfl
theorem Ext.keptS {v : World} (hv : Ext v w) (k : KeepS v.heap.size w w') : Ext v w' := hv.trans3 k.below
end
/-- One text more. -/
theorem left_more {w u w' : World} {B n c c' : Nat} {p p' : Option Addr} {κ' : Foot} {l : List ByteArray} {t : ByteArray} (h : IsL w B p c l) (hB : B ≤ w.heap.size) (hn : l.length = n) (x : Ext w u)
    (s : Sl w' κ' 1 1 9 p' (n + 1) c' (l.map Value.string ++ [.string t])) (f : Fr (kp p) (fun j => j = 1) u w' κ') (e : p' = p ∨ p' = some ⟨u.heap.size, 0, none⟩) (hx : c = 0 → Ext u w') :
    IsL w' B p' c' (l ++ [t]) ∧ KeepS B u w' := by
  refine ⟨⟨?_, fun q hq => ?_⟩, keep_of_fr (h.ext x).sl h.low (Nat.le_trans hB x.size) f hx⟩
  · have := s.kp
    rw [show l.map Value.string ++ [.string t] = (l ++ [t]).map Value.string by simp] at this
    rw [show (l ++ [t]).length = n + 1 by simp [hn]]
    exact this
  · rcases e with e | e
    · rw [e] at hq; exact h.low _ hq
    · rw [e] at hq; cases hq; exact Nat.le_trans hB x.size
theorem IsL.slN {w : World} {B c n : Nat} {p : Option Addr} {l : List ByteArray} (h : IsL w B p c l) (hn : l.length = n) : Sl w (kp p) 1 1 9 p n c (l.map Value.string) := by rw [← hn]; exact h.sl
theorem IsL.nil (w : World) (B : Nat) : IsL w B none 0 [] := ⟨Sl.nil _ _ _ _ _, fun _ h => by cases h⟩
theorem IsL.textsP {w : World} {B c : Nat} {p : Option Addr} {l : List ByteArray} (h : IsL w B p c l) : TextsP w p l := fun i s hs => by
  obtain ⟨g, h1, h2, _, h4, _⟩ := h.sl.cell (j := i) (u := .string s) (by simp [hs])
  refine ⟨_, h1, h2, ?_⟩
  rw [Addr.add_mid, Nat.zero_add]
  exact h4
/-- One text, as what is appended. -/
theorem src_one (w : World) (g : Nat) (s : ByteArray) (h : w.cell? ⟨g, 0, none⟩ = some (.string s)) : Src Tryz.prog 1 35 (.slice (some ⟨g, 0, none⟩) 1 1) 1 [.string s] w := by
  refine Src.ofSlice w Tryz.underlying35 ⟨g, 0, none⟩ 1 1 _ (by simp) (fun j v hj => ?_) (fun u hu => by simp at hu; subst hu; rfl)
  match j, hj with
  | 0, hj => simp at hj; subst hj; rw [Addr.add_mid, Nat.zero_add]; exact h
  | n + 1, hj => simp at hj
end Go.Proofs.YtobhbppogeghnaaGreatDoor
end

section
namespace Go.Proofs.YtobhbppogeghnaaGreatDoor
open Go.RowKit

/-- The ring: of the first key, then of these. -/
def ringG (k0 : ByteArray) (K : List ByteArray) : Nat → List (Nat × ByteArray)
  | 0 => [(1, k0)]
  | i + 1 => ringG k0 K i ++ [(i + 2, f32B (K.getD i ⟨#[]⟩))]
/-- The newest key. -/
def lastG (k0 : ByteArray) (K : List ByteArray) : Nat → ByteArray
  | 0 => k0
  | i + 1 => f32B (K.getD i ⟨#[]⟩)
/-- The nonce of the header. -/
def nonceG (n0 : ByteArray) (K : List ByteArray) : Nat → ByteArray
  | 0 => n0
  | i + 1 => f12B (K.getD i ⟨#[]⟩)
/-- The texts of a law's shares: of a text and a number. -/
def textsN (s : ByteArray) (m : Nat) : List ByteArray := (List.range m).map fun i => f32B (s ++ ⟨#[UInt8.ofNat i]⟩)
end Go.Proofs.YtobhbppogeghnaaGreatDoor
end

section
namespace Go.Proofs.YtobhbppogeghnaaGreatDoor
open Go.RowKit
attribute [local irreducible] rkey expand enc dec ctrB ctrC ctrL xorL xorAll turnL turnT kd t4 t8 env5 chk tagT sealT ringL hdT envOf f32B f12B lastG

/-- What is left of the ring: of which it is said that it is there. -/
def ringD (R : List (Nat × ByteArray)) (D : List Bool) : List (Nat × ByteArray) := R.filter fun x => D.getD (x.1 - 1) false
/-- What Retire says of an epoch. -/
def retC (n : Nat) (D : List Bool) (k : Nat) : Int := if k = n then 2 else if D.getD k false = false then 3 else 0
def retD (n : Nat) (D : List Bool) (k : Nat) : List Bool := if k = n then D else if D.getD k false = false then D else D.set k false
end Go.Proofs.YtobhbppogeghnaaGreatDoor
end

section
namespace Go.Proofs.YtobhbppogeghnaaGreatDoor
open Go.RowKit

theorem BufS.mono {w : World} {A B : Nat} {v : Value} {l : List ByteArray} (h : BufS w A v l) (hB : B ≤ A) : BufS w B v l := by
  refine ⟨h.1, ?_⟩
  rcases h.2 with h0 | ⟨g, cap, cur, e1, e2, e3, e4⟩
  · exact .inl h0
  · exact .inr ⟨g, cap, cur, e1, Nat.le_trans hB e2, e3, e4⟩
section
variable {w w' : World} {q i : Nat} {T : TypeId} {cs : List Value} {u : Value}
theorem Blk.keptT {b : Nat} {T' : TypeId} {cs' : List Value} (h : Blk w b T' cs') (hb : Blk w q T cs) (hT : T ≠ T') (e : w' = w.setCell ⟨q, i, none⟩ u) : Blk w' b T' cs' := by
  subst e
  refine (Below.heap_setCell _ _ _ _ fun hq => ?_).trans h
  simp only at hq
  subst hq
  unfold Blk at h hb
  rw [hb] at h
  cases h
  exact hT rfl
theorem IsBar.keptT {B b g bm n m : Nat} {h : ByteArray} {rt rg : Option Addr} {L : List (Nat × ByteArray)} (x : IsBar w B b g bm h rt rg n m L) (hb : Blk w q T cs) (h1 : T ≠ 73) (h2 : T ≠ 97) (e : w' = w.setCell ⟨q, i, none⟩ u) : IsBar w' B b g bm h rt rg n m L :=
  ⟨x.blk.keptT hb h1 e, x.gat.kept hb h2 e, x.low, x.lowm⟩
theorem IsP.keptT {B b : Nat} {S : BS} (h : IsP w B b S) (hb : Blk w q T cs) (h1 : T ≠ 73) (h2 : T ≠ 97) (h3 : T ≠ 112) (e : w' = w.setCell ⟨q, i, none⟩ u) : IsP w' B b S := by
  cases S with
  | none => obtain ⟨g, bm, x⟩ := h; exact ⟨g, bm, x.keptT hb h1 h2 e⟩
  | closed n E L => obtain ⟨g, bm, x⟩ := h; exact ⟨g, bm, x.keptT hb h1 h2 e⟩
  | opened n E root K => obtain ⟨g, bm, r1, k1, r2, k2, x, j⟩ := h; exact ⟨g, bm, r1, k1, r2, k2, x.keptT hb h1 h2 e, ⟨j.one.kept hb h3 e, j.two.kept hb h3 e, j.low, j.a1, j.a2⟩⟩
theorem IsL.keptT {B c : Nat} {p : Option Addr} {l : List ByteArray} (h : IsL w B p c l) (hb : Blk w q T cs) (hT : T ≠ 9) (e : w' = w.setCell ⟨q, i, none⟩ u) : IsL w' B p c l := by
  subst e
  exact ⟨h.sl.parted hb hT (fun g hg => Below.heap_setCell _ _ _ _ hg), h.low⟩
theorem BufS.keptT {A : Nat} {v : Value} {l : List ByteArray} (h : BufS w A v l) (hb : Blk w q T cs) (hT : T ≠ 9) (e : w' = w.setCell ⟨q, i, none⟩ u) : BufS w' A v l := by
  subst e
  refine ⟨h.1, ?_⟩
  rcases h.2 with h0 | ⟨g, cap, cur, e1, e2, e3, e4⟩
  · exact .inl h0
  · refine .inr ⟨g, cap, cur, e1, e2, (Below.heap_setCell _ _ _ _ fun hq => ?_).trans e3, e4⟩
    simp only at hq
    subst hq
    unfold Blk at hb
    rw [hb] at e3
    cases e3
    exact hT rfl
end
theorem IsP.good {w : World} {B b n : Nat} {E root : ByteArray} {K : List (Nat × ByteArray)} (h : IsP w B b (.opened n E root K)) : GoodK K := by
  obtain ⟨g, bm, r1, k1, r2, k2, x, j⟩ := h
  exact j.two.good
theorem KeepS.mono {A B : Nat} {w w' : World} (h : KeepS B w w') (hA : A ≤ B) : KeepS A w w' := ⟨h.below.mono hA, h.keep⟩
/-- The envelopes that the law puts, one by each epoch. -/
def putsL (k0 : ByteArray) (K : List ByteArray) (N text : ByteArray) (j : Nat) : List ByteArray := (List.range j).map fun t => sealT (lastG k0 K t) (t + 1) ⟨#[112]⟩ t N text
/-- Truths as cells. -/
def boV (D : List Bool) : List Value := D.map Value.bool
end Go.Proofs.YtobhbppogeghnaaGreatDoor
end
