/- Contract: a key of 32 bytes out of any text: the laws of layer 13. The first 12 bytes of any text. Contracts: what the laws of layer 15 play with: a nonce, a root out of any text; the self-test. Plain: the ring of a barrier behind rotations; contracts: Rotate by it. -/
import Derived.Test.YtcjdnifckngcfaaGreatDoorM06
import Derived.Test.YtcjdnifckngcfaaGreatDoorM27
import Derived.Test.YtcjdnifckngcfaaGreatDoorM10
import Derived.Test.YtcjdnifckngcfaaGreatDoorM04
import Derived.Outline
import Derived.Test.YtcjdnifckngcfaaGreatDoorM45
import Derived.Test.YtcjdnifckngcfaaGreatDoorM39
import Derived.Test.YtcjdnifckngcfaaGreatDoorM40
section
namespace Go.Proofs.YtcjdnifckngcfaaGreatDoor
open Go.RowKit

/-- The first 32 bytes, with bytes 0 behind. -/
def f32L (s : ByteArray) : List UInt8 := (s.data.toList ++ List.replicate 32 0).take 32
theorem f32L_length (s : ByteArray) : (f32L s).length = 32 := by unfold f32L; rw [List.length_take, List.length_append, List.length_replicate]; omega
def f32B (s : ByteArray) : ByteArray := ⟨(f32L s).toArray⟩
theorem f32B_size (s : ByteArray) : (f32B s).size = 32 := by unfold f32B; rw [txt_size, f32L_length]
theorem make32 (u : World) : (Instr.makeSlice 43 (.int .i64 32) (.int .i64 32)).run Tryz.prog u = .ok (.slice (some ⟨u.heap.size, 0, none⟩) 32 32) (u.alloc (.cells (zc 32) 5)) := by
  have h := make_bytes 32 (by decide) u
  have e : madeCells #[Value.int .u8 0] 32 = zc 32 := by kernel_rfl
  rw [e] at h
  exact h
theorem fullK_any (s : ByteArray) (w : World) : Calls Tryz.prog 12 #[.string s] w fun e w' => e = .returned (.string (f32B s)) ∧ Ext w w' := by
  unfold f32B
  have hmk := make32
  have hr0 := Row.zero w 5 32
  obtain ⟨k, hk⟩ : ∃ k, k = min s.size 32 := ⟨_, rfl⟩
  have hcp := fun ty => run_copy_text (w.alloc (.cells (zc 32) 5)) ty w.heap.size 0 32 32 s _ 5 hr0.blk (by simp) k hk
  have e : ((List.replicate 32 (0 : UInt8)).map cellOf).take 0 ++ (s.data.toList.take k).map cellOf ++ ((List.replicate 32 (0 : UInt8)).map cellOf).drop (0 + k) = (f32L s).map cellOf := by
    rw [List.take_zero, List.nil_append, ← List.map_drop, ← List.map_append]
    congr 1
    unfold f32L
    rw [List.drop_replicate, List.take_append, size_list, List.take_replicate]
    congr 1
    · rcases Nat.le_total s.size 32 with h | h
      · rw [List.take_of_length_le (by rw [size_list]; omega), List.take_of_length_le (by rw [size_list]; omega)]
      · rw [show k = 32 by omega]
    · congr 1; omega
  rw [e] at hcp
  have hr1 : Row ((w.alloc (.cells (zc 32) 5)).setRow w.heap.size ((f32L s).map cellOf).toArray) w.heap.size 5 (f32L s) := setRow_heap _ _ _ _ _ _ hr0
  have ht := hr1.text (P := Tryz.prog) 43 5 9 Tryz.underlying43 Tryz.underlying5 Tryz.underlying9 32 32 (f32L_length s)
  have hx : Ext w ((w.alloc (.cells (zc 32) 5)).setRow w.heap.size ((f32L s).map cellOf).toArray) := ((Ext.refl w).alloc _).setRow (Nat.le_refl _) _
  have HX := Lib.hid hx
  clear hr0 hr1 e hk hx
  go_enter Tryz.func12, Tryz.ntmps12
  go_wp2
  go_ret
  exact ⟨rfl, HX.out⟩
end Go.Proofs.YtcjdnifckngcfaaGreatDoor
end

section
namespace Go.Proofs.YtcjdnifckngcfaaGreatDoor
open Go.RowKit

/-- The first 12 bytes, with bytes 0 behind. -/
def f12L (s : ByteArray) : List UInt8 := (s.data.toList ++ List.replicate 12 0).take 12
theorem f12L_length (s : ByteArray) : (f12L s).length = 12 := by unfold f12L; rw [List.length_take, List.length_append, List.length_replicate]; omega
def f12B (s : ByteArray) : ByteArray := ⟨(f12L s).toArray⟩
theorem f12B_size (s : ByteArray) : (f12B s).size = 12 := by unfold f12B; rw [txt_size, f12L_length]
theorem make12 (u : World) : (Instr.makeSlice 43 (.int .i64 12) (.int .i64 12)).run Tryz.prog u = .ok (.slice (some ⟨u.heap.size, 0, none⟩) 12 12) (u.alloc (.cells (zc 12) 5)) := by
  have h := make_bytes 12 (by decide) u
  have e : madeCells #[Value.int .u8 0] 12 = zc 12 := by kernel_rfl
  rw [e] at h
  exact h
end Go.Proofs.YtcjdnifckngcfaaGreatDoor
end

section
namespace Go.Proofs.YtcjdnifckngcfaaGreatDoor
open Go.RowKit
attribute [local irreducible] rkey expand enc dec ctrB ctrC ctrL xorL xorAll turnL turnT kd t4 t8 env5 chk tagT sealT ringL hdT envOf f32B

theorem nonce15_fit (s : ByteArray) (w : World) : Calls Tryz.prog 14 #[.string s, .bool true] w fun e w' => e = .returned (.string (f12B s)) ∧ Ext w w' := by
  unfold f12B
  have hmk := make12
  have hr0 := Row.zero w 5 12
  obtain ⟨k, hk⟩ : ∃ k, k = min s.size 12 := ⟨_, rfl⟩
  have hcp := fun ty => run_copy_text (w.alloc (.cells (zc 12) 5)) ty w.heap.size 0 12 12 s _ 5 hr0.blk (by simp) k hk
  have e : ((List.replicate 12 (0 : UInt8)).map cellOf).take 0 ++ (s.data.toList.take k).map cellOf ++ ((List.replicate 12 (0 : UInt8)).map cellOf).drop (0 + k) = (f12L s).map cellOf := by
    rw [List.take_zero, List.nil_append, ← List.map_drop, ← List.map_append]
    congr 1
    unfold f12L
    rw [List.drop_replicate, List.take_append, size_list, List.take_replicate]
    congr 1
    · rcases Nat.le_total s.size 12 with h | h
      · rw [List.take_of_length_le (by rw [size_list]; omega), List.take_of_length_le (by rw [size_list]; omega)]
      · rw [show k = 12 by omega]
    · congr 1; omega
  rw [e] at hcp
  have hr1 : Row ((w.alloc (.cells (zc 12) 5)).setRow w.heap.size ((f12L s).map cellOf).toArray) w.heap.size 5 (f12L s) := setRow_heap _ _ _ _ _ _ hr0
  have ht := hr1.text (P := Tryz.prog) 43 5 9 Tryz.underlying43 Tryz.underlying5 Tryz.underlying9 12 12 (f12L_length s)
  have hx : Ext w ((w.alloc (.cells (zc 12) 5)).setRow w.heap.size ((f12L s).map cellOf).toArray) := ((Ext.refl w).alloc _).setRow (Nat.le_refl _) _
  have HX := Lib.hid hx
  clear hr0 hr1 e hk hx
  go_enter Tryz.func14, Tryz.ntmps14
  go_wp2
  go_ret
  exact ⟨rfl, HX.out⟩
theorem nonce15_any (s : ByteArray) (w : World) : Calls Tryz.prog 14 #[.string s, .bool false] w fun e w' => e = .returned (.string s) ∧ Ext w w' := by
  go_enter Tryz.func14, Tryz.ntmps14
  go_wp2
  go_ret
  exact ⟨rfl, Ext.refl _⟩
/-- The text, or as much of it as fits. -/
def n15 (fit : Bool) (s : ByteArray) : ByteArray := if fit then f12B s else s
theorem nonce15 (fit : Bool) (s : ByteArray) (w : World) : Calls Tryz.prog 14 #[.string s, .bool fit] w fun e w' => e = .returned (.string (n15 fit s)) ∧ Ext w w' := by
  cases fit
  · exact nonce15_any s w
  · exact nonce15_fit s w
def r15 (fit : Bool) (s : ByteArray) : ByteArray := if fit then f32B s else s
theorem root15 (fit : Bool) (s : ByteArray) (w : World) : Calls Tryz.prog 32 #[.string s, .bool fit] w fun e w' => e = .returned (.string (r15 fit s)) ∧ Ext w w' := by
  have HF := Lib.hid (fullK_any s w)
  cases fit
  · unfold r15
    go_enter Tryz.func32, Tryz.ntmps32
    go_wp2
    go_ret
    exact ⟨rfl, Ext.refl _⟩
  · unfold r15
    go_enter Tryz.func32, Tryz.ntmps32
    go_wp2_with (go_at_call 12; refine (HF.out).mono ?_; rintro e w1 ⟨rfl, x1⟩)
    go_ret
    exact ⟨by simp, x1⟩
theorem text_one (w : World) (s : ByteArray) : TextsP (w.alloc (.cells #[.string s] 9)) (some ⟨w.heap.size, 0, none⟩) [s] := fun i t ht => ⟨_, rfl, texts_lit w [s] 9 i t ht⟩
/-- A text of a slice that grew. -/
theorem BufS.text {w : World} {A : Nat} {q : Option Addr} {n c : Nat} {l : List ByteArray} (h : BufS w A (.slice q n c) l) {i : Nat} {s : ByteArray} (hs : l[i]? = some s) : ∃ g, q = some ⟨g, 0, none⟩ ∧ w.cell? ⟨g, i, none⟩ = some (.string s) := by
  obtain ⟨g, c', e, _, hc⟩ := h.sl (by intro e; rw [e] at hs; cases hs)
  cases e
  exact ⟨g, rfl, hc i s hs⟩
/-- What is put is the envelope by the newest key. -/
theorem put_is (w : World) (hL : Laid w) (B b n : Nat) (E root s : ByteArray) (K : List (Nat × ByteArray)) (h : IsP w B b (.opened n E root K)) (t : Nat) (ht : top (eps K) = t) (hm : (t, s) ∈ K) (path : ByteArray) (v : Nat) (nonce text : ByteArray) (hz : nonce.size = 12) (hp : path.size ≤ 1048576) (hx : text.size ≤ 1048576) :
    Calls Tryz.prog 15 #[.pointer (some ⟨b, 0, none⟩), .string path, .int .u64 (v : Int), .string nonce, .string text] w fun e w' => e = .returned (.tuple #[.string (sealT s t path v nonce text), .int .i64 0]) ∧ Ext w w' := by
  refine put_open w B b n E root K h path v nonce text _ 0 fun r k hk => ?_
  have := close_yes w r k K hL hk s (by rw [ht]; exact hm) path v nonce text hz hp hx
  rw [ht] at this
  exact this
/-- What was put is got. -/
theorem get_is (w : World) (hL : Laid w) (B b n : Nat) (E root s : ByteArray) (K : List (Nat × ByteArray)) (h : IsP w B b (.opened n E root K)) (t : Nat) (hm : (t, s) ∈ K) (path : ByteArray) (v : Nat) (nonce text : ByteArray) (hz : nonce.size = 12) (hp : path.size ≤ 1048576) (hx : text.size ≤ 1048576) :
    Calls Tryz.prog 20 #[.pointer (some ⟨b, 0, none⟩), .string path, .int .u64 (v : Int), .string (sealT s t path v nonce text)] w fun e w' => e = .returned (.tuple #[.string text, .int .i64 0]) ∧ Ext w w' :=
  get_open w B b n E root K h path v _ text 0 fun r k hk => open_sealed w r k K hL hk t s hm path v nonce text hz hp hx
set_option maxRecDepth 100000 in
set_option maxHeartbeats 4000000 in
theorem works15 (w : World) (hL : Laid w) : Calls Tryz.prog 8 #[] w fun e w' => e = .returned (.bool true) ∧ Ext w w' := by
  have HF1 := Lib.hid (fun u => fullK_any ⟨#[114]⟩ u)
  have HF2 := Lib.hid (fun u => fullK_any ⟨#[107]⟩ u)
  have HF3 := Lib.hid (fun u => fullK_any ⟨#[120]⟩ u)
  have HN1 := Lib.hid (fun u => nonce15_fit ⟨#[110]⟩ u)
  have HN2 := Lib.hid (fun u => nonce15_fit ⟨#[109]⟩ u)
  have z1 := f32B_size ⟨#[114]⟩
  have z2 := f32B_size ⟨#[107]⟩
  have z3 := f32B_size ⟨#[120]⟩
  have y1 := f12B_size ⟨#[110]⟩
  have y2 := f12B_size ⟨#[109]⟩
  generalize f32B ⟨#[114]⟩ = R at *
  generalize f32B ⟨#[107]⟩ = K at *
  generalize f32B ⟨#[120]⟩ = X at *
  generalize f12B ⟨#[110]⟩ = N at *
  generalize f12B ⟨#[109]⟩ = M at *
  have hB2 := hL.size
  have HLd := Lib.hid (fun u (x : Ext w u) => hL.ext x)
  have HNw := Lib.hid (fun u => bnew_any u)
  have hlX : ∀ s ∈ [X], s.size = R.size := by intro s hs; simp at hs; subst hs; omega
  obtain ⟨E, hE⟩ : ∃ E, envOf R 2 N [(1, K)] = E := ⟨_, rfl⟩
  have HB := Lib.hid (fun u b p c (x : Ext w u) (hu : IsP u w.heap.size b .none) (ht : TextsP u p [X]) => by
    have := begin_yes u w.heap.size b hB2 (hL.ext x) hu R K N p c [X] z1 z2 y1 (by simp) ht hlX
    simp only [List.length_cons, List.length_nil, Nat.zero_add, Nat.reduceAdd, hE] at this
    exact this)
  have hg1 : GoodK [(1, K)] := GoodK.one K z2
  obtain ⟨V, hV⟩ : ∃ V, sealT K 1 ⟨#[97]⟩ 1 M ⟨#[116, 101, 120, 116]⟩ = V := ⟨_, rfl⟩
  have HP := Lib.hid (fun u b (x : Ext w u) (hu : IsP u w.heap.size b (.opened 2 E R [(1, K)])) => by
    have := put_is u (hL.ext x) w.heap.size b 2 E R K [(1, K)] hu 1 (top_one1 K) (by simp) ⟨#[97]⟩ 1 M ⟨#[116, 101, 120, 116]⟩ y2 (by decide) (by decide)
    rw [hV] at this
    exact this)
  have HS := Lib.hid (fun u b (hu : IsP u w.heap.size b (.opened 2 E R [(1, K)])) => seal_yes u w.heap.size b 2 E R [(1, K)] hu)
  have HG0 := Lib.hid (fun u b (hu : IsP u w.heap.size b (.closed 2 E [])) => get_shut u w.heap.size b _ hu (by simp [stN]) ⟨#[97]⟩ 1 V)
  have hm0 : mayE (.closed 2 E []) = 150 := rfl
  rw [hm0] at HG0
  have hrow : rowF R [X] = [(1, X), (2, lastT R [X])] := by simp [rowF, allT]
  have hsp : splitT R [X] = [shareT 1 2 X, shareT 2 2 (lastT R [X])] := by rw [splitT_row, hrow]; rfl
  have zl := lastT_size R [X] hlX
  generalize lastT R [X] = T at *
  have HU1 := Lib.hid (fun u b (hu : IsP u w.heap.size b (.closed 2 E [])) => unseal_row u w.heap.size b 2 E [] (2, T) hu (by simp) (by simp) (by simp only; omega) (by simp) (by simp))
  have HU2 := Lib.hid (fun u b (x : Ext w u) (hu : IsP u w.heap.size b (.closed 2 E [(2, T)])) => unseal_last u w.heap.size b 2 E [(2, T)] (1, X) hB2 (hL.ext x) R N [(1, K)] [X] hE.symm hg1 y1 z1 hlX (by simp) hu (by rw [hrow]; exact .refl _))
  have HG1 := Lib.hid (fun u b (x : Ext w u) (hu : IsP u w.heap.size b (.opened 2 E R [(1, K)])) => by
    have := get_is u (hL.ext x) w.heap.size b 2 E R K [(1, K)] hu 1 (by simp) ⟨#[97]⟩ 1 M ⟨#[116, 101, 120, 116]⟩ y2 (by decide) (by decide)
    rw [hV] at this
    exact this)
  have HSt := Lib.hid (fun u b (hu : IsP u w.heap.size b (.opened 2 E R [(1, K)])) => bstate_any u w.heap.size b _ hu)
  have hst : (stN (.opened 2 E R [(1, K)]) : Int) = 2 := rfl
  simp only [hst] at HSt
  have HSP := Lib.hid hsp
  clear hL hV hE hg1 hm0 hrow hsp hst hlX z1 z2 z3 y1 y2 zl
  go_enter Tryz.func8, Tryz.ntmps8
  go_wp2_with (first
    | (go_at_call 9; refine (HNw.out _).mono ?_; rintro e w1 ⟨b, rfl, i1, x1⟩; have I := Lib.hid i1; have XX := x1; clear i1 x1)
    | (go_at_call 12; (with_reducible refine (HF1.out _).mono ?_); rintro e w1 ⟨rfl, x1⟩; replace I := Lib.hid (I.out.ext x1); replace XX := XX.trans x1)
    | (go_at_call 12; (with_reducible refine (HF2.out _).mono ?_); rintro e w1 ⟨rfl, x1⟩; replace I := Lib.hid (I.out.ext x1); replace XX := XX.trans x1)
    | (go_at_call 12; (with_reducible refine (HF3.out _).mono ?_); rintro e w1 ⟨rfl, x1⟩; replace I := Lib.hid (I.out.ext x1); replace XX := XX.trans x1; have A1 := (Ext.refl w1).alloc (.cells #[.string X] 9); have TX := text_one w1 X)
    | (go_at_call 14; (with_reducible refine (HN1.out _).mono ?_); rintro e w1 ⟨rfl, x1⟩; replace I := Lib.hid (I.out.ext x1); replace XX := XX.trans x1)
    | (go_at_call 14; (with_reducible refine (HN2.out _).mono ?_); rintro e w1 ⟨rfl, x1⟩; replace I := Lib.hid (I.out.ext x1); replace XX := XX.trans x1; replace SH := Lib.hid (SH.out.ext x1))
    | (go_at_call 13; refine (HB.out _ _ _ _ (XX.trans A1) (I.out.ext A1) TX).mono ?_; rintro e w2 ⟨⟨q, c', rfl, b2⟩, i2, t2⟩; replace I := Lib.hid i2; replace XX := (XX.trans A1).turnedB t2; have SH := Lib.hid b2; clear i2 t2 b2 A1 TX)
    | (go_at_call 15; refine (HP.out _ _ XX I.out).mono ?_; rintro e w3 ⟨rfl, x3⟩; replace I := Lib.hid (I.out.ext x3); replace XX := XX.trans x3; replace SH := Lib.hid (SH.out.ext x3))
    | (go_at_call 18; refine (HS.out _ _ I.out).mono ?_; rintro e w4 ⟨rfl, i4, t4⟩; replace I := Lib.hid i4; replace XX := XX.turnedB t4; replace SH := Lib.hid (SH.out.turnP t4); clear i4 t4)
    | (go_at_call 20; refine (HG0.out _ _ I.out).mono ?_; rintro e w5 ⟨rfl, rfl⟩; have SB := SH.out; rw [HSP.out] at SB; obtain ⟨ga, ea, ca⟩ := SB.text (i := 1) rfl; subst ea)
    | (go_at_call 21; (with_reducible refine (HU1.out _ _ I.out).mono ?_); rintro e w6 ⟨rfl, i6, t6⟩; replace I := Lib.hid i6; replace XX := XX.turnedB t6; replace SH := Lib.hid (SH.out.turnP t6); have SB := SH.out; rw [HSP.out] at SB; obtain ⟨gb, eb, cb⟩ := SB.text (i := 0) rfl; cases eb; clear i6 t6)
    | (go_at_call 21; (with_reducible refine (HU2.out _ _ XX I.out).mono ?_); rintro e w7 ⟨rfl, i7, t7⟩; replace I := Lib.hid i7; replace XX := XX.turnedB t7; clear i7 t7)
    | (go_at_call 20; refine (HG1.out _ _ XX I.out).mono ?_; rintro e w8 ⟨rfl, x8⟩; replace I := Lib.hid (I.out.ext x8); replace XX := XX.trans x8)
    | (go_at_call 24; refine (HSt.out _ _ I.out).mono ?_; rintro e w9 ⟨rfl, rfl⟩))
  go_ret
  exact ⟨rfl, XX⟩
end Go.Proofs.YtcjdnifckngcfaaGreatDoor
end

section
namespace Go.Proofs.YtcjdnifckngcfaaGreatDoor
open Go.RowKit

/-- The ring: of the first key, then of these. -/
def ringG (k0 : ByteArray) (K : List ByteArray) : Nat → List (Nat × ByteArray)
  | 0 => [(1, k0)]
  | i + 1 => ringG k0 K i ++ [(i + 2, f32B (K.getD i ⟨#[]⟩))]
/-- The newest key. -/
def lastG (k0 : ByteArray) (K : List ByteArray) : Nat → ByteArray
  | 0 => k0
  | i + 1 => f32B (K.getD i ⟨#[]⟩)
theorem ringG_length (k0 : ByteArray) (K : List ByteArray) : ∀ i, (ringG k0 K i).length = i + 1
  | 0 => rfl
  | i + 1 => by rw [ringG, List.length_append, ringG_length k0 K i]; rfl
theorem ringG_top (k0 : ByteArray) (K : List ByteArray) : ∀ i, top (eps (ringG k0 K i)) = i + 1
  | 0 => by simp [ringG, eps, top]
  | i + 1 => by rw [ringG, top_snoc _ _ _ (by rw [ringG_top k0 K i]; omega)]
theorem ringG_last (k0 : ByteArray) (K : List ByteArray) : ∀ i, (i + 1, lastG k0 K i) ∈ ringG k0 K i
  | 0 => by simp [ringG, lastG]
  | i + 1 => by rw [ringG, lastG]; simp
theorem ringG_mem (k0 : ByteArray) (K : List ByteArray) (j : Nat) : ∀ i, j ≤ i → (j + 1, lastG k0 K j) ∈ ringG k0 K i
  | 0, h => by obtain rfl : j = 0 := by omega
               exact ringG_last k0 K 0
  | i + 1, h => by
    by_cases e : j = i + 1
    · subst e; exact ringG_last k0 K (i + 1)
    · rw [ringG]; exact List.mem_append_left _ (ringG_mem k0 K j i (by omega))
theorem ringG_good (k0 : ByteArray) (h0 : k0.size = 32) (K : List ByteArray) : ∀ i, i < 64 → GoodK (ringG k0 K i)
  | 0, _ => GoodK.one k0 h0
  | i + 1, h => by
    have hg := ringG_good k0 h0 K i (by omega)
    have := hg.snoc (s := f32B (K.getD i ⟨#[]⟩)) (by rw [ringG_length]; omega) (by rw [ringG_top]; omega) (f32B_size _)
    rw [ringG_top] at this
    exact this
theorem ringG_eps (k0 : ByteArray) (K : List ByteArray) : ∀ i, eps (ringG k0 K i) = (List.range (i + 1)).map (· + 1)
  | 0 => rfl
  | i + 1 => by
    have ih := ringG_eps k0 K i
    unfold eps at ih ⊢
    rw [ringG, List.map_append, ih, List.range_succ (n := i + 1), List.map_append]
    rfl
/-- The nonce of the header. -/
def nonceG (n0 : ByteArray) (K : List ByteArray) : Nat → ByteArray
  | 0 => n0
  | i + 1 => f12B (K.getD i ⟨#[]⟩)
theorem nonceG_size (n0 : ByteArray) (h : n0.size = 12) (K : List ByteArray) : ∀ i, (nonceG n0 K i).size = 12
  | 0 => h
  | _ + 1 => f12B_size _
/-- The next epoch. -/
theorem brotate_next (w : World) (B b n : Nat) (hB2 : 2 ≤ B) (hL : Laid w) (E root k0 : ByteArray) (K : List ByteArray) (i : Nat) (hi : i < 62) (x : ByteArray) (hx : K[i]? = some x) (nonce : ByteArray) (hz : nonce.size = 12) (h : IsP w B b (.opened n E root (ringG k0 K i))) :
    Calls Tryz.prog 16 #[.pointer (some ⟨b, 0, none⟩), .string (f32B x), .string nonce] w fun e w' => e = .returned (.tuple #[.int .u32 ((i : Int) + 2), .int .i64 0]) ∧ IsP w' B b (.opened n (envOf root n nonce (ringG k0 K (i + 1))) root (ringG k0 K (i + 1))) ∧ TurnP B w w' := by
  have := brotate_is w B b n E root (ringG k0 K i) nonce hB2 hL h hz (f32B x) (ringG k0 K (i + 1)) ((i : Int) + 2) 0 (fun u r k hu => by
    have := rotate_yes u r k _ hu (f32B x) (f32B_size x) (by rw [ringG_length]; omega) (by rw [ringG_top]; omega)
    rw [ringG_top] at this
    have e : K.getD i ⟨#[]⟩ = x := by simp [List.getD, hx]
    have e2 : ((i + 1 + 1 : Nat) : Int) = (i : Int) + 2 := by omega
    rw [e2] at this
    rw [ringG, e]
    exact this)
  unfold newS at this
  rw [if_pos rfl] at this
  exact this
/-- The texts of a law's shares: of a text and a number. -/
def textsN (s : ByteArray) (m : Nat) : List ByteArray := (List.range m).map fun i => f32B (s ++ ⟨#[UInt8.ofNat i]⟩)
theorem textsN_length (s : ByteArray) (m : Nat) : (textsN s m).length = m := by simp [textsN]
theorem textsN_succ (s : ByteArray) (m : Nat) : textsN s (m + 1) = textsN s m ++ [f32B (s ++ ⟨#[UInt8.ofNat m]⟩)] := by simp [textsN, List.range_succ]
theorem textsN_size (s : ByteArray) (m : Nat) : ∀ x ∈ textsN s m, x.size = 32 := fun x hx => by
  obtain ⟨i, _, rfl⟩ := List.mem_map.1 hx
  exact f32B_size _
end Go.Proofs.YtcjdnifckngcfaaGreatDoor
end
