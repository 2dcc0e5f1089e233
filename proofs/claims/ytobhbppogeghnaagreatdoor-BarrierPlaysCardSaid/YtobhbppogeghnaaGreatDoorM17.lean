/- Contracts: numbers of 32 bits sorted by the library; a map's keys, collected and sorted. Contracts: keys by epochs: all epochs, rising; an epoch's two keys: by the program. How many bytes derived keys have; what was there stays. What a round of a range over a function keeps: all below a bound, and named blocks above it. Plain words: bytes as polynomials: products, and their laws. No function of the program is named here. Contracts: the product of two bytes, by the document's answer. -/
import Derived.Test.YtobhbppogeghnaaGreatDoorM11
import Derived.Test.YtobhbppogeghnaaGreatDoorM16
import Derived.Test.YtobhbppogeghnaaGreatDoorM04
import Derived.Test.YtobhbppogeghnaaGreatDoorM10
import Derived.BigQuiet
import Derived.RangeFuncNested
import Derived.RangeFuncBound
import Derived.RangeFuncCalls
import Derived.RangeFuncLeaves
import Derived.RangeFuncFrom
import Derived.Shelf.Abstract
import Derived.Shelf.RegionOpen
import Derived.WalkKit
import Derived.OwnWalkIn
import Derived.TacticsInMore
import Derived.LoopNIn
import Derived.LoopIn
import Derived.Test.YtobhbppogeghnaaGreatDoorM00
import Derived.Test.YtobhbppogeghnaaGreatDoorM01
import Derived.KernelRfl
import Derived.Test.YtobhbppogeghnaaGreatDoorProg
import Derived.WalkSpells
import Derived.Laws.BitsAllLaws
section
namespace Go.Proofs.YtobhbppogeghnaaGreatDoor
open Go.RowKit

set_option maxRecDepth 100000 in
set_option maxHeartbeats 2000000 in
theorem sort_any (g : Nat) (T : TypeId) (pos : List Value) (d : Array Nat) (cap : Nat) (w : World) (h : Blk w g T (d.toList.map cN ++ pos)) (h1 : 1 ≤ d.size) (hs : d.size ≤ 1000000) :
    Calls Tryz.prog 127 #[.slice (some ⟨g, 0, none⟩) d.size cap] w fun e w' => e = .returned (.tuple #[]) ∧ ∃ d', RowN w w' g T pos d' ∧ Sort.PermIn 0 d.size d d' ∧ Sort.SortedIn ltN 0 d.size d' := by
  obtain ⟨n, hn⟩ : ∃ n, d.size = n := ⟨_, rfl⟩
  have HL := Lib.hid (fun u => blen_any n u (by omega) (by omega))
  have hp : ∀ k : Nat, k ≤ 20 → Calls Tryz.prog 150 #[.slice (some ⟨g, 0, none⟩) n cap, .int .i64 0, .int .i64 (n : Int), .int .i64 (k : Int)] w fun e w' => e = .returned (.tuple #[]) ∧ ∃ d', RowN w w' g T pos d' ∧ Sort.PermIn 0 n d d' ∧ Sort.SortedIn ltN 0 n d' :=
    fun k hk => pdq_any (n + 1) g T pos d 0 n k n cap w (by omega) h (Nat.zero_le _) (by omega) hn.symm (by omega) (by omega) (Or.inl rfl)
  have HP := Lib.hid hp
  clear hp
  rw [hn]
  clear h
  have HN := Lib.hid hn
  have hn1 : n ≤ 1000000 := by omega
  have hw : IntKind.u64.wrap (n : Int) = (n : Int) := by rw [IntKind.wrap_u64]; omega
  clear hn hs h1
  go_enter Tryz.func127, Tryz.ntmps127
  go_wp2_with (first
    | (go_at_call 151; refine (HL.out _).mono ?_; rintro e w1 ⟨k, rfl, k1, k2, k3, rfl⟩)
    | (go_at_call 150; refine (HP.out k k3).mono ?_; rintro e w2 ⟨rfl, d', r2, p2, s2⟩; have R2 := Lib.hid r2; have P2 := Lib.hid p2; have S2 := Lib.hid s2; clear r2 p2 s2))
  go_end0
  exact ⟨rfl, d', R2.out, P2.out, S2.out⟩
theorem collect_any (bm b : Nat) (L : List (Nat × ByteArray)) (w : World) (hl : L.length ≤ 1000000) (hC : w.cell? ⟨bm, 0, none⟩ = some (.map (some b))) (hbm : bm < w.heap.size) (hM : MapL w Tryz.prog 40 b (L.map kvR)) :
    Calls Tryz.prog 126 #[.func (.func 128) #[] #[.pointer (some ⟨bm, 0, none⟩)]] w fun e w' =>
      ∃ (v : Value) (ys : List Nat), e = .returned v ∧ ys.Perm (L.map (·.1)) ∧ w'.ownsRow w.heap.size 40 1 v ys.length (ys.map cN) ∧ Ext w w' := by
  have HA := Lib.hid (appendSeq_any bm b L w hl hC hbm hM)
  clear hC hM
  go_enter Tryz.func126, Tryz.ntmps126
  go_wp2_with (go_at_call 149; refine (HA.out).mono ?_; rintro e w1 ⟨v, ys, rfl, p1, r1, x1⟩; have P1 := Lib.hid p1; have R1 := Lib.hid r1; have X1 := Lib.hid x1; clear p1 r1 x1)
  go_ret
  exact ⟨v, ys, rfl, P1.out, R1.out, X1.out⟩
/-- A row of the call's own that holds these numbers. -/
theorem owned_blk {w : World} {B : Nat} {v : Value} {ys : List Nat} (h : w.ownsRow B 40 1 v ys.length (ys.map cN)) (h0 : 0 < ys.length) :
    ∃ g cap pos, v = .slice (some ⟨g, 0, none⟩) ys.length cap ∧ B ≤ g ∧ ys.length ≤ cap ∧ cap ≤ maxLen ∧ ys.length + pos.length = cap ∧ Blk w g 40 (ys.map cN ++ pos) := by
  rcases h.2 with ⟨_, h1⟩ | ⟨g, cap, cur, rfl, hB, hg, hle, hm, hsz, ht⟩
  · omega
  · rw [Nat.mul_one] at ht hsz
    refine ⟨g, cap, cur.toList.drop ys.length, rfl, hB, hle, hm, by simp; omega, ?_⟩
    unfold Blk
    rw [← ht, List.take_append_drop]
    exact hg
theorem blk_owned {w : World} {B g cap : Nat} {ys : List Nat} {pos : List Value} (h : Blk w g 40 (ys.map cN ++ pos)) (hB : B ≤ g) (hle : ys.length ≤ cap) (hm : cap ≤ maxLen) (hz : ys.length + pos.length = cap) :
    w.ownsRow B 40 1 (.slice (some ⟨g, 0, none⟩) ys.length cap) ys.length (ys.map cN) :=
  ⟨by simp, .inr ⟨g, cap, _, rfl, hB, h, hle, hm, by simp; omega, by simp⟩⟩
theorem sorted_list (d d' : Array Nat) (hp : Sort.PermIn 0 d.size d d') (hs : Sort.SortedIn ltN 0 d.size d') : d'.toList.Perm d.toList ∧ d'.toList.Pairwise (· ≤ ·) := by
  refine ⟨?_, ?_⟩
  · have h := hp.2.2
    have e : d'.extract 0 d.size = d' := by rw [← hp.1]; simp
    rw [e] at h
    simpa using h
  · rw [List.pairwise_iff_getElem]
    intro i j hi hj hij
    have h := hs i j (Nat.zero_le _) hij (by rw [← hp.1]; simpa using hj)
    simp only [ltN, decide_eq_false_iff_not, Nat.not_lt] at h
    have ei : d'[i]! = d'.toList[i] := by
      have : i < d'.size := by simpa using hi
      simp [this]
    have ej : d'[j]! = d'.toList[j] := by
      have : j < d'.size := by simpa using hj
      simp [this]
    rw [ei, ej] at h
    exact h
set_option maxRecDepth 100000 in
theorem sorted_any (bm b : Nat) (L : List (Nat × ByteArray)) (w : World) (h1 : 1 ≤ L.length) (hl : L.length ≤ 1000000) (hC : w.cell? ⟨bm, 0, none⟩ = some (.map (some b))) (hbm : bm < w.heap.size) (hM : MapL w Tryz.prog 40 b (L.map kvR)) :
    Calls Tryz.prog 93 #[.func (.func 128) #[] #[.pointer (some ⟨bm, 0, none⟩)]] w fun e w' =>
      ∃ (g cap : Nat) (zs : List Nat), e = .returned (.slice (some ⟨g, 0, none⟩) zs.length cap) ∧ zs.Perm (L.map (·.1)) ∧ zs.Pairwise (· ≤ ·) ∧ w'.ownsRow w.heap.size 40 1 (.slice (some ⟨g, 0, none⟩) zs.length cap) zs.length (zs.map cN) ∧ Ext w w' := by
  have HA := Lib.hid (collect_any bm b L w hl hC hbm hM)
  clear hC hM
  go_enter Tryz.func93, Tryz.ntmps93
  go_upto_region 2 with (go_at_call 126; refine (HA.out).mono ?_; rintro e w1 ⟨v, ys, rfl, p1, r1, x1⟩; have P1 := Lib.hid p1; have R1 := Lib.hid r1; have X1 := Lib.hid x1; clear p1 r1 x1)
  have hlen : ys.length = L.length := by have := P1.out.length_eq; simpa using this
  obtain ⟨g, cap, pos, rfl, hB, hle, hm, hz, hblk⟩ := owned_blk R1.out (by omega)
  have hc := sort_any g 40 pos ys.toArray cap w1 hblk (by simp; omega) (by simp; omega)
  rw [List.size_toArray] at hc
  have HC := Lib.hid hc
  have HLen := Lib.hid hlen; have HBl := Lib.hid hblk; have HZ := Lib.hid hz; have HB := Lib.hid hB
  clear hc hlen hblk hz hB
  go_wp2_with (go_at_call 127; refine (HC.out).mono ?_; rintro e w2 ⟨rfl, d', r2, p2, s2⟩; have R2 := Lib.hid r2; have P2 := Lib.hid p2; have S2 := Lib.hid s2; clear r2 p2 s2)
  have hsz : d'.toList.length = ys.length := by have := P2.out.1; simpa using this
  obtain ⟨hp, hs⟩ := sorted_list ys.toArray d' (by simpa using P2.out) (by simpa using S2.out)
  go_ret
  refine ⟨g, cap, d'.toList, by rw [hsz] <;> rfl, hp.trans P1.out, hs, ?_, ?_⟩
  · exact blk_owned R2.out.blk HB.out (by rw [hsz]; exact hle) hm (by rw [hsz]; exact HZ.out)
  · exact ⟨R2.out.grown.os.trans X1.out.os, R2.out.grown.tape.trans X1.out.tape, R2.out.grown.output.trans X1.out.output, Nat.le_trans X1.out.size R2.out.grown.size, fun k hk => (R2.out.grown.block k (Nat.lt_of_lt_of_le hk X1.out.size) (by have := HB.out; simp; omega)).trans (X1.out.block k hk)⟩
end Go.Proofs.YtobhbppogeghnaaGreatDoor
end

section
namespace Go.Proofs.YtobhbppogeghnaaGreatDoor
open Go.RowKit

theorem perm_sorted : ∀ {l m : List Nat}, l.Perm m → l.Pairwise (· ≤ ·) → m.Pairwise (· < ·) → l = m
  | [], _, h, _, _ => (List.nil_perm.1 h).symm
  | a :: l, [], h, _, _ => by have := h.length_eq; simp at this
  | a :: l, b :: m, h, h1, h2 => by
    have q1 := List.rel_of_pairwise_cons h1 (a' := b)
    have q2 := List.rel_of_pairwise_cons h2 (a' := a)
    have e : a = b := by
      rcases List.mem_cons.1 (h.mem_iff.1 (List.mem_cons_self (a := a) (l := l))) with q | q
      · exact q
      · rcases List.mem_cons.1 (h.mem_iff.2 (List.mem_cons_self (a := b) (l := m))) with p | p
        · exact p.symm
        · have := q1 p; have := q2 q; omega
    subst e
    rw [perm_sorted h.cons_inv h1.of_cons h2.of_cons]
/-- A slice of a ring's epochs. -/
structure IsE (w : World) (B g c : Nat) (l : List Nat) : Prop where
  blk : ∃ pos, Blk w g 40 (l.map cN ++ pos) ∧ l.length + pos.length = c
  new : B ≤ g
  le : l.length ≤ c
theorem IsE.ext {w w' : World} {B g c : Nat} {l : List Nat} (h : IsE w B g c l) (x : Ext w w') : IsE w' B g c l := by
  obtain ⟨⟨pos, h1, h2⟩, h3, h4⟩ := h
  exact ⟨⟨pos, h1.ext x, h2⟩, h3, h4⟩
theorem IsE.cell {w : World} {B g c : Nat} {l : List Nat} (h : IsE w B g c l) (i : Nat) (hi : i < l.length) : w.cell? ⟨g, i, none⟩ = some (.int .u32 (l[i] : Int)) := by
  obtain ⟨⟨pos, h1, h2⟩, h3, h4⟩ := h
  refine h1.cell i _ ?_
  rw [List.getElem?_append_left (by simpa using hi), List.getElem?_map, List.getElem?_eq_getElem hi]
  rfl
set_option maxRecDepth 100000 in
theorem epochs_any (w : World) (r b : Nat) (L : List (Nat × ByteArray)) (h : IsK w r b L) :
    Calls Tryz.prog 54 #[.pointer (some ⟨r, 0, none⟩)] w fun e w' => ∃ g c, e = .returned (.slice (some ⟨g, 0, none⟩) L.length c) ∧ IsE w' w.heap.size g c (eps L) ∧ Ext w w' := by
  have hc := h.cell
  have h1 : 1 ≤ L.length := by have := h.good.ne; cases L with | nil => exact absurd rfl this | cons => simp
  have H1 := Lib.hid h1
  have h64 := h.good.few
  have hup := h.good.up
  obtain ⟨M, hp, hm⟩ := h.map
  have HU := Lib.hid hup
  have HP := Lib.hid hp
  obtain ⟨W0, hW0⟩ : ∃ W0, w.alloc (.cells #[.map (some b)] 110) = W0 := ⟨_, rfl⟩
  have hx0 : Ext w W0 := by rw [← hW0]; exact (Ext.refl w).alloc _
  have hz0 : w.heap.size < W0.heap.size := by rw [← hW0]; simp
  have hB0 : Blk W0 w.heap.size 110 [.map (some b)] := by rw [← hW0]; exact Blk.new w _ _
  have hlen := hp.length_eq
  have HS := Lib.hid (sorted_any w.heap.size b M W0 (by omega) (by omega) (hB0.cell 0 _ rfl) hz0 (hm.ext hx0))
  have HX := Lib.hid hx0
  clear h hup hm hp hx0 hz0 hB0 h1 h64
  go_enter Tryz.func54, Tryz.ntmps54
  go_wp2_with (first
    | (go_at_call 84; refine (thereK_yes _ r b hc).mono ?_; rintro e w1 ⟨rfl, rfl⟩)
    | (go_at_call 94; refine (keys_any (some b) _).mono ?_; rintro e w1 ⟨rfl, hw1⟩; rw [hW0] at hw1; subst hw1)
    | (go_at_call 93; refine (HS.out).mono ?_; rintro e w2 ⟨g, cap, zs, rfl, p2, s2, r2, x2⟩; have P2 := Lib.hid p2; have S2 := Lib.hid s2; have R2 := Lib.hid r2; have X2 := Lib.hid x2; clear p2 s2 r2 x2))
  go_ret
  have e : zs = eps L := perm_sorted (P2.out.trans (HP.out.map (·.1))) S2.out HU.out
  have hl2 : zs.length = L.length := by rw [e]; simp [eps]
  have hL0 : 0 < zs.length := by have := H1.out; omega
  obtain ⟨g', cap', pos, hv, hB, hle, hm, hz, hblk⟩ := owned_blk R2.out hL0
  cases hv
  exact ⟨g, cap, by rw [hl2] <;> rfl, ⟨⟨pos, by rw [← e]; exact hblk, by rw [← e]; exact hz⟩, Nat.le_trans HX.out.size hB, by rw [← e]; exact hle⟩, HX.out.trans X2.out⟩
end Go.Proofs.YtobhbppogeghnaaGreatDoor
end

section
namespace Go.Proofs.YtobhbppogeghnaaGreatDoor
open Go.RowKit

theorem kd_size (s l : ByteArray) (n : Nat) (h : n ≤ 8160) : (kd s l n).size = n := by unfold kd; rw [txt_size]; exact derL_length _ _ _ h
end Go.Proofs.YtobhbppogeghnaaGreatDoor
end

section
namespace Go.Proofs.YtobhbppogeghnaaGreatDoor
open Go.RowKit Go.Shelf

theorem grown_of_ext {W W' : World} (h : Ext W W') : W.grownBy W' none := ⟨h.os, h.tape, h.output, h.size, fun k hk _ => h.block k hk⟩
/-- What a round keeps: all below n₀, and the blocks bs. -/
def KpL (n₀ : Nat) (bs : List Nat) (W W' : World) : Prop := Below n₀ W W' ∧ ∀ b, b ∈ bs → W'.heap[b]? = W.heap[b]?
theorem KpL.refl (n₀ : Nat) (bs : List Nat) (W : World) : KpL n₀ bs W W := ⟨Below.refl _ _, fun _ _ => rfl⟩
theorem KpL.trans {n₀ : Nat} {bs : List Nat} {A B C : World} (h : KpL n₀ bs A B) (k : KpL n₀ bs B C) : KpL n₀ bs A C := ⟨h.1.trans k.1, fun b hb => (k.2 b hb).trans (h.2 b hb)⟩
theorem KpL.of_ext {n₀ : Nat} {bs : List Nat} {A B : World} (h : Ext A B) (hn : n₀ ≤ A.heap.size) (hb : ∀ b, b ∈ bs → b < A.heap.size) : KpL n₀ bs A B := ⟨Below.mono h.below hn, fun b hm => h.block b (hb b hm)⟩
theorem KpL.put {n₀ : Nat} {bs : List Nat} {w : World} (hn : n₀ ≤ w.heap.size) (hb : ∀ b, b ∈ bs → b < w.heap.size) (W : World) (l : Nat) (o o' : Obj) (hwl : w.heap.size ≤ l) (h : W.heap[l]? = some o) (h1 : o.isCells = false) (h2 : o.isWalk = false) : KpL n₀ bs W (W.putObj l o') :=
  ⟨belowK_b hn W l o o' hwl h h1 h2, fun b hm => World.putObj_heap_other (by have := hb b hm; omega)⟩
theorem KpL.below {n₀ : Nat} {bs : List Nat} {A B : World} (h : KpL n₀ bs A B) : Below n₀ A B := h.1
theorem KpL.keeps {n₀ : Nat} {bs : List Nat} {A B : World} (h : KpL n₀ bs A B) {b : Nat} (hb : b ∈ bs) : B.heap[b]? = A.heap[b]? := h.2 b hb
end Go.Proofs.YtobhbppogeghnaaGreatDoor
end

section
namespace Go.Proofs.YtobhbppogeghnaaGreatDoor

def pickb (c : Bool) (x : Nat) : Nat := match c with | true => x | false => 0
/-- x by a. -/
def xt (a : Nat) : Nat := (2 * a) % 256 ^^^ pickb (a.testBit 7) 27
/-- x to the power of i, by a. -/
def xp (a : Nat) : Nat → Nat
  | 0 => a
  | i + 1 => xt (xp a i)
/-- The first n bits of b, each times its power, by a. -/
def tmN (a b : Nat) : Nat → Nat
  | 0 => 0
  | i + 1 => tmN a b i ^^^ pickb (b.testBit i) (xp a i)
/-- The product. -/
def tm (a b : Nat) : Nat := tmN a b 8
theorem pickb_xor (c d : Bool) (x : Nat) : pickb (c ^^ d) x = pickb c x ^^^ pickb d x := by cases c <;> cases d <;> simp [pickb]
theorem xor4 (a b c d : Nat) : (a ^^^ b) ^^^ (c ^^^ d) = (a ^^^ c) ^^^ (b ^^^ d) := by
  rw [Nat.xor_assoc, Nat.xor_assoc, ← Nat.xor_assoc b, Nat.xor_comm b c, Nat.xor_assoc c]
theorem tmN_right (a b d : Nat) : ∀ n, tmN a (b ^^^ d) n = tmN a b n ^^^ tmN a d n
  | 0 => by simp [tmN]
  | n + 1 => by rw [tmN, tmN, tmN, tmN_right a b d n, Nat.testBit_xor, pickb_xor, xor4]
theorem tm_right (a b d : Nat) : tm a (b ^^^ d) = tm a b ^^^ tm a d := tmN_right a b d 8
theorem xor_lt256 {a b : Nat} (ha : a < 256) (hb : b < 256) : a ^^^ b < 256 := Nat.xor_lt_two_pow (n := 8) ha hb
theorem pickb_lt {n : Nat} (c : Bool) (x : Nat) (h0 : 0 < n) (h : x < n) : pickb c x < n := by cases c <;> simp [pickb, h0, h]
theorem two_xor (a c : Nat) : 2 * (a ^^^ c) = 2 * a ^^^ 2 * c := by
  have h := Nat.shiftLeft_xor_distrib (a := a) (b := c) (i := 1)
  simpa [Nat.shiftLeft_eq, Nat.mul_comm] using h
theorem xt_xor (a c : Nat) : xt (a ^^^ c) = xt a ^^^ xt c := by
  unfold xt
  rw [two_xor, Nat.testBit_xor, pickb_xor, show (256 : Nat) = 2 ^ 8 from rfl, Nat.xor_mod_two_pow, xor4]
theorem xt_lt (a : Nat) : xt a < 256 := xor_lt256 (Nat.mod_lt _ (by decide)) (pickb_lt _ _ (by decide) (by decide))
theorem xp_lt {a : Nat} (h : a < 256) : ∀ i, xp a i < 256
  | 0 => h
  | _ + 1 => xt_lt _
theorem xp_xor (a c : Nat) : ∀ i, xp (a ^^^ c) i = xp a i ^^^ xp c i
  | 0 => rfl
  | i + 1 => by rw [xp, xp, xp, xp_xor a c i, xt_xor]
theorem pickb_sum (c : Bool) (x y : Nat) : pickb c (x ^^^ y) = pickb c x ^^^ pickb c y := by cases c <;> simp [pickb]
theorem tmN_left (a c b : Nat) : ∀ n, tmN (a ^^^ c) b n = tmN a b n ^^^ tmN c b n
  | 0 => by simp [tmN]
  | n + 1 => by rw [tmN, tmN, tmN, tmN_left a c b n, xp_xor, pickb_sum, xor4]
theorem tm_left (a c b : Nat) : tm (a ^^^ c) b = tm a b ^^^ tm c b := tmN_left a c b 8
theorem tmN_lt {a : Nat} (h : a < 256) (b : Nat) : ∀ n, tmN a b n < 256
  | 0 => by simp [tmN]
  | n + 1 => by
    rw [tmN]
    exact xor_lt256 (tmN_lt h b n) (pickb_lt _ _ (by decide) (xp_lt h n))
theorem tm_lt {a : Nat} (h : a < 256) (b : Nat) : tm a b < 256 := tmN_lt h b 8
theorem tm_one : ∀ a, a < 256 → tm a 1 = a := by decide +kernel
theorem tm_zero (a : Nat) : tm a 0 = 0 := by simp [tm, tmN, pickb]
/-- A byte by its bits. -/
def bitsum (d : Nat) : Nat → Nat
  | 0 => 0
  | i + 1 => bitsum d i ^^^ pickb (d.testBit i) (2 ^ i)
theorem bitsum_eq : ∀ d, d < 256 → bitsum d 8 = d := by decide +kernel
theorem pow_lt256 {i : Nat} (h : i < 8) : 2 ^ i < 256 := Nat.lt_of_lt_of_le (Nat.pow_lt_pow_right (by decide) h) (by decide)
theorem bitsum_lt (d : Nat) : ∀ i, i ≤ 8 → bitsum d i < 256
  | 0, _ => by simp [bitsum]
  | i + 1, h => by
    rw [bitsum]
    exact xor_lt256 (bitsum_lt d i (by omega)) (pickb_lt _ _ (by decide) (pow_lt256 (by omega)))
/-- What goes over sums, and is the same at each bit, is the same. -/
theorem linear_eq {f g : Nat → Nat} (hf : ∀ x y, x < 256 → y < 256 → f (x ^^^ y) = f x ^^^ f y) (hg : ∀ x y, x < 256 → y < 256 → g (x ^^^ y) = g x ^^^ g y)
    (hb : ∀ i, i < 8 → f (2 ^ i) = g (2 ^ i)) (d : Nat) (hd : d < 256) : f d = g d := by
  have f0 : f 0 = 0 := by have := hf 0 0 (by decide) (by decide); simpa using this
  have g0 : g 0 = 0 := by have := hg 0 0 (by decide) (by decide); simpa using this
  have key : ∀ i, i ≤ 8 → f (bitsum d i) = g (bitsum d i) := by
    intro i
    induction i with
    | zero => intro _; rw [bitsum, f0, g0]
    | succ i ih =>
      intro hi
      have h1 := bitsum_lt d i (by omega)
      have h2 : pickb (d.testBit i) (2 ^ i) < 256 := pickb_lt _ _ (by decide) (pow_lt256 (by omega))
      rw [bitsum, hf _ _ h1 h2, hg _ _ h1 h2, ih (by omega)]
      congr 1
      cases d.testBit i
      · simp only [pickb]; rw [f0, g0]
      · simp only [pickb]; exact hb i (by omega)
  have := key 8 (Nat.le_refl _)
  rwa [bitsum_eq d hd] at this
theorem tm_comm_bits : ∀ i, i < 8 → ∀ j, j < 8 → tm (2 ^ i) (2 ^ j) = tm (2 ^ j) (2 ^ i) := by decide +kernel
theorem tm_comm {a b : Nat} (ha : a < 256) (hb : b < 256) : tm a b = tm b a := by
  refine linear_eq (f := fun b => tm a b) (g := fun b => tm b a) (fun x y _ _ => tm_right _ _ _) (fun x y _ _ => tm_left _ _ _) (fun j hj => ?_) b hb
  exact linear_eq (f := fun a => tm a (2 ^ j)) (g := fun a => tm (2 ^ j) a) (fun x y _ _ => tm_left _ _ _) (fun x y _ _ => tm_right _ _ _) (fun i hi => tm_comm_bits i hi j hj) a ha
theorem tm_bits : ∀ i, i < 8 → ∀ j, j < 8 → ∀ k, k < 8 → tm (2 ^ i) (tm (2 ^ j) (2 ^ k)) = tm (tm (2 ^ i) (2 ^ j)) (2 ^ k) := by decide +kernel
theorem tm_assoc {a b d : Nat} (ha : a < 256) (hb : b < 256) (hd : d < 256) : tm a (tm b d) = tm (tm a b) d := by
  refine linear_eq (f := fun d => tm a (tm b d)) (g := fun d => tm (tm a b) d) (fun x y _ _ => by simp only [tm_right]) (fun x y _ _ => tm_right _ _ _) (fun k hk => ?_) d hd
  refine linear_eq (f := fun b => tm a (tm b (2 ^ k))) (g := fun b => tm (tm a b) (2 ^ k)) (fun x y _ _ => by simp only [tm_left, tm_right]) (fun x y _ _ => by simp only [tm_right, tm_left]) (fun j hj => ?_) b hb
  exact linear_eq (f := fun a => tm a (tm (2 ^ j) (2 ^ k))) (g := fun a => tm (tm a (2 ^ j)) (2 ^ k)) (fun x y _ _ => tm_left _ _ _) (fun x y _ _ => by simp only [tm_left]) (fun i hi => tm_bits i hi j hj k hk) a ha

/-! ### Bytes -/
def mulB (a b : UInt8) : UInt8 := UInt8.ofNat (tm a.toNat b.toNat)
theorem mulB_nat (a b : UInt8) : (mulB a b).toNat = tm a.toNat b.toNat := by
  unfold mulB
  rw [UInt8.toNat_ofNat']
  exact Nat.mod_eq_of_lt (tm_lt a.toNat_lt _)
theorem mulB_comm (a b : UInt8) : mulB a b = mulB b a := UInt8.toNat_inj.1 (by rw [mulB_nat, mulB_nat]; exact tm_comm a.toNat_lt b.toNat_lt)
theorem mulB_right (a b d : UInt8) : mulB a (b ^^^ d) = mulB a b ^^^ mulB a d := UInt8.toNat_inj.1 (by rw [UInt8.toNat_xor, mulB_nat, mulB_nat, mulB_nat, UInt8.toNat_xor]; exact tm_right _ _ _)
theorem mulB_left (a c b : UInt8) : mulB (a ^^^ c) b = mulB a b ^^^ mulB c b := by rw [mulB_comm, mulB_right, mulB_comm b a, mulB_comm b c]
theorem mulB_one (a : UInt8) : mulB a 1 = a := UInt8.toNat_inj.1 (by rw [mulB_nat]; exact tm_one _ a.toNat_lt)
/-- Four columns' worth of a row, by four factors. -/
def dot (p q r s a b c d : UInt8) : UInt8 := ((mulB p a ^^^ mulB q b) ^^^ mulB r c) ^^^ mulB s d
end Go.Proofs.YtobhbppogeghnaaGreatDoor
end

section
namespace Go.Proofs.YtobhbppogeghnaaGreatDoor
open Go.RowKit

theorem i64_xor_nat (a b : Nat) (ha : a < 4294967296) (hb : b < 4294967296) : bits .xor .i64 (a : Int) (b : Int) = ((a ^^^ b : Nat) : Int) := by
  have hx : a ^^^ b < 2 ^ 32 := Nat.xor_lt_two_pow (by omega) (by omega)
  show IntKind.i64.wrap ((BitVec.ofInt 64 (a : Int) ^^^ BitVec.ofInt 64 (b : Int)).toNat : Int) = _
  rw [BitVec.toNat_xor, ofInt_u64 a (by omega), ofInt_u64 b (by omega), IntKind.wrap_i64]
  omega
theorem i64_and_nat (a b : Nat) (ha : a < 4294967296) (hb : b < 4294967296) : bits .and .i64 (a : Int) (b : Int) = ((a &&& b : Nat) : Int) := by
  have hx : a &&& b ≤ a := Nat.and_le_left
  show IntKind.i64.wrap ((BitVec.ofInt 64 (a : Int) &&& BitVec.ofInt 64 (b : Int)).toNat : Int) = _
  rw [BitVec.toNat_and, ofInt_u64 a (by omega), ofInt_u64 b (by omega), IntKind.wrap_i64]
  omega
theorem div_cast (b j : Nat) : (b : Int) / 2 ^ j = ((b / 2 ^ j : Nat) : Int) := by simp
theorem bit_is (b j : Nat) : (((b / 2 ^ j &&& 1 : Nat) : Int) == 1) = b.testBit j := by
  rw [Nat.and_one_is_mod, Nat.testBit_eq_decide_div_mod_eq]
  by_cases h : b / 2 ^ j % 2 = 1
  · simp [h]
  · have : b / 2 ^ j % 2 = 0 := by omega
    simp [this]
theorem bit_test8 (b j : Nat) (hb : b < 256) : (bits BinOp.and IntKind.u8 ((b : Int) / 2 ^ j) 1 == 1) = b.testBit j := by
  have h1 : b / 2 ^ j < 256 := Nat.lt_of_le_of_lt (Nat.div_le_self _ _) hb
  have e : (1 : Int) = ((1 : Nat) : Int) := rfl
  rw [div_cast]
  conv => lhs; lhs; rw [e]
  rw [u8_and_nat _ _ h1 (by decide)]
  exact bit_is b j
theorem bit_test64 (b j : Nat) (hb : b < 4294967296) : (bits BinOp.and IntKind.i64 ((b : Int) / 2 ^ j) 1 == 1) = b.testBit j := by
  have h1 : b / 2 ^ j < 4294967296 := Nat.lt_of_le_of_lt (Nat.div_le_self _ _) hb
  have e : (1 : Int) = ((1 : Nat) : Int) := rfl
  rw [div_cast]
  conv => lhs; lhs; rw [e]
  rw [i64_and_nat _ _ h1 (by decide)]
  exact bit_is b j
/-- The sum of the powers, not yet reduced. -/
def rt1 (a b : Nat) : Nat → Nat
  | 0 => 0
  | i + 1 => rt1 a b i ^^^ pickb (b.testBit i) (a * 2 ^ i)
/-- Reduced from the bit 14 down, i steps. -/
def rt2 (n : Nat) : Nat → Nat
  | 0 => n
  | i + 1 => rt2 n i ^^^ pickb ((rt2 n i).testBit (14 - i)) (283 * 2 ^ (6 - i))
theorem shl_lt {a i : Nat} (ha : a < 512) (hi : i < 8) : a * 2 ^ i < 65536 := by
  have : 2 ^ i ≤ 2 ^ 7 := Nat.pow_le_pow_right (by decide) (by omega)
  have h2 : a * 2 ^ i ≤ a * 2 ^ 7 := Nat.mul_le_mul_left _ this
  omega
theorem xor_lt16 {a b : Nat} (ha : a < 65536) (hb : b < 65536) : a ^^^ b < 65536 := Nat.xor_lt_two_pow (n := 16) ha hb
theorem rt1_lt {a : Nat} (ha : a < 256) (b : Nat) : ∀ i, i ≤ 8 → rt1 a b i < 65536
  | 0, _ => by simp [rt1]
  | i + 1, h => xor_lt16 (rt1_lt ha b i (by omega)) (pickb_lt _ _ (by decide) (shl_lt (by omega) (by omega)))
theorem rt2_lt {n : Nat} (hn : n < 65536) : ∀ i, i ≤ 7 → rt2 n i < 65536
  | 0, _ => hn
  | i + 1, h => xor_lt16 (rt2_lt hn i (by omega)) (pickb_lt _ _ (by decide) (shl_lt (by decide) (by omega)))
theorem rt1_right (a b d : Nat) : ∀ n, rt1 a (b ^^^ d) n = rt1 a b n ^^^ rt1 a d n
  | 0 => by simp [rt1]
  | n + 1 => by rw [rt1, rt1, rt1, rt1_right a b d n, Nat.testBit_xor, pickb_xor, xor4]
theorem mul_pow_xor (a c i : Nat) : (a ^^^ c) * 2 ^ i = a * 2 ^ i ^^^ c * 2 ^ i := by
  have h := Nat.shiftLeft_xor_distrib (a := a) (b := c) (i := i)
  simpa [Nat.shiftLeft_eq] using h
theorem rt1_left (a c b : Nat) : ∀ n, rt1 (a ^^^ c) b n = rt1 a b n ^^^ rt1 c b n
  | 0 => by simp [rt1]
  | n + 1 => by rw [rt1, rt1, rt1, rt1_left a c b n, mul_pow_xor, pickb_sum, xor4]
theorem rt2_xor (x y : Nat) : ∀ n, rt2 (x ^^^ y) n = rt2 x n ^^^ rt2 y n
  | 0 => rfl
  | n + 1 => by rw [rt2, rt2, rt2, rt2_xor x y n, Nat.testBit_xor, pickb_xor, xor4]
theorem rtm_bits : ∀ i, i < 8 → ∀ j, j < 8 → rt2 (rt1 (2 ^ i) (2 ^ j) 8) 7 = tm (2 ^ i) (2 ^ j) := by decide +kernel
/-- The document's product is the product. -/
theorem rtm_eq {a b : Nat} (ha : a < 256) (hb : b < 256) : rt2 (rt1 a b 8) 7 = tm a b := by
  refine linear_eq (f := fun b => rt2 (rt1 a b 8) 7) (g := fun b => tm a b) (fun x y _ _ => by simp only [rt1_right, rt2_xor]) (fun x y _ _ => tm_right _ _ _) (fun j hj => ?_) b hb
  exact linear_eq (f := fun a => rt2 (rt1 a (2 ^ j) 8) 7) (g := fun a => tm a (2 ^ j)) (fun x y _ _ => by simp only [rt1_left, rt2_xor]) (fun x y _ _ => tm_left _ _ _) (fun i hi => rtm_bits i hi j hj) a ha
theorem mul_cast (a j : Nat) : ((a * 2 ^ j : Nat) : Int) = (a : Int) * 2 ^ j := by simp
theorem shl_cast (a j : Nat) (h : a * 2 ^ j < 65536) : wrap64 ((a : Int) * 2 ^ j) = ((a * 2 ^ j : Nat) : Int) := by
  have e : (a : Int) * 2 ^ j = ((a * 2 ^ j : Nat) : Int) := by simp
  rw [e]
  unfold wrap64
  omega
set_option maxHeartbeats 1000000 in
theorem rTimes_any (a b : Nat) (ha : a < 256) (hb : b < 256) (w : World) :
    Calls Tryz.prog 210 #[.int .u8 (a : Int), .int .u8 (b : Int)] w fun e w' => e = .returned (.int .u8 (tm a b : Nat)) ∧ w = w' := by
  have H1 := Lib.hid (fun j (h : j ≤ 8) => rt1_lt ha b j h)
  have HE := Lib.hid (rtm_eq ha hb)
  have HT := Lib.hid (tm_lt ha b)
  go_enter Tryz.func210, Tryz.ntmps210
  go_wp2
  go_loop [5, 6] (fun n i => ∃ j : Nat, j ≤ 8 ∧ i = .int .i64 j ∧ n = .int .i64 (rt1 a b j : Nat)) (fun _ i => 8 - (intOf i).toNat)
  case atStart => exact ⟨0, by omega, rfl, rfl⟩
  case round =>
    obtain ⟨j, hj, rfl, rfl⟩ := hrel
    by_cases hlt : j < 8
    · have hj0 : (0 : Int) ≤ (j : Int) := by omega
      have ht := bit_test8 b j hb
      have hs := shl_cast a j (shl_lt (by omega) hlt)
      have hx := i64_xor_nat (rt1 a b j) (a * 2 ^ j) (by have := H1.out j hj; omega) (by have := shl_lt (a := a) (by omega) hlt; omega)
      rw [mul_cast] at hx
      have hn : rt1 a b (j + 1) = rt1 a b j ^^^ pickb (b.testBit j) (a * 2 ^ j) := rfl
      have HN := Lib.hid hn
      clear hn
      rcases hc : b.testBit j with _ | _
      · rw [hc] at ht HN
        go_wp2
        go_round
        case rel => exact ⟨j + 1, hlt, by go_num, by rw [HN.out]; simp [pickb]⟩
        case measure => simp [intOf]; omega
      · rw [hc] at ht HN
        go_wp2
        go_round
        case rel => exact ⟨j + 1, hlt, by go_num, by rw [HN.out]; first | rfl | exact int_eq hx⟩
        case measure => simp [intOf]; omega
    · obtain rfl : j = 8 := by omega
      have hN := H1.out 8 (by omega)
      generalize rt1 a b 8 = N at *
      have H2 := Lib.hid (fun j (h : j ≤ 7) => rt2_lt hN j h)
      go_wp2
      go_loop [5, 7] (fun n i => ∃ j m : Nat, j ≤ 7 ∧ m + j = 14 ∧ i = .int .i64 (m : Int) ∧ n = .int .i64 (rt2 N j : Nat)) (fun _ i => (intOf i).toNat)
      case atStart => exact ⟨0, 14, by omega, rfl, rfl, rfl⟩
      case round =>
        obtain ⟨j, m, hj, hmj, rfl, rfl⟩ := hrel
        have hlN := H2.out j hj
        by_cases hlt : j < 7
        · obtain ⟨r, rfl⟩ : ∃ r, m = r + 8 := ⟨m - 8, by omega⟩
          have hm0 : (8 : Int) ≤ (r : Int) + 8 := by omega
          have ht := bit_test64 (rt2 N j) (r + 8) (by omega)
          have hs : wrap64 ((283 : Int) * 2 ^ r) = (283 : Int) * 2 ^ r := by have h := shl_cast 283 r (shl_lt (by decide) (by omega)); rw [mul_cast] at h; exact h
          have hx := i64_xor_nat (rt2 N j) (283 * 2 ^ r) (by omega) (by have := shl_lt (a := 283) (by decide) (show r < 8 by omega); omega)
          rw [mul_cast] at hx
          have hx2 : bits BinOp.xor IntKind.i64 ((rt2 N j : Nat) : Int) ((283 : Int) * 2 ^ r) = ((rt2 N j ^^^ 283 * 2 ^ r : Nat) : Int) := hx
          clear hx
          have hn : rt2 N (j + 1) = rt2 N j ^^^ pickb ((rt2 N j).testBit (r + 8)) (283 * 2 ^ r) := by
            rw [rt2, show 14 - j = r + 8 by omega, show 6 - j = r by omega]
          have HN := Lib.hid hn
          clear hn
          rcases hc : (rt2 N j).testBit (r + 8) with _ | _
          · rw [hc] at ht HN
            go_wp2
            go_round
            case rel => exact ⟨j + 1, r + 7, by omega, by omega, by go_num, by rw [HN.out]; simp [pickb]⟩
            case measure => simp [intOf]; omega
          · rw [hc] at ht HN
            go_wp2
            go_round
            case rel => exact ⟨j + 1, r + 7, by omega, by omega, by go_num, by rw [HN.out]; first | rfl | exact int_eq hx2⟩
            case measure => simp [intOf]; omega
        · obtain rfl : j = 7 := by omega
          obtain rfl : m = 7 := by omega
          rw [HE.out]
          have ht := HT.out
          go_wp2
          go_ret
          exact ⟨by go_num, rfl⟩
end Go.Proofs.YtobhbppogeghnaaGreatDoor
end
