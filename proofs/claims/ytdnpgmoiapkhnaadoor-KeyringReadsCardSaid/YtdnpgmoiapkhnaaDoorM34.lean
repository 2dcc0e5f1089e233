/- Contracts: numbers of 32 bits sorted by the library; a map's keys, collected and sorted. Contracts: keys by epochs: all epochs, rising; an epoch's two keys: by the program. Contract: the document's example: the laws of layer 13. Plain: the newest epoch, what goes, what comes; all epochs, so many. -/
import Derived.Test.YtdnpgmoiapkhnaaDoorM26
import Derived.Test.YtdnpgmoiapkhnaaDoorSortW
import Derived.Test.YtdnpgmoiapkhnaaDoorM12
import Derived.Test.YtdnpgmoiapkhnaaDoorM17
import Derived.BigQuiet
import Derived.Deep.DeepCutAuto
import Derived.Outline
section
namespace Go.Proofs.YtdnpgmoiapkhnaaDoor
open Go.RowKit

set_option maxRecDepth 100000 in
set_option maxHeartbeats 2000000 in
theorem sort_any (g : Nat) (T : TypeId) (pos : List Value) (d : Array Nat) (cap : Nat) (w : World) (h : Blk w g T (d.toList.map cN ++ pos)) (h1 : 1 ≤ d.size) (hs : d.size ≤ 1000000) :
    Calls Tryd.prog 68 #[.slice (some ⟨g, 0, none⟩) d.size cap] w fun e w' => e = .returned (.tuple #[]) ∧ ∃ d', RowN w w' g T pos d' ∧ Sort.PermIn 0 d.size d d' ∧ Sort.SortedIn ltN 0 d.size d' := by
  obtain ⟨n, hn⟩ : ∃ n, d.size = n := ⟨_, rfl⟩
  have HL := Lib.hid (fun u => blen_any n u (by omega) (by omega))
  have hp : ∀ k : Nat, k ≤ 20 → Calls Tryd.prog 86 #[.slice (some ⟨g, 0, none⟩) n cap, .int .i64 0, .int .i64 (n : Int), .int .i64 (k : Int)] w fun e w' => e = .returned (.tuple #[]) ∧ ∃ d', RowN w w' g T pos d' ∧ Sort.PermIn 0 n d d' ∧ Sort.SortedIn ltN 0 n d' :=
    fun k hk => pdq_any (n + 1) g T pos d 0 n k n cap w (by omega) h (Nat.zero_le _) (by omega) hn.symm (by omega) (by omega) (Or.inl rfl)
  have HP := Lib.hid hp
  clear hp
  rw [hn]
  clear h
  have HN := Lib.hid hn
  have hn1 : n ≤ 1000000 := by omega
  have hw : IntKind.u64.wrap (n : Int) = (n : Int) := by rw [IntKind.wrap_u64]; omega
  clear hn hs h1
  go_enter Tryd.func68, Tryd.ntmps68
  go_wp2_with (first
    | (go_at_call 87; refine (HL.out _).mono ?_; rintro e w1 ⟨k, rfl, k1, k2, k3, rfl⟩)
    | (go_at_call 86; refine (HP.out k k3).mono ?_; rintro e w2 ⟨rfl, d', r2, p2, s2⟩; have R2 := Lib.hid r2; have P2 := Lib.hid p2; have S2 := Lib.hid s2; clear r2 p2 s2))
  go_end0
  exact ⟨rfl, d', R2.out, P2.out, S2.out⟩
theorem collect_any (bm b : Nat) (L : List (Nat × ByteArray)) (w : World) (hl : L.length ≤ 1000000) (hC : w.cell? ⟨bm, 0, none⟩ = some (.map (some b))) (hbm : bm < w.heap.size) (hM : MapL w Tryd.prog 29 b (L.map kvR)) :
    Calls Tryd.prog 67 #[.func (.func 69) #[] #[.pointer (some ⟨bm, 0, none⟩)]] w fun e w' =>
      ∃ (v : Value) (ys : List Nat), e = .returned v ∧ ys.Perm (L.map (·.1)) ∧ w'.ownsRow w.heap.size 29 1 v ys.length (ys.map cN) ∧ Ext w w' := by
  have HA := Lib.hid (appendSeq_any bm b L w hl hC hbm hM)
  clear hC hM
  go_enter Tryd.func67, Tryd.ntmps67
  go_wp2_with (go_at_call 85; refine (HA.out).mono ?_; rintro e w1 ⟨v, ys, rfl, p1, r1, x1⟩; have P1 := Lib.hid p1; have R1 := Lib.hid r1; have X1 := Lib.hid x1; clear p1 r1 x1)
  go_ret
  exact ⟨v, ys, rfl, P1.out, R1.out, X1.out⟩
/-- A row of the call's own that holds these numbers. -/
theorem owned_blk {w : World} {B : Nat} {v : Value} {ys : List Nat} (h : w.ownsRow B 29 1 v ys.length (ys.map cN)) (h0 : 0 < ys.length) :
    ∃ g cap pos, v = .slice (some ⟨g, 0, none⟩) ys.length cap ∧ B ≤ g ∧ ys.length ≤ cap ∧ cap ≤ maxLen ∧ ys.length + pos.length = cap ∧ Blk w g 29 (ys.map cN ++ pos) := by
  rcases h.2 with ⟨_, h1⟩ | ⟨g, cap, cur, rfl, hB, hg, hle, hm, hsz, ht⟩
  · omega
  · rw [Nat.mul_one] at ht hsz
    refine ⟨g, cap, cur.toList.drop ys.length, rfl, hB, hle, hm, by simp; omega, ?_⟩
    unfold Blk
    rw [← ht, List.take_append_drop]
    exact hg
theorem blk_owned {w : World} {B g cap : Nat} {ys : List Nat} {pos : List Value} (h : Blk w g 29 (ys.map cN ++ pos)) (hB : B ≤ g) (hle : ys.length ≤ cap) (hm : cap ≤ maxLen) (hz : ys.length + pos.length = cap) :
    w.ownsRow B 29 1 (.slice (some ⟨g, 0, none⟩) ys.length cap) ys.length (ys.map cN) :=
  ⟨by simp, .inr ⟨g, cap, _, rfl, hB, h, hle, hm, by simp; omega, by simp⟩⟩
theorem sorted_list (d d' : Array Nat) (hp : Sort.PermIn 0 d.size d d') (hs : Sort.SortedIn ltN 0 d.size d') : d'.toList.Perm d.toList ∧ d'.toList.Pairwise (· ≤ ·) := by
  refine ⟨?_, ?_⟩
  · have h := hp.2.2
    have e : d'.extract 0 d.size = d' := by rw [← hp.1]; simp
    rw [e] at h
    simpa using h
  · rw [List.pairwise_iff_getElem]
    intro i j hi hj hij
    have h := hs i j (Nat.zero_le _) hij (by rw [← hp.1]; simpa using hj)
    simp only [ltN, decide_eq_false_iff_not, Nat.not_lt] at h
    have ei : d'[i]! = d'.toList[i] := by
      have : i < d'.size := by simpa using hi
      simp [this]
    have ej : d'[j]! = d'.toList[j] := by
      have : j < d'.size := by simpa using hj
      simp [this]
    rw [ei, ej] at h
    exact h
set_option maxRecDepth 100000 in
theorem sorted_any (bm b : Nat) (L : List (Nat × ByteArray)) (w : World) (h1 : 1 ≤ L.length) (hl : L.length ≤ 1000000) (hC : w.cell? ⟨bm, 0, none⟩ = some (.map (some b))) (hbm : bm < w.heap.size) (hM : MapL w Tryd.prog 29 b (L.map kvR)) :
    Calls Tryd.prog 49 #[.func (.func 69) #[] #[.pointer (some ⟨bm, 0, none⟩)]] w fun e w' =>
      ∃ (g cap : Nat) (zs : List Nat), e = .returned (.slice (some ⟨g, 0, none⟩) zs.length cap) ∧ zs.Perm (L.map (·.1)) ∧ zs.Pairwise (· ≤ ·) ∧ w'.ownsRow w.heap.size 29 1 (.slice (some ⟨g, 0, none⟩) zs.length cap) zs.length (zs.map cN) ∧ Ext w w' := by
  have HA := Lib.hid (collect_any bm b L w hl hC hbm hM)
  clear hC hM
  go_enter Tryd.func49, Tryd.ntmps49
  go_upto_region 2 with (go_at_call 67; refine (HA.out).mono ?_; rintro e w1 ⟨v, ys, rfl, p1, r1, x1⟩; have P1 := Lib.hid p1; have R1 := Lib.hid r1; have X1 := Lib.hid x1; clear p1 r1 x1)
  have hlen : ys.length = L.length := by have := P1.out.length_eq; simpa using this
  obtain ⟨g, cap, pos, rfl, hB, hle, hm, hz, hblk⟩ := owned_blk R1.out (by omega)
  have hc := sort_any g 29 pos ys.toArray cap w1 hblk (by simp; omega) (by simp; omega)
  rw [List.size_toArray] at hc
  have HC := Lib.hid hc
  have HLen := Lib.hid hlen; have HBl := Lib.hid hblk; have HZ := Lib.hid hz; have HB := Lib.hid hB
  clear hc hlen hblk hz hB
  go_wp2_with (go_at_call 68; refine (HC.out).mono ?_; rintro e w2 ⟨rfl, d', r2, p2, s2⟩; have R2 := Lib.hid r2; have P2 := Lib.hid p2; have S2 := Lib.hid s2; clear r2 p2 s2)
  have hsz : d'.toList.length = ys.length := by have := P2.out.1; simpa using this
  obtain ⟨hp, hs⟩ := sorted_list ys.toArray d' (by simpa using P2.out) (by simpa using S2.out)
  go_ret
  refine ⟨g, cap, d'.toList, by rw [hsz] <;> rfl, hp.trans P1.out, hs, ?_, ?_⟩
  · exact blk_owned R2.out.blk HB.out (by rw [hsz]; exact hle) hm (by rw [hsz]; exact HZ.out)
  · exact ⟨R2.out.grown.os.trans X1.out.os, R2.out.grown.tape.trans X1.out.tape, R2.out.grown.output.trans X1.out.output, Nat.le_trans X1.out.size R2.out.grown.size, fun k hk => (R2.out.grown.block k (Nat.lt_of_lt_of_le hk X1.out.size) (by have := HB.out; simp; omega)).trans (X1.out.block k hk)⟩
end Go.Proofs.YtdnpgmoiapkhnaaDoor
end

section
namespace Go.Proofs.YtdnpgmoiapkhnaaDoor
open Go.RowKit

theorem perm_sorted : ∀ {l m : List Nat}, l.Perm m → l.Pairwise (· ≤ ·) → m.Pairwise (· < ·) → l = m
  | [], _, h, _, _ => (List.nil_perm.1 h).symm
  | a :: l, [], h, _, _ => by have := h.length_eq; simp at this
  | a :: l, b :: m, h, h1, h2 => by
    have q1 := List.rel_of_pairwise_cons h1 (a' := b)
    have q2 := List.rel_of_pairwise_cons h2 (a' := a)
    have e : a = b := by
      rcases List.mem_cons.1 (h.mem_iff.1 (List.mem_cons_self (a := a) (l := l))) with q | q
      · exact q
      · rcases List.mem_cons.1 (h.mem_iff.2 (List.mem_cons_self (a := b) (l := m))) with p | p
        · exact p.symm
        · have := q1 p; have := q2 q; omega
    subst e
    rw [perm_sorted h.cons_inv h1.of_cons h2.of_cons]
theorem epochs_nil (w : World) :
    Calls Tryd.prog 27 #[.pointer none] w fun e w' => e = .returned (.slice none 0 0) ∧ w = w' := by
  go_enter Tryd.func27, Tryd.ntmps27
  go_wp2_with (go_at_call 45; refine (thereK_no _).mono ?_; rintro e w1 ⟨rfl, rfl⟩)
  go_ret
  exact ⟨rfl, rfl⟩
/-- A slice of a ring's epochs. -/
structure IsE (w : World) (B g c : Nat) (l : List Nat) : Prop where
  blk : ∃ pos, Blk w g 29 (l.map cN ++ pos) ∧ l.length + pos.length = c
  new : B ≤ g
  le : l.length ≤ c
theorem IsE.ext {w w' : World} {B g c : Nat} {l : List Nat} (h : IsE w B g c l) (x : Ext w w') : IsE w' B g c l := by
  obtain ⟨⟨pos, h1, h2⟩, h3, h4⟩ := h
  exact ⟨⟨pos, h1.ext x, h2⟩, h3, h4⟩
theorem IsE.cell {w : World} {B g c : Nat} {l : List Nat} (h : IsE w B g c l) (i : Nat) (hi : i < l.length) : w.cell? ⟨g, i, none⟩ = some (.int .u32 (l[i] : Int)) := by
  obtain ⟨⟨pos, h1, h2⟩, h3, h4⟩ := h
  refine h1.cell i _ ?_
  rw [List.getElem?_append_left (by simpa using hi), List.getElem?_map, List.getElem?_eq_getElem hi]
  rfl
set_option maxRecDepth 100000 in
theorem epochs_any (w : World) (r b : Nat) (L : List (Nat × ByteArray)) (h : IsK w r b L) :
    Calls Tryd.prog 27 #[.pointer (some ⟨r, 0, none⟩)] w fun e w' => ∃ g c, e = .returned (.slice (some ⟨g, 0, none⟩) L.length c) ∧ IsE w' w.heap.size g c (eps L) ∧ Ext w w' := by
  have hc := h.cell
  have h1 : 1 ≤ L.length := by have := h.good.ne; cases L with | nil => exact absurd rfl this | cons => simp
  have H1 := Lib.hid h1
  have h64 := h.good.few
  have hup := h.good.up
  obtain ⟨M, hp, hm⟩ := h.map
  have HU := Lib.hid hup
  have HP := Lib.hid hp
  obtain ⟨W0, hW0⟩ : ∃ W0, w.alloc (.cells #[.map (some b)] 67) = W0 := ⟨_, rfl⟩
  have hx0 : Ext w W0 := by rw [← hW0]; exact (Ext.refl w).alloc _
  have hz0 : w.heap.size < W0.heap.size := by rw [← hW0]; simp
  have hB0 : Blk W0 w.heap.size 67 [.map (some b)] := by rw [← hW0]; exact Blk.new w _ _
  have hlen := hp.length_eq
  have HS := Lib.hid (sorted_any w.heap.size b M W0 (by omega) (by omega) (hB0.cell 0 _ rfl) hz0 (hm.ext hx0))
  have HX := Lib.hid hx0
  clear h hup hm hp hx0 hz0 hB0 h1 h64
  go_enter Tryd.func27, Tryd.ntmps27
  go_wp2_with (first
    | (go_at_call 45; refine (thereK_yes _ r b hc).mono ?_; rintro e w1 ⟨rfl, rfl⟩)
    | (go_at_call 50; refine (keys_any (some b) _).mono ?_; rintro e w1 ⟨rfl, hw1⟩; rw [hW0] at hw1; subst hw1)
    | (go_at_call 49; refine (HS.out).mono ?_; rintro e w2 ⟨g, cap, zs, rfl, p2, s2, r2, x2⟩; have P2 := Lib.hid p2; have S2 := Lib.hid s2; have R2 := Lib.hid r2; have X2 := Lib.hid x2; clear p2 s2 r2 x2))
  go_ret
  have e : zs = eps L := perm_sorted (P2.out.trans (HP.out.map (·.1))) S2.out HU.out
  have hl2 : zs.length = L.length := by rw [e]; simp [eps]
  have hL0 : 0 < zs.length := by have := H1.out; omega
  obtain ⟨g', cap', pos, hv, hB, hle, hm, hz, hblk⟩ := owned_blk R2.out hL0
  cases hv
  exact ⟨g, cap, by rw [hl2] <;> rfl, ⟨⟨pos, by rw [← e]; exact hblk, by rw [← e]; exact hz⟩, Nat.le_trans HX.out.size hB, by rw [← e]; exact hle⟩, HX.out.trans X2.out⟩
end Go.Proofs.YtdnpgmoiapkhnaaDoor
end

section
namespace Go.Proofs.YtdnpgmoiapkhnaaDoor
open Go.RowKit

theorem Ext.grownBack {a b c : World} {k : Nat} (h : Ext a b) (hg : b.grownBy c (some k)) (hk : a.heap.size ≤ k) : Ext a c := Ext.grown h hg (fun q e => by cases e; exact hk)
theorem kd_size (s l : ByteArray) (n : Nat) (h : n ≤ 8160) : (kd s l n).size = n := by unfold kd; rw [txt_size]; exact derL_length _ _ _ h
section
variable {A B : ByteArray}
theorem ex_rot (hB : B.size = 32) (u : World) (r b : Nat) (h : IsK u r b [(1, A)]) :
    Calls Tryd.prog 21 #[.pointer (some ⟨r, 0, none⟩), .string B] u fun e w' => e = .returned (.tuple #[.int .u32 2, .int .i64 0]) ∧ IsK w' r b [(1, A), (2, B)] ∧ u.grownBy w' (some b) := by
  have ht : top (eps [(1, A)]) = 1 := by simp [eps, top]
  have := rotate_yes u r b _ h B hB (by simp) (by omega)
  rw [ht] at this
  exact this
theorem ex_ret1 (u : World) (r b : Nat) (h : IsK u r b [(1, A), (2, B)]) :
    Calls Tryd.prog 25 #[.pointer (some ⟨r, 0, none⟩), .int .u32 1] u fun e w' => e = .returned (.int .i64 0) ∧ IsK w' r b [(2, B)] ∧ u.grownBy w' (some b) := by
  have ht : top (eps [(1, A), (2, B)]) = 2 := by simp [eps, top]
  have := retire_yes u r b _ h 1 (by rw [ht]; omega) (by simp [eps])
  have e : outK [(1, A), (2, B)] 1 = [(2, B)] := by simp [outK]
  rw [e] at this
  exact this
theorem ex_ret2 (u : World) (r b : Nat) (h : IsK u r b [(1, A), (2, B)]) :
    Calls Tryd.prog 25 #[.pointer (some ⟨r, 0, none⟩), .int .u32 2] u fun e w' => e = .returned (.int .i64 2) ∧ Ext u w' := by
  have ht : top (eps [(1, A), (2, B)]) = 2 := by simp [eps, top]
  have := retire_top u r b _ h
  rw [ht] at this
  exact this
theorem ex_eps (u : World) (r b : Nat) (h : IsK u r b [(2, B)]) :
    Calls Tryd.prog 27 #[.pointer (some ⟨r, 0, none⟩)] u fun e w' => ∃ g c, e = .returned (.slice (some ⟨g, 0, none⟩) 1 c) ∧ IsE w' u.heap.size g c [2] ∧ Ext u w' := by
  have he : eps [(2, B)] = [2] := by simp [eps]
  have hl : [(2, B)].length = 1 := rfl
  have := epochs_any u r b _ h
  rw [he, hl] at this
  exact this
theorem ex_keys (u : World) (r b : Nat) (hL : Laid u) (h : IsK u r b [(2, B)]) :
    Calls Tryd.prog 28 #[.pointer (some ⟨r, 0, none⟩), .int .u32 2] u fun e w' => ∃ D1 D2 : ByteArray, e = .returned (.tuple #[.string D1, .string D2, .bool true]) ∧ D1.size = 16 ∧ D2.size = 32 ∧ Ext u w' := by
  have := keys_yes u r b _ hL h 2 B (by simp)
  exact this.mono fun _ _ he => ⟨_, _, he.1, kd_size _ _ _ (by omega), kd_size _ _ _ (by omega), he.2⟩
theorem ex_full1 (u : World) : Calls Tryd.prog 9 #[.string ⟨#[97]⟩] u fun e w' => ∃ A : ByteArray, e = .returned (.string A) ∧ A.size = 32 ∧ Ext u w' :=
  (fullK_any ⟨#[97]⟩ u).mono fun _ _ he => ⟨_, he.1, f32B_size _, he.2⟩
theorem ex_full2 (u : World) : Calls Tryd.prog 9 #[.string ⟨#[98]⟩] u fun e w' => ∃ A : ByteArray, e = .returned (.string A) ∧ A.size = 32 ∧ Ext u w' :=
  (fullK_any ⟨#[98]⟩ u).mono fun _ _ he => ⟨_, he.1, f32B_size _, he.2⟩
end
set_option maxRecDepth 100000 in
set_option maxHeartbeats 1000000 in
theorem worksK (w : World) (hL : Laid w) : Calls Tryd.prog 7 #[] w fun e w' => e = .returned (.bool true) ∧ Ext w w' := by
  have HL := Lib.hid hL
  clear hL
  go_enter Tryd.func7, Tryd.ntmps7
  go_wp2_with (first
    | (go_at_call 9; (with_reducible refine (ex_full1 _).mono ?_); rintro e w1 ⟨A, rfl, zA, x1⟩)
    | (go_at_call 26; refine (newK_yes _ A zA).mono ?_; rintro e w2 ⟨r, b, rfl, i2, q2, p2, x2⟩; have I2 := Lib.hid i2; have X2 := Lib.hid (x1.trans x2); have Q2 := Lib.hid (Nat.le_trans x1.size p2); clear i2 x1 x2 q2 p2)
    | (go_at_call 9; (with_reducible refine (ex_full2 _).mono ?_); rintro e w3 ⟨B, rfl, zB, x3⟩)
    | (go_at_call 21; refine (ex_rot zB _ _ _ (I2.out.ext x3)).mono ?_; rintro e w4 ⟨rfl, i4, g4⟩; have I4 := Lib.hid i4; have X4 := Lib.hid ((X2.out.trans x3).grownBack g4 Q2.out); clear i4 g4 x3)
    | (go_at_call 25; (with_reducible refine (ex_ret2 _ _ _ I4.out).mono ?_); rintro e w5 ⟨rfl, x5⟩; have I5 := Lib.hid (I4.out.ext x5); have X5 := Lib.hid (X4.out.trans x5); clear x5)
    | (go_at_call 25; (with_reducible refine (ex_ret1 _ _ _ I5.out).mono ?_); rintro e w6 ⟨rfl, i6, g6⟩; have I6 := Lib.hid i6; have X6 := Lib.hid (X5.out.grownBack g6 Q2.out); clear i6 g6)
    | (go_at_call 27; refine (ex_eps _ _ _ I6.out).mono ?_; rintro e w7 ⟨g, c, rfl, i7, x7⟩; have I7 := Lib.hid (I6.out.ext x7); have X7 := Lib.hid (X6.out.trans x7); have E7 := Lib.hid i7; clear x7 i7)
    | (go_at_call 28; refine (ex_keys _ _ _ (HL.out.ext X7.out) I7.out).mono ?_; rintro e w8 ⟨D1, D2, rfl, z1, z2, x8⟩; have X8 := Lib.hid (X7.out.trans x8); have c8 : w8.cell? ⟨g, 0, none⟩ = some (.int .u32 2) := (E7.out.ext x8).cell 0 (by simp); have hle := E7.out.le; clear x8))
  go_ret
  exact ⟨by first | rfl | simp, X8.out⟩
end Go.Proofs.YtdnpgmoiapkhnaaDoor
end

section
namespace Go.Proofs.YtdnpgmoiapkhnaaDoor
open Go.RowKit

/-! ### Plain -/
section
variable {K : List (Nat × ByteArray)}
theorem top_snoc (K : List (Nat × ByteArray)) (t : Nat) (s : ByteArray) (h : top (eps K) < t) : top (eps (K ++ [(t, s)])) = t := by
  have hp : (eps (K ++ [(t, s)])).Perm (t :: eps K) := by
    unfold eps
    rw [List.map_append]
    exact List.perm_append_comm
  rw [top_perm hp, top_cons]
  omega
theorem eps_split (K : List (Nat × ByteArray)) (e : Nat) (hup : (eps K).Pairwise (· < ·)) (he : e ∈ eps K) : (eps K).Perm (e :: eps (outK K e)) := by
  have hn : (eps K).Nodup := hup.imp fun q => Nat.ne_of_lt q
  have hn2 : (eps (outK K e)).Nodup := hn.sublist ((List.filter_sublist).map _)
  have hm : ∀ x, x ∈ eps (outK K e) ↔ x ∈ eps K ∧ x ≠ e := by
    intro x
    constructor
    · intro hx
      obtain ⟨y, hy, rfl⟩ := List.mem_map.1 hx
      exact ⟨List.mem_map.2 ⟨y, (mem_outK.1 hy).1, rfl⟩, (mem_outK.1 hy).2⟩
    · rintro ⟨hx, hne⟩
      obtain ⟨y, hy, rfl⟩ := List.mem_map.1 hx
      exact List.mem_map.2 ⟨y, mem_outK.2 ⟨hy, hne⟩, rfl⟩
  refine (List.perm_ext_iff_of_nodup hn (List.nodup_cons.2 ⟨fun q => ((hm e).1 q).2 rfl, hn2⟩)).2 fun x => ?_
  rw [List.mem_cons, hm]
  constructor
  · intro hx
    by_cases q : x = e
    · exact .inl q
    · exact .inr ⟨hx, q⟩
  · rintro (rfl | hx)
    · exact he
    · exact hx.1
theorem outK_length (hg : GoodK K) {e : Nat} (he : e ∈ eps K) : (outK K e).length + 1 = K.length := by
  have := (eps_split K e hg.up he).length_eq
  simp only [List.length_cons, eps, List.length_map] at this
  omega
theorem outK_top (hg : GoodK K) {e : Nat} (he : e ∈ eps K) (hne : e ≠ top (eps K)) : top (eps (outK K e)) = top (eps K) := by
  have h := top_perm (eps_split K e hg.up he)
  rw [top_cons] at h
  omega
/-- The newest is the last. -/
theorem last_top (hg : GoodK K) {n : Nat} (hn : K.length = n + 1) (hl : n < (eps K).length) : (eps K)[n] = top (eps K) := by
  obtain ⟨i, hi, he⟩ := List.getElem_of_mem hg.top_in
  have hlen : (eps K).length = n + 1 := by simp [eps, hn]
  rcases Nat.lt_or_ge i n with q | q
  · have := List.pairwise_iff_getElem.1 hg.up i n hi hl q
    have h2 := le_top (List.getElem_mem hl)
    omega
  · obtain rfl : i = n := by omega
    exact he
theorem eps_at {j : Nat} (hj : j < (eps K).length) : ∃ s, ((eps K)[j], s) ∈ K := by
  have hm := List.getElem_mem hj
  obtain ⟨⟨e, s⟩, hx, he⟩ := List.mem_map.1 hm
  exact ⟨s, by rw [← he]; exact hx⟩
end
theorem IsE.at_ {w : World} {B g c : Nat} {l : List Nat} (h : IsE w B g c l) (i x : Nat) (hi : i < l.length) (hx : l[i] = x) : w.cell? ⟨g, i, none⟩ = some (.int .u32 (x : Int)) := by
  subst hx
  exact h.cell i hi
/-- All epochs, so many. -/
theorem epochs_n (w : World) (r b : Nat) (L : List (Nat × ByteArray)) (h : IsK w r b L) (n : Nat) (hn : L.length = n) :
    Calls Tryd.prog 27 #[.pointer (some ⟨r, 0, none⟩)] w fun e w' => ∃ g c, e = .returned (.slice (some ⟨g, 0, none⟩) n c) ∧ IsE w' w.heap.size g c (eps L) ∧ Ext w w' := by
  subst hn
  exact epochs_any w r b L h
end Go.Proofs.YtdnpgmoiapkhnaaDoor
end
