/- Contracts: numbers of 32 bits sorted by the library; a map's keys, collected and sorted. -/
import Derived.Test.YteddogalmdgjlaaDoorCollect
import Derived.Test.YteddogalmdgjlaaDoorSortW
namespace Go.Proofs.YteddogalmdgjlaaDoor
open Go.RowKit

set_option maxRecDepth 100000 in
set_option maxHeartbeats 2000000 in
theorem sort_any (g : Nat) (T : TypeId) (pos : List Value) (d : Array Nat) (cap : Nat) (w : World) (h : Blk w g T (d.toList.map cN ++ pos)) (h1 : 1 ≤ d.size) (hs : d.size ≤ 1000000) :
    Calls Tryd.prog 47 #[.slice (some ⟨g, 0, none⟩) d.size cap] w fun e w' => e = .returned (.tuple #[]) ∧ ∃ d', RowN w w' g T pos d' ∧ Sort.PermIn 0 d.size d d' ∧ Sort.SortedIn ltN 0 d.size d' := by
  obtain ⟨n, hn⟩ : ∃ n, d.size = n := ⟨_, rfl⟩
  have HL := Lib.hid (fun u => blen_any n u (by omega) (by omega))
  have hp : ∀ k : Nat, k ≤ 20 → Calls Tryd.prog 55 #[.slice (some ⟨g, 0, none⟩) n cap, .int .i64 0, .int .i64 (n : Int), .int .i64 (k : Int)] w fun e w' => e = .returned (.tuple #[]) ∧ ∃ d', RowN w w' g T pos d' ∧ Sort.PermIn 0 n d d' ∧ Sort.SortedIn ltN 0 n d' :=
    fun k hk => pdq_any (n + 1) g T pos d 0 n k n cap w (by omega) h (Nat.zero_le _) (by omega) hn.symm (by omega) (by omega) (Or.inl rfl)
  have HP := Lib.hid hp
  clear hp
  rw [hn]
  clear h
  have HN := Lib.hid hn
  have hn1 : n ≤ 1000000 := by omega
  have hw : IntKind.u64.wrap (n : Int) = (n : Int) := by rw [IntKind.wrap_u64]; omega
  clear hn hs h1
  go_enter Tryd.func47, Tryd.ntmps47
  go_wp2_with (first
    | (go_at_call 56; refine (HL.out _).mono ?_; rintro e w1 ⟨k, rfl, k1, k2, k3, rfl⟩)
    | (go_at_call 55; refine (HP.out k k3).mono ?_; rintro e w2 ⟨rfl, d', r2, p2, s2⟩; have R2 := Lib.hid r2; have P2 := Lib.hid p2; have S2 := Lib.hid s2; clear r2 p2 s2))
  go_end0
  exact ⟨rfl, d', R2.out, P2.out, S2.out⟩
theorem collect_any (bm b : Nat) (L : List (Nat × ByteArray)) (w : World) (hl : L.length ≤ 1000000) (hC : w.cell? ⟨bm, 0, none⟩ = some (.map (some b))) (hbm : bm < w.heap.size) (hM : MapL w Tryd.prog 29 b (L.map kvR)) :
    Calls Tryd.prog 46 #[.func (.func 48) #[] #[.pointer (some ⟨bm, 0, none⟩)]] w fun e w' =>
      ∃ (v : Value) (ys : List Nat), e = .returned v ∧ ys.Perm (L.map (·.1)) ∧ w'.ownsRow w.heap.size 29 1 v ys.length (ys.map cN) ∧ Ext w w' := by
  have HA := Lib.hid (appendSeq_any bm b L w hl hC hbm hM)
  clear hC hM
  go_enter Tryd.func46, Tryd.ntmps46
  go_wp2_with (go_at_call 54; refine (HA.out).mono ?_; rintro e w1 ⟨v, ys, rfl, p1, r1, x1⟩; have P1 := Lib.hid p1; have R1 := Lib.hid r1; have X1 := Lib.hid x1; clear p1 r1 x1)
  go_ret
  exact ⟨v, ys, rfl, P1.out, R1.out, X1.out⟩
/-- A row of the call's own that holds these numbers. -/
theorem owned_blk {w : World} {B : Nat} {v : Value} {ys : List Nat} (h : w.ownsRow B 29 1 v ys.length (ys.map cN)) (h0 : 0 < ys.length) :
    ∃ g cap pos, v = .slice (some ⟨g, 0, none⟩) ys.length cap ∧ B ≤ g ∧ ys.length ≤ cap ∧ cap ≤ maxLen ∧ ys.length + pos.length = cap ∧ Blk w g 29 (ys.map cN ++ pos) := by
  rcases h.2 with ⟨_, h1⟩ | ⟨g, cap, cur, rfl, hB, hg, hle, hm, hsz, ht⟩
  · omega
  · rw [Nat.mul_one] at ht hsz
    refine ⟨g, cap, cur.toList.drop ys.length, rfl, hB, hle, hm, by simp; omega, ?_⟩
    unfold Blk
    rw [← ht, List.take_append_drop]
    exact hg
theorem blk_owned {w : World} {B g cap : Nat} {ys : List Nat} {pos : List Value} (h : Blk w g 29 (ys.map cN ++ pos)) (hB : B ≤ g) (hle : ys.length ≤ cap) (hm : cap ≤ maxLen) (hz : ys.length + pos.length = cap) :
    w.ownsRow B 29 1 (.slice (some ⟨g, 0, none⟩) ys.length cap) ys.length (ys.map cN) :=
  ⟨by simp, .inr ⟨g, cap, _, rfl, hB, h, hle, hm, by simp; omega, by simp⟩⟩
theorem sorted_list (d d' : Array Nat) (hp : Sort.PermIn 0 d.size d d') (hs : Sort.SortedIn ltN 0 d.size d') : d'.toList.Perm d.toList ∧ d'.toList.Pairwise (· ≤ ·) := by
  refine ⟨?_, ?_⟩
  · have h := hp.2.2
    have e : d'.extract 0 d.size = d' := by rw [← hp.1]; simp
    rw [e] at h
    simpa using h
  · rw [List.pairwise_iff_getElem]
    intro i j hi hj hij
    have h := hs i j (Nat.zero_le _) hij (by rw [← hp.1]; simpa using hj)
    simp only [ltN, decide_eq_false_iff_not, Nat.not_lt] at h
    have ei : d'[i]! = d'.toList[i] := by
      have : i < d'.size := by simpa using hi
      simp [this]
    have ej : d'[j]! = d'.toList[j] := by
      have : j < d'.size := by simpa using hj
      simp [this]
    rw [ei, ej] at h
    exact h
set_option maxRecDepth 100000 in
theorem sorted_any (bm b : Nat) (L : List (Nat × ByteArray)) (w : World) (h1 : 1 ≤ L.length) (hl : L.length ≤ 1000000) (hC : w.cell? ⟨bm, 0, none⟩ = some (.map (some b))) (hbm : bm < w.heap.size) (hM : MapL w Tryd.prog 29 b (L.map kvR)) :
    Calls Tryd.prog 38 #[.func (.func 48) #[] #[.pointer (some ⟨bm, 0, none⟩)]] w fun e w' =>
      ∃ (g cap : Nat) (zs : List Nat), e = .returned (.slice (some ⟨g, 0, none⟩) zs.length cap) ∧ zs.Perm (L.map (·.1)) ∧ zs.Pairwise (· ≤ ·) ∧ w'.ownsRow w.heap.size 29 1 (.slice (some ⟨g, 0, none⟩) zs.length cap) zs.length (zs.map cN) ∧ Ext w w' := by
  have HA := Lib.hid (collect_any bm b L w hl hC hbm hM)
  clear hC hM
  go_enter Tryd.func38, Tryd.ntmps38
  go_upto_region 2 with (go_at_call 46; refine (HA.out).mono ?_; rintro e w1 ⟨v, ys, rfl, p1, r1, x1⟩; have P1 := Lib.hid p1; have R1 := Lib.hid r1; have X1 := Lib.hid x1; clear p1 r1 x1)
  have hlen : ys.length = L.length := by have := P1.out.length_eq; simpa using this
  obtain ⟨g, cap, pos, rfl, hB, hle, hm, hz, hblk⟩ := owned_blk R1.out (by omega)
  have hc := sort_any g 29 pos ys.toArray cap w1 hblk (by simp; omega) (by simp; omega)
  rw [List.size_toArray] at hc
  have HC := Lib.hid hc
  have HLen := Lib.hid hlen; have HBl := Lib.hid hblk; have HZ := Lib.hid hz; have HB := Lib.hid hB
  clear hc hlen hblk hz hB
  go_wp2_with (go_at_call 47; refine (HC.out).mono ?_; rintro e w2 ⟨rfl, d', r2, p2, s2⟩; have R2 := Lib.hid r2; have P2 := Lib.hid p2; have S2 := Lib.hid s2; clear r2 p2 s2)
  have hsz : d'.toList.length = ys.length := by have := P2.out.1; simpa using this
  obtain ⟨hp, hs⟩ := sorted_list ys.toArray d' (by simpa using P2.out) (by simpa using S2.out)
  go_ret
  refine ⟨g, cap, d'.toList, by rw [hsz] <;> rfl, hp.trans P1.out, hs, ?_, ?_⟩
  · exact blk_owned R2.out.blk HB.out (by rw [hsz]; exact hle) hm (by rw [hsz]; exact HZ.out)
  · exact ⟨R2.out.grown.os.trans X1.out.os, R2.out.grown.tape.trans X1.out.tape, R2.out.grown.output.trans X1.out.output, Nat.le_trans X1.out.size R2.out.grown.size, fun k hk => (R2.out.grown.block k (Nat.lt_of_lt_of_le hk X1.out.size) (by have := HB.out; simp; omega)).trans (X1.out.block k hk)⟩
end Go.Proofs.YteddogalmdgjlaaDoor
