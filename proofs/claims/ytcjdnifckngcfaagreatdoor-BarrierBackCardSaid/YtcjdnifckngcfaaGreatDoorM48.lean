/- A slice of small numbers among a law's arguments, opened: what its walk asks of it. Plain: a ring of which epochs were retired; contracts: Retire and Get by it. What a store into another block, or an append of texts, leaves of a barrier and of slices. From the rows' condition on the program's tables to what the contracts ask of the world; a world that meets it. -/
import Derived.Test.YtcjdnifckngcfaaGreatDoorM47
import Derived.Deep.Grids
import Derived.Test.YtcjdnifckngcfaaGreatDoorM46
import Derived.Test.YtcjdnifckngcfaaGreatDoorRows
import Derived.Test.YtcjdnifckngcfaaGreatDoorM09
import Derived.ProofKit
import Derived.JoinedOf
import Derived.LaidLaws
import Derived.LaidHandle
import Derived.MakeChecks
import Derived.Stop.LaidErr
import Derived.Stop.Joined
import Derived.Lib.LaidTab
section
namespace Go.Proofs.YtcjdnifckngcfaaGreatDoor
open Go.ChangeShapes Go.WideShapes Go.ChangeAt Go.RowKit
theorem cells_b8 : Tryz.prog.cellsOf 5 = 1 := by kernel_rfl
theorem bytes_b8 : Tryz.prog.bytesOf 5 = 1 := by kernel_rfl
def vU8 (l : List Nat) : List Value := l.map fun (n : Nat) => Value.int .u8 (n : Int)
section
variable {H : Type} {enc : TypeId × Value → H} {W : World} {base : Nat} {v : Value} {d : DataW H} {p : List MemPlace}
set_option maxRecDepth 100000 in
theorem open_u8s_p (hval : Value.okWide Tryz.prog W .any base 43 v) (h : DataW.Trod enc Tryz.prog W 0 (fun _ => true) true 43 v d p) (hlt : ∀ x ∈ p, x.block < W.heap.size)
    {ts : List TypeId} {ds : List (DataW H)} {j : Nat} (hsz : (DataW.weightsEach Tryz.prog ts ds).all (· ≤ reachBytes) = true) (ht : ts[j]? = some 43) (hd : ds[j]? = some d) :
    ∃ (pa : Option Addr) (n c : Nat) (l : List Nat), v = .slice pa n c ∧ l.length = n ∧ ValsP W pa (vU8 l) ∧ n ≤ 140737488355328 ∧ ∀ x, x ∈ l → x < 256 := by
  obtain ⟨a0, len, cap, rfl⟩ := okWide_slice Tryz.underlying43 hval
  obtain ⟨fuel, hf⟩ := h
  rcases open_ints (k := .u8) Tryz.underlying43 Tryz.underlying5 cells_b8 hf with ⟨hcs, hx⟩ | ⟨a, len', cap', zs, hcs, _, hl, hm, hz, hx, hcell, hwf⟩
  · simp [Value.cells] at hcs
    obtain ⟨rfl, rfl, rfl⟩ := hcs
    exact ⟨none, 0, 0, [], rfl, rfl, fun i s hs => by simp [vU8] at hs, by omega, by simp⟩
  · simp [Value.cells] at hcs
    obtain ⟨rfl, rfl, rfl⟩ := hcs
    simp only [Prod.mk.injEq] at hx
    obtain ⟨rfl, rfl⟩ := hx
    simp only [if_true] at hz
    have hr := sized_slice hsz ht hd Tryz.underlying43
    rw [bytes_b8] at hr
    simp only [lits, List.length_map, List.length_take, List.length_drop, reachBytes] at hr
    refine ⟨some a, len, cap, (zs.take len).map Int.toNat, rfl, by simp [List.length_take]; omega, fun i u hs => ?_, by omega, fun x hx => ?_⟩
    · have hi : i < len := by
        have := (List.getElem?_eq_some_iff.1 hs).1
        simp [vU8] at this
        omega
      unfold vU8 at hs
      rw [List.getElem?_map, List.getElem?_map] at hs
      rcases hz0 : (zs.take len)[i]? with _ | z
      · rw [hz0] at hs; cases hs
      · rw [hz0] at hs
        rw [List.getElem?_take, if_pos hi] at hz0
        have hmem : z ∈ zs := List.mem_of_getElem? hz0
        have hwz := hwf z hmem
        simp [Lit.wf, IntKind.min, IntKind.max, IntKind.signed, IntKind.bits] at hwz
        have hc := hcell i (by omega)
        have e : zs.getD i 0 = z := by rw [List.getD_eq_getElem?_getD, hz0]; rfl
        rw [e] at hc
        have e2 : u = .int .u8 z := by
          have := Option.some.inj hs
          rw [← this]
          show Value.int .u8 ((z.toNat : Nat) : Int) = _
          rw [Int.toNat_of_nonneg (by omega)]
        rw [e2]
        exact ⟨a, rfl, hlt (.cell a.block (a.off + i)) (MemPlace.mem_row.2 ⟨i, by omega, rfl⟩), hc⟩
    ·
      obtain ⟨z, hz1, rfl⟩ := List.mem_map.1 hx
      have hwz := hwf z (List.mem_of_mem_take hz1)
      simp [Lit.wf, IntKind.min, IntKind.max, IntKind.signed, IntKind.bits] at hwz
      omega
end
end Go.Proofs.YtcjdnifckngcfaaGreatDoor
end

section
namespace Go.Proofs.YtcjdnifckngcfaaGreatDoor
open Go.RowKit
attribute [local irreducible] rkey expand enc dec ctrB ctrC ctrL xorL xorAll turnL turnT kd t4 t8 env5 chk tagT sealT ringL hdT envOf f32B f12B lastG

/-- What is left of the ring: of which it is said that it is there. -/
def ringD (R : List (Nat × ByteArray)) (D : List Bool) : List (Nat × ByteArray) := R.filter fun x => D.getD (x.1 - 1) false
theorem ringD_all (k0 : ByteArray) (K : List ByteArray) (n : Nat) : ringD (ringG k0 K n) (List.replicate (n + 1) true) = ringG k0 K n := by
  refine List.filter_eq_self.2 fun x hx => ?_
  have : x.1 ∈ eps (ringG k0 K n) := List.mem_map.2 ⟨x, hx, rfl⟩
  rw [ringG_eps] at this
  obtain ⟨j, hj, e⟩ := List.mem_map.1 this
  have hj2 := List.mem_range.1 hj
  have hlt : x.1 - 1 < n + 1 := by omega
  rw [List.getD_eq_getElem?_getD, List.getElem?_replicate, if_pos hlt]
  rfl
theorem ringD_mem (k0 : ByteArray) (K : List ByteArray) (n : Nat) (D : List Bool) (k : Nat) (hk : k ≤ n) (h : D[k]? = some true) : (k + 1, lastG k0 K k) ∈ ringD (ringG k0 K n) D :=
  List.mem_filter.2 ⟨ringG_mem k0 K k n hk, by simp [List.getD, h]⟩
theorem ringD_eps (k0 : ByteArray) (K : List ByteArray) (n : Nat) (D : List Bool) (k : Nat) (h : D[k]? = some false) : k + 1 ∉ eps (ringD (ringG k0 K n) D) := fun q => by
  obtain ⟨x, hx, e⟩ := List.mem_map.1 q
  have := (List.mem_filter.1 hx).2
  simp only [show x.1 - 1 = k by omega, List.getD, h, Option.getD_some] at this
  cases this
theorem ringD_top (k0 : ByteArray) (K : List ByteArray) (n : Nat) (D : List Bool) (h : D[n]? = some true) : top (eps (ringD (ringG k0 K n) D)) = n + 1 := by
  refine Nat.le_antisymm ?_ ?_
  · refine top_le fun x hx => ?_
    obtain ⟨y, hy, e⟩ := List.mem_map.1 hx
    have : y.1 ∈ eps (ringG k0 K n) := List.mem_map.2 ⟨y, (List.mem_filter.1 hy).1, rfl⟩
    have := le_top this
    rw [ringG_top] at this
    omega
  · exact le_top (List.mem_map.2 ⟨_, ringD_mem k0 K n D n (Nat.le_refl _) h, rfl⟩)
theorem ringD_out (k0 : ByteArray) (K : List ByteArray) (n : Nat) (D : List Bool) (k : Nat) (hk : k < D.length) : outK (ringD (ringG k0 K n) D) (k + 1) = ringD (ringG k0 K n) (D.set k false) := by
  unfold outK ringD
  rw [List.filter_filter]
  refine List.filter_congr fun x hx => ?_
  have h1 : x.1 ∈ eps (ringG k0 K n) := List.mem_map.2 ⟨x, hx, rfl⟩
  rw [ringG_eps] at h1
  obtain ⟨j, hj, e⟩ := List.mem_map.1 h1
  by_cases q : x.1 = k + 1
  · have e1 : x.1 - 1 = k := by omega
    simp [q, List.getD, hk]
  · have e1 : x.1 - 1 ≠ k := by omega
    simp [q, List.getD, List.getElem?_set_ne (Ne.symm e1)]
theorem ext_grownK {w w' : World} {b : Nat} (h : Ext w w') : w.grownBy w' (some b) := ⟨h.os, h.tape, h.output, h.size, fun i hi _ => h.block i hi⟩
/-- What Retire says of an epoch. -/
def retC (n : Nat) (D : List Bool) (k : Nat) : Int := if k = n then 2 else if D.getD k false = false then 3 else 0
def retD (n : Nat) (D : List Bool) (k : Nat) : List Bool := if k = n then D else if D.getD k false = false then D else D.set k false
theorem retD_length (n : Nat) (D : List Bool) (k : Nat) : (retD n D k).length = D.length := by
  unfold retD
  split
  · rfl
  · split
    · rfl
    · simp
theorem retD_last (n : Nat) (D : List Bool) (k : Nat) (h : D[n]? = some true) : (retD n D k)[n]? = some true := by
  unfold retD
  split
  · exact h
  · split
    · exact h
    · rw [List.getElem?_set_ne (by omega)]; exact h
/-- An epoch is retired, or not. -/
theorem bretire_epoch (w : World) (B b m : Nat) (hB2 : 2 ≤ B) (hL : Laid w) (E root k0 : ByteArray) (K : List ByteArray) (n : Nat) (hn : n < 1000) (D : List Bool) (hD : D.length = n + 1) (hl : D[n]? = some true) (k : Nat) (hk : k ≤ n) (nonce : ByteArray) (hz : nonce.size = 12)
    (nz : ByteArray) (e0 : E = envOf root m nz (ringD (ringG k0 K n) D) ∧ nz.size = 12) (h : IsP w B b (.opened m E root (ringD (ringG k0 K n) D))) (ki : Int) (hki : ki = (k : Int) + 1) :
    Calls Tryz.prog 25 #[.pointer (some ⟨b, 0, none⟩), .int .u32 ki, .string nonce] w fun e w' => e = .returned (.int .i64 (retC n D k)) ∧ (∃ E' nz', (E' = envOf root m nz' (ringD (ringG k0 K n) (retD n D k)) ∧ nz'.size = 12) ∧ IsP w' B b (.opened m E' root (ringD (ringG k0 K n) (retD n D k)))) ∧ TurnP B w w' := by
  subst hki
  have hc : ((k : Int) + 1) = ((k + 1 : Nat) : Int) := by omega
  rw [hc]
  have htop := ringD_top k0 K n D hl
  by_cases h1 : k = n
  · subst h1
    have := bretire_is w B b m E root (ringD (ringG k0 K k) D) nonce hB2 hL h hz ((k + 1 : Nat) : Int) (ringD (ringG k0 K k) D) 2 (fun u r kk hu => (show Calls _ _ _ _ _ from by
      have q := retire_top u r kk _ hu
      rw [htop] at q
      exact q.mono fun e w' he => ⟨he.1, hu.ext he.2, ext_grownK he.2⟩))
    refine this.mono fun e w' he => ?_
    obtain ⟨q1, q2, q3⟩ := he
    unfold newS at q2
    rw [if_neg (by decide)] at q2
    unfold retC retD
    rw [if_pos rfl, if_pos rfl]
    exact ⟨q1, ⟨E, nz, e0, q2⟩, q3⟩
  · by_cases h2 : D.getD k false = false
    · have h3 : D[k]? = some false := by
        have hlt : k < D.length := by omega
        rw [List.getElem?_eq_getElem hlt]
        simp [List.getD, List.getElem?_eq_getElem hlt] at h2
        rw [h2]
      have := bretire_is w B b m E root (ringD (ringG k0 K n) D) nonce hB2 hL h hz ((k + 1 : Nat) : Int) (ringD (ringG k0 K n) D) 3 (fun u r kk hu => (retire_none u r kk _ hu (k + 1) (by omega) (ringD_eps k0 K n D k h3)).mono fun e w' he => ⟨he.1, hu.ext he.2, ext_grownK he.2⟩)
      refine this.mono fun e w' he => ?_
      obtain ⟨q1, q2, q3⟩ := he
      unfold newS at q2
      rw [if_neg (by decide)] at q2
      unfold retC retD
      rw [if_neg h1, if_neg h1, if_pos h2, if_pos h2]
      exact ⟨q1, ⟨E, nz, e0, q2⟩, q3⟩
    · have hlt : k < D.length := by omega
      have h3 : D[k]? = some true := by
        rw [List.getElem?_eq_getElem hlt]
        simp [List.getD, List.getElem?_eq_getElem hlt] at h2
        rw [h2]
      have := bretire_is w B b m E root (ringD (ringG k0 K n) D) nonce hB2 hL h hz ((k + 1 : Nat) : Int) (ringD (ringG k0 K n) (D.set k false)) 0 (fun u r kk hu => by
        have q := retire_yes u r kk _ hu (k + 1) (by rw [htop]; omega) (List.mem_map.2 ⟨_, ringD_mem k0 K n D k hk h3, rfl⟩)
        rw [ringD_out k0 K n D k hlt] at q
        exact q)
      refine this.mono fun e w' he => ?_
      obtain ⟨q1, q2, q3⟩ := he
      unfold newS at q2
      rw [if_pos rfl] at q2
      unfold retC retD
      rw [if_neg h1, if_neg h1, if_neg h2, if_neg h2]
      exact ⟨q1, ⟨_, nonce, ⟨rfl, hz⟩, q2⟩, q3⟩
/-- What was put by an epoch is got, as long as that is there. -/
theorem get_epoch (w : World) (B b m : Nat) (hL : Laid w) (E root k0 : ByteArray) (K : List ByteArray) (n : Nat) (hn : n < 1000) (D : List Bool) (k : Nat) (hk : k ≤ n) (d : Bool) (hd : D[k]? = some d) (path : ByteArray) (v : Nat) (nonce text : ByteArray) (hz : nonce.size = 12) (hp : path.size ≤ 1048576) (hx : text.size ≤ 1048576)
    (h : IsP w B b (.opened m E root (ringD (ringG k0 K n) D))) :
    Calls Tryz.prog 20 #[.pointer (some ⟨b, 0, none⟩), .string path, .int .u64 (v : Int), .string (sealT (lastG k0 K k) (k + 1) path v nonce text)] w fun e w' => e = .returned (.tuple #[.string (if d then text else ⟨#[]⟩), .int .i64 (if d then 0 else 140)]) ∧ Ext w w' := by
  cases d
  · exact get_open w B b m E root _ h path v _ ⟨#[]⟩ 140 fun r kk hkk => open_gone w r kk _ hkk (lastG k0 K k) (k + 1) (by omega) path v nonce text hz hp hx (ringD_eps k0 K n D k hd)
  · exact get_is w hL B b m E root (lastG k0 K k) _ h (k + 1) (ringD_mem k0 K n D k hk hd) path v nonce text hz hp hx
end Go.Proofs.YtcjdnifckngcfaaGreatDoor
end

section
namespace Go.Proofs.YtcjdnifckngcfaaGreatDoor
open Go.RowKit

theorem BufS.mono {w : World} {A B : Nat} {v : Value} {l : List ByteArray} (h : BufS w A v l) (hB : B ≤ A) : BufS w B v l := by
  refine ⟨h.1, ?_⟩
  rcases h.2 with h0 | ⟨g, cap, cur, e1, e2, e3, e4⟩
  · exact .inl h0
  · exact .inr ⟨g, cap, cur, e1, Nat.le_trans hB e2, e3, e4⟩
section
variable {w w' : World} {q i : Nat} {T : TypeId} {cs : List Value} {u : Value}
theorem Blk.keptT {b : Nat} {T' : TypeId} {cs' : List Value} (h : Blk w b T' cs') (hb : Blk w q T cs) (hT : T ≠ T') (e : w' = w.setCell ⟨q, i, none⟩ u) : Blk w' b T' cs' := by
  subst e
  refine (Below.heap_setCell _ _ _ _ fun hq => ?_).trans h
  simp only at hq
  subst hq
  unfold Blk at h hb
  rw [hb] at h
  cases h
  exact hT rfl
theorem IsBar.keptT {B b g bm n m : Nat} {h : ByteArray} {rt rg : Option Addr} {L : List (Nat × ByteArray)} (x : IsBar w B b g bm h rt rg n m L) (hb : Blk w q T cs) (h1 : T ≠ 73) (h2 : T ≠ 97) (e : w' = w.setCell ⟨q, i, none⟩ u) : IsBar w' B b g bm h rt rg n m L :=
  ⟨x.blk.keptT hb h1 e, x.gat.kept hb h2 e, x.low, x.lowm⟩
theorem IsP.keptT {B b : Nat} {S : BS} (h : IsP w B b S) (hb : Blk w q T cs) (h1 : T ≠ 73) (h2 : T ≠ 97) (h3 : T ≠ 112) (e : w' = w.setCell ⟨q, i, none⟩ u) : IsP w' B b S := by
  cases S with
  | none => obtain ⟨g, bm, x⟩ := h; exact ⟨g, bm, x.keptT hb h1 h2 e⟩
  | closed n E L => obtain ⟨g, bm, x⟩ := h; exact ⟨g, bm, x.keptT hb h1 h2 e⟩
  | opened n E root K => obtain ⟨g, bm, r1, k1, r2, k2, x, j⟩ := h; exact ⟨g, bm, r1, k1, r2, k2, x.keptT hb h1 h2 e, ⟨j.one.kept hb h3 e, j.two.kept hb h3 e, j.low, j.a1, j.a2⟩⟩
theorem IsL.keptT {B c : Nat} {p : Option Addr} {l : List ByteArray} (h : IsL w B p c l) (hb : Blk w q T cs) (hT : T ≠ 9) (e : w' = w.setCell ⟨q, i, none⟩ u) : IsL w' B p c l := by
  subst e
  exact ⟨h.sl.parted hb hT (fun g hg => Below.heap_setCell _ _ _ _ hg), h.low⟩
theorem BufS.keptT {A : Nat} {v : Value} {l : List ByteArray} (h : BufS w A v l) (hb : Blk w q T cs) (hT : T ≠ 9) (e : w' = w.setCell ⟨q, i, none⟩ u) : BufS w' A v l := by
  subst e
  refine ⟨h.1, ?_⟩
  rcases h.2 with h0 | ⟨g, cap, cur, e1, e2, e3, e4⟩
  · exact .inl h0
  · refine .inr ⟨g, cap, cur, e1, e2, (Below.heap_setCell _ _ _ _ fun hq => ?_).trans e3, e4⟩
    simp only at hq
    subst hq
    unfold Blk at hb
    rw [hb] at e3
    cases e3
    exact hT rfl
end
theorem IsP.good {w : World} {B b n : Nat} {E root : ByteArray} {K : List (Nat × ByteArray)} (h : IsP w B b (.opened n E root K)) : GoodK K := by
  obtain ⟨g, bm, r1, k1, r2, k2, x, j⟩ := h
  exact j.two.good
theorem KeepS.mono {A B : Nat} {w w' : World} (h : KeepS B w w') (hA : A ≤ B) : KeepS A w w' := ⟨h.below.mono hA, h.keep⟩
/-- The block of a slice of texts. -/
theorem BufS.obj {w : World} {A : Nat} {q : Option Addr} {n c : Nat} {l : List ByteArray} (h : BufS w A (.slice q n c) l) (hl : l ≠ []) : ∃ (g : Nat) (o : Obj), q = some ⟨g, 0, none⟩ ∧ w.heap[g]? = some o ∧ NotB o ∧ (∀ (u : World), u.heap[g]? = some o → ∀ (i : Nat) (s : ByteArray), l[i]? = some s → u.cell? ⟨g, i, none⟩ = some (.string s)) ∧ (∀ (u : World) (q : Nat) (T : TypeId) (cs : List Value), u.heap[g]? = some o → Blk u q T cs → T ≠ 9 → g ≠ q) := by
  rcases h.2 with ⟨_, h0⟩ | ⟨g, cap, cur, e1, e2, e3, e4, _, e5, e6⟩
  · exact absurd (List.length_eq_zero_iff.1 h0) hl
  · cases e1
    refine ⟨g, _, rfl, e3, ⟨fun _ _ e => (by cases e), fun _ _ e => (by cases e)⟩, fun u hu i s hs => ?_, fun u q T cs hu hb hT e => ?_⟩
    · rw [cell_of_row u g i cur _ (0, 0) hu]
      have hi : i < l.length := (List.getElem?_eq_some_iff.1 hs).1
      have : (l.map Value.string)[i]? = some (.string s) := by simp [hs]
      rw [← e6, List.getElem?_take, if_pos (by omega)] at this
      rw [← Array.getElem?_toList]
      exact this
    · subst e
      unfold Blk at hb
      rw [hu] at hb
      cases hb
      exact hT rfl
/-- The envelopes that the law puts, one by each epoch. -/
def putsL (k0 : ByteArray) (K : List ByteArray) (N text : ByteArray) (j : Nat) : List ByteArray := (List.range j).map fun t => sealT (lastG k0 K t) (t + 1) ⟨#[112]⟩ t N text
theorem putsL_length (k0 : ByteArray) (K : List ByteArray) (N text : ByteArray) (j : Nat) : (putsL k0 K N text j).length = j := by simp [putsL]
theorem putsL_succ (k0 : ByteArray) (K : List ByteArray) (N text : ByteArray) (j : Nat) : putsL k0 K N text (j + 1) = putsL k0 K N text j ++ [sealT (lastG k0 K j) (j + 1) ⟨#[112]⟩ j N text] := by simp [putsL, List.range_succ]
theorem putsL_at (k0 : ByteArray) (K : List ByteArray) (N text : ByteArray) (j t : Nat) (h : t < j) : (putsL k0 K N text j)[t]? = some (sealT (lastG k0 K t) (t + 1) ⟨#[112]⟩ t N text) := by simp [putsL, h]
/-- Truths as cells. -/
def boV (D : List Bool) : List Value := D.map Value.bool
theorem boV_set (D : List Bool) (k : Nat) (b : Bool) : (boV D).set k (.bool b) = boV (D.set k b) := by simp [boV, List.map_set]
theorem infoBo15 : (Tryz.prog.info? 4).map (fun i => (i.zero, i.size, i.bytes)) = some (some (.bool false), 1, 1) := by kernel_rfl
theorem boV_made (n : Nat) : madeCells #[Value.bool false] n = (boV (List.replicate n false)).toArray := by
  apply Array.toList_inj.1
  rw [toList_madeCells_one]
  simp [boV]
/-- make([]bool, n): a new block of n times false. -/
theorem make_bools15 (n : Nat) (hn : n ≤ 1000000) : ∀ u : World, (Instr.makeSlice 66 (.int .i64 (n : Int)) (.int .i64 (n : Int))).run Tryz.prog u =
      .ok (.slice (some ⟨u.heap.size, 0, none⟩) n n) (u.alloc (.cells (boV (List.replicate n false)).toArray 4)) := fun u => by
  obtain ⟨i0, hi, hz0, hz1, hz2⟩ := info_parts infoBo15
  have h := run_make (P := Tryz.prog) u 66 4 i0 (.bool false) Tryz.underlying66 hi hz0 .i64 .i64 (n : Int) (n : Int) (by omega) (Int.le_refl _) (by rw [hz2]; omega) (by omega)
  rw [← boV_made]
  simpa [hz1, Value.cells] using h
end Go.Proofs.YtcjdnifckngcfaaGreatDoor
end

section
namespace Go.Proofs.YtcjdnifckngcfaaGreatDoor
open Go.ChangeShapes Go.WideShapes Go.RowKit

noncomputable def laidList : List (String × DataW Unit) := Rows.barrierPlaysRow.laid
theorem own : ownKnob Tryz.prog.godebug = none := by kernel_rfl
def intsOf (l : List Nat) : List Int := l.map fun (n : Nat) => (n : Int)
theorem laid_of_met {W : World} (h : laidMetH Tryz.prog laidList W) : Laid W := by
  have h1 : laidMet Tryz.prog laidList W := by
    rwa [MakeChecks.laidMetH_plain _ _ _ (by kernel_rfl)] at h
  have hk := Lib.tabIs_of_head (k := .u32) (zs := intsOf Kc) (g := 1) (t := 246) (e := 40) (n := 64) (by kernel_rfl) (by kernel_rfl) Tryz.underlying246 Tryz.underlying40 (by kernel_rfl) (by kernel_rfl) (laidMet.tail (show laidMet Tryz.prog (_ :: (_, Lib.tabData .u32 (intsOf Kc)) :: []) W from h1))
  have hf := Lib.tabIs_of_head (k := .u32) (zs := intsOf init.list) (g := 0) (t := 216) (e := 40) (n := 8) (by kernel_rfl) (by kernel_rfl) Tryz.underlying216 Tryz.underlying40 (by kernel_rfl) (by kernel_rfl) (show laidMet Tryz.prog ((_, Lib.tabData .u32 (intsOf init.list)) :: _) W from h1)
  have ck := fun i hi => hk.cell (g := 1) (by kernel_rfl) i hi
  have cf := fun i hi => hf.cell (g := 0) (by kernel_rfl) i hi
  have e : ∀ (l : List Nat) (i : Nat), i < l.length → (intsOf l).getD i 0 = ((l.getD i 0 : Nat) : Int) := by
    intro l i hi
    simp [intsOf, List.getD, List.getElem?_eq_getElem hi]
  refine ⟨fun i hi => ?_, fun i hi => ?_, ?_⟩
  · rw [ck i hi, e Kc i hi]
  · rw [cf i hi, e init.list i hi]
  · have := ck 0 (by decide)
    rcases Nat.lt_or_ge 1 W.heap.size with hlt | hge
    · exact hlt
    · unfold World.cell? at this
      rw [Array.getElem?_eq_none (by simpa using hge)] at this
      cases this
/-- A world that meets the condition: the settled one, the tables laid. -/
noncomputable def laidWorld (os : Os) : World :=
  let w0 := World.holding Tryz.prog os ⟨#[], #[], []⟩
  { w0 with heap := (w0.heap.modify 0 fun
      | .cells _ t frozen => .cells (init.list.map cell32).toArray t frozen
      | o => o).modify 1 fun
      | .cells _ t frozen => .cells (Kc.map cell32).toArray t frozen
      | o => o }
theorem laidWorld_met (os : Os) (args : Array Value) : laidMetH Tryz.prog laidList ((laidWorld os).forCall (fun _ _ => 0) ⟨#[], args, []⟩).memory :=
  laidMetH_of_parts (laidMet_of_run' 8 (by kernel_rfl) (by kernel_rfl)) (by kernel_rfl)
end Go.Proofs.YtcjdnifckngcfaaGreatDoor
end
