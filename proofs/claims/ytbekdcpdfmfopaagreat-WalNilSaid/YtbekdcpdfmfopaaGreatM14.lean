/- Contract: the first that waits for a number is taken, by the program. Plain: slices of places that grow by append. Plain: a whole number as a number, and back: bits. -/
import Derived.Test.YtbekdcpdfmfopaaGreatLater
import Derived.Test.YtbekdcpdfmfopaaGreatM00
import Derived.OwnWalkIn
import Derived.Test.YtbekdcpdfmfopaaGreatM05
import Derived.Laws.BitsAllLaws
import Derived.IntWalk
import Derived.Outline
section
namespace Go.Proofs.YtbekdcpdfmfopaaGreat
open Go.RowKit
open Go.Maps (Keyed)

/-- Places that wait, all of them below a bound. -/
def WaitB (w : World) (b B : Nat) (G : Nat → List Nat) : Prop := ∃ l, MapL w Tryz.prog 38 b l ∧
  ∀ m, m < 18446744073709551616 → (G m = [] ∧ ∀ p ∈ l, p.1 ≠ .int .u64 (m : Int)) ∨ (G m ≠ [] ∧ ∃ q c, (.int .u64 (m : Int), .slice q (G m).length c) ∈ l ∧ (G m).length ≤ c ∧ ValsP w q (vN (G m)) ∧ ∀ a, q = some a → a.block < B)
theorem WaitM.bound {w : World} {b : Nat} {G : Nat → List Nat} (h : WaitM w b G) : WaitB w b w.heap.size G := by
  obtain ⟨l, hm, hl⟩ := h
  refine ⟨l, hm, fun m hm64 => ?_⟩
  rcases hl m hm64 with h | ⟨h1, q, c, h2, h3, h4⟩
  · exact .inl h
  · refine .inr ⟨h1, q, c, h2, h3, h4, fun a ha => ?_⟩
    subst ha
    cases hg : G m with
    | nil => exact absurd hg h1
    | cons i r =>
      rw [hg] at h4
      obtain ⟨a2, e, h5, _⟩ := h4 0 _ rfl
      cases e
      exact h5
theorem WaitB.below {w w' : World} {b B : Nat} {G : Nat → List Nat} (h : WaitB w b B G) (hb : b < B) (hx : Below B w w') : WaitB w' b B G := by
  obtain ⟨l, hm, hl⟩ := h
  refine ⟨l, hm.same (hx.block b hb), fun m hm64 => ?_⟩
  rcases hl m hm64 with h | ⟨h1, q, c, h2, h3, h4, h5⟩
  · exact .inl h
  · exact .inr ⟨h1, q, c, h2, h3, h4.below hx h5, h5⟩
theorem WaitB.ext {w w' : World} {b B : Nat} {G : Nat → List Nat} (h : WaitB w b B G) (hx : Ext w w') : WaitB w' b B G := by
  obtain ⟨l, hm, hl⟩ := h
  refine ⟨l, hm.ext hx, fun m hm64 => ?_⟩
  rcases hl m hm64 with h | ⟨h1, q, c, h2, h3, h4, h5⟩
  · exact .inl h
  · exact .inr ⟨h1, q, c, h2, h3, h4.ext hx, h5⟩
theorem WaitB.lt {w : World} {b B : Nat} {G : Nat → List Nat} (h : WaitB w b B G) : b < w.heap.size := by
  obtain ⟨l, hm, _⟩ := h
  exact hm.lt
/-- Where the map alone has turned. -/
theorem ValsP.turned {w w' : World} {b : Nat} {p : Option Addr} {l : List Value} (h : ValsP w p l) (hg : w.grownBy w' (some b)) (hm : ∃ es clock, w.heap[b]? = some (.map es clock)) : ValsP w' p l := fun i v hv => by
  obtain ⟨a, h1, h2, h3⟩ := h i v hv
  have hne : a.block ≠ b := fun e => by
    obtain ⟨es, clock, hb⟩ := hm
    have hb2 : w.heap[(a.add i).block]? = some (.map es clock) := by rw [add_block, e]; exact hb
    have hc := h3
    simp [World.cell?, hb2] at hc
  have e : w'.heap[(a.add i).block]? = w.heap[(a.add i).block]? := hg.block _ (by rw [add_block]; exact h2) (by rw [add_block]; simpa using hne)
  exact ⟨a, h1, Nat.lt_of_lt_of_le h2 hg.size, by rw [World.cell?_of_block e]; exact h3⟩
theorem u64_inj {m n : Nat} (h : (Value.int .u64 (m : Int)) = .int .u64 (n : Int)) : m = n := by injection h with _ e; omega
theorem slice_tail (a : Addr) (n c : Nat) (hc : n + 2 ≤ c) (u : World) : (Instr.slice 66 (.slice (some a) (n + 2) c) (some (.int .i64 1)) none none).run Tryz.prog u = .ok (.slice (some (a.add 1)) (n + 1) (c - 1)) u := by
  have h1 : (1 : Int) ≤ (n : Int) + 2 := by omega
  have hc1 : ¬ c = 1 := by omega
  obtain ⟨i0, hi, _, hs, _⟩ := info_parts infoInt
  simp [Instr.slice, Instr.sliceBounds, Instr.sliceBound, asIntOf, run_underlying Tryz.underlying66, sizeOf, typeInfo, h1, hc1, hi, hs, Result.andThen]
set_option maxRecDepth 100000 in
set_option maxHeartbeats 4000000 in
theorem take_none (w : World) (b B : Nat) (G : Nat → List Nat) (h : WaitB w b B G) (num : Nat) (hn : num < 18446744073709551616) (h0 : G num = []) :
    Calls Tryz.prog 91 #[.map (some b), .int .u64 (num : Int)] w fun e w' => e = .returned (.tuple #[.int .i64 0, .bool false]) ∧ w = w' := by
  obtain ⟨l, hm, hl⟩ := h
  rcases hl num hn with ⟨_, h2⟩ | ⟨h1, _⟩
  · have hlk := hm.look_none keyU Tryz.underlying144 false (zero_ints w) (keyU_at num hn) h2
    simp only [Bool.false_eq_true, if_false] at hlk
    clear hm hl h2
    go_enter Tryz.func91, Tryz.ntmps91
    go_wp2
    go_ret2
    exact ⟨rfl, rfl⟩
  · exact absurd h0 h1
set_option maxRecDepth 100000 in
set_option maxHeartbeats 4000000 in
theorem take_some (w : World) (b B : Nat) (G : Nat → List Nat) (h : WaitB w b B G) (num : Nat) (hn : num < 18446744073709551616) (i : Nat) (r : List Nat) (h0 : G num = i :: r) (hr : r.length ≤ 1000000) :
    Calls Tryz.prog 91 #[.map (some b), .int .u64 (num : Int)] w fun e w' => e = .returned (.tuple #[.int .i64 (i : Int), .bool true]) ∧ WaitB w' b B (fun m => if m = num then r else G m) ∧ w.grownBy w' (some b) := by
  obtain ⟨l, hm, hl⟩ := h
  rcases hl num hn with ⟨h1, _⟩ | ⟨h1, q, c, h2, h3, h4, hbB⟩
  · rw [h0] at h1; cases h1
  · rw [h0] at h2 h3 h4
    have hlk := hm.look keyU Tryz.underlying144 false (keyU_at num hn) h2
    simp only [Bool.false_eq_true, if_false] at hlk
    obtain ⟨a, rfl, ha, hc0⟩ := h4 0 _ rfl
    have hba : a.block < B := hbB a rfl
    have hc : w.cell? a = some (.int .i64 (i : Int)) := by
      have e : a.add 0 = a := by simp [Addr.add]
      rwa [e] at hc0
    have hmis := hm.is
    have HFin : ∀ (l6 : List (Value × Value)) (w6 : World), MapL w6 Tryz.prog 38 b l6 → w.grownBy w6 (some b) → (∀ m, m ≠ num → ∀ v, (Value.int .u64 (m : Int), v) ∈ l6 ↔ (Value.int .u64 (m : Int), v) ∈ l) →
        (r = [] ∧ (∀ p ∈ l6, p.1 ≠ .int .u64 (num : Int)) ∨ r ≠ [] ∧ ∃ q c, (.int .u64 (num : Int), .slice q r.length c) ∈ l6 ∧ r.length ≤ c ∧ ValsP w6 q (vN r) ∧ ∀ a, q = some a → a.block < B) → (∀ p ∈ l6, ∃ v', p = p ∧ (p.1, v') = (p.1, p.2)) → WaitB w6 b B (fun m => if m = num then r else G m) := by
      intro l6 w6 hm6 hg6 hoth hnum _
      refine ⟨l6, hm6, fun m hm64 => ?_⟩
      by_cases hmn : m = num
      · subst hmn
        simp only [if_true]
        exact hnum
      · simp only [if_neg hmn]
        rcases hl m hm64 with ⟨g1, g2⟩ | ⟨g1, q', c', g2, g3, g4, g5⟩
        · refine .inl ⟨g1, fun p hp e => ?_⟩
          obtain ⟨p1, p2⟩ := p
          simp only at e
          subst e
          exact g2 _ ((hoth m hmn p2).1 hp) rfl
        · exact .inr ⟨g1, q', c', (hoth m hmn _).2 g2, g3, g4.turned hg6 hmis, g5⟩
    by_cases hr0 : r = []
    · subst hr0
      obtain ⟨w6, l6, hrun, hm6, hmem, hturn⟩ := hm.drop keyU Tryz.underlying144 (keyU_at num hn)
      have hg := hturn.grown
      have hc6 : w6.cell? a = some (.int .i64 (i : Int)) := by
        have := (ValsP.turned (l := [.int .i64 (i : Int)]) (fun k v hv => by
          cases k with
          | zero => simp at hv; subst hv; exact ⟨a, rfl, ha, hc0⟩
          | succ k => simp at hv) hg hmis) 0 _ rfl
        obtain ⟨a2, e2, _, h5⟩ := this
        cases e2
        have e : a.add 0 = a := by simp [Addr.add]
        rwa [e] at h5
      have HW : Hid (WaitB w6 b B (fun m => if m = num then [] else G m)) := Lib.hid (HFin l6 w6 hm6 hg (fun m hmn v => by
        rw [hmem]; exact ⟨fun h => h.1, fun h => ⟨h, fun e => hmn (u64_inj e)⟩⟩) (.inl ⟨rfl, fun p hp => ((hmem p).1 hp).2⟩) (fun p _ => ⟨p.2, rfl, rfl⟩))
      have HG := Lib.hid hg
      simp only [List.length_singleton] at hlk
      clear HFin hm hl h2 h3 h4 hm6 hmem hturn hg hmis hc0 ha hba hbB
      go_enter Tryz.func91, Tryz.ntmps91
      go_wp2
      go_ret2
      exact ⟨rfl, HW.out, HG.out⟩
    · obtain ⟨n, hn1⟩ : ∃ n, r.length = n + 1 := ⟨r.length - 1, by have := List.length_pos_iff.2 hr0; omega⟩
      have hlen : (i :: r).length = n + 2 := by rw [List.length_cons, hn1]
      rw [hlen] at hlk h2 h3
      obtain ⟨w6, l6, hrun, hm6, hmem, hturn⟩ := hm.store (val := .slice (some { block := a.block, off := a.off + 1 }) (n + 1) (c - 1)) keyU Tryz.underlying144 (keyU_at num hn)
      have hg := hturn.grown
      have hv6 := ValsP.turned h4 hg hmis
      have hc6 : w6.cell? a = some (.int .i64 (i : Int)) := by
        obtain ⟨a2, e2, _, h5⟩ := hv6 0 _ rfl
        cases e2
        have e : a.add 0 = a := by simp [Addr.add]
        rwa [e] at h5
      have hvr : ValsP w6 (some { block := a.block, off := a.off + 1 }) (vN r) := fun k v hv => by
        obtain ⟨a2, e2, h6, h5⟩ := hv6 (k + 1) v (by simpa [vN] using hv)
        cases e2
        refine ⟨a.add 1, rfl, by rw [add_block]; exact h6, ?_⟩
        show w6.cell? ((a.add 1).add k) = some v
        rw [Deep.add_add, Nat.add_comm 1 k]
        exact h5
      have HW : Hid (WaitB w6 b B (fun m => if m = num then r else G m)) := Lib.hid (HFin l6 w6 hm6 hg (fun m hmn v => by
        rw [hmem]
        constructor
        · rintro (h | h)
          · exact h.1
          · injection h with e _; exact absurd (u64_inj e) hmn
        · exact fun h => .inl ⟨h, fun e => hmn (u64_inj e)⟩) (.inr ⟨hr0, some { block := a.block, off := a.off + 1 }, c - 1, (hmem _).2 (.inr (by rw [hn1])), by omega, hvr, fun a2 ha2 => by cases ha2; exact hba⟩) (fun p _ => ⟨p.2, rfl, rfl⟩))
      have HG := Lib.hid hg
      have hn6 : n ≤ 1000000 := by omega
      have hl0 : (((n + 2 : Nat) : Int) == 0) = false := by rw [beq_eq_false_iff_ne]; omega
      have hl1 : (((n + 2 : Nat) : Int) == 1) = false := by rw [beq_eq_false_iff_ne]; omega
      have hsl : ∀ u : World, (Instr.slice 66 (.slice (some a) (n + 2) c) (some (.int .i64 1)) none none).run Tryz.prog u = .ok (.slice (some (a.add 1)) (n + 1) (c - 1)) u := fun u => slice_tail a n c h3 u
      clear HFin hm hl h2 h3 h4 hm6 hmem hturn hg hmis hc0 ha hba hbB hlen hn1 hv6 hvr
      go_enter Tryz.func91, Tryz.ntmps91
      go_wp2
      go_ret2
      exact ⟨rfl, HW.out, HG.out⟩
end Go.Proofs.YtbekdcpdfmfopaaGreat
end

section
namespace Go.Proofs.YtbekdcpdfmfopaaGreat
open Go.RowKit

/-- A slice of places that grew by append. -/
def BufI (w : World) (B : Nat) (v : Value) (L : List Nat) : Prop := w.ownsRow B 3 1 v L.length (vN L)
section
variable {w w' : World} {B : Nat} {v : Value} {L : List Nat} {p : Option Addr}
theorem BufI.ext (h : BufI w B v L) (hx : Ext w w') : BufI w' B v L := by
  refine ⟨h.1, ?_⟩
  rcases h.2 with h0 | ⟨g, cap, cur, e1, e2, e3, e4⟩
  · exact .inl h0
  · exact .inr ⟨g, cap, cur, e1, e2, (hx.below.block g (heap_lt e3)).trans e3, e4⟩
theorem BufI.nil (w : World) (B : Nat) : BufI w B (.slice none 0 0) [] := World.ownsRow_nil _ _ _ _
theorem BufI.one (w : World) (i : Nat) (hB : B ≤ w.heap.size) : BufI (w.alloc (.cells #[.int .i64 (i : Int)] 3)) B (.slice (some ⟨w.heap.size, 0, none⟩) 1 1) [i] := by
  refine ⟨by simp [vN], .inr ⟨w.heap.size, 1, #[.int .i64 (i : Int)], rfl, hB, heap_alloc_new w _, ?_, ?_, ?_, ?_⟩⟩ <;> simp [vN, maxLen]
/-- What another block's turn leaves. -/
theorem BufI.grown {b : Nat} (h : BufI w B v L) (hg : w.grownBy w' (some b)) (hb : b < B) : BufI w' B v L := by
  refine ⟨h.1, ?_⟩
  rcases h.2 with h0 | ⟨g, cap, cur, e1, e2, e3, e4⟩
  · exact .inl h0
  · exact .inr ⟨g, cap, cur, e1, e2, (hg.block g (heap_lt e3) (by intro e; cases e; omega)).trans e3, e4⟩
/-- The slice, its cells. -/
theorem BufI.vals (h : BufI w B v L) : ∃ p c, v = .slice p L.length c ∧ L.length ≤ c ∧ ValsP w p (vN L) := by
  unfold BufI at h
  rcases h.2 with ⟨hv, h0⟩ | ⟨g, cap, cur, hv, hB, hg, hle, _, hsz, ht⟩
  · have : L = [] := List.length_eq_zero_iff.1 h0
    subst this
    exact ⟨none, 0, hv, Nat.le_refl _, ValsP.none w⟩
  · refine ⟨some ⟨g, 0, none⟩, cap, hv, hle, fun i x hx => ⟨⟨g, 0, none⟩, rfl, heap_lt hg, ?_⟩⟩
    have hi : i < L.length := by have := (List.getElem?_eq_some_iff.1 hx).1; rwa [vN_length] at this
    rw [add_zero_off, cell_of_row w g i cur _ (0, 0) hg]
    have e : cur.toList[i]? = (vN L)[i]? := by
      rw [← ht, List.getElem?_take, if_pos (by omega)]
    rw [← Array.getElem?_toList, e, hx]
end
/-- append(l, i) of one place in a new block. -/
theorem append_int {w : World} {ops : Array Oper} {rest : List Oper} {o : Oper} {a : Act} {Q : Exit → Act → World → Prop} (hgd : o.guard = none) (s x : Operand)
    (ho : o.op = .call { callee := .builtin .append, args := #[s, x], argTypes := #[66, 66] })
    (B : Nat) (v : Value) (L : List Nat) (hs : a.eval s = v) (hbuf : BufI w B v L) (g : Nat) (i : Nat) (hx : a.eval x = .slice (some ⟨g, 0, none⟩) 1 1) (hrow : Blk w g 3 [.int .i64 (i : Int)])
    (hlen : L.length ≤ 1000000) (hB : B ≤ w.heap.size)
    (h : ∀ v' w', BufI w' B v' (L ++ [i]) → Below B w w' → wpList Tryz.prog ops Q rest (a.put o.dst v') w') : wpList Tryz.prog ops Q (o :: rest) a w := by
  obtain ⟨i0, hi, hz0, hz1, hz2⟩ := info_parts infoInt
  refine wpList_append_own w hgd s x 66 ho B 3 i0 (.int .i64 0) 1 8 Tryz.underlying66 hi hz0 hz1 hz2 rfl (by decide) v L.length (vN L) hs hbuf ⟨g, 0, none⟩ 1 1 [.int .i64 (i : Int)] hx rfl (fun j u hj => by rw [add_zero_off]; exact hrow.cell j u hj) (fun u hu => by simp at hu; subst hu; rfl) (by unfold maxLen; omega) (by omega) hB ?_
  intro v' w' h1 h2 _
  refine h v' w' ?_ (Below.grown (Below.refl _ _) h2 hB fun k hk => (World.ownsRow.lt hbuf k hk).1)
  unfold BufI
  rw [vN_snoc]
  simpa using h1
end Go.Proofs.YtbekdcpdfmfopaaGreat
end

section
namespace Go.Proofs.YtbekdcpdfmfopaaGreat
open Go.RowKit
theorem xor_ones (a : Nat) (h : a < 18446744073709551616) : a ^^^ 18446744073709551615 = 18446744073709551615 - a := by
  have e1 : a ^^^ 18446744073709551615 = (BitVec.ofNat 64 a ^^^ BitVec.allOnes 64).toNat := by
    rw [BitVec.toNat_xor, BitVec.toNat_ofNat, BitVec.toNat_allOnes, Nat.mod_eq_of_lt (by simpa using h)]
  rw [e1, BitVec.xor_allOnes, BitVec.toNat_not, BitVec.toNat_ofNat, Nat.mod_eq_of_lt (by simpa using h)]
theorem wrap_u64 (n : Int) : IntKind.u64.wrap n = n % 18446744073709551616 := by
  simp [IntKind.wrap, IntKind.bits, IntKind.signed]
theorem fold_pos (n : Int) (h0 : 0 ≤ n) (h1 : n ≤ 9223372036854775807) : bits .xor .u64 (n * 2) (n / 9223372036854775808) = (zig n : Int) := by
  obtain ⟨m, rfl⟩ := Int.eq_ofNat_of_zero_le h0
  have h := u64_xor_nat (m * 2) 0 (by omega) (by omega)
  rw [Nat.xor_zero] at h
  have e1 : (m : Int) / 9223372036854775808 = ((0 : Nat) : Int) := by omega
  have e2 : (m : Int) * 2 = ((m * 2 : Nat) : Int) := by omega
  rw [e1, e2, h]
  unfold zig
  rw [if_pos (by omega)]
  omega
theorem fold_neg (n : Int) (h0 : -9223372036854775808 ≤ n) (h1 : n < 0) : bits .xor .u64 (IntKind.u64.wrap (IntKind.u64.wrap n * 2)) (IntKind.u64.wrap (n / 9223372036854775808)) = (zig n : Int) := by
  obtain ⟨A, hA⟩ : ∃ A : Nat, (A : Int) = 2 * n + 18446744073709551616 := ⟨(2 * n + 18446744073709551616).toNat, by omega⟩
  have e1 : IntKind.u64.wrap (IntKind.u64.wrap n * 2) = (A : Int) := by rw [wrap_u64, wrap_u64]; omega
  have e2 : IntKind.u64.wrap (n / 9223372036854775808) = ((18446744073709551615 : Nat) : Int) := by rw [wrap_u64]; omega
  have h := u64_xor_nat A 18446744073709551615 (by omega) (by omega)
  rw [xor_ones A (by omega)] at h
  rw [e1, e2, h]
  unfold zig
  rw [if_neg (by omega)]
  omega
theorem xor_i64 (a b : Int) : bits .xor .i64 a b = IntKind.i64.wrap ((BitVec.ofInt 64 a ^^^ BitVec.ofInt 64 b).toNat : Int) := rfl
theorem unfold_even (m : Nat) (h : m < 18446744073709551616) (h2 : m % 2 = 0) : bits .xor .i64 ((m : Int) / 2) (wrap64 (-wrap64 (bits .and .u64 (m : Int) 1))) = zag m := by
  have h1 := u64_and_nat m 1 h (by omega)
  rw [Nat.and_one_is_mod, h2] at h1
  have e1 : bits .and .u64 (m : Int) 1 = 0 := h1
  have e2 : (m : Int) / 2 = ((m / 2 : Nat) : Int) := by omega
  rw [e1, IntWalk.wrap64_in 0 (by omega), IntWalk.wrap64_in (-0) (by omega), e2, xor_i64, BitVec.toNat_xor, BitVec.ofInt_natCast]
  have e3 : (BitVec.ofInt 64 (-0)).toNat = 0 := by decide
  rw [e3, Nat.xor_zero, BitVec.toNat_ofNat, Nat.mod_eq_of_lt (by omega), IntWalk.i64_left, IntWalk.wrap64_in _ (by omega)]
  unfold zag
  rw [if_pos h2]
theorem unfold_odd (m : Nat) (h : m < 18446744073709551616) (h2 : ¬ m % 2 = 0) : bits .xor .i64 ((m : Int) / 2) (wrap64 (-wrap64 (bits .and .u64 (m : Int) 1))) = zag m := by
  have h1 := u64_and_nat m 1 h (by omega)
  rw [Nat.and_one_is_mod, show m % 2 = 1 by omega] at h1
  have e1 : bits .and .u64 (m : Int) 1 = 1 := h1
  have e2 : (m : Int) / 2 = ((m / 2 : Nat) : Int) := by omega
  rw [e1, IntWalk.wrap64_in 1 (by omega), IntWalk.wrap64_in (-1) (by omega), e2, xor_i64, BitVec.ofInt_natCast]
  have e3 : BitVec.ofInt 64 (-1) = BitVec.allOnes 64 := by decide
  rw [e3, BitVec.xor_allOnes, BitVec.toNat_not, BitVec.toNat_ofNat, Nat.mod_eq_of_lt (by omega), IntWalk.i64_left]
  unfold zag wrap64
  rw [if_neg h2]
  omega
end Go.Proofs.YtbekdcpdfmfopaaGreat
end
