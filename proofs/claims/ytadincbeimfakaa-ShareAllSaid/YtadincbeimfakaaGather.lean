/- Shares that came, as the program keeps them; contracts: whether it is one, what a share's bytes say, by the program. -/
import Derived.Test.YtadincbeimfakaaMapL
import Derived.Test.YtadincbeimfakaaShareRead
import Derived.Test.YtadincbeimfakaaMake
import Derived.Test.YtadincbeimfakaaCopyT
import Derived.Lib.UnsafeStr
import Derived.WalkSpells
namespace Go.Proofs.Ytadincbeimfakaa
open Go.RowKit
open Go.Maps (Keyed keyOf_int_mk int_keyed)

/-- A share that came, as the map holds it. -/
def shKV (n : Nat) (x : Nat × ByteArray) : Value × Value := (.int .i64 (x.1 : Int), .agg #[.int .i64 (n : Int), .string x.2])
/-- Shares that are alike: of one n, of one length, no place twice. -/
structure Alike (n m : Nat) (L : List (Nat × ByteArray)) : Prop where
  each : ∀ x ∈ L, 1 ≤ x.1 ∧ x.1 ≤ n ∧ x.2.size = m
  once : L.Pairwise (fun x y => x.1 ≠ y.1)
  n1 : 1 ≤ n
  n16 : n ≤ 16
  m1 : 1 ≤ m
  m64 : m ≤ 64
/-- Block g is a Gather over the map in block b, to which these came. -/
structure IsG (w : World) (g b n m : Nat) (L : List (Nat × ByteArray)) : Prop where
  blk : Blk w g 60 [.map (some b)]
  map : MapL w Try.prog 3 b (L.map (shKV n))
  alike : Alike n m L
section
variable {w w' : World} {g b n m : Nat} {L : List (Nat × ByteArray)}
theorem IsG.ext (h : IsG w g b n m L) (hx : Ext w w') : IsG w' g b n m L := ⟨h.blk.ext hx, h.map.ext hx, h.alike⟩
theorem IsG.alloc (h : IsG w g b n m L) (o : Obj) : IsG (w.alloc o) g b n m L := ⟨h.blk.alloc o, h.map.alloc o, h.alike⟩
theorem IsG.drew (h : IsG w g b n m L) : IsG w.drew g b n m L := ⟨h.blk, h.map, h.alike⟩
theorem IsG.cell (h : IsG w g b n m L) : w.cell? ⟨g, 0, none⟩ = some (.map (some b)) := h.blk.cell 0 _ rfl
theorem IsG.ne (h : IsG w g b n m L) : g ≠ b := by
  obtain ⟨es, c, hb⟩ := h.map.is
  intro e
  have := h.blk
  unfold Blk at this
  rw [e, hb] at this
  cases this
/-- Another Gather than that whose map turned. -/
theorem IsG.other {b' : Nat} (h : IsG w g b n m L) (hg : w.grownBy w' (some b')) (h1 : g ≠ b') (h2 : b ≠ b') : IsG w' g b n m L :=
  ⟨(hg.block g h.blk.lt (by simpa using h1)).trans h.blk, h.map.grown hg (by simpa using h2), h.alike⟩
theorem Alike.nil {n' m' : Nat} (a : 1 ≤ n') (b : n' ≤ 16) (c : 1 ≤ m') (d : m' ≤ 64) : Alike n' m' [] := ⟨by simp, .nil, a, b, c, d⟩
theorem IsG.turn {n' m' : Nat} (h : IsG w g b n m []) (a : 1 ≤ n') (b' : n' ≤ 16) (c : 1 ≤ m') (d : m' ≤ 64) : IsG w g b n' m' [] := ⟨h.blk, h.map, Alike.nil a b' c d⟩
theorem Alike.snoc (h : Alike n m L) {i : Nat} {s : ByteArray} (h1 : 1 ≤ i) (h2 : i ≤ n) (h3 : s.size = m) (h4 : ∀ x ∈ L, x.1 ≠ i) : Alike n m (L ++ [(i, s)]) := by
  refine ⟨fun x hx => ?_, ?_, h.n1, h.n16, h.m1, h.m64⟩
  · rcases List.mem_append.1 hx with hx | hx
    · exact h.each x hx
    · rw [List.mem_singleton] at hx; subst hx; exact ⟨h1, h2, h3⟩
  · rw [List.pairwise_append]
    exact ⟨h.once, List.pairwise_singleton _ _, fun x hx y hy => by rw [List.mem_singleton] at hy; subst hy; exact h4 x hx⟩
end
theorem keyI : Keyed Try.prog 3 := int_keyed Try.underlying3
theorem key_at (i : Nat) (h : i ≤ 1000000) : keyOf Try.prog 3 (.int .i64 (i : Int)) = some (.int .i64 (i : Int)) := keyOf_int_mk Try.underlying3 (WalkArith.wf_i64 (by omega))

theorem there_yes (w : World) (g b : Nat) (h : w.cell? ⟨g, 0, none⟩ = some (.map (some b))) :
    Calls Try.prog 25 #[.pointer (some ⟨g, 0, none⟩)] w fun e w' => e = .returned (.bool true) ∧ w = w' := by
  have hnn := run_neq_map_nil (P := Try.prog) w 58 3 62 (some b) Try.underlying58
  simp only [Option.isNone_some, Bool.not_false] at hnn
  go_enter Try.func25, Try.ntmps25
  go_wp2
  go_ret
  exact ⟨rfl, rfl⟩
theorem there_no (w : World) :
    Calls Try.prog 25 #[.pointer none] w fun e w' => e = .returned (.bool false) ∧ w = w' := by
  go_enter Try.func25, Try.ntmps25
  go_wp2
  go_ret
  exact ⟨rfl, rfl⟩
theorem New_any (w : World) :
    Calls Try.prog 14 #[] w fun e w' => e = .returned (.pointer (some ⟨w.heap.size + 1, 0, none⟩)) ∧ IsG w' (w.heap.size + 1) w.heap.size 1 1 [] ∧ Ext w w' ∧ w'.heap.size = w.heap.size + 2 := by
  have hmm := @run_makeMap Try.prog
  go_enter Try.func14, Try.ntmps14
  go_wp2
  go_ret
  refine ⟨?_, ?_, ((Ext.refl w).alloc _).alloc _, by simp⟩
  · simp
  · have hb : Blk ((w.alloc (.map #[] 0)).alloc (.cells #[.map (some w.heap.size)] 60)) (w.heap.size + 1) 60 [.map (some w.heap.size)] := by
      have := Blk.new (w.alloc (.map #[] 0)) [.map (some w.heap.size)] 60
      simpa using this
    exact ⟨hb, (MapL.made w _ _).alloc _, ⟨by simp, .nil, by decide, by decide, by decide, by decide⟩⟩
/-- Whether both have one n, and one length. -/
def likeB (n m : Nat) (s t : ByteArray) : Bool := decide (n = m ∧ s.size = t.size)
theorem like_yes (n : Nat) (s t : ByteArray) (w : World) (h : s.size = t.size) :
    Calls Try.prog 26 #[.agg #[.int .i64 (n : Int), .string s], .agg #[.int .i64 (n : Int), .string t]] w fun e w' => e = .returned (.bool true) ∧ Ext w w' := by
  have h1 : ((s.size : Int) == (t.size : Int)) = true := by rw [h]; simp
  clear h
  go_enter Try.func26, Try.ntmps26
  go_wp2
  go_ret
  exact ⟨rfl, ((Ext.refl w).alloc _).alloc _⟩
theorem like_no (n m : Nat) (s t : ByteArray) (w : World) (h : ¬ (n = m ∧ s.size = t.size)) :
    Calls Try.prog 26 #[.agg #[.int .i64 (n : Int), .string s], .agg #[.int .i64 (m : Int), .string t]] w fun e w' => e = .returned (.bool false) ∧ Ext w w' := by
  by_cases hn : n = m
  · have hs : ¬ s.size = t.size := fun e => h ⟨hn, e⟩
    have h1 : ((s.size : Int) == (t.size : Int)) = false := by simp; omega
    have h2 : ((n : Int) == (m : Int)) = true := by rw [hn]; simp
    clear h hn hs
    go_enter Try.func26, Try.ntmps26
    go_wp2
    go_ret
    exact ⟨rfl, ((Ext.refl w).alloc _).alloc _⟩
  · have h2 : ((n : Int) == (m : Int)) = false := by simp; omega
    clear h hn
    go_enter Try.func26, Try.ntmps26
    go_wp2
    go_ret
    exact ⟨rfl, ((Ext.refl w).alloc _).alloc _⟩
end Go.Proofs.Ytadincbeimfakaa
