/- Shares that came, as the program keeps them; contracts: whether it is one, what a share's bytes say, by the program. Contracts: how many shares are there; all dropped: by the program. Contracts: a text's copy; what a share's bytes say, by the program. -/
import Derived.Test.YtcjdnifckngcfaaGreatDoorM01
import Derived.Test.YtcjdnifckngcfaaGreatDoorM36
import Derived.Test.YtcjdnifckngcfaaGreatDoorM06
import Derived.Test.YtcjdnifckngcfaaGreatDoorM10
import Derived.Lib.UnsafeStr
import Derived.WalkSpells
import Derived.Lib.Buffer
import Derived.Lib.Strings
import Derived.Lib.Walk
section
namespace Go.Proofs.YtcjdnifckngcfaaGreatDoor
open Go.RowKit
open Go.Maps (Keyed keyOf_int_mk int_keyed)

/-- A share that came, as the map holds it. -/
def shKV (n : Nat) (x : Nat × ByteArray) : Value × Value := (.int .i64 (x.1 : Int), .agg #[.int .i64 (n : Int), .string x.2])
/-- Shares that are alike: of one n, of one length, no place twice. -/
structure Alike (n m : Nat) (L : List (Nat × ByteArray)) : Prop where
  each : ∀ x ∈ L, 1 ≤ x.1 ∧ x.1 ≤ n ∧ x.2.size = m
  once : L.Pairwise (fun x y => x.1 ≠ y.1)
  n1 : 1 ≤ n
  n16 : n ≤ 16
  m1 : 1 ≤ m
  m64 : m ≤ 64
/-- Block g is a Gather over the map in block b, to which these came. -/
structure IsG (w : World) (g b n m : Nat) (L : List (Nat × ByteArray)) : Prop where
  blk : Blk w g 97 [.map (some b)]
  map : MapL w Tryz.prog 3 b (L.map (shKV n))
  alike : Alike n m L
section
variable {w w' : World} {g b n m : Nat} {L : List (Nat × ByteArray)}
theorem IsG.ext (h : IsG w g b n m L) (hx : Ext w w') : IsG w' g b n m L := ⟨h.blk.ext hx, h.map.ext hx, h.alike⟩
theorem IsG.alloc (h : IsG w g b n m L) (o : Obj) : IsG (w.alloc o) g b n m L := ⟨h.blk.alloc o, h.map.alloc o, h.alike⟩
theorem IsG.drew (h : IsG w g b n m L) : IsG w.drew g b n m L := ⟨h.blk, h.map, h.alike⟩
theorem IsG.cell (h : IsG w g b n m L) : w.cell? ⟨g, 0, none⟩ = some (.map (some b)) := h.blk.cell 0 _ rfl
theorem IsG.ne (h : IsG w g b n m L) : g ≠ b := by
  obtain ⟨es, c, hb⟩ := h.map.is
  intro e
  have := h.blk
  unfold Blk at this
  rw [e, hb] at this
  cases this
/-- Another Gather than that whose map turned. -/
theorem IsG.other {b' : Nat} (h : IsG w g b n m L) (hg : w.grownBy w' (some b')) (h1 : g ≠ b') (h2 : b ≠ b') : IsG w' g b n m L :=
  ⟨(hg.block g h.blk.lt (by simpa using h1)).trans h.blk, h.map.grown hg (by simpa using h2), h.alike⟩
theorem Alike.nil {n' m' : Nat} (a : 1 ≤ n') (b : n' ≤ 16) (c : 1 ≤ m') (d : m' ≤ 64) : Alike n' m' [] := ⟨by simp, .nil, a, b, c, d⟩
theorem IsG.turn {n' m' : Nat} (h : IsG w g b n m []) (a : 1 ≤ n') (b' : n' ≤ 16) (c : 1 ≤ m') (d : m' ≤ 64) : IsG w g b n' m' [] := ⟨h.blk, h.map, Alike.nil a b' c d⟩
theorem Alike.snoc (h : Alike n m L) {i : Nat} {s : ByteArray} (h1 : 1 ≤ i) (h2 : i ≤ n) (h3 : s.size = m) (h4 : ∀ x ∈ L, x.1 ≠ i) : Alike n m (L ++ [(i, s)]) := by
  refine ⟨fun x hx => ?_, ?_, h.n1, h.n16, h.m1, h.m64⟩
  · rcases List.mem_append.1 hx with hx | hx
    · exact h.each x hx
    · rw [List.mem_singleton] at hx; subst hx; exact ⟨h1, h2, h3⟩
  · rw [List.pairwise_append]
    exact ⟨h.once, List.pairwise_singleton _ _, fun x hx y hy => by rw [List.mem_singleton] at hy; subst hy; exact h4 x hx⟩
end
theorem keyI : Keyed Tryz.prog 3 := int_keyed Tryz.underlying3
theorem key_at (i : Nat) (h : i ≤ 1000000) : keyOf Tryz.prog 3 (.int .i64 (i : Int)) = some (.int .i64 (i : Int)) := keyOf_int_mk Tryz.underlying3 (WalkArith.wf_i64 (by omega))

theorem gthere_yes (w : World) (g b : Nat) (h : w.cell? ⟨g, 0, none⟩ = some (.map (some b))) :
    Calls Tryz.prog 91 #[.pointer (some ⟨g, 0, none⟩)] w fun e w' => e = .returned (.bool true) ∧ w = w' := by
  have hnn := run_neq_map_nil (P := Tryz.prog) w 95 3 129 (some b) Tryz.underlying95
  simp only [Option.isNone_some, Bool.not_false] at hnn
  go_enter Tryz.func91, Tryz.ntmps91
  go_wp2
  go_ret
  exact ⟨rfl, rfl⟩
theorem gthere_no (w : World) :
    Calls Tryz.prog 91 #[.pointer none] w fun e w' => e = .returned (.bool false) ∧ w = w' := by
  go_enter Tryz.func91, Tryz.ntmps91
  go_wp2
  go_ret
  exact ⟨rfl, rfl⟩
theorem gNew_any (w : World) :
    Calls Tryz.prog 26 #[] w fun e w' => e = .returned (.pointer (some ⟨w.heap.size + 1, 0, none⟩)) ∧ IsG w' (w.heap.size + 1) w.heap.size 1 1 [] ∧ Ext w w' ∧ w'.heap.size = w.heap.size + 2 := by
  have hmm := @run_makeMap Tryz.prog
  go_enter Tryz.func26, Tryz.ntmps26
  go_wp2
  go_ret
  refine ⟨?_, ?_, ((Ext.refl w).alloc _).alloc _, by simp⟩
  · simp
  · have hb : Blk ((w.alloc (.map #[] 0)).alloc (.cells #[.map (some w.heap.size)] 97)) (w.heap.size + 1) 97 [.map (some w.heap.size)] := by
      have := Blk.new (w.alloc (.map #[] 0)) [.map (some w.heap.size)] 97
      simpa using this
    exact ⟨hb, (MapL.made w _ _).alloc _, ⟨by simp, .nil, by decide, by decide, by decide, by decide⟩⟩
/-- Whether both have one n, and one length. -/
def likeB (n m : Nat) (s t : ByteArray) : Bool := decide (n = m ∧ s.size = t.size)
theorem like_yes (n : Nat) (s t : ByteArray) (w : World) (h : s.size = t.size) :
    Calls Tryz.prog 124 #[.agg #[.int .i64 (n : Int), .string s], .agg #[.int .i64 (n : Int), .string t]] w fun e w' => e = .returned (.bool true) ∧ Ext w w' := by
  have h1 : ((s.size : Int) == (t.size : Int)) = true := by rw [h]; simp
  clear h
  go_enter Tryz.func124, Tryz.ntmps124
  go_wp2
  go_ret
  exact ⟨rfl, ((Ext.refl w).alloc _).alloc _⟩
theorem like_no (n m : Nat) (s t : ByteArray) (w : World) (h : ¬ (n = m ∧ s.size = t.size)) :
    Calls Tryz.prog 124 #[.agg #[.int .i64 (n : Int), .string s], .agg #[.int .i64 (m : Int), .string t]] w fun e w' => e = .returned (.bool false) ∧ Ext w w' := by
  by_cases hn : n = m
  · have hs : ¬ s.size = t.size := fun e => h ⟨hn, e⟩
    have h1 : ((s.size : Int) == (t.size : Int)) = false := by simp; omega
    have h2 : ((n : Int) == (m : Int)) = true := by rw [hn]; simp
    clear h hn hs
    go_enter Tryz.func124, Tryz.ntmps124
    go_wp2
    go_ret
    exact ⟨rfl, ((Ext.refl w).alloc _).alloc _⟩
  · have h2 : ((n : Int) == (m : Int)) = false := by simp; omega
    clear h hn
    go_enter Tryz.func124, Tryz.ntmps124
    go_wp2
    go_ret
    exact ⟨rfl, ((Ext.refl w).alloc _).alloc _⟩
end Go.Proofs.YtcjdnifckngcfaaGreatDoor
end

section
namespace Go.Proofs.YtcjdnifckngcfaaGreatDoor
open Go.RowKit

/-- These are some of the shares. -/
def Some_ (n : Nat) (L : List (Nat × ByteArray)) (left : List (Value × Value)) : Prop := ∀ p ∈ left, p ∈ L.map (shKV n)
/-- The step of a range over shares. -/
theorem wpList_next_share {n : Nat} {w : World} {ops : Array Oper} {rest : List Oper} {o : Oper} {a : Act} {Q : Exit → Act → World → Prop} (hg : o.guard = none) (it : Operand) (hop : o.op = Op.next it false) (b r : Nat) (L : List (Nat × ByteArray)) (left : List (Value × Value))
    (hsub : Some_ n L left) (hit : a.eval it = .pointer (some ⟨r, 0, none⟩)) (h : RangeL w Tryz.prog 3 b r (L.map (shKV n)) left)
    (hDone : left = [] → wpList Tryz.prog ops Q rest (a.put o.dst (.tuple #[.bool false])) w)
    (hMore : ∀ (i : Nat) (s : ByteArray) (left' : List (Value × Value)) (w' : World), (i, s) ∈ L → left.length = left'.length + 1 → Some_ n L left' → RangeL w' Tryz.prog 3 b r (L.map (shKV n)) left' → w.grownBy w' (some r) → w'.heap.size = w.heap.size →
      (Instr.entry (.pointer (some ⟨r, 0, none⟩))).run Tryz.prog w' = .ok (.tuple #[.int .i64 (i : Int), .agg #[.int .i64 (n : Int), .string s]]) w' → wpList Tryz.prog ops Q rest (a.put o.dst (.tuple #[.bool true, .int .i64 (i : Int), .agg #[.int .i64 (n : Int), .string s]])) w') :
    wpList Tryz.prog ops Q (o :: rest) a w :=
  wpList_next_L (α := {x : Nat × ByteArray // x ∈ L}) w hg it hop 3 (fun x => shKV n x.1) b r _ left (fun p hp => by obtain ⟨x, hx, e⟩ := List.mem_map.1 (hsub p hp); exact ⟨⟨x, hx⟩, e.symm⟩) hit h hDone
    (fun x left' w' hp hrg hgr hsz hen => hMore x.1.1 x.1.2 left' w' x.2 (by simpa using hp.length_eq) (fun p hq => hsub p (hp.mem_iff.2 (by simp [hq]))) hrg hgr hsz hen)

/-- How many there are of the secret, as far as is known. -/
def haveN (n : Nat) : List (Nat × ByteArray) → Nat | [] => 0 | _ :: _ => n
theorem haveN_some {n : Nat} {L : List (Nat × ByteArray)} (h : L ≠ []) : haveN n L = n := by
  cases L with
  | nil => exact absurd rfl h
  | cons a r => rfl
/-- What the loop has found so far. -/
def Had (n : Nat) (L : List (Nat × ByteArray)) (left : List (Value × Value)) (q : Int) : Prop := (left = L.map (shKV n) ∧ q = 0) ∨ (q = (n : Int) ∧ L ≠ [])
theorem have_nil (w : World) :
    Calls Tryz.prog 55 #[.pointer none] w fun e w' => e = .returned (.tuple #[.int .i64 0, .int .i64 0]) ∧ w = w' := by
  go_enter Tryz.func55, Tryz.ntmps55
  go_wp2_with (go_at_call 91; refine (gthere_no _).mono ?_; rintro e w1 ⟨rfl, rfl⟩)
  go_ret2
  exact ⟨rfl, rfl⟩
set_option maxRecDepth 100000 in
set_option maxHeartbeats 2000000 in
theorem have_any (w : World) (g b n m : Nat) (L : List (Nat × ByteArray)) (h : IsG w g b n m L) :
    Calls Tryz.prog 55 #[.pointer (some ⟨g, 0, none⟩)] w fun e w' => e = .returned (.tuple #[.int .i64 (L.length : Int), .int .i64 (haveN n L : Int)]) ∧ Ext w w' := by
  have hc := h.cell
  have hm := h.map
  have HB := Lib.hid h.blk
  have HM := Lib.hid hm
  clear h
  go_enter Tryz.func55, Tryz.ntmps55
  go_wp2_with (first
    | (go_at_call 91; refine (gthere_yes _ g b hc).mono ?_; rintro e w1 ⟨rfl, rfl⟩)
    | (at_range; refine wpList_range_L _ rfl _ 95 rfl 3 129 Tryz.underlying95 b (L.map (shKV n)) rfl HM.out ?_; intro w0 hrg hx0 hs0))
  go_frame
  go_loopw [3] (fun nv wr => ∃ left, RangeL wr Tryz.prog 3 b w.heap.size (L.map (shKV n)) left ∧ Some_ n L left ∧ (∃ q : Int, nv = .int .i64 q ∧ Had n L left q) ∧ Ext w wr) (fun _ wr => wr.rangeLeft b w.heap.size)
  case atStart => exact ⟨_, hrg, fun _ hp => hp, ⟨0, rfl, .inl ⟨rfl, rfl⟩⟩, hx0⟩
  case round =>
    obtain ⟨left, hrl, hsub, ⟨q, rfl, hnv⟩, hext⟩ := hrel
    have HR := Lib.hid hrl; have HS := Lib.hid hsub; have HE := Lib.hid hext; have HV := Lib.hid hnv
    have hc1 : wr.cell? ⟨g, 0, none⟩ = some (.map (some b)) := (HB.out.ext hext).cell 0 _ rfl
    have hln := fun ty => hrl.map.len Tryz.underlying95 ty
    rw [List.length_map] at hln
    clear hrl hsub hext hnv hm hrg hx0 hs0 hc
    go_wp2_with (at_next; refine wpList_next_share rfl _ rfl b w.heap.size L _ HS.out rfl HR.out ?_ ?_)
    · intro h0
      have hl0 : q = (haveN n L : Int) := by
        rcases HV.out with ⟨h1, h2⟩ | ⟨h1, h2⟩
        · rw [h0] at h1
          have : L = [] := by
            cases L with
            | nil => rfl
            | cons a r => cases h1
          rw [h2, this]; rfl
        · rw [h1, haveN_some h2]
      obtain rfl := hl0
      clear h0
      go_wp2
      go_ret2
      exact ⟨rfl, HE.out⟩
    · intro i s left' w1 hmem hlen hsub' hrg1 hg1 hs1 hen
      have HR1 := Lib.hid hrg1; have HS1 := Lib.hid hsub'; have HG1 := Lib.hid hg1; have HM1 := Lib.hid hmem; have HL1 := Lib.hid hlen
      clear hmem hlen hsub' hrg1 hg1 hs1
      go_wp2
      go_roundw
      case rel => exact ⟨_, HR1.out.alloc _, HS1.out, ⟨_, rfl, .inr ⟨rfl, fun e => by have := HM1.out; rw [e] at this; cases this⟩⟩, (HE.out.grown HG1.out (fun k hk => by cases hk; exact Nat.le_refl _)).alloc _⟩
      case measure => rw [(HR1.out.alloc _).left_eq, HR.out.left_eq, HL1.out]; omega
theorem drop_nil (w : World) :
    Calls Tryz.prog 52 #[.pointer none] w fun e w' => e = .returned (.tuple #[]) ∧ w = w' := by
  go_enter Tryz.func52, Tryz.ntmps52
  go_wp2_with (go_at_call 91; refine (gthere_no _).mono ?_; rintro e w1 ⟨rfl, rfl⟩)
  go_end0
  exact ⟨rfl, rfl⟩
theorem drop_any (w : World) (g b n m : Nat) (L : List (Nat × ByteArray)) (h : IsG w g b n m L) :
    Calls Tryz.prog 52 #[.pointer (some ⟨g, 0, none⟩)] w fun e w' => e = .returned (.tuple #[]) ∧ IsG w' g b n m [] ∧ w.grownBy w' (some b) := by
  have hc := h.cell
  obtain ⟨w2, hrun, h2, ht⟩ := h.map.clear Tryz.underlying95
  have HG := Lib.hid h; have H2 := Lib.hid h2; have HT := Lib.hid ht
  clear h h2 ht
  go_enter Tryz.func52, Tryz.ntmps52
  go_wp2_with (go_at_call 91; refine (gthere_yes _ g b hc).mono ?_; rintro e w1 ⟨rfl, rfl⟩)
  go_end0
  have hg := HT.out.grown
  refine ⟨rfl, ⟨(hg.block g HG.out.blk.lt (by simpa using HG.out.ne)).trans HG.out.blk, H2.out, ⟨by simp, .nil, HG.out.alike.n1, HG.out.alike.n16, HG.out.alike.m1, HG.out.alike.m64⟩⟩, hg⟩
end Go.Proofs.YtcjdnifckngcfaaGreatDoor
end

section
namespace Go.Proofs.YtcjdnifckngcfaaGreatDoor
open Go.RowKit
theorem cells_uint8 : Tryz.prog.cellsOf 5 = 1 := by kernel_rfl
theorem clone_any (s : ByteArray) (h0 : 1 ≤ s.size) (h1 : s.size ≤ 1048576) (w : World) :
    Calls Tryz.prog 86 #[.string s] w fun e w' => e = .returned (.string s) ∧ Ext w w' := by
  have hmk := make_bytes s.size (by omega)
  obtain ⟨C, hC⟩ : ∃ C, madeCells #[Value.int .u8 0] s.size = C := ⟨_, rfl⟩
  rw [hC] at hmk
  have hr0 := Row.made w 5 s.size
  rw [hC] at hr0
  have hcp := fun ty => copy_all (w.alloc (.cells C 5)) ty w.heap.size s.size s _ 5 hr0 (by simp) rfl
  obtain ⟨Y, hY⟩ : ∃ Y, Y = (s.data.toList.map cellOf).toArray := ⟨_, rfl⟩
  rw [← hY] at hcp
  have hYs : Y.size = s.size := by rw [hY, List.size_toArray, List.length_map, size_list]
  have hgY : ((w.alloc (.cells C 5)).setRow w.heap.size Y).heap[w.heap.size]? = some (.cells Y 5 (0, 0)) := setRow_heap _ _ _ _ 5 (0, 0) hr0
  have hne : s.data.toList ≠ [] := fun e => by have := size_list s; rw [e] at this; simp at this; omega
  have hUS := Lib.run_unsafeString_row (P := Tryz.prog) ((w.alloc (.cells C 5)).setRow w.heap.size Y) 168 3 9 5 Tryz.underlying168 cells_uint8 w.heap.size Y.size (by unfold World.shape?; rw [hgY]) s.data.toList hne (by rw [size_list]; omega) (by rw [size_list]; omega)
      (fun j x hx => Lib.cells_of_row hgY Y.size j _ (by rw [List.take_of_length_le (by rw [Array.length_toList]; exact Nat.le_refl _), hY]; simp [hx, cellOf]))
  rw [size_list] at hUS
  have hx : Ext w ((w.alloc (.cells C 5)).setRow w.heap.size Y) := ((Ext.refl w).alloc _).setRow (Nat.le_refl _) _
  have hz : (s.size : Int) ≠ 0 := by omega
  have hz2 : ((s.size : Int) == 0) = false := by rw [beq_eq_false_iff_ne]; omega
  clear hY hr0 hgY hne hC
  go_enter Tryz.func86, Tryz.ntmps86
  go_wp2
  go_ret
  exact ⟨rfl, Lib.below_freeze hx (p := ⟨w.heap.size, 0, none⟩) (Nat.le_refl _) _⟩
theorem Clone_any (s : ByteArray) (h0 : 1 ≤ s.size) (h1 : s.size ≤ 1048576) (w : World) :
    Calls Tryz.prog 48 #[.string s] w fun e w' => e = .returned (.string s) ∧ Ext w w' := by
  go_enter Tryz.func48, Tryz.ntmps48
  go_wp2_with (go_at_call 86; refine (clone_any s h0 h1 _).mono ?_; rintro e w1 ⟨rfl, x1⟩)
  go_ret
  exact ⟨rfl, x1⟩
set_option maxRecDepth 100000 in
set_option maxHeartbeats 2000000 in
theorem share_yes (s : ByteArray) (i n : Nat) (h : ShareOf s i n) (w : World) :
    Calls Tryz.prog 89 #[.string s] w fun e w' => e = .returned (.tuple #[.int .i64 (i : Int), .int .i64 (n : Int), .string (s.extract 2 s.size), .int .i64 0]) ∧ Ext w w' := by
  obtain ⟨h3, h66, n1, n16, i1, hin, x, y, hx, hy, ex, ey⟩ := h
  have d1 := slice_two s (by omega)
  have a0 : ∀ u, (Instr.index 9 (.string s) (.int .i64 0)).run Tryz.prog u = .ok (.int .u8 (x.toNat : Int)) u := fun u => index_text s 0 x hx u
  have a1 : ∀ u, (Instr.index 9 (.string s) (.int .i64 1)).run Tryz.prog u = .ok (.int .u8 (y.toNat : Int)) u := fun u => index_text s 1 y hy u
  rw [ex] at a0
  rw [ey] at a1
  have hS : (s.extract 2 s.size).size = s.size - 2 := by simp
  have HC := Lib.hid (fun u => Clone_any (s.extract 2 s.size) (by omega) (by omega) u)
  generalize s.extract 2 s.size = S2 at *
  clear hx hy hS
  go_enter Tryz.func89, Tryz.ntmps89
  go_wp2
  go_quiet (fail)
  go_wp2_with (go_at_call 48; refine (HC.out _).mono ?_; rintro e w1 ⟨rfl, x1⟩)
  exact bodyPost_ret (v := .tuple #[.int .i64 (i : Int), .int .i64 (n : Int), .string S2, .int .i64 0]) (by simp [results, Tryz.results89, go_sem]) rfl ⟨rfl, ((Ext.refl w).drewN _).trans x1⟩
set_option maxRecDepth 100000 in
set_option maxHeartbeats 4000000 in
theorem share_no (s : ByteArray) (h : NoShare s) (w : World) :
    Calls Tryz.prog 89 #[.string s] w fun e w' => e = .returned (.tuple #[.int .i64 0, .int .i64 0, .string ⟨#[]⟩, .int .i64 7]) ∧ Ext w w' := by
  go_enter Tryz.func89, Tryz.ntmps89
  by_cases h3 : s.size < 3
  · have h3i : (s.size : Int) < 3 := by omega
    go_wp2
    exact bodyPost_ret (v := .tuple #[.int .i64 0, .int .i64 0, .string ⟨#[]⟩, .int .i64 7]) (by simp [results, Tryz.results89, go_sem]) rfl ⟨rfl, Ext.refl w⟩
  · by_cases h66 : 66 < s.size
    · have h66i : (66 : Int) < (s.size : Int) := by omega
      go_wp2
      exact bodyPost_ret (v := .tuple #[.int .i64 0, .int .i64 0, .string ⟨#[]⟩, .int .i64 7]) (by simp [results, Tryz.results89, go_sem]) rfl ⟨rfl, Ext.refl w⟩
    · have hl : 2 < s.data.toList.length := by rw [size_list]; omega
      obtain ⟨x, hx⟩ : ∃ x, s.data.toList[0]? = some x := ⟨_, List.getElem?_eq_getElem (by omega)⟩
      obtain ⟨y, hy⟩ : ∃ y, s.data.toList[1]? = some y := ⟨_, List.getElem?_eq_getElem (by omega)⟩
      have hno : ¬ (1 ≤ y.toNat ∧ y.toNat ≤ 16 ∧ 1 ≤ x.toNat ∧ x.toNat ≤ y.toNat) := fun q => h x.toNat y.toNat ⟨by omega, by omega, q.1, q.2.1, q.2.2.1, q.2.2.2, x, y, hx, hy, rfl, rfl⟩
      have a0 : ∀ u, (Instr.index 9 (.string s) (.int .i64 0)).run Tryz.prog u = .ok (.int .u8 (x.toNat : Int)) u := fun u => index_text s 0 x hx u
      have a1 : ∀ u, (Instr.index 9 (.string s) (.int .i64 1)).run Tryz.prog u = .ok (.int .u8 (y.toNat : Int)) u := fun u => index_text s 1 y hy u
      have hi256 := x.toNat_lt
      have hn256 := y.toNat_lt
      generalize x.toNat = i at *
      generalize y.toNat = n at *
      clear hx hy hl h
      go_wp2
      go_quiet (fail)
      have hcase : (n : Int) < 1 ∨ (¬ (n : Int) < 1 ∧ (16 : Int) < (n : Int)) ∨ (¬ (n : Int) < 1 ∧ ¬ (16 : Int) < (n : Int) ∧ (i : Int) < 1) ∨ (¬ (n : Int) < 1 ∧ ¬ (16 : Int) < (n : Int) ∧ ¬ (i : Int) < 1 ∧ (n : Int) < (i : Int)) := by omega
      clear hno
      rcases hcase with q1 | ⟨q1, q2⟩ | ⟨q1, q2, q3⟩ | ⟨q1, q2, q3, q4⟩
      all_goals
        go_wp2
        exact bodyPost_ret (v := .tuple #[.int .i64 0, .int .i64 0, .string ⟨#[]⟩, .int .i64 7]) (by simp [results, Tryz.results89, go_sem]) rfl ⟨rfl, (Ext.refl w).drewN _⟩
end Go.Proofs.YtcjdnifckngcfaaGreatDoor
end
