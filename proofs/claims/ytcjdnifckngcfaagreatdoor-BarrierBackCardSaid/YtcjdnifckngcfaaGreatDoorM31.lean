/- Contracts: a builder's writing and its text, all else that is no cells kept (for a range over a function). Contract: how many bytes a builder holds. Contract: the first bytes of blocks, by the program. -/
import Derived.Test.YtcjdnifckngcfaaGreatDoorM09
import Derived.Test.YtcjdnifckngcfaaGreatDoorM10
import Derived.Shelf.Strings.BuilderK
import Derived.Test.YtcjdnifckngcfaaGreatDoorM24
import Derived.Shelf.Strings.BuilderF
import Derived.Test.YtcjdnifckngcfaaGreatDoorM30
section
namespace Go.Proofs.YtcjdnifckngcfaaGreatDoor
open Go.RowKit Go.Shelf

theorem bd_grown {B b : Nat} {bs : List Value} {w w' : World} {row : Option Nat} (h : Lib.IsBuilderF 151 5 B b bs w) (hg : w.grownBy w' row) (hr : ∀ r, row = some r → ∃ o : Obj, w.heap[r]? = some o ∧ o.isCells = false) : Lib.IsBuilderF 151 5 B b bs w' := by
  have key : ∀ p, Lib.BuilderAtF 151 5 B b p bs w → Lib.BuilderAtF 151 5 B b p bs w' := by
    rintro p ⟨hB, v, hv, hown, hne⟩
    refine ⟨hB, v, (grownBy_keeps_cells hg hr hv rfl).trans hv, ⟨hown.1, ?_⟩, hne⟩
    rcases hown.2 with h0 | ⟨g, cap, cur, fz, e1, e2, e3, e4⟩
    · exact .inl h0
    · exact .inr ⟨g, cap, cur, fz, e1, e2, (grownBy_keeps_cells hg hr e3 rfl).trans e3, e4⟩
  exact h.imp (key _) (key _)
theorem bd_write (B b : Nat) (bs : List Value) (s : ByteArray) (w : World) (h : Lib.IsBuilderF 151 5 B b bs w) (hlen : bs.length + s.size ≤ 140737488355328) (hBw : B ≤ w.heap.size) :
    Calls Tryz.prog 110 #[.pointer (some ⟨b, 0, none⟩), .string s] w fun e w' => e = .returned (.tuple #[.int .i64 s.size, .nilIface]) ∧ (Lib.IsBuilderF 151 5 B b (bs ++ Lib.strCells s) w' ∧ Below B w w' ∧ Lib.OthersKept 5 (some b) w w') :=
  (Any.Builder_WriteString_k laysW extraW B b bs s w h hlen hBw).mono fun _ _ h => ⟨h.1, .inr h.2.1, h.2.2.1, h.2.2.2⟩
theorem bd_string (B b : Nat) (l : List UInt8) (w : World) (h : Lib.IsBuilderF 151 5 B b (Lib.byteCells l) w) (hBw : B ≤ w.heap.size) :
    Calls Tryz.prog 111 #[.pointer (some ⟨b, 0, none⟩)] w fun e w' => e = .returned (.string ⟨l.toArray⟩) ∧ Below B w w' ∧ Lib.OthersKept 5 (some b) w w' :=
  (Any.Builder_String_any_k laysS extraS B b l w h hBw).mono fun _ _ h => ⟨h.1, h.2.2.1, h.2.2.2⟩
theorem bd_others {b : Nat} {W W' : World} (h : Lib.OthersKept 5 (some b) W W') (hs : W.heap.size ≤ W'.heap.size) (hb : ∃ o, W.heap[b]? = some o ∧ o.isCells = true) : KeepsOthers W W' :=
  ⟨hs, fun k o hk ho => h k o hk (fun e => by
    obtain ⟨o', h1, h2⟩ := hb
    obtain rfl : k = b := Option.some.inj e
    rw [hk] at h1; cases h1; rw [ho] at h2; cases h2) (fun c fz e => by rw [e] at ho; cases ho)⟩
theorem bd_cells {B b : Nat} {bs : List Value} {w : World} (h : Lib.IsBuilderF 151 5 B b bs w) : ∃ o, w.heap[b]? = some o ∧ o.isCells = true := by
  rcases h with ⟨_, v, hv, _⟩ | ⟨_, v, hv, _⟩
  · exact ⟨_, hv, rfl⟩
  · exact ⟨_, hv, rfl⟩
theorem bd_ext {B b : Nat} {bs : List Value} {w w' : World} (h : Lib.IsBuilderF 151 5 B b bs w) (hx : Ext w w') : Lib.IsBuilderF 151 5 B b bs w' := bd_grown h (grown_of_ext hx) (fun r e => by cases e)
/-- A block of cells of another type stays where bytes were written. -/
theorem bd_keeps {b : Nat} {W W' : World} {T : TypeId} {cs : List Value} {g : Nat} (h : Lib.OthersKept 5 (some b) W W') (hg : Blk W g T cs) (hb : ¬ g = b) (hT : ¬ T = 5) : W'.heap[g]? = W.heap[g]? :=
  (h _ _ hg (by intro e; have := Option.some.inj e; omega) (by intro c fz e; have := (Obj.cells.inj e).2.1; exact absurd this hT)).trans hg.symm
end Go.Proofs.YtcjdnifckngcfaaGreatDoor
end

section
namespace Go.Proofs.YtcjdnifckngcfaaGreatDoor
open Go.RowKit

def renN : Go.Shelf.Ren := ⟨fun | 170 => 158 | n => n, fun | 0 => 0 | 3 => 3 | 5 => 5 | 37 => 43 | 70 => 149 | 72 => 151 | n => n, fun n => n⟩
theorem laysN : Go.Proofs.Lays.n170 Tryz.prog renN := {
  mixed := by kernel_rfl
  f170 := Tryz.func158.trans (congrArg some (by kernel_rfl))
  t0 := Tryz.underlying0
  a0 := Tryz.isAgg0
  z0 := Tryz.sizeOf0
  v0 := Tryz.zeroValue0
  t3 := Tryz.underlying3
  a3 := Tryz.isAgg3
  z3 := Tryz.sizeOf3
  v3 := Tryz.zeroValue3
  t37 := Tryz.underlying43
  a37 := Tryz.isAgg43
  z37 := Tryz.sizeOf43
  v37 := Tryz.zeroValue43
  t70 := Tryz.underlying149
  a70 := Tryz.isAgg149
  z70 := Tryz.sizeOf149
  v70 := Tryz.zeroValue149
  t72 := Tryz.underlying151
  a72 := Tryz.isAgg151
  z72 := Tryz.sizeOf151
  v72 := Tryz.zeroValue151 }
theorem bd_len (B b : Nat) (bs : List Value) (w : World) (h : Lib.IsBuilderF 151 5 B b bs w) :
    Calls Tryz.prog 158 #[.pointer (some ⟨b, 0, none⟩)] w fun e w' => e = .returned (.int .i64 bs.length) ∧ w' = w := Any.Builder_Len_f laysN B b bs w h
end Go.Proofs.YtcjdnifckngcfaaGreatDoor
end

section
namespace Go.Proofs.YtcjdnifckngcfaaGreatDoor
open Go.RowKit Go.Shelf
attribute [local go_sem] Oper.semAt_some
attribute [local irreducible] rkey expand enc dec ctrB ctrC ctrL

/-- A piece of a block, as it is put behind. -/
theorem pieceB (pre : List T16) (x : T16) (n c : Nat) (hc : c = min 16 (n - 16 * pre.length)) (hn : 16 * pre.length ≤ n) :
    Lib.byteCells (flatB pre) ++ Lib.strCells (x.1.extract 0 c) = Lib.byteCells ((flatB (pre ++ [x])).take n) := by
  have hx : x.1.data.toList.length = 16 := by rw [size_list]; exact x.2
  have hl := flatB_length pre
  have e1 : (x.1.extract 0 c).data.toList = x.1.data.toList.take c := by rw [Lib.extract_data]; simp
  have e2 : Lib.strCells (x.1.extract 0 c) = Lib.byteCells (x.1.data.toList.take c) := by rw [← e1]; rfl
  have e3 : x.1.data.toList.take c = x.1.data.toList.take (n - 16 * pre.length) := by
    by_cases h : 16 ≤ n - 16 * pre.length
    · rw [List.take_of_length_le (by omega), List.take_of_length_le (by omega)]
    · have : c = n - 16 * pre.length := by omega
      rw [this]
  rw [e2, e3, ← Lib.byteCells_append, flatB_snoc, List.take_append, hl]
  rw [List.take_of_length_le (l := flatB pre) (by omega)]
set_option maxRecDepth 100000 in
set_option maxHeartbeats 8000000 in
theorem first_any (bf bc bo c : Nat) (key : List UInt8) (hk : key.length = 16) (nonce : ByteArray) (f m n : Nat) (w : World)
    (hbf : bf < w.heap.size) (hbc : bc < w.heap.size) (hbo : bo < w.heap.size) (hno : nonce.size = 12) (hfm : f + m = 4294967296) (hm1 : 1 ≤ m) (hn2 : n ≤ 1048576) (hnm : n ≤ 16 * m)
    (hB1 : IsCipher w c key) (h1 : w.cell? ⟨bf, 0, none⟩ = some (.int .u32 (f : Int))) (h2 : w.cell? ⟨bc, 0, none⟩ = some (.pointer (some ⟨c, 0, none⟩))) (h3 : w.cell? ⟨bo, 0, none⟩ = some (.string nonce)) :
    Calls Tryz.prog 136 #[.func (.func 161) #[] #[.pointer (some ⟨bf, 0, none⟩), .pointer (some ⟨bc, 0, none⟩), .pointer (some ⟨bo, 0, none⟩)], .int .i64 (n : Int)] w
      fun e w' => e = .returned (.string ⟨(ctrL key nonce.data.toList f n).toArray⟩) ∧ Ext w w' := by
  have hcl := hB1.lt
  refine (callsIn_wide (n := 9)).1 ?_
  refine callsIn_of_wp_marks Tryz.func136 rfl trivial ?_ rfl
  simp only [Tryz.ntmps136, List.size_toArray, List.length_cons, List.length_nil, Nat.reduceAdd, Nat.reduceSub, Array.replicate_succ, Array.replicate_zero, List.push_toArray, List.append_toArray, List.nil_append, List.cons_append]
  gi_wp2
  obtain ⟨W0, hW0⟩ : ∃ W0, (w.alloc (.cells #[.int .i64 (n : Int)] 3)).alloc (.cells #[.pointer none, .slice none 0 0] 151) = W0 := ⟨_, rfl⟩
  have hb0 : Lib.IsBuilderF 151 5 (w.heap.size + 1) (w.heap.size + 1) [] W0 := by
    have hzs : (w.alloc (.cells #[.int .i64 (n : Int)] 3)).heap.size = w.heap.size + 1 := by simp
    have := IsB.new (w.alloc (.cells #[.int .i64 (n : Int)] 3)) (w.heap.size + 1) (by simp)
    rw [hzs] at this
    rw [← hW0]
    exact this
  have hn0 : Blk W0 w.heap.size 3 [.int .i64 (n : Int)] := by rw [← hW0]; exact (Blk.new w _ _).alloc _
  have hx0 : Ext w W0 := by rw [← hW0]; exact ((Ext.refl w).alloc _).alloc _
  have hz0 : W0.heap.size = w.heap.size + 2 := by rw [← hW0]; simp
  rw [hW0]
  clear hW0
  refine wpIn_rangeFunc_ownF rfl (by omega) (gf := 161) (lb := #[.pointer (some ⟨bf, 0, none⟩), .pointer (some ⟨bc, 0, none⟩), .pointer (some ⟨bo, 0, none⟩)]) rfl trivial (enters_of Tryz.func161 (by kernel_rfl) rfl)
    (blocks_stops (9 - 1) (by omega) bf bc bo c (w.heap.size + 1) key hk nonce f m W0 (by omega) (by omega) (by omega) (by omega) (by omega) hno hfm (hB1.ext hx0) ((hx0.cell (p := ⟨bf, 0, none⟩) hbf).trans h1) ((hx0.cell (p := ⟨bc, 0, none⟩) hbc).trans h2) ((hx0.cell (p := ⟨bo, 0, none⟩) hbo).trans h3)) belowK_t (belowK_b (by omega)) (Below.refl _ _) (fun _ => rfl)
    (fun pre W => (W.cell? ⟨w.heap.size, 0, none⟩ = some (.int .i64 (n : Int)) ∧ Lib.IsBuilderF 151 5 (w.heap.size + 1) (w.heap.size + 1) (Lib.byteCells (flatB pre)) W ∧ (16 * pre.length < n ∨ pre.length = 0)) ∧ Below w.heap.size w W)
    (fun c pre W => (c = .exit 0 ∧ Lib.IsBuilderF 151 5 (w.heap.size + 1) (w.heap.size + 1) (Lib.byteCells ((flatB pre).take n)) W ∧ n ≤ 16 * pre.length) ∧ Below w.heap.size w W)
    (OwnFrom.and (Own.from (fun s A B row hs hg hr => ⟨cell_kept hs.1 hg hr, bd_grown hs.2.1 hg hr, hs.2.2⟩) _) (ownFrom_below (Nat.le_refl _) (by omega)))
    (fun c => OwnFrom.and (Own.from (fun s A B row hs hg hr => ⟨hs.1, bd_grown hs.2.1 hg hr, hs.2.2⟩) _) (ownFrom_below (Nat.le_refl _) (by omega)))
    ⟨⟨hn0.cell 0 _ rfl, hb0, .inr rfl⟩, hx0⟩
    (fun x => { tmps := #[.func (.func 161) #[] #[.pointer (some ⟨bf, 0, none⟩), .pointer (some ⟨bc, 0, none⟩), .pointer (some ⟨bo, 0, none⟩)], .int .i64 (n : Int), undef, .pointer (some ⟨w.heap.size, 0, none⟩), .string ⟨#[]⟩, .pointer (some ⟨w.heap.size + 1, 0, none⟩), .string x.1, .func (.func 161) #[] #[.pointer (some ⟨bf, 0, none⟩), .pointer (some ⟨bc, 0, none⟩), .pointer (some ⟨bo, 0, none⟩)], .string x.1, undef, undef, undef, undef, undef, undef, undef, undef, undef, undef, undef, undef, undef], defers := [] }) ?assign ?body ?done ?stop
  case assign =>
    intro l x W K hK
    gi_wp2
    exact hK
  case body =>
    rintro l pre x W ⟨⟨hc, hb, hlt⟩, hB⟩ _
    have hmx : Tryz.prog.follows .mixedOrders = true := by kernel_rfl
    obtain ⟨p, hp⟩ : ∃ p, p = 16 * pre.length := ⟨_, rfl⟩
    obtain ⟨c, hcc⟩ : ∃ c, c = min 16 (n - 16 * pre.length) := ⟨_, rfl⟩
    have hpn : p ≤ n := by omega
    have hmin : ∀ (ts : Array TypeId) (t : TypeId) (u : World), (Builtin.min_ ts t #[.int .i64 16, .int .i64 ((n : Int) - (p : Int))]).run Tryz.prog u = .ok (.int .i64 (c : Int)) u := fun ts t u => by
      have := run_min_int2 (P := Tryz.prog) (w := u) ts t .i64 .i64 16 ((n : Int) - (p : Int))
      rw [this]
      congr 2
      omega
    have hx : x.1.size = 16 := x.2
    have hc32 : c ≤ 16 := by omega
    have hc33 : ¬ 16 < c := by omega
    have hc34 : (c : Int) ≤ 16 := by omega
    have hc35 : ¬ (16 : Int) < (c : Int) := by omega
    have hc36 : (0 : Int) ≤ (c : Int) := by omega
    have hc37 : ¬ (c : Int) < 0 := by omega
    have hbl : (Lib.byteCells (flatB pre)).length = p := by rw [Lib.byteCells_length, flatB_length, hp]
    have HLen := Lib.hid (fun u (hu : Lib.IsBuilderF 151 5 (w.heap.size + 1) (w.heap.size + 1) (Lib.byteCells (flatB pre)) u) => bd_len (w.heap.size + 1) (w.heap.size + 1) (Lib.byteCells (flatB pre)) u hu)
    rw [hbl] at HLen
    have HW := Lib.hid (fun u (hu : Lib.IsBuilderF 151 5 (w.heap.size + 1) (w.heap.size + 1) (Lib.byteCells (flatB pre)) u) (hz : w.heap.size + 1 ≤ u.heap.size) => bd_write (w.heap.size + 1) (w.heap.size + 1) (Lib.byteCells (flatB pre)) (x.1.extract 0 c) u hu (by rw [hbl, ByteArray.size_extract]; omega) hz)
    rw [pieceB pre x n c hcc (by omega)] at HW
    have hzW : w.heap.size + 1 ≤ W.heap.size := by obtain ⟨o, ho, _⟩ := bd_cells hb; have := heap_lt ho; omega
    have Hb := Lib.hid hb; have HB := Lib.hid hB; have Hp := Lib.hid hp; have HzW := Lib.hid hzW
    clear hb hB hlt hp hcc hbl hzW hx0 hb0 hn0 h1 h2 h3
    generalize x.1 = X at *
    have hsl : ∀ u : World, (Instr.slice 9 (.string X) none (some (.int .i64 (c : Int))) none).run Tryz.prog u = .ok (.string (X.extract 0 c)) u := fun u => by
      have hj : (0 : Int) ≤ (c : Int) ∧ (c : Int) ≤ (X.size : Int) := by omega
      simp [Instr.slice, Instr.sliceBounds, Instr.sliceBound, asIntOf, run_underlying Tryz.underlying9, hj]
      intro hgt
      omega
    have hwr : wrap64 ((n : Int) - (p : Int)) = (n : Int) - (p : Int) := by unfold wrap64; omega
    have hwr2 : IntKind.i64.wrap ((n : Int) - (p : Int)) = (n : Int) - (p : Int) := IntWalk.i64_in _ ⟨by omega, by omega⟩
    gi_wp2
    refine wpIn_mono (Q := fun e a W' => e = .normal ∧ a = { tmps := #[.func (.func 161) #[] #[.pointer (some ⟨bf, 0, none⟩), .pointer (some ⟨bc, 0, none⟩), .pointer (some ⟨bo, 0, none⟩)], .int .i64 (n : Int), undef, .pointer (some ⟨w.heap.size, 0, none⟩), .string ⟨#[]⟩, .pointer (some ⟨w.heap.size + 1, 0, none⟩), .string X, .func (.func 161) #[] #[.pointer (some ⟨bf, 0, none⟩), .pointer (some ⟨bc, 0, none⟩), .pointer (some ⟨bo, 0, none⟩)], .string X, .string X, .string X, .int .i64 16, .int .i64 (n : Int), .int .i64 (p : Int), .int .i64 ((n : Int) - (p : Int)), .int .i64 (c : Int), .string (X.extract 0 c), .tuple #[.int .i64 (c : Int), .nilIface], undef, undef, undef, undef], defers := [] } ∧ (Lib.IsBuilderF 151 5 (w.heap.size + 1) (w.heap.size + 1) (Lib.byteCells ((flatB (pre ++ [x])).take n)) W' ∧ Below (w.heap.size + 1) W W' ∧ Lib.OthersKept 5 (some (w.heap.size + 1)) W W')) ?_ ?_
    · clear hk hbf hbc hbo hno hfm hm1 hn2 hnm hB1 hcl hz0 hpn HB Hp
      gi_region_with_o (first
        | (refine ⟨trivial, ?_⟩; gi_at_call 158; refine (CallsIn.inRound l (callsIn_wide.2 (HLen.out _ (by exact Hb.out)))).mono ?_; rintro e w3 ⟨rfl, rfl⟩)
        | (refine ⟨trivial, ?_⟩; gi_at_call 110; refine (CallsIn.inRound l (callsIn_wide.2 (HW.out _ (by exact Hb.out) (by exact HzW.out)))).mono ?_; rintro e w4 ⟨rfl, h4, b4, k4⟩))
      all_goals exact ⟨rfl, rfl, h4, ⟨b4.os, b4.tape, b4.output, b4.size, b4.block⟩, k4⟩
    rintro e a w4 ⟨rfl, rfl, h4, b4, k4⟩
    all_goals
      have hc4 : w4.cell? ⟨w.heap.size, 0, none⟩ = some (.int .i64 (n : Int)) := (b4.cell (p := ⟨w.heap.size, 0, none⟩) (Nat.lt_succ_self _)).trans hc
      have b5 : Below (w.heap.size + 1) W w4 := ⟨b4.os, b4.tape, b4.output, b4.size, b4.block⟩
      have hs4 : W.heap.size ≤ w4.heap.size := b4.size
      have hk4 : KeepsOthers W w4.drew := (bd_others (W := W) k4 hs4 (bd_cells Hb.out)).trans (KeepsOthers.drew w4)
      have hB4 : Below w.heap.size w w4.drew := (HB.out.trans (Below.mono b5 (Nat.le_succ _))).drew
      have hK4 : Below (w.heap.size + 1) W w4.drew := ⟨b4.os, b4.tape, b4.output, b4.size, b4.block⟩
      have hl5 : (flatB (pre ++ [x])).length = p + 16 := by rw [flatB_length, List.length_append, List.length_singleton, Hp.out]; omega
      have hln := bd_len (w.heap.size + 1) (w.heap.size + 1) (Lib.byteCells ((flatB (pre ++ [x])).take n)) w4.drew h4
      rw [Lib.byteCells_length, List.length_take, hl5] at hln
      have hlen5 : 16 * (pre ++ [x]).length = p + 16 := by rw [List.length_append, List.length_singleton, Hp.out]; omega
      have h4b : Lib.IsBuilderF 151 5 (w.heap.size + 1) (w.heap.size + 1) (Lib.byteCells ((flatB (pre ++ [x])).take n)) w4.drew := h4
      have HN := Lib.hid hln; have H1 := Lib.hid hk4; have H2 := Lib.hid hK4; have H5 := Lib.hid hl5; have H6 := Lib.hid hB4; have H7 := Lib.hid h4b; have H8 := Lib.hid hlen5
      clear b5 hs4 hk4 hB4 hK4 hl5 hln h4 b4 k4 hlen5 h4b
      by_cases hq : n ≤ p + 16
      · have HN2 := HN.out
        rw [Nat.min_eq_left hq] at HN2
        have HN3 := Lib.hid HN2
        clear HN2
        gi_wp2
        gi_region_with_o (refine ⟨trivial, ?_⟩; gi_at_call 158; refine (CallsIn.inRound l (callsIn_wide.2 HN3.out)).mono ?_; rintro e w6 ⟨rfl, rfl⟩)
        all_goals gi_wp2
        all_goals exact ⟨H1.out, ⟨rfl, H7.out, by rw [H8.out]; exact hq⟩, H6.out⟩
      · have HN2 := HN.out
        have e5 : (flatB (pre ++ [x])).take n = flatB (pre ++ [x]) := List.take_of_length_le (by rw [H5.out]; omega)
        have H7b := H7.out
        rw [e5] at H7b
        rw [Nat.min_eq_right (by omega)] at HN2
        have HN3 := Lib.hid HN2
        have hne : ¬ (p : Int) + 16 = (n : Int) := by omega
        have HB7 := Lib.hid H7b
        clear HN2 H7b e5
        gi_wp2
        gi_region_with_o (refine ⟨trivial, ?_⟩; gi_at_call 158; refine (CallsIn.inRound l (callsIn_wide.2 HN3.out)).mono ?_; rintro e w6 ⟨rfl, rfl⟩)
        all_goals gi_wp2
        all_goals exact ⟨H1.out, H2.out, ⟨hc4, HB7.out, .inl (by rw [H8.out]; omega)⟩, H6.out⟩
  case done =>
    rintro D ys W hD rfl ⟨⟨_, _, hlt⟩, _⟩ _
    rw [seqB_length] at hlt
    omega
  case stop =>
    rintro D c pre W hD ⟨k, hm, rfl⟩ ⟨⟨rfl, hb, hle⟩, hB⟩ hK
    rw [seqB_length] at hle
    rw [flatB_seq, ctrL_of hk _ _ _ _ hle] at hb
    gi_wp2_with (refine ⟨trivial, ?_⟩; gi_at_call 111; refine (callsIn_wide.2 (bd_string (w.heap.size + 1) (w.heap.size + 1) _ W hb (by have := heap_lt hK; omega))).mono ?_; rintro e w5 ⟨rfl, h5, k5⟩)
    have hK5 := k5 D _ hK (by intro e; have := Option.some.inj e; omega) (fun c fz e => by cases e)
    refine ⟨by simp, .inl ⟨_, _, rfl, run_takeDeferred hK5, ?_⟩⟩
    refine ⟨_, results_tmp rfl _ _ _, rfl, ?_⟩
    exact (hB.trans (Below.mono h5 (by omega))).trans (belowK_b (w := w) (Nat.le_refl _) _ D _ _ (by omega) hK5 rfl rfl)
end Go.Proofs.YtcjdnifckngcfaaGreatDoor
end
