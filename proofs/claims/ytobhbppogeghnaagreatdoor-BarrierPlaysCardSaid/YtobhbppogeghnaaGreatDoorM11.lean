/- Plain: a row of numbers of 32 bits that is sorted in place: where it lies, and that nothing else turns. Contracts: a map's keys, numbers of 32 bits, collected by the library. Contracts of the library's sort at numbers of 32 bits: less, the insertion sort. Contracts of the library's sort at numbers of 32 bits: a range turned about; the pivot, chosen. Contracts of the library's sort at numbers of 32 bits: how many bits; a greater power of two; numbers that scatter. Contract of the library's sort at numbers of 32 bits: the pivot, chosen. -/
import Derived.Sort.LotA
import Derived.Sort.LotB
import Derived.Sort.LotC
import Derived.Sort.LotD3
import Derived.Lib.BufferWrite
import Derived.Maps.Range
import Derived.Test.YtobhbppogeghnaaGreatDoorM01
import Derived.Test.YtobhbppogeghnaaGreatDoorM03
import Derived.RangeFuncBox
import Derived.RangeFuncOwn
import Derived.Test.YtobhbppogeghnaaGreatDoorProg
import Derived.WalkKit
import Derived.BigRegion
import Derived.BigQuiet
import Derived.Deep.QuietTactic
import Derived.Deep.Draws
import Derived.Deep.DeepCutAuto
import Derived.Deep.MidRow
import Derived.Outline
import Derived.Sort.LotD1
section
namespace Go.Proofs.YtobhbppogeghnaaGreatDoor
open Go.RowKit

def cN (n : Nat) : Value := .int .u32 (n : Int)
def ltN (x y : Nat) : Bool := decide (x < y)
theorem ltN_swo : Sort.SWO ltN := ⟨fun x => by simp [ltN], fun x y z => by simp [ltN]; omega, fun x y z => by simp [ltN]; omega⟩
/-- From w0 to w nothing turned but block g, which holds these numbers now, and what else lies behind them; new blocks may have come. -/
structure RowN (w0 w : World) (g : Nat) (T : TypeId) (pos : List Value) (d : Array Nat) : Prop where
  blk : Blk w g T (d.toList.map cN ++ pos)
  grown : w0.grownBy w (some g)
  lt : g < w0.heap.size
theorem grown_drewN {a b : World} {r : Option Nat} (h : a.grownBy b r) (n : Nat) : a.grownBy (b.drewN n) r := ⟨h.os, h.tape, h.output, h.size, h.block⟩
/-- A number that is kept in a block of its own: from w to w' nothing else turned. -/
structure Cnt (w w' : World) (s : Nat) (T : TypeId) (v : Value) : Prop where
  grown : w.grownBy w' (some s)
  blk : Blk w' s T [v]
theorem Cnt.refl {w : World} {s : Nat} {T : TypeId} {v : Value} (h : Blk w s T [v]) : Cnt w w s T v := ⟨World.grownBy.refl w _, h⟩
theorem Cnt.drewN {w w' : World} {s : Nat} {T : TypeId} {v : Value} (h : Cnt w w' s T v) (n : Nat) : Cnt w (w'.drewN n) s T v := ⟨grown_drewN h.grown n, h.blk⟩
theorem Cnt.set_ {w w' : World} {s : Nat} {T : TypeId} {v : Value} (h : Cnt w w' s T v) (u : Value) : Cnt w (w'.setCell ⟨s, 0, none⟩ u) s T u := ⟨h.grown.andThen (Lib.grownBy_setCell _ s 0 _) (fun _ hj => .inr hj), h.blk.set_ 0 u⟩
theorem Cnt.trans {w w' w'' : World} {s : Nat} {T : TypeId} {v u : Value} (h : Cnt w w' s T v) (k : Cnt w' w'' s T u) : Cnt w w'' s T u := ⟨h.grown.andThen k.grown (fun _ hj => .inr hj), k.blk⟩
theorem Cnt.other {w w' : World} {s g : Nat} {T U : TypeId} {v : Value} {cs : List Value} (h : Cnt w w' s T v) (hg : Blk w g U cs) (hn : g ≠ s) : Blk w' g U cs := (h.grown.block g hg.lt (by simpa using hn)).trans hg
/-- Where the block is a new one, nothing turned. -/
theorem Cnt.ext {w0 w w' : World} {s : Nat} {T : TypeId} {v : Value} (h : Cnt w w' s T v) (hx : Ext w0 w) (hs : w0.heap.size ≤ s) : Ext w0 w' :=
  ⟨h.grown.os.trans hx.os, h.grown.tape.trans hx.tape, h.grown.output.trans hx.output, Nat.le_trans hx.size h.grown.size, fun k hk => (h.grown.block k (Nat.lt_of_lt_of_le hk hx.size) (by simp; omega)).trans (hx.block k hk)⟩
section
variable {w0 w w' : World} {g : Nat} {T : TypeId} {pos : List Value} {d d' : Array Nat}
theorem RowN.refl (h : Blk w g T (d.toList.map cN ++ pos)) : RowN w w g T pos d := ⟨h, World.grownBy.refl w _, h.lt⟩
theorem RowN.drewN (h : RowN w0 w g T pos d) (n : Nat) : RowN w0 (w.drewN n) g T pos d := ⟨h.blk, ⟨h.grown.os, h.grown.tape, h.grown.output, h.grown.size, h.grown.block⟩, h.lt⟩
theorem RowN.drew (h : RowN w0 w g T pos d) : RowN w0 w.drew g T pos d := h.drewN 1
theorem RowN.size (h : RowN w0 w g T pos d) : g < w.heap.size := h.blk.lt
theorem RowN.trans (h : RowN w0 w g T pos d) (k : RowN w w' g T pos d') : RowN w0 w' g T pos d' := ⟨k.blk, h.grown.andThen k.grown (fun _ hj => .inr hj), h.lt⟩
theorem RowN.ext (h : RowN w0 w g T pos d) (hx : Ext w w') : RowN w0 w' g T pos d :=
  ⟨h.blk.ext hx, ⟨hx.os.trans h.grown.os, hx.tape.trans h.grown.tape, hx.output.trans h.grown.output, Nat.le_trans h.grown.size hx.size, fun k hk hne => (hx.block k (Nat.lt_of_lt_of_le hk h.grown.size)).trans (h.grown.block k hk hne)⟩, h.lt⟩
theorem get_list (d : Array Nat) (i : Nat) (h : i < d.size) : (d.toList.map cN ++ pos)[i]? = some (cN d[i]!) := by
  rw [List.getElem?_append_left (by simpa using h)]
  simp [h]
theorem RowN.cell (h : RowN w0 w g T pos d) (i : Nat) (hi : i < d.size) : w.cell? ⟨g, i, none⟩ = some (.int .u32 (d[i]! : Int)) := h.blk.cell i _ (get_list d i hi)
theorem RowN.frozen (h : RowN w0 w g T pos d) (i : Nat) : w.frozen? ⟨g, i, none⟩ = false := h.blk.frozen i
theorem swp_list (d : Array Nat) (i j : Nat) (hi : i < d.size) (hj : j < d.size) : ((d.toList.map cN ++ pos).set i (cN d[j]!)).set j (cN d[i]!) = (Sort.swp d i j).toList.map cN ++ pos := by
  rw [List.set_append_left _ _ (by simpa using hi), List.set_append_left _ _ (by simpa using hj)]
  simp [Sort.swp, List.map_set]
theorem RowN.swap (h : RowN w0 w g T pos d) (i j : Nat) (hi : i < d.size) (hj : j < d.size) {x y : Nat} (hx : d[i]! = x) (hy : d[j]! = y) :
    RowN w0 ((w.setCell ⟨g, i, none⟩ (.int .u32 (y : Int))).setCell ⟨g, j, none⟩ (.int .u32 (x : Int))) g T pos (Sort.swp d i j) := by
  have hb := (h.blk.set_ i (cN d[j]!)).set_ j (cN d[i]!)
  rw [swp_list d i j hi hj, hx, hy] at hb
  exact ⟨hb, (h.grown.andThen (Lib.grownBy_setCell w g i _) (fun _ hj => .inr hj)).andThen (Lib.grownBy_setCell _ g j _) (fun _ hj => .inr hj), h.lt⟩
end
end Go.Proofs.YtobhbppogeghnaaGreatDoor
end

section
namespace Go.Proofs.YtobhbppogeghnaaGreatDoor
open Go.RowKit Go.Shelf
attribute [local go_sem] Oper.semAt_some

/-- A slice of the call's own that holds just these numbers. -/
def BufN (w : World) (B : Nat) (v : Value) (l : List Nat) : Prop := w.ownsRow B 40 1 v l.length (l.map cN)
theorem infoN : (Tryz.prog.info? 40).map (fun i => (i.zero, i.size, i.bytes)) = some (some (.int .u32 0), 1, 4) := by kernel_rfl
theorem appendN_In {F : Fence} {n : Nat} {w : World} {ops : Array Oper} {rest : List Oper} {o : Oper} {a : Act} {Q : Exit → Act → World → Prop} (hgd : o.guard = none) (s x : Operand)
    (ho : o.op = .call { callee := .builtin .append, args := #[s, x], argTypes := #[59, 59] })
    (B : Nat) (v : Value) (L : List Nat) (hs : a.eval s = v) (hbuf : BufN w B v L) (g : Nat) (r : Nat) (hx : a.eval x = .slice (some ⟨g, 0, none⟩) 1 1) (hrow : Blk w g 40 [cN r])
    (hlen : L.length ≤ 1000000) (hB : B ≤ w.heap.size)
    (h : ∀ v' w', w'.ownsRow B 40 1 v' (L.length + 1) ((L ++ [r]).map cN) → w.grownBy w' v.ownBlock → wpListIn F n Tryz.prog ops Q rest (a.put o.dst v') w') : wpListIn F n Tryz.prog ops Q (o :: rest) a w := by
  obtain ⟨i0, hi, hz0, hz1, hz2⟩ := info_parts infoN
  refine wpListIn_append_own w hgd s x 59 ho B 40 i0 (.int .u32 0) 1 4 Tryz.underlying59 hi hz0 hz1 hz2 rfl (by decide) v L.length (L.map cN) hs hbuf ⟨g, 0, none⟩ 1 1 [cN r] hx rfl (fun j u hu => ?_) (fun u hu => by rw [List.mem_singleton] at hu; subst hu; rfl) (by unfold maxLen; omega) (by omega) hB ?_
  · have e : (⟨g, 0, none⟩ : Addr).add j = ⟨g, j, none⟩ := by unfold Addr.add; split <;> simp_all
    rw [e]
    exact hrow.cell j u hu
  · intro v' w' h1 h2 _
    exact h v' w' (by simpa using h1) h2
theorem walks_of_others {W W' : World} (h : KeepsOthers W W') : KeepsWalks W W' := ⟨h.size, fun k o hk hw => h.same k o hk (Obj.not_cells_of_walk hw)⟩
/-- What the rounds keep: a box with the numbers that came. -/
def CoI (o : Nat) (pre : List Nat) (W : World) : Prop := ∃ v, Boxed W o 59 v ∧ W.ownsRow o 40 1 v pre.length (pre.map cN) ∧ True
set_option maxRecDepth 100000 in
set_option maxHeartbeats 4000000 in
theorem appendSeq_any (bm b : Nat) (L : List (Nat × ByteArray)) (w : World) (hl : L.length ≤ 1000000) (hC : w.cell? ⟨bm, 0, none⟩ = some (.map (some b))) (hbm : bm < w.heap.size) (hM : MapL w Tryz.prog 40 b (L.map kvR)) :
    Calls Tryz.prog 149 #[.slice none 0 0, .func (.func 128) #[] #[.pointer (some ⟨bm, 0, none⟩)]] w fun e w' =>
      ∃ (v : Value) (ys : List Nat), e = .returned v ∧ ys.Perm (L.map (·.1)) ∧ w'.ownsRow w.heap.size 40 1 v ys.length (ys.map cN) ∧ Ext w w' := by
  refine (callsIn_wide (n := 9)).1 ?_
  refine callsIn_of_wp_marks Tryz.func149 rfl trivial ?_ rfl
  simp only [Tryz.ntmps149, List.size_toArray, List.length_cons, List.length_nil, Nat.reduceAdd, Nat.reduceSub, Array.replicate_succ, Array.replicate_zero, List.push_toArray, List.append_toArray, List.nil_append, List.cons_append]
  gi_wp2
  have hx0 : Ext w (w.alloc (.cells #[.slice none 0 0] 59)) := (Ext.refl w).alloc _
  have hb0 : Boxed (w.alloc (.cells #[.slice none 0 0] 59)) w.heap.size 59 (.slice none 0 0) := Boxed.new w _ _
  have hz0 : (w.alloc (.cells #[.slice none 0 0] 59)).heap.size = w.heap.size + 1 := by simp
  have hM0 := hM.ext hx0
  have hC0 := (hx0.cell (p := ⟨bm, 0, none⟩) hbm).trans hC
  generalize (w.alloc (.cells #[.slice none 0 0] 59)) = W0 at *
  obtain ⟨o, ho⟩ : ∃ o, w.heap.size = o := ⟨_, rfl⟩
  have HO := Lib.hid ho
  rw [ho] at hb0 hz0 ⊢
  have hB0 : Below o w W0 := by rw [← ho]; exact hx0.below
  refine wpIn_rangeFunc_ownF rfl (by omega) (gf := 128) (lb := #[.pointer (some ⟨bm, 0, none⟩)]) rfl trivial (enters_of Tryz.func128 (by kernel_rfl) rfl)
    (keys_stops (9 - 1) (by omega) bm b L W0 (by omega) hC0 hM0) KeepsWalks.trans (fun W l o o' _ h h1 h2 => KeepsWalks.putObj o' h h2) (Below.refl _ _) (fun _ => rfl)
    (fun pre W => CoI o pre W ∧ Below o w W) (fun _ _ _ => False)
    (OwnFrom.and (Go.Own.from (holdsRow_own o o 59 40 1 List.length (fun l => l.map cN) (fun _ _ => True)) _) (ownFrom_below (by omega) (by omega)))
    (fun _ => Go.Own.from (fun s A B row hs _ _ => hs) _)
    ⟨⟨_, hb0, World.ownsRow_nil _ _ _ _, trivial⟩, hB0⟩
    (fun x => { tmps := #[.slice none 0 0, .func (.func 128) #[] #[.pointer (some ⟨bm, 0, none⟩)], .pointer (some ⟨o, 0, none⟩), undef, .slice none 0 0, .int .u32 (x : Int), .func (.func 128) #[] #[.pointer (some ⟨bm, 0, none⟩)], .int .u32 (x : Int), undef, undef, undef, undef, undef], defers := [] }) ?assign ?body ?done ?stop
  case assign =>
    intro l x W K hK
    gi_wp2
    exact hK
  case body =>
    rintro l pre x W ⟨⟨v, hv, hrow, _⟩, hB⟩ hlt
    have c2 := hv.cell
    have HV := Lib.hid hv
    have HR := Lib.hid hrow
    have HB := Lib.hid hB
    have hoW : o ≤ W.heap.size := Nat.le_of_lt hv.lt
    clear hv hrow hB
    gi_wp2_with (refine appendN_In rfl _ _ rfl o v pre rfl (World.ownsRow.alloc HR.out _) W.heap.size x rfl (Blk.new W _ _) (by omega) (by simp; omega) ?_; intro v2 w2 hb2 hg2; obtain ⟨g2, k2, rfl⟩ := ownsRow_succ hb2; obtain ⟨q1, q2, q3, q4, q5⟩ := Boxed.appended (n₀ := o) HV.out (by decide) HR.out hoW (Nat.le_refl _) hb2 hg2; have e2 := Boxed.cell q1; have f2 := Boxed.frozen q1; have Q2 := Lib.hid q2; have Q3 := Lib.hid q3; have Q4 := Lib.hid q4; have Q5 := Lib.hid q5; clear q1 q2 q3 q4 q5 hg2 hb2)
    exact ⟨Q4.out, walks_of_others Q4.out, ⟨_, Q2.out, by simpa using Q3.out, trivial⟩, HB.out.trans Q5.out⟩
  case done =>
    rintro D ys W hD hp ⟨⟨v, hv, hrow, _⟩, hB⟩ hK
    have c2 := hv.cell
    gi_wp2
    refine ⟨by simp, .inl ⟨_, _, rfl, run_takeDeferred hK, ?_⟩⟩
    refine ⟨_, results_tmp rfl _ _ _, v, ys, rfl, hp, ?_, ?_⟩
    · rw [HO.out]
      exact ownsRow_putObj hrow _ hK rfl
    · exact (HO.out ▸ hB : Below w.heap.size w W).trans (belowK_b (w := w) (Nat.le_refl _) W D _ _ (by have := HO.out; omega) hK rfl rfl)
  case stop =>
    rintro D c pre W hD _ h
    exact h.elim
end Go.Proofs.YtobhbppogeghnaaGreatDoor
end

section
namespace Go.Proofs.YtobhbppogeghnaaGreatDoor
open Go.RowKit

theorem less_any (x y : Nat) (w : World) : Calls Tryz.prog 176 #[.int .u32 (x : Int), .int .u32 (y : Int)] w fun e w' => e = .returned (.bool (ltN x y)) ∧ w' = w := by
  have e : decide ((x : Int) < (y : Int)) = ltN x y := by simp [ltN]
  go_enter Tryz.func176, Tryz.ntmps176
  go_wp2
  go_ret
  exact ⟨by simp [ltN], rfl⟩

theorem less_of {x y : Nat} {b : Bool} (h : ltN x y = b) (w : World) : Calls Tryz.prog 176 #[.int .u32 (x : Int), .int .u32 (y : Int)] w fun e w' => e = .returned (.bool b) ∧ w' = w := h ▸ less_any x y w
/-- A quiet callee, met behind two quiet regions: the draws add up. -/
theorem quiet_of_same2 {P : Program} {f : FuncId} {args : Array Value} {w : World} {k n : Nat} {v : Value}
    (h : Calls P f args (w.drewN (k + n)) fun e w' => e = .returned v ∧ w' = w.drewN (k + n)) : Calls P f args (w.drewN (k + n)) fun e w'' => e = .returned v ∧ ∃ m, w'' = w.drewN (k + m) :=
  h.mono fun _ _ ⟨he, hm⟩ => ⟨he, n, hm⟩
theorem insOuter_go {lt : Nat → Nat → Bool} (a b i : Nat) (d : Array Nat) (h : i < b) : Sort.insOuter lt a b i d = Sort.insOuter lt a b (i + 1) (Sort.insInner lt a i d) := by
  conv => lhs; rw [Sort.insOuter]
  rw [if_pos h]
theorem insOuter_end {lt : Nat → Nat → Bool} (a b i : Nat) (d : Array Nat) (h : ¬ i < b) : Sort.insOuter lt a b i d = d := by
  rw [Sort.insOuter, if_neg h]
theorem insInner_go {lt : Nat → Nat → Bool} (a k : Nat) (d : Array Nat) (h : a < k + 1) (hl : lt d[k + 1]! d[k]! = true) : Sort.insInner lt a (k + 1) d = Sort.insInner lt a k (Sort.swp d (k + 1) k) := by
  rw [Sort.insInner, if_pos (by simp [hl]; omega)]
theorem insInner_end {lt : Nat → Nat → Bool} (a k : Nat) (d : Array Nat) (hl : lt d[k + 1]! d[k]! = false) : Sort.insInner lt a (k + 1) d = d := by
  rw [Sort.insInner, if_neg (by simp [hl])]
theorem insInner_low {lt : Nat → Nat → Bool} (a j : Nat) (d : Array Nat) (h : ¬ a < j) : Sort.insInner lt a j d = d := by
  cases j with
  | zero => rfl
  | succ k => rw [Sort.insInner, if_neg (by simp; omega)]

set_option maxRecDepth 100000 in
set_option maxHeartbeats 4000000 in
theorem ins_any (g : Nat) (T : TypeId) (pos : List Value) (d : Array Nat) (a b cap : Nat) (w : World) (h : Blk w g T (d.toList.map cN ++ pos)) (hab : a ≤ b) (hb : b ≤ d.size) (hs : d.size ≤ 1000000) :
    Calls Tryz.prog 170 #[.slice (some ⟨g, 0, none⟩) d.size cap, .int .i64 (a : Int), .int .i64 (b : Int)] w fun e w' => e = .returned (.tuple #[]) ∧ RowN w w' g T pos (Sort.insertionSort ltN d a b) := by
  have HL := Lib.hid less_any
  have HR := Lib.hid (RowN.refl h)
  clear h
  go_enter Tryz.func170, Tryz.ntmps170
  go_wp2
  go_loopw [6, 7] (fun iv _ wr => ∃ (i : Nat) (dk : Array Nat), iv = .int .i64 (i : Int) ∧ a < i ∧ i ≤ b + 1 ∧ dk.size = d.size ∧ Hid (RowN w wr g T pos dk) ∧ Hid (Sort.insOuter ltN a b i dk = Sort.insertionSort ltN d a b)) (fun iv _ _ => b + 1 - (intOf iv).toNat)
  case atStart => exact ⟨a + 1, d, by go_num, by omega, by omega, rfl, HR, Lib.hid rfl⟩
  case round =>
    obtain ⟨i, dk, rfl, hai, hi1, hds, hR, hO⟩ := hrel
    by_cases hib : i < b
    · have hibi : (i : Int) < (b : Int) := by omega
      have HO1 : Hid (Sort.insOuter ltN a b (i + 1) (Sort.insInner ltN a i dk) = Sort.insertionSort ltN d a b) := Lib.hid (by rw [← hO.out, insOuter_go _ _ _ _ hib])
      clear hO
      go_wp2
      go_loopw [7] (fun jv wr => ∃ (j : Nat) (dj : Array Nat), jv = .int .i64 (j : Int) ∧ a ≤ j ∧ j ≤ i ∧ dj.size = d.size ∧ Hid (RowN w wr g T pos dj) ∧ Hid (Sort.insInner ltN a j dj = Sort.insInner ltN a i dk)) (fun jv _ => (intOf jv).toNat)
      case atStart => exact ⟨i, dk, rfl, by omega, Nat.le_refl _, hds, hR, Lib.hid rfl⟩
      case round =>
        obtain ⟨j, dj, rfl, haj, hji, hdj, hRj, hI⟩ := hrel
        by_cases hja : a < j
        · obtain ⟨k, rfl⟩ : ∃ k, j = k + 1 := ⟨j - 1, by omega⟩
          have hjai : (a : Int) < (k : Int) + 1 := by omega
          have c1 := hRj.out.cell (k + 1) (by omega)
          have c0 := hRj.out.cell k (by omega)
          have f1 := hRj.out.frozen (k + 1)
          have f0 := hRj.out.frozen k
          have b1 : k + 1 < d.size := by omega
          have b0 : k < d.size := by omega
          obtain ⟨x, hx⟩ : ∃ x, dj[k + 1]! = x := ⟨_, rfl⟩
          obtain ⟨y, hy⟩ : ∃ y, dj[k]! = y := ⟨_, rfl⟩
          have HS := Lib.hid (fun n => (hRj.out.drewN n).swap (k + 1) k (by omega) (by omega) hx hy)
          have HX := Lib.hid hx
          have HY := Lib.hid hy
          rw [hx] at c1
          rw [hy] at c0
          clear hx hy
          rcases hl : ltN x y with _ | _
          · go_upto_region 4 with (fail)
            go_quiet ((go_at_call 176; exact Calls.quiet_of_same (HL.out _ _ _)))
            go_wp2
            go_roundw
            case rel => exact ⟨i + 1, dj, by go_num, by omega, by omega, hdj, Lib.hid (hRj.out.drewN _), Lib.hid (by rw [← HO1.out, ← hI.out, insInner_end _ _ _ (by rw [HX.out, HY.out]; exact hl)])⟩
            case measure => first | (simp [intOf]; omega) | simp [intOf]
          · go_upto_region 4 with (fail)
            go_quiet ((go_at_call 176; exact Calls.quiet_of_same (HL.out _ _ _)))
            go_upto_region 6 with (fail)
            go_region
            go_wp2
            go_roundw
            case rel => exact ⟨k, Sort.swp dj (k + 1) k, rfl, by omega, by omega, by rw [Sort.size_swp]; exact hdj, Lib.hid (HS.out _), Lib.hid (by rw [← hI.out, insInner_go _ _ _ hja (by rw [HX.out, HY.out]; exact hl)])⟩
            case measure => first | (simp [intOf]; omega) | simp [intOf]
        · have hjai : ¬ (a : Int) < (j : Int) := by omega
          go_upto_region 4 with (fail)
          go_quiet (fail)
          go_wp2
          go_roundw
          case rel => exact ⟨i + 1, dj, by go_num, by omega, by omega, hdj, Lib.hid (hRj.out.drewN _), Lib.hid (by rw [← HO1.out, ← hI.out, insInner_low _ _ _ hja])⟩
          case measure => simp [intOf]; omega
    · have hibi : ¬ (i : Int) < (b : Int) := by omega
      go_wp2
      go_end0
      exact ⟨rfl, by rw [← hO.out, insOuter_end _ _ _ _ hib]; exact hR.out⟩
end Go.Proofs.YtobhbppogeghnaaGreatDoor
end

section
namespace Go.Proofs.YtobhbppogeghnaaGreatDoor
open Go.RowKit

set_option maxRecDepth 100000 in
set_option maxHeartbeats 4000000 in
theorem rev_any (g : Nat) (T : TypeId) (pos : List Value) (d : Array Nat) (a b cap : Nat) (w : World) (h : Blk w g T (d.toList.map cN ++ pos)) (hab : a < b) (hb : b ≤ d.size) (hs : d.size ≤ 1000000) :
    Calls Tryz.prog 174 #[.slice (some ⟨g, 0, none⟩) d.size cap, .int .i64 (a : Int), .int .i64 (b : Int)] w fun e w' => e = .returned (.tuple #[]) ∧ ∃ d', RowN w w' g T pos d' ∧ Sort.PermIn a b d d' := by
  have HR := Lib.hid (RowN.refl h)
  clear h
  obtain ⟨b0, rfl⟩ : ∃ k, b = k + 1 := ⟨b - 1, by omega⟩
  go_enter Tryz.func174, Tryz.ntmps174
  go_wp2
  go_loopw [6, 7] (fun iv jv wr => ∃ (i j : Nat) (dk : Array Nat), iv = .int .i64 (i : Int) ∧ jv = .int .i64 ((j : Int) - 1) ∧ a ≤ i ∧ j ≤ b0 + 1 ∧ i ≤ b0 + 1 ∧ dk.size = d.size ∧ Hid (RowN w wr g T pos dk) ∧ Hid (Sort.PermIn a (b0 + 1) d dk)) (fun iv jv _ => (intOf jv).toNat + 1 - (intOf iv).toNat)
  case atStart => exact ⟨a, b0 + 1, d, rfl, by go_num, Nat.le_refl _, Nat.le_refl _, by omega, rfl, HR, Lib.hid (Sort.permIn_refl _ _ _)⟩
  case round =>
    obtain ⟨i, j, dk, rfl, rfl, hai, hjb, hib, hdk, hR, hP⟩ := hrel
    by_cases hij : i + 1 < j
    · obtain ⟨k, rfl⟩ : ∃ k, j = k + 1 := ⟨j - 1, by omega⟩
      have hiji : (i : Int) < (k : Int) := by omega
      have c1 := hR.out.cell i (by omega)
      have c0 := hR.out.cell k (by omega)
      have f1 := hR.out.frozen i
      have f0 := hR.out.frozen k
      have b1 : i < d.size := by omega
      have b0' : k < d.size := by omega
      obtain ⟨x, hx⟩ : ∃ x, dk[i]! = x := ⟨_, rfl⟩
      obtain ⟨y, hy⟩ : ∃ y, dk[k]! = y := ⟨_, rfl⟩
      have HS := Lib.hid (fun n => (hR.out.drewN n).swap i k (by omega) (by omega) hx hy)
      rw [hx] at c1
      rw [hy] at c0
      clear hx hy
      have hjs : IntKind.i64.wrap ((k : Int) - 1) = (k : Int) - 1 := IntWalk.i64_in _ ⟨by omega, by omega⟩
      go_upto_region 3 with (fail)
      go_region
      go_wp2
      go_roundw
      case rel => exact ⟨i + 1, k, Sort.swp dk i k, by go_num, by first | rfl | go_num, by omega, by omega, by omega, by rw [Sort.size_swp]; exact hdk, Lib.hid (HS.out _), Lib.hid (Sort.permIn_trans _ _ _ _ _ hP.out (Sort.swp_permIn _ _ _ _ _ hai (by omega) (by omega) (by omega) (by omega)))⟩
      case measure => first | (simp [intOf]; omega) | simp [intOf]
    · have hiji : ¬ (i : Int) < (j : Int) - 1 := by omega
      go_wp2
      go_end0
      exact ⟨rfl, dk, hR.out, hP.out⟩
end Go.Proofs.YtobhbppogeghnaaGreatDoor
end

section
namespace Go.Proofs.YtobhbppogeghnaaGreatDoor
open Go.RowKit

set_option maxRecDepth 100000 in
set_option maxHeartbeats 4000000 in
theorem order2_any (g : Nat) (T : TypeId) (pos : List Value) (d : Array Nat) (a b cap s k : Nat) (w : World) (h : Blk w g T (d.toList.map cN ++ pos)) (ha : a < d.size) (hb : b < d.size) (_ : d.size ≤ 1000000) (hk : Blk w s 3 [.int .i64 (k : Int)]) (hk1 : k ≤ 1000000) :
    Calls Tryz.prog 216 #[.slice (some ⟨g, 0, none⟩) d.size cap, .int .i64 (a : Int), .int .i64 (b : Int), .pointer (some ⟨s, 0, none⟩)] w fun e w' => ∃ x y k' : Nat, e = .returned (.tuple #[.int .i64 (x : Int), .int .i64 (y : Int)]) ∧ (x = a ∧ y = b ∨ x = b ∧ y = a) ∧ k' ≤ k + 1 ∧ Cnt w w' s 3 (.int .i64 (k' : Int)) := by
  have HR := RowN.refl h
  have c1 := HR.cell a ha
  have c0 := HR.cell b hb
  obtain ⟨x, hx⟩ : ∃ x, d[a]! = x := ⟨_, rfl⟩
  obtain ⟨y, hy⟩ : ∃ y, d[b]! = y := ⟨_, rfl⟩
  rw [hx] at c1
  rw [hy] at c0
  have c2 := hk.cell 0 _ rfl
  have f2 := hk.frozen 0
  have HK := Lib.hid hk
  clear h HR hx hy hk
  go_enter Tryz.func216, Tryz.ntmps216
  rcases hl : ltN y x with _ | _
  · go_upto_region 1 with (fail)
    go_quiet ((go_at_call 176; exact Calls.quiet_of_same (less_of hl _)))
    go_wp2
    go_ret2
    exact ⟨a, b, k, rfl, .inl ⟨rfl, rfl⟩, by omega, (Cnt.refl HK.out).drewN _⟩
  · go_upto_region 1 with (fail)
    go_quiet ((go_at_call 176; exact Calls.quiet_of_same (less_of hl _)))
    go_wp2
    go_ret2
    exact ⟨b, a, k + 1, rfl, .inr ⟨rfl, rfl⟩, by omega, ((Cnt.refl HK.out).drewN _).set_ _⟩
set_option maxRecDepth 100000 in
set_option maxHeartbeats 4000000 in
theorem median_any (g : Nat) (T : TypeId) (pos : List Value) (d : Array Nat) (a b c cap s k : Nat) (w : World) (h : Blk w g T (d.toList.map cN ++ pos)) (ha : a < d.size) (hb : b < d.size) (hc : c < d.size) (hs : d.size ≤ 1000000) (hk : Blk w s 3 [.int .i64 (k : Int)]) (hk1 : k ≤ 900000) (hn : g ≠ s) :
    Calls Tryz.prog 204 #[.slice (some ⟨g, 0, none⟩) d.size cap, .int .i64 (a : Int), .int .i64 (b : Int), .int .i64 (c : Int), .pointer (some ⟨s, 0, none⟩)] w fun e w' => ∃ x k' : Nat, e = .returned (.int .i64 (x : Int)) ∧ (x = a ∨ x = b ∨ x = c) ∧ k' ≤ k + 3 ∧ Cnt w w' s 3 (.int .i64 (k' : Int)) := by
  have HO := Lib.hid (fun (u : World) (x y k0 : Nat) (hx : x < d.size) (hy : y < d.size) (h0 : k0 ≤ 1000000) (hu : Cnt w u s 3 (.int .i64 (k0 : Int))) => order2_any g T pos d x y cap s k0 u (hu.other h hn) hx hy hs hu.blk h0)
  have H0 := Lib.hid (Cnt.refl hk)
  clear h hk
  go_enter Tryz.func204, Tryz.ntmps204
  go_upto_region 2 with (go_at_call 216; refine (HO.out _ a b k ha hb (by omega) H0.out).mono ?_; rintro e w1 ⟨x1, y1, k1, rfl, m1, l1, i1⟩; have H1 := Lib.hid i1; clear i1)
  have hx1 : x1 < d.size := by omega
  have hy1 : y1 < d.size := by omega
  go_upto_region 3 with (go_at_call 216; refine (HO.out _ y1 c k1 hy1 hc (by omega) H1.out).mono ?_; rintro e w2 ⟨x2, y2, k2, rfl, m2, l2, i2⟩; have H2 := Lib.hid (H1.out.trans i2); clear i2)
  have hx2 : x2 < d.size := by omega
  go_wp2_with (go_at_call 216; refine (HO.out _ x1 x2 k2 hx1 hx2 (by omega) H2.out).mono ?_; rintro e w3 ⟨x3, y3, k3, rfl, m3, l3, i3⟩; have H3 := Lib.hid (H2.out.trans i3); clear i3)
  go_ret
  exact ⟨y3, k3, rfl, by omega, by omega, H3.out⟩
theorem medianAdj_any (g : Nat) (T : TypeId) (pos : List Value) (d : Array Nat) (a cap s k : Nat) (w : World) (h : Blk w g T (d.toList.map cN ++ pos)) (ha : 1 ≤ a) (hb : a + 1 < d.size) (hs : d.size ≤ 1000000) (hk : Blk w s 3 [.int .i64 (k : Int)]) (hk1 : k ≤ 900000) (hn : g ≠ s) :
    Calls Tryz.prog 203 #[.slice (some ⟨g, 0, none⟩) d.size cap, .int .i64 (a : Int), .pointer (some ⟨s, 0, none⟩)] w fun e w' => ∃ x k' : Nat, e = .returned (.int .i64 (x : Int)) ∧ (a - 1 ≤ x ∧ x ≤ a + 1) ∧ k' ≤ k + 3 ∧ Cnt w w' s 3 (.int .i64 (k' : Int)) := by
  obtain ⟨m, rfl⟩ : ∃ m, a = m + 1 := ⟨a - 1, by omega⟩
  have HM := Lib.hid (median_any g T pos d m (m + 1) (m + 1 + 1) cap s k w h (by omega) (by omega) (by omega) hs hk hk1 hn)
  simp only [Int.natCast_add, Int.cast_ofNat_Int] at HM
  clear h hk
  go_enter Tryz.func203, Tryz.ntmps203
  go_wp2_with (go_at_call 204; refine (HM.out).mono ?_; rintro e w1 ⟨x1, k1, rfl, m1, l1, i1⟩; have H1 := Lib.hid i1; clear i1)
  go_ret
  exact ⟨x1, k1, rfl, by omega, by omega, H1.out⟩
end Go.Proofs.YtobhbppogeghnaaGreatDoor
end

section
namespace Go.Proofs.YtobhbppogeghnaaGreatDoor
open Go.RowKit

set_option maxRecDepth 100000 in
set_option maxHeartbeats 4000000 in
theorem pivot_any (g : Nat) (T : TypeId) (pos : List Value) (d : Array Nat) (a l cap : Nat) (w : World) (h : Blk w g T (d.toList.map cN ++ pos)) (hl : 12 < l) (hb : a + l ≤ d.size) (hs : d.size ≤ 1000000) :
    Calls Tryz.prog 173 #[.slice (some ⟨g, 0, none⟩) d.size cap, .int .i64 (a : Int), .int .i64 ((a + l : Nat) : Int)] w fun e w' => ∃ x hint : Nat, e = .returned (.tuple #[.int .i64 (x : Int), .int .i64 (hint : Int)]) ∧ (a ≤ x ∧ x < a + l) ∧ (hint = 0 ∨ hint = 1 ∨ hint = 2) ∧ Ext w w' := by
  have hgs : g ≠ w.heap.size := by have := h.lt; omega
  have HO := Lib.hid (fun (u : World) (x y z k0 : Nat) (hx : x < d.size) (hy : y < d.size) (hz : z < d.size) (h0 : k0 ≤ 900000) (hg : Blk u g T (d.toList.map cN ++ pos)) (hu : Blk u w.heap.size 3 [.int .i64 (k0 : Int)]) => median_any g T pos d x y z cap w.heap.size k0 u hg hx hy hz hs hu h0 hgs)
  have HA := Lib.hid (fun (u : World) (x k0 : Nat) (hx : 1 ≤ x) (hy : x + 1 < d.size) (h0 : k0 ≤ 900000) (hg : Blk u g T (d.toList.map cN ++ pos)) (hu : Blk u w.heap.size 3 [.int .i64 (k0 : Int)]) => medianAdj_any g T pos d x cap w.heap.size k0 u hg hx hy hs hu h0 hgs)
  have HN := Lib.hid (Blk.new w [.int .i64 0] 3)
  have HG := Lib.hid (h.alloc (.cells #[.int .i64 0] 3))
  have HX := Lib.hid ((Ext.refl w).alloc (.cells #[.int .i64 0] 3))
  clear h
  obtain ⟨q, hq⟩ : ∃ q, l / 4 = q := ⟨_, rfl⟩
  have hq2 : (l : Int).tdiv 4 = (q : Int) := by rw [Int.tdiv_eq_ediv_of_nonneg (by omega)]; omega
  have hqd : (l : Int) / 4 = (q : Int) := by omega
  go_enter Tryz.func173, Tryz.ntmps173
  go_upto_region 7 with (fail)
  have e0 : (a : Int) + (l : Int) - (a : Int) = (l : Int) := by omega
  obtain ⟨i, hi⟩ : ∃ i, a + q = i := ⟨_, rfl⟩
  obtain ⟨j, hj⟩ : ∃ j, a + q * 2 = j := ⟨_, rfl⟩
  obtain ⟨k, hk⟩ : ∃ k, a + q * 3 = k := ⟨_, rfl⟩
  have hi1 : (a : Int) + (q : Int) = (i : Int) := by omega
  have hj1 : (a : Int) + (q : Int) * 2 = (j : Int) := by omega
  have hk1 : (a : Int) + (q : Int) * 3 = (k : Int) := by omega
  have q3 : 3 ≤ q := by omega
  have q4 : 4 * q ≤ l := by omega
  have hl8 : decide ((8 : Int) ≤ (l : Int)) = true := by rw [decide_eq_true_iff]; omega
  simp only [e0, hqd, hi1, hj1, hk1, hl8]
  have HI := Lib.hid hi1
  have HJ := Lib.hid hj1
  have HK := Lib.hid hk1
  have hki : k < d.size := by omega
  clear hq2 hqd hi1 hj1 hk1 e0
  by_cases h50 : 50 ≤ l
  · have h50i : (50 : Int) ≤ (l : Int) := by omega
    have h12 : 12 ≤ q := by omega
    go_upto_region 9 with (go_at_call 203; refine (HA.out _ i 0 (by omega) (by omega) (by omega) HG.out HN.out).mono ?_; rintro e w1 ⟨x1, k1, rfl, m1, l1, i1⟩; have H1 := Lib.hid i1; clear i1)
    go_upto_region 10 with (go_at_call 203; refine (HA.out _ j k1 (by omega) (by omega) (by omega) (H1.out.other HG.out hgs) H1.out.blk).mono ?_; rintro e w2 ⟨x2, k2, rfl, m2, l2, i2⟩; have H2 := Lib.hid (H1.out.trans i2); clear i2)
    go_upto_region 11 with (go_at_call 203; refine (HA.out _ k k2 (by omega) (by omega) (by omega) (H2.out.other HG.out hgs) H2.out.blk).mono ?_; rintro e w3 ⟨x3, k3, rfl, m3, l3, i3⟩; have H3 := Lib.hid (H2.out.trans i3); clear i3)
    go_upto_region 12 with (go_at_call 204; refine (HO.out _ x1 x2 x3 k3 (by omega) (by omega) (by omega) (by omega) (H3.out.other HG.out hgs) H3.out.blk).mono ?_; rintro e w4 ⟨x4, k4, rfl, m4, l4, i4⟩; have H4 := Lib.hid (H3.out.trans i4); clear i4)
    have cc := H4.out.blk.cell 0 _ rfl
    have HE := Lib.hid (H4.out.ext HX.out (Nat.le_refl _))
    rcases (show k4 = 0 ∨ k4 = 12 ∨ (k4 ≠ 0 ∧ k4 ≠ 12) by omega) with hkk | hkk | hkk
    · have z0 : ((k4 : Int) == 0) = true := by rw [beq_iff_eq]; omega
      go_wp2
      go_ret2
      exact ⟨x4, 1, rfl, by omega, by omega, HE.out⟩
    · have z0 : ((k4 : Int) == 0) = false := by rw [beq_eq_false_iff_ne]; omega
      have z1 : ((k4 : Int) == 12) = true := by rw [beq_iff_eq]; omega
      go_wp2
      go_ret2
      exact ⟨x4, 2, rfl, by omega, by omega, HE.out⟩
    · have z0 : ((k4 : Int) == 0) = false := by rw [beq_eq_false_iff_ne]; omega
      have z1 : ((k4 : Int) == 12) = false := by rw [beq_eq_false_iff_ne]; omega
      go_wp2
      go_ret2
      exact ⟨x4, 0, rfl, by omega, by omega, HE.out⟩
  · have h50i : ¬ (50 : Int) ≤ (l : Int) := by omega
    go_upto_region 12 with (go_at_call 204; refine (HO.out _ i j k 0 (by omega) (by omega) (by omega) (by omega) HG.out HN.out).mono ?_; rintro e w4 ⟨x4, k4, rfl, m4, l4, i4⟩; have H4 := Lib.hid i4; clear i4)
    have cc := H4.out.blk.cell 0 _ rfl
    have HE := Lib.hid (H4.out.ext HX.out (Nat.le_refl _))
    rcases (show k4 = 0 ∨ k4 = 12 ∨ (k4 ≠ 0 ∧ k4 ≠ 12) by omega) with hkk | hkk | hkk
    · have z0 : ((k4 : Int) == 0) = true := by rw [beq_iff_eq]; omega
      go_wp2
      go_ret2
      exact ⟨x4, 1, rfl, by omega, by omega, HE.out⟩
    · have z0 : ((k4 : Int) == 0) = false := by rw [beq_eq_false_iff_ne]; omega
      have z1 : ((k4 : Int) == 12) = true := by rw [beq_iff_eq]; omega
      go_wp2
      go_ret2
      exact ⟨x4, 2, rfl, by omega, by omega, HE.out⟩
    · have z0 : ((k4 : Int) == 0) = false := by rw [beq_eq_false_iff_ne]; omega
      have z1 : ((k4 : Int) == 12) = false := by rw [beq_eq_false_iff_ne]; omega
      go_wp2
      go_ret2
      exact ⟨x4, 0, rfl, by omega, by omega, HE.out⟩
end Go.Proofs.YtobhbppogeghnaaGreatDoor
end
