/- Contracts: keys by epochs: an epoch's two keys: by the program. Plain: a row of numbers of 32 bits that is sorted in place: where it lies, and that nothing else turns. Contracts: a map's keys, numbers of 32 bits, collected by the library. -/
import Derived.Test.YtdnpgmoiapkhnaaDoorM12
import Derived.Test.YtdnpgmoiapkhnaaDoorTags
import Derived.Deep.RegionHeld3
import Derived.Sort.LotA
import Derived.Sort.LotB
import Derived.Sort.LotC
import Derived.Sort.LotD3
import Derived.Lib.BufferWrite
import Derived.Maps.Range
import Derived.Test.YtdnpgmoiapkhnaaDoorM02
import Derived.Test.YtdnpgmoiapkhnaaDoorM10
import Derived.RangeFuncBox
import Derived.RangeFuncOwn
section
namespace Go.Proofs.YtdnpgmoiapkhnaaDoor
open Go.RowKit

def cipB : ByteArray := ⟨#[99, 105, 112, 104, 101, 114]⟩
def tagB : ByteArray := ⟨#[116, 97, 103]⟩
/-- What an epoch's key makes of a label. -/
def kd (s label : ByteArray) (n : Nat) : ByteArray := ⟨(derL s.data.toList label.data.toList n).toArray⟩
theorem derived_any (w : World) (s label : ByteArray) (n : Nat) (hL : Laid w) (hs : s.size = 32) (hl : label.size ≤ 1000) (h1 : 1 ≤ n) (h2 : n ≤ 8160) :
    Calls Tryd.prog 51 #[.agg #[.string s], .string label, .int .i64 (n : Int)] w fun e w' => e = .returned (.string (kd s label n)) ∧ Ext w w' := by
  obtain ⟨W0, hW0⟩ : ∃ W0, w.alloc (.cells #[.string s] 71) = W0 := ⟨_, rfl⟩
  have hx0 : Ext w W0 := by rw [← hW0]; exact (Ext.refl w).alloc _
  have hB0 : Blk W0 w.heap.size 71 [.string s] := by rw [← hW0]; exact Blk.new w _ _
  have c0 := hB0.cell 0 _ rfl
  have HD := Lib.hid (derive_yes s label n W0 (hL.ext hx0) (by omega) (by omega) h1 h2)
  have HX := Lib.hid hx0
  clear hL hx0 hB0
  unfold kd
  generalize (⟨(derL s.data.toList label.data.toList n).toArray⟩ : ByteArray) = D at *
  go_enter Tryd.func51, Tryd.ntmps51
  go_wp2_with (go_at_call 70; refine (HD.out).mono ?_; rintro e w1 ⟨rfl, x1⟩)
  go_ret
  exact ⟨rfl, HX.out.trans x1⟩
theorem keys_nil (w : World) (e : Int) :
    Calls Tryd.prog 28 #[.pointer none, .int .u32 e] w fun x w' => x = .returned (.tuple #[.string ⟨#[]⟩, .string ⟨#[]⟩, .bool false]) ∧ w = w' := by
  go_enter Tryd.func28, Tryd.ntmps28
  go_wp2_with (go_at_call 45; refine (thereK_no _).mono ?_; rintro e w1 ⟨rfl, rfl⟩)
  go_ret3
  exact ⟨rfl, rfl⟩
theorem keys_no (w : World) (r b : Nat) (L : List (Nat × ByteArray)) (h : IsK w r b L) (e : Nat) (h32 : e < 4294967296) (he : e ∉ eps L) :
    Calls Tryd.prog 28 #[.pointer (some ⟨r, 0, none⟩), .int .u32 (e : Int)] w fun x w' => x = .returned (.tuple #[.string ⟨#[]⟩, .string ⟨#[]⟩, .bool false]) ∧ Ext w w' := by
  have HH := Lib.hid (has_no w r b L e h h32 he)
  have hc := h.cell
  clear h he
  go_enter Tryd.func28, Tryd.ntmps28
  go_wp2_with (first
    | (go_at_call 48; refine (HH.out).mono ?_; rintro e w3 ⟨rfl, x3⟩)
    | (go_at_call 45; refine (thereK_yes _ r b hc).mono ?_; rintro e w2 ⟨rfl, rfl⟩))
  go_ret3
  exact ⟨rfl, x3⟩
set_option maxRecDepth 100000 in
set_option maxHeartbeats 2000000 in
theorem keys_yes (w : World) (r b : Nat) (L : List (Nat × ByteArray)) (hL : Laid w) (h : IsK w r b L) (e : Nat) (s : ByteArray) (he : (e, s) ∈ L) :
    Calls Tryd.prog 28 #[.pointer (some ⟨r, 0, none⟩), .int .u32 (e : Int)] w fun x w' => x = .returned (.tuple #[.string (kd s cipB 16), .string (kd s tagB 32), .bool true]) ∧ Ext w w' := by
  have hin : e ∈ eps L := List.mem_map.2 ⟨_, he, rfl⟩
  have h32 := (h.good.eps_each e hin).2
  have hs := (h.good.each _ he).2.2
  have HH := Lib.hid (has_yes w r b L e h hin)
  have HK := Lib.hid h
  have HLk := Lib.hid (fun u (hu : IsM u b L) => hu.look false h32 he)
  have HD1 : Hid (∀ u, Ext w u → Calls Tryd.prog 51 #[.agg #[.string s], .string ⟨#[99, 105, 112, 104, 101, 114]⟩, .int .i64 16] u fun x w' => x = .returned (.string (kd s cipB 16)) ∧ Ext u w') := Lib.hid (fun u hu => derived_any u s cipB 16 (hL.ext hu) hs (by decide) (by omega) (by omega))
  have HD2 : Hid (∀ u, Ext w u → Calls Tryd.prog 51 #[.agg #[.string s], .string ⟨#[116, 97, 103]⟩, .int .i64 32] u fun x w' => x = .returned (.string (kd s tagB 32)) ∧ Ext u w') := Lib.hid (fun u hu => derived_any u s tagB 32 (hL.ext hu) hs (by decide) (by omega) (by omega))
  have hc := h.cell
  clear h he hL hs hin
  generalize kd s cipB 16 = D1 at *
  generalize kd s tagB 32 = D2 at *
  go_enter Tryd.func28, Tryd.ntmps28
  go_wp2_with (first
    | (go_at_call 48; refine (HH.out).mono ?_; rintro e w3 ⟨rfl, x3⟩; have c3 := (HK.out.ext x3).cell; have hlk := HLk.out _ (HK.out.ext x3).map; simp only [Bool.false_eq_true, if_false] at hlk)
    | (go_at_call 45; refine (thereK_yes _ r b hc).mono ?_; rintro e w2 ⟨rfl, rfl⟩))
  have x3b : Ext w (w3.alloc (.cells #[.string s] 71)) := x3.alloc _
  have kb : (w3.alloc (.cells #[.string s] 71)).cell? ⟨w3.heap.size, 0, none⟩ = some (.string s) := (Blk.new w3 [.string s] 71).cell 0 _ rfl
  have HBn := Lib.hid (Blk.new w3 [.string s] 71)
  generalize hW : w3.alloc (.cells #[.string s] 71) = W at *
  have k1 := (HBn.out.drew).cell 0 _ rfl
  have x0 : Ext W W.drew := (Ext.refl W).drew
  have HXb := Lib.hid x3b
  have HKeep := Lib.hid (fun u (hu : Ext W u) => (HBn.out.ext hu).cell 0 _ rfl)
  clear hW hlk c3 x3 x3b kb
  go_region_held3 (fun u => u.cell? ⟨w3.heap.size, 0, none⟩ = some (.string s) ∧ Ext W u) (first | exact ⟨k1, x0⟩ | exact ⟨HKeep.out _ (by assumption), by assumption⟩ | go_keep) (first
    | (go_at_call 51; (with_reducible refine (HD1.out _ (HXb.out.trans (by assumption))).mono ?_); rintro e w4 ⟨rfl, h4⟩; have x4 := Ext.trans (a := W) (by assumption) h4)
    | (go_at_call 51; (with_reducible refine (HD2.out _ (HXb.out.trans (by assumption))).mono ?_); rintro e w5 ⟨rfl, h5⟩; have x5 := Ext.trans (a := W) (by assumption) h5))
  all_goals
    go_wp2
    go_ret3
    exact ⟨rfl, HXb.out.trans (by assumption)⟩
end Go.Proofs.YtdnpgmoiapkhnaaDoor
end

section
namespace Go.Proofs.YtdnpgmoiapkhnaaDoor
open Go.RowKit

def cN (n : Nat) : Value := .int .u32 (n : Int)
def ltN (x y : Nat) : Bool := decide (x < y)
theorem ltN_swo : Sort.SWO ltN := ⟨fun x => by simp [ltN], fun x y z => by simp [ltN]; omega, fun x y z => by simp [ltN]; omega⟩
/-- From w0 to w nothing turned but block g, which holds these numbers now, and what else lies behind them; new blocks may have come. -/
structure RowN (w0 w : World) (g : Nat) (T : TypeId) (pos : List Value) (d : Array Nat) : Prop where
  blk : Blk w g T (d.toList.map cN ++ pos)
  grown : w0.grownBy w (some g)
  lt : g < w0.heap.size
theorem grown_drewN {a b : World} {r : Option Nat} (h : a.grownBy b r) (n : Nat) : a.grownBy (b.drewN n) r := ⟨h.os, h.tape, h.output, h.size, h.block⟩
/-- A number that is kept in a block of its own: from w to w' nothing else turned. -/
structure Cnt (w w' : World) (s : Nat) (T : TypeId) (v : Value) : Prop where
  grown : w.grownBy w' (some s)
  blk : Blk w' s T [v]
theorem Cnt.refl {w : World} {s : Nat} {T : TypeId} {v : Value} (h : Blk w s T [v]) : Cnt w w s T v := ⟨World.grownBy.refl w _, h⟩
theorem Cnt.drewN {w w' : World} {s : Nat} {T : TypeId} {v : Value} (h : Cnt w w' s T v) (n : Nat) : Cnt w (w'.drewN n) s T v := ⟨grown_drewN h.grown n, h.blk⟩
theorem Cnt.set_ {w w' : World} {s : Nat} {T : TypeId} {v : Value} (h : Cnt w w' s T v) (u : Value) : Cnt w (w'.setCell ⟨s, 0, none⟩ u) s T u := ⟨h.grown.andThen (Lib.grownBy_setCell _ s 0 _) (fun _ hj => .inr hj), h.blk.set_ 0 u⟩
theorem Cnt.trans {w w' w'' : World} {s : Nat} {T : TypeId} {v u : Value} (h : Cnt w w' s T v) (k : Cnt w' w'' s T u) : Cnt w w'' s T u := ⟨h.grown.andThen k.grown (fun _ hj => .inr hj), k.blk⟩
theorem Cnt.other {w w' : World} {s g : Nat} {T U : TypeId} {v : Value} {cs : List Value} (h : Cnt w w' s T v) (hg : Blk w g U cs) (hn : g ≠ s) : Blk w' g U cs := (h.grown.block g hg.lt (by simpa using hn)).trans hg
/-- Where the block is a new one, nothing turned. -/
theorem Cnt.ext {w0 w w' : World} {s : Nat} {T : TypeId} {v : Value} (h : Cnt w w' s T v) (hx : Ext w0 w) (hs : w0.heap.size ≤ s) : Ext w0 w' :=
  ⟨h.grown.os.trans hx.os, h.grown.tape.trans hx.tape, h.grown.output.trans hx.output, Nat.le_trans hx.size h.grown.size, fun k hk => (h.grown.block k (Nat.lt_of_lt_of_le hk hx.size) (by simp; omega)).trans (hx.block k hk)⟩
section
variable {w0 w w' : World} {g : Nat} {T : TypeId} {pos : List Value} {d d' : Array Nat}
theorem RowN.refl (h : Blk w g T (d.toList.map cN ++ pos)) : RowN w w g T pos d := ⟨h, World.grownBy.refl w _, h.lt⟩
theorem RowN.drewN (h : RowN w0 w g T pos d) (n : Nat) : RowN w0 (w.drewN n) g T pos d := ⟨h.blk, ⟨h.grown.os, h.grown.tape, h.grown.output, h.grown.size, h.grown.block⟩, h.lt⟩
theorem RowN.drew (h : RowN w0 w g T pos d) : RowN w0 w.drew g T pos d := h.drewN 1
theorem RowN.size (h : RowN w0 w g T pos d) : g < w.heap.size := h.blk.lt
theorem RowN.trans (h : RowN w0 w g T pos d) (k : RowN w w' g T pos d') : RowN w0 w' g T pos d' := ⟨k.blk, h.grown.andThen k.grown (fun _ hj => .inr hj), h.lt⟩
theorem RowN.ext (h : RowN w0 w g T pos d) (hx : Ext w w') : RowN w0 w' g T pos d :=
  ⟨h.blk.ext hx, ⟨hx.os.trans h.grown.os, hx.tape.trans h.grown.tape, hx.output.trans h.grown.output, Nat.le_trans h.grown.size hx.size, fun k hk hne => (hx.block k (Nat.lt_of_lt_of_le hk h.grown.size)).trans (h.grown.block k hk hne)⟩, h.lt⟩
theorem get_list (d : Array Nat) (i : Nat) (h : i < d.size) : (d.toList.map cN ++ pos)[i]? = some (cN d[i]!) := by
  rw [List.getElem?_append_left (by simpa using h)]
  simp [h]
theorem RowN.cell (h : RowN w0 w g T pos d) (i : Nat) (hi : i < d.size) : w.cell? ⟨g, i, none⟩ = some (.int .u32 (d[i]! : Int)) := h.blk.cell i _ (get_list d i hi)
theorem RowN.frozen (h : RowN w0 w g T pos d) (i : Nat) : w.frozen? ⟨g, i, none⟩ = false := h.blk.frozen i
theorem swp_list (d : Array Nat) (i j : Nat) (hi : i < d.size) (hj : j < d.size) : ((d.toList.map cN ++ pos).set i (cN d[j]!)).set j (cN d[i]!) = (Sort.swp d i j).toList.map cN ++ pos := by
  rw [List.set_append_left _ _ (by simpa using hi), List.set_append_left _ _ (by simpa using hj)]
  simp [Sort.swp, List.map_set]
theorem RowN.swap (h : RowN w0 w g T pos d) (i j : Nat) (hi : i < d.size) (hj : j < d.size) {x y : Nat} (hx : d[i]! = x) (hy : d[j]! = y) :
    RowN w0 ((w.setCell ⟨g, i, none⟩ (.int .u32 (y : Int))).setCell ⟨g, j, none⟩ (.int .u32 (x : Int))) g T pos (Sort.swp d i j) := by
  have hb := (h.blk.set_ i (cN d[j]!)).set_ j (cN d[i]!)
  rw [swp_list d i j hi hj, hx, hy] at hb
  exact ⟨hb, (h.grown.andThen (Lib.grownBy_setCell w g i _) (fun _ hj => .inr hj)).andThen (Lib.grownBy_setCell _ g j _) (fun _ hj => .inr hj), h.lt⟩
theorem swp_comm (d : Array Nat) (i j : Nat) : Sort.swp d i j = Sort.swp d j i := by
  unfold Sort.swp
  by_cases h : i = j
  · subst h; rfl
  · rw [Array.setIfInBounds_comm _ _ h]
/-- The same with the later place first. -/
theorem RowN.swap' (h : RowN w0 w g T pos d) (i j : Nat) (hi : i < d.size) (hj : j < d.size) {x y : Nat} (hx : d[i]! = x) (hy : d[j]! = y) :
    RowN w0 ((w.setCell ⟨g, j, none⟩ (.int .u32 (x : Int))).setCell ⟨g, i, none⟩ (.int .u32 (y : Int))) g T pos (Sort.swp d i j) := by
  rw [swp_comm]
  exact h.swap j i hj hi hy hx
end
end Go.Proofs.YtdnpgmoiapkhnaaDoor
end

section
namespace Go.Proofs.YtdnpgmoiapkhnaaDoor
open Go.RowKit Go.Shelf
attribute [local go_sem] Oper.semAt_some

/-- A slice of the call's own that holds just these numbers. -/
def BufN (w : World) (B : Nat) (v : Value) (l : List Nat) : Prop := w.ownsRow B 29 1 v l.length (l.map cN)
theorem infoN : (Tryd.prog.info? 29).map (fun i => (i.zero, i.size, i.bytes)) = some (some (.int .u32 0), 1, 4) := by kernel_rfl
theorem appendN_In {F : Fence} {n : Nat} {w : World} {ops : Array Oper} {rest : List Oper} {o : Oper} {a : Act} {Q : Exit → Act → World → Prop} (hgd : o.guard = none) (s x : Operand)
    (ho : o.op = .call { callee := .builtin .append, args := #[s, x], argTypes := #[54, 54] })
    (B : Nat) (v : Value) (L : List Nat) (hs : a.eval s = v) (hbuf : BufN w B v L) (g : Nat) (r : Nat) (hx : a.eval x = .slice (some ⟨g, 0, none⟩) 1 1) (hrow : Blk w g 29 [cN r])
    (hlen : L.length ≤ 1000000) (hB : B ≤ w.heap.size)
    (h : ∀ v' w', w'.ownsRow B 29 1 v' (L.length + 1) ((L ++ [r]).map cN) → w.grownBy w' v.ownBlock → wpListIn F n Tryd.prog ops Q rest (a.put o.dst v') w') : wpListIn F n Tryd.prog ops Q (o :: rest) a w := by
  obtain ⟨i0, hi, hz0, hz1, hz2⟩ := info_parts infoN
  refine wpListIn_append_own w hgd s x 54 ho B 29 i0 (.int .u32 0) 1 4 Tryd.underlying54 hi hz0 hz1 hz2 rfl (by decide) v L.length (L.map cN) hs hbuf ⟨g, 0, none⟩ 1 1 [cN r] hx rfl (fun j u hu => ?_) (fun u hu => by rw [List.mem_singleton] at hu; subst hu; rfl) (by unfold maxLen; omega) (by omega) hB ?_
  · have e : (⟨g, 0, none⟩ : Addr).add j = ⟨g, j, none⟩ := by unfold Addr.add; split <;> simp_all
    rw [e]
    exact hrow.cell j u hu
  · intro v' w' h1 h2 _
    exact h v' w' (by simpa using h1) h2
theorem walks_of_others {W W' : World} (h : KeepsOthers W W') : KeepsWalks W W' := ⟨h.size, fun k o hk hw => h.same k o hk (Obj.not_cells_of_walk hw)⟩
/-- What the rounds keep: a box with the numbers that came. -/
def CoI (o : Nat) (pre : List Nat) (W : World) : Prop := ∃ v, Boxed W o 54 v ∧ W.ownsRow o 29 1 v pre.length (pre.map cN) ∧ True
set_option maxRecDepth 100000 in
set_option maxHeartbeats 4000000 in
theorem appendSeq_any (bm b : Nat) (L : List (Nat × ByteArray)) (w : World) (hl : L.length ≤ 1000000) (hC : w.cell? ⟨bm, 0, none⟩ = some (.map (some b))) (hbm : bm < w.heap.size) (hM : MapL w Tryd.prog 29 b (L.map kvR)) :
    Calls Tryd.prog 85 #[.slice none 0 0, .func (.func 69) #[] #[.pointer (some ⟨bm, 0, none⟩)]] w fun e w' =>
      ∃ (v : Value) (ys : List Nat), e = .returned v ∧ ys.Perm (L.map (·.1)) ∧ w'.ownsRow w.heap.size 29 1 v ys.length (ys.map cN) ∧ Ext w w' := by
  refine (callsIn_wide (n := 9)).1 ?_
  refine callsIn_of_wp_marks Tryd.func85 rfl trivial ?_ rfl
  simp only [Tryd.ntmps85, List.size_toArray, List.length_cons, List.length_nil, Nat.reduceAdd, Nat.reduceSub, Array.replicate_succ, Array.replicate_zero, List.push_toArray, List.append_toArray, List.nil_append, List.cons_append]
  gi_wp2
  have hx0 : Ext w (w.alloc (.cells #[.slice none 0 0] 54)) := (Ext.refl w).alloc _
  have hb0 : Boxed (w.alloc (.cells #[.slice none 0 0] 54)) w.heap.size 54 (.slice none 0 0) := Boxed.new w _ _
  have hz0 : (w.alloc (.cells #[.slice none 0 0] 54)).heap.size = w.heap.size + 1 := by simp
  have hM0 := hM.ext hx0
  have hC0 := (hx0.cell (p := ⟨bm, 0, none⟩) hbm).trans hC
  generalize (w.alloc (.cells #[.slice none 0 0] 54)) = W0 at *
  obtain ⟨o, ho⟩ : ∃ o, w.heap.size = o := ⟨_, rfl⟩
  have HO := Lib.hid ho
  rw [ho] at hb0 hz0 ⊢
  have hB0 : Below o w W0 := by rw [← ho]; exact hx0.below
  refine wpIn_rangeFunc_ownF rfl (by omega) (gf := 69) (lb := #[.pointer (some ⟨bm, 0, none⟩)]) rfl trivial (enters_of Tryd.func69 (by kernel_rfl) rfl)
    (keys_stops (9 - 1) (by omega) bm b L W0 (by omega) hC0 hM0) KeepsWalks.trans (fun W l o o' _ h h1 h2 => KeepsWalks.putObj o' h h2) (Below.refl _ _) (fun _ => rfl)
    (fun pre W => CoI o pre W ∧ Below o w W) (fun _ _ _ => False)
    (OwnFrom.and (Go.Own.from (holdsRow_own o o 54 29 1 List.length (fun l => l.map cN) (fun _ _ => True)) _) (ownFrom_below (by omega) (by omega)))
    (fun _ => Go.Own.from (fun s A B row hs _ _ => hs) _)
    ⟨⟨_, hb0, World.ownsRow_nil _ _ _ _, trivial⟩, hB0⟩
    (fun x => { tmps := #[.slice none 0 0, .func (.func 69) #[] #[.pointer (some ⟨bm, 0, none⟩)], .pointer (some ⟨o, 0, none⟩), undef, .slice none 0 0, .int .u32 (x : Int), .func (.func 69) #[] #[.pointer (some ⟨bm, 0, none⟩)], .int .u32 (x : Int), undef, undef, undef, undef, undef], defers := [] }) ?assign ?body ?done ?stop
  case assign =>
    intro l x W K hK
    gi_wp2
    exact hK
  case body =>
    rintro l pre x W ⟨⟨v, hv, hrow, _⟩, hB⟩ hlt
    have c2 := hv.cell
    have HV := Lib.hid hv
    have HR := Lib.hid hrow
    have HB := Lib.hid hB
    have hoW : o ≤ W.heap.size := Nat.le_of_lt hv.lt
    clear hv hrow hB
    gi_wp2_with (refine appendN_In rfl _ _ rfl o v pre rfl (World.ownsRow.alloc HR.out _) W.heap.size x rfl (Blk.new W _ _) (by omega) (by simp; omega) ?_; intro v2 w2 hb2 hg2; obtain ⟨g2, k2, rfl⟩ := ownsRow_succ hb2; obtain ⟨q1, q2, q3, q4, q5⟩ := Boxed.appended (n₀ := o) HV.out (by decide) HR.out hoW (Nat.le_refl _) hb2 hg2; have e2 := Boxed.cell q1; have f2 := Boxed.frozen q1; have Q2 := Lib.hid q2; have Q3 := Lib.hid q3; have Q4 := Lib.hid q4; have Q5 := Lib.hid q5; clear q1 q2 q3 q4 q5 hg2 hb2)
    exact ⟨Q4.out, walks_of_others Q4.out, ⟨_, Q2.out, by simpa using Q3.out, trivial⟩, HB.out.trans Q5.out⟩
  case done =>
    rintro D ys W hD hp ⟨⟨v, hv, hrow, _⟩, hB⟩ hK
    have c2 := hv.cell
    gi_wp2
    refine ⟨by simp, .inl ⟨_, _, rfl, run_takeDeferred hK, ?_⟩⟩
    refine ⟨_, results_tmp rfl _ _ _, v, ys, rfl, hp, ?_, ?_⟩
    · rw [HO.out]
      exact ownsRow_putObj hrow _ hK rfl
    · exact (HO.out ▸ hB : Below w.heap.size w W).trans (belowK_b (w := w) (Nat.le_refl _) W D _ _ (by have := HO.out; omega) hK rfl rfl)
  case stop =>
    rintro D c pre W hD _ h
    exact h.elim
end Go.Proofs.YtdnpgmoiapkhnaaDoor
end
