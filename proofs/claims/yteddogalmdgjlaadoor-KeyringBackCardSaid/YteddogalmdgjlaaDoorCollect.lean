/- Contracts: a map's keys, numbers of 32 bits, collected by the library. -/
import Derived.Test.YteddogalmdgjlaaDoorM15
import Derived.Test.YteddogalmdgjlaaDoorSortL
import Derived.RangeFuncBox
import Derived.RangeFuncOwn
namespace Go.Proofs.YteddogalmdgjlaaDoor
open Go.RowKit Go.Shelf
attribute [local go_sem] Oper.semAt_some

/-- A slice of the call's own that holds just these numbers. -/
def BufN (w : World) (B : Nat) (v : Value) (l : List Nat) : Prop := w.ownsRow B 29 1 v l.length (l.map cN)
theorem infoN : (Tryd.prog.info? 29).map (fun i => (i.zero, i.size, i.bytes)) = some (some (.int .u32 0), 1, 4) := by kernel_rfl
theorem appendN_In {F : Fence} {n : Nat} {w : World} {ops : Array Oper} {rest : List Oper} {o : Oper} {a : Act} {Q : Exit → Act → World → Prop} (hgd : o.guard = none) (s x : Operand)
    (ho : o.op = .call { callee := .builtin .append, args := #[s, x], argTypes := #[47, 47] })
    (B : Nat) (v : Value) (L : List Nat) (hs : a.eval s = v) (hbuf : BufN w B v L) (g : Nat) (r : Nat) (hx : a.eval x = .slice (some ⟨g, 0, none⟩) 1 1) (hrow : Blk w g 29 [cN r])
    (hlen : L.length ≤ 1000000) (hB : B ≤ w.heap.size)
    (h : ∀ v' w', w'.ownsRow B 29 1 v' (L.length + 1) ((L ++ [r]).map cN) → w.grownBy w' v.ownBlock → wpListIn F n Tryd.prog ops Q rest (a.put o.dst v') w') : wpListIn F n Tryd.prog ops Q (o :: rest) a w := by
  obtain ⟨i0, hi, hz0, hz1, hz2⟩ := info_parts infoN
  refine wpListIn_append_own w hgd s x 47 ho B 29 i0 (.int .u32 0) 1 4 Tryd.underlying47 hi hz0 hz1 hz2 rfl (by decide) v L.length (L.map cN) hs hbuf ⟨g, 0, none⟩ 1 1 [cN r] hx rfl (fun j u hu => ?_) (fun u hu => by rw [List.mem_singleton] at hu; subst hu; rfl) (by unfold maxLen; omega) (by omega) hB ?_
  · have e : (⟨g, 0, none⟩ : Addr).add j = ⟨g, j, none⟩ := by unfold Addr.add; split <;> simp_all
    rw [e]
    exact hrow.cell j u hu
  · intro v' w' h1 h2 _
    exact h v' w' (by simpa using h1) h2
theorem walks_of_others {W W' : World} (h : KeepsOthers W W') : KeepsWalks W W' := ⟨h.size, fun k o hk hw => h.same k o hk (Obj.not_cells_of_walk hw)⟩
/-- What the rounds keep: a box with the numbers that came. -/
def CoI (o : Nat) (pre : List Nat) (W : World) : Prop := ∃ v, Boxed W o 47 v ∧ W.ownsRow o 29 1 v pre.length (pre.map cN) ∧ True
set_option maxRecDepth 100000 in
set_option maxHeartbeats 4000000 in
theorem appendSeq_any (bm b : Nat) (L : List (Nat × ByteArray)) (w : World) (hl : L.length ≤ 1000000) (hC : w.cell? ⟨bm, 0, none⟩ = some (.map (some b))) (hbm : bm < w.heap.size) (hM : MapL w Tryd.prog 29 b (L.map kvR)) :
    Calls Tryd.prog 54 #[.slice none 0 0, .func (.func 48) #[] #[.pointer (some ⟨bm, 0, none⟩)]] w fun e w' =>
      ∃ (v : Value) (ys : List Nat), e = .returned v ∧ ys.Perm (L.map (·.1)) ∧ w'.ownsRow w.heap.size 29 1 v ys.length (ys.map cN) ∧ Ext w w' := by
  refine (callsIn_wide (n := 9)).1 ?_
  refine callsIn_of_wp_marks Tryd.func54 rfl trivial ?_ rfl
  simp only [Tryd.ntmps54, List.size_toArray, List.length_cons, List.length_nil, Nat.reduceAdd, Nat.reduceSub, Array.replicate_succ, Array.replicate_zero, List.push_toArray, List.append_toArray, List.nil_append, List.cons_append]
  gi_wp2
  have hx0 : Ext w (w.alloc (.cells #[.slice none 0 0] 47)) := (Ext.refl w).alloc _
  have hb0 : Boxed (w.alloc (.cells #[.slice none 0 0] 47)) w.heap.size 47 (.slice none 0 0) := Boxed.new w _ _
  have hz0 : (w.alloc (.cells #[.slice none 0 0] 47)).heap.size = w.heap.size + 1 := by simp
  have hM0 := hM.ext hx0
  have hC0 := (hx0.cell (p := ⟨bm, 0, none⟩) hbm).trans hC
  generalize (w.alloc (.cells #[.slice none 0 0] 47)) = W0 at *
  obtain ⟨o, ho⟩ : ∃ o, w.heap.size = o := ⟨_, rfl⟩
  have HO := Lib.hid ho
  rw [ho] at hb0 hz0 ⊢
  have hB0 : Below o w W0 := by rw [← ho]; exact hx0.below
  refine wpIn_rangeFunc_ownF rfl (by omega) (gf := 48) (lb := #[.pointer (some ⟨bm, 0, none⟩)]) rfl trivial (enters_of Tryd.func48 (by kernel_rfl) rfl)
    (keys_stops (9 - 1) (by omega) bm b L W0 (by omega) hC0 hM0) KeepsWalks.trans (fun W l o o' _ h h1 h2 => KeepsWalks.putObj o' h h2) (Below.refl _ _) (fun _ => rfl)
    (fun pre W => CoI o pre W ∧ Below o w W) (fun _ _ _ => False)
    (OwnFrom.and (Go.Own.from (holdsRow_own o o 47 29 1 List.length (fun l => l.map cN) (fun _ _ => True)) _) (ownFrom_below (by omega) (by omega)))
    (fun _ => Go.Own.from (fun s A B row hs _ _ => hs) _)
    ⟨⟨_, hb0, World.ownsRow_nil _ _ _ _, trivial⟩, hB0⟩
    (fun x => { tmps := #[.slice none 0 0, .func (.func 48) #[] #[.pointer (some ⟨bm, 0, none⟩)], .pointer (some ⟨o, 0, none⟩), undef, .slice none 0 0, .int .u32 (x : Int), .func (.func 48) #[] #[.pointer (some ⟨bm, 0, none⟩)], .int .u32 (x : Int), undef, undef, undef, undef, undef], defers := [] }) ?assign ?body ?done ?stop
  case assign =>
    intro l x W K hK
    gi_wp2
    exact hK
  case body =>
    rintro l pre x W ⟨⟨v, hv, hrow, _⟩, hB⟩ hlt
    have c2 := hv.cell
    have HV := Lib.hid hv
    have HR := Lib.hid hrow
    have HB := Lib.hid hB
    have hoW : o ≤ W.heap.size := Nat.le_of_lt hv.lt
    clear hv hrow hB
    gi_wp2_with (refine appendN_In rfl _ _ rfl o v pre rfl (World.ownsRow.alloc HR.out _) W.heap.size x rfl (Blk.new W _ _) (by omega) (by simp; omega) ?_; intro v2 w2 hb2 hg2; obtain ⟨g2, k2, rfl⟩ := ownsRow_succ hb2; obtain ⟨q1, q2, q3, q4, q5⟩ := Boxed.appended (n₀ := o) HV.out (by decide) HR.out hoW (Nat.le_refl _) hb2 hg2; have e2 := Boxed.cell q1; have f2 := Boxed.frozen q1; have Q2 := Lib.hid q2; have Q3 := Lib.hid q3; have Q4 := Lib.hid q4; have Q5 := Lib.hid q5; clear q1 q2 q3 q4 q5 hg2 hb2)
    exact ⟨Q4.out, walks_of_others Q4.out, ⟨_, Q2.out, by simpa using Q3.out, trivial⟩, HB.out.trans Q5.out⟩
  case done =>
    rintro D ys W hD hp ⟨⟨v, hv, hrow, _⟩, hB⟩ hK
    have c2 := hv.cell
    gi_wp2
    refine ⟨by simp, .inl ⟨_, _, rfl, run_takeDeferred hK, ?_⟩⟩
    refine ⟨_, results_tmp rfl _ _ _, v, ys, rfl, hp, ?_, ?_⟩
    · rw [HO.out]
      exact ownsRow_putObj hrow _ hK rfl
    · exact (HO.out ▸ hB : Below w.heap.size w W).trans (belowK_b (w := w) (Nat.le_refl _) W D _ _ (by have := HO.out; omega) hK rfl rfl)
  case stop =>
    rintro D c pre W hD _ h
    exact h.elim
end Go.Proofs.YteddogalmdgjlaaDoor
