/- append in a walk, to slices by footprints; copies of slices. -/
import Derived.Test.YtgbhadgkkefokaaProg
import Derived.Test.YtgbhadgkkefokaaSl
import Derived.Test.YtgbhadgkkefokaaMake
import Derived.Outline
import Derived.WalkSpells
import Derived.Deep.RegionLaw
namespace Go.Proofs.Ytgbhadgkkefokaa
open Go.RowKit

theorem byteCells_one (s : ByteArray) : ∀ u ∈ byteCells s, u.oneCell' = true := fun u hu => by
  obtain ⟨_, _, rfl⟩ := List.mem_map.1 hu
  rfl
theorem infoC : (Try.prog.info? 71).map (fun i => (i.zero, i.size, i.bytes)) = some (some Value.nilFunc, 1, 8) := by kernel_rfl
theorem Fr.toExt {κ κ' : Foot} {w w' : World} (h : Fr κ (fun _ => False) w w' κ') : Ext w w' := ⟨h.os, h.tape, h.output, h.size, fun g hg => h.other g hg (fun x => x)⟩
/-- append(s, x...), in a plain region. -/
theorem wpList_append_sl {w : World} {ops : Array Oper} {rest : List Oper} {o : Oper} {a : Act} {Q : Exit → Act → World → Prop} (hgd : o.guard = none) (s x : Operand) (t tx : TypeId)
    (ho : o.op = .call { callee := .builtin .append, args := #[s, x], argTypes := #[t, tx] }) {T : TypeId} {zv : Value} {z bytes : Nat} (ht : Try.prog.underlying t = some (.slice T))
    (hinfo : (Try.prog.info? T).map (fun i => (i.zero, i.size, i.bytes)) = some (some zv, z, bytes)) (hzs : zv.cells.size = z) (hb : bytes ≤ 64)
    {κ : Foot} {k : Nat} {p : Option Addr} {n c : Nat} {vs : List Value} (hs : a.eval s = .slice p n c) (h : Sl w κ k z T p n c vs) (hone : ∀ u ∈ vs, u.oneCell' = true)
    (xv : Value) (hx : a.eval x = xv) (m : Nat) (news : List Value) (hsrc : Src Try.prog z tx xv m news w) (h63 : n + m ≤ 1000000000)
    (hQ : ∀ p' c' w' κ', Sl w' κ' k z T p' (n + m) c' (vs ++ news) → Fr κ (fun j => j = k) w w' κ' → (p' = p ∨ p' = some ⟨w.heap.size, 0, .none⟩) → (c = 0 → Ext w w') → (∀ q n0 c0 vs0, Sl w κ k z T q n0 c0 vs0 → Al p n c q n0 → Sl w' κ' k z T q n0 c0 vs0 ∧ Al p' (n + m) c' q n0) →
      wpList Try.prog ops Q rest (a.put o.dst (.slice p' (n + m) c')) w') : wpList Try.prog ops Q (o :: rest) a w := by
  obtain ⟨p', c', w', κ', hr, h1, h2, h3, h4, h5⟩ := run_append_sl h t tx o.type zv bytes ht hinfo hzs xv m news hsrc hone h63 hb
  refine wpList_plain hgd fun K hK => ?_
  unfold Oper.wp execOp
  simp only [ho, resolve, invoke, builtin, Sem.run_bind, Sem.run_pure, Result.andThen_ok, List.map_toArray, List.map_cons, List.map_nil, hs, hx, hr]
  exact hK _ _ (hQ p' c' w' κ' h1 h2 h3 h4 h5)
/-- The same, as a step of a region that draws its order. -/
theorem step_append_sl {w : World} {ops : Array Oper} {o : Oper} {a : Act} {K : Act → World → Prop} {Q : Exit → Act → World → Prop} {E : Prop} (hgd : o.guard = none) (s x : Operand) (t tx : TypeId)
    (ho : o.op = .call { callee := .builtin .append, args := #[s, x], argTypes := #[t, tx] }) {T : TypeId} {zv : Value} {z bytes : Nat} (ht : Try.prog.underlying t = some (.slice T))
    (hinfo : (Try.prog.info? T).map (fun i => (i.zero, i.size, i.bytes)) = some (some zv, z, bytes)) (hzs : zv.cells.size = z) (hb : bytes ≤ 64)
    {κ : Foot} {k : Nat} {p : Option Addr} {n c : Nat} {vs : List Value} (hs : a.eval s = .slice p n c) (h : Sl w κ k z T p n c vs) (hone : ∀ u ∈ vs, u.oneCell' = true)
    (xv : Value) (hx : a.eval x = xv) (m : Nat) (news : List Value) (hsrc : Src Try.prog z tx xv m news w) (h63 : n + m ≤ 1000000000)
    (hQ : ∀ p' c' w' κ', Sl w' κ' k z T p' (n + m) c' (vs ++ news) → Fr κ (fun j => j = k) w w' κ' → (p' = p ∨ p' = some ⟨w.heap.size, 0, .none⟩) → (c = 0 → Ext w w') → (∀ q n0 c0 vs0, Sl w κ k z T q n0 c0 vs0 → Al p n c q n0 → Sl w' κ' k z T q n0 c0 vs0 ∧ Al p' (n + m) c' q n0) →
      K (a.put o.dst (.slice p' (n + m) c')) w') : if Region.wanted o (yielded ops a.tmps) = true then Oper.wp Try.prog o a w K Q else E := by
  have hw : Region.wanted o (yielded ops a.tmps) = true := by simp [Region.wanted, hgd]
  rw [if_pos hw]
  obtain ⟨p', c', w', κ', hr, h1, h2, h3, h4, h5⟩ := run_append_sl h t tx o.type zv bytes ht hinfo hzs xv m news hsrc hone h63 hb
  unfold Oper.wp execOp
  simp only [ho, resolve, invoke, builtin, Sem.run_bind, Sem.run_pure, Result.andThen_ok, List.map_toArray, List.map_cons, List.map_nil, hs, hx, hr]
  exact hQ p' c' w' κ' h1 h2 h3 h4 h5
/-- 's == nil' -/
theorem eql_nil (t e : TypeId) (ht : Try.prog.underlying t = some (.slice e)) (p : Option Addr) (n c : Nat) (w : World) : (binOp .eql t (.slice p n c) (.slice none 0 0)).run Try.prog w = .ok (.bool p.isNone) w := by
  have h2 : ∀ d, (Op.equalIn (d + 1) t (.slice p n c) (.slice none 0 0)).run Try.prog w = .ok p.isNone w := fun d => by
    cases p <;> simp [Op.equalIn, run_underlying ht]
  have h : (Op.equal t (.slice p n c) (.slice none 0 0)).run Try.prog w = .ok p.isNone w := h2 9999
  simp [binOp, h]
/-- A copy of bytes: of new memory, or none. -/
theorem cloneB_any (w : World) (κ : Foot) (k : Nat) (p : Option Addr) (c : Nat) (s : ByteArray) (h : Sl w κ k 1 5 p s.size c (byteCells s)) (hs : s.size ≤ 4194304) (κ0 : Foot) (k0 : Nat) :
    Calls Try.prog 44 #[.slice p s.size c] w fun e w' => ∃ q c', e = .returned (.slice q s.size c') ∧ ∃ κ', Sl w' κ' k0 1 5 q s.size c' (byteCells s) ∧ Fr κ0 (fun _ => False) w w' κ' := by
  rcases h.2.2.1 with hp | ⟨g, hp⟩
  · subst hp
    have hc : c = 0 := by
      rcases Nat.eq_zero_or_pos c with e | e
      · exact e
      · obtain ⟨g, _, e', _⟩ := h.2.2.2 e; cases e'
    have hn : s.size = 0 := by have := h.2.1; omega
    have hb : byteCells s = [] := List.length_eq_zero_iff.1 (by rw [byteCells_length]; exact hn)
    rw [hb, hn, hc]
    clear h
    have hnil := fun p n c u => eql_nil 51 _ Try.underlying51 p n c u
    go_enter Try.func44, Try.ntmps44
    go_wp2
    go_ret
    exact ⟨none, 0, rfl, κ0, Sl.nil _ _ _ _ _, Fr.refl _ _ _⟩
  · subst hp
    have hx1 : Ext w (w.alloc (.cells #[] 5)) := (Ext.refl w).alloc _
    have HS := Lib.hid ((h.ext hx1).src (P := Try.prog) (tx := 51) Try.underlying51 (byteCells_one s))
    have HX1 := Lib.hid hx1
    have hs' : 0 + s.size ≤ 1000000000 := by omega
    clear h hx1 hs
    generalize s.size = n at *
    generalize byteCells s = vs at *
    have hnil := fun p n c u => eql_nil 51 _ Try.underlying51 p n c u
    go_enter Try.func44, Try.ntmps44
    go_wp2_with (refine wpList_append_sl rfl (.tmp 5) (.tmp 6) 51 51 rfl Try.underlying51 info5 rfl (by decide) rfl (Sl.empty _ κ0 k0 1 _ w.heap.size) (fun u hu => by cases hu) _ rfl n vs HS.out hs' ?_; intro p1 c1 w1 κ1 s1 f1 e1 x1 o1; rw [Nat.zero_add, List.nil_append] at s1; have HSl := Lib.hid s1; have HF := Lib.hid f1; have HX2 := Lib.hid (x1 rfl); clear s1 f1 x1 o1 e1; rw [Nat.zero_add])
    go_ret
    exact ⟨p1, c1, rfl, κ1, HSl.out, ((HX1.out.fr κ0 (fun _ => False)).trans ⟨HF.out.os, HF.out.tape, HF.out.output, HF.out.size, fun g hg _ => HX2.out.block g hg, HF.out.foot, HF.out.ins⟩)⟩
/-- A copy of closures. -/
theorem cloneC_any (w : World) (κ : Foot) (k : Nat) (p : Option Addr) (n c : Nat) (vs : List Value) (h : Sl w κ k 1 71 p n c vs) (h1 : ∀ u ∈ vs, u.oneCell' = true) (hn : n ≤ 1000000) (κ0 : Foot) (k0 : Nat) :
    Calls Try.prog 36 #[.slice p n c] w fun e w' => ∃ q c', e = .returned (.slice q n c') ∧ ∃ κ', Sl w' κ' k0 1 71 q n c' vs ∧ Fr κ0 (fun _ => False) w w' κ' := by
  rcases h.2.2.1 with hp | ⟨g, hp⟩
  · subst hp
    have hc : c = 0 := by
      rcases Nat.eq_zero_or_pos c with e | e
      · exact e
      · obtain ⟨g, _, e', _⟩ := h.2.2.2 e; cases e'
    have hn : n = 0 := by have := h.2.1; omega
    have hb : vs = [] := List.length_eq_zero_iff.1 (by rw [h.1, hn])
    rw [hb, hn, hc]
    clear h
    have hnil := fun p n c u => eql_nil 54 _ Try.underlying54 p n c u
    go_enter Try.func36, Try.ntmps36
    go_wp2
    go_ret
    exact ⟨none, 0, rfl, κ0, Sl.nil _ _ _ _ _, Fr.refl _ _ _⟩
  · subst hp
    have hx1 : Ext w (w.alloc (.cells #[] 71)) := (Ext.refl w).alloc _
    have HS := Lib.hid ((h.ext hx1).src (P := Try.prog) (tx := 54) Try.underlying54 h1)
    have HX1 := Lib.hid hx1
    have hs' : 0 + n ≤ 1000000000 := by omega
    clear h hx1 hn
    have hnil := fun p n c u => eql_nil 54 _ Try.underlying54 p n c u
    go_enter Try.func36, Try.ntmps36
    go_wp2_with (refine wpList_append_sl rfl (.tmp 5) (.tmp 6) 54 54 rfl Try.underlying54 infoC rfl (by decide) rfl (Sl.empty _ κ0 k0 1 _ w.heap.size) (fun u hu => by cases hu) _ rfl n vs HS.out hs' ?_; intro p1 c1 w1 κ1 s1 f1 e1 x1 o1; rw [Nat.zero_add, List.nil_append] at s1; have HSl := Lib.hid s1; have HF := Lib.hid f1; have HX2 := Lib.hid (x1 rfl); clear s1 f1 x1 o1 e1; rw [Nat.zero_add])
    go_ret
    exact ⟨p1, c1, rfl, κ1, HSl.out, ((HX1.out.fr κ0 (fun _ => False)).trans ⟨HF.out.os, HF.out.tape, HF.out.output, HF.out.size, fun g hg _ => HX2.out.block g hg, HF.out.foot, HF.out.ins⟩)⟩
/-- A slice that has no room behind it. -/
theorem Clip_any (w : World) (p : Option Addr) (n c : Nat) (hn : n ≤ c) (hp : p = none ∧ c = 0 ∨ ∃ g, p = some ⟨g, 0, none⟩) :
    Calls Try.prog 48 #[.slice p n c] w fun e w' => e = .returned (.slice p n n) ∧ w = w' := by
  rcases hp with ⟨rfl, rfl⟩ | ⟨g, rfl⟩
  · obtain rfl : n = 0 := by omega
    go_enter Try.func48, Try.ntmps48
    go_wp2
    go_ret
    exact ⟨rfl, rfl⟩
  · have h1 : (n : Int) ≤ (c : Int) := by omega
    go_enter Try.func48, Try.ntmps48
    go_wp2
    go_ret
    exact ⟨rfl, rfl⟩
end Go.Proofs.Ytgbhadgkkefokaa
