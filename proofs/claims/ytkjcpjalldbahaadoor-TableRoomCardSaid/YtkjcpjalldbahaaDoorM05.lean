/- append in a walk, to slices by footprints. A slice in one block of its own. -/
import Derived.Test.YtkjcpjalldbahaaDoorProg
import Derived.Test.YtkjcpjalldbahaaDoorM04
import Derived.Test.YtkjcpjalldbahaaDoorM00
import Derived.Outline
import Derived.WalkSpells
section
namespace Go.Proofs.YtkjcpjalldbahaaDoor
open Go.RowKit

theorem Fr.toExt {κ κ' : Foot} {w w' : World} (h : Fr κ (fun _ => False) w w' κ') : Ext w w' := ⟨h.os, h.tape, h.output, h.size, fun g hg => h.other g hg (fun x => x)⟩
/-- append(s, x...), in a plain region. -/
theorem wpList_append_sl {w : World} {ops : Array Oper} {rest : List Oper} {o : Oper} {a : Act} {Q : Exit → Act → World → Prop} (hgd : o.guard = none) (s x : Operand) (t tx : TypeId)
    (ho : o.op = .call { callee := .builtin .append, args := #[s, x], argTypes := #[t, tx] }) {T : TypeId} {zv : Value} {z bytes : Nat} (ht : Tryd.prog.underlying t = some (.slice T))
    (hinfo : (Tryd.prog.info? T).map (fun i => (i.zero, i.size, i.bytes)) = some (some zv, z, bytes)) (hzs : zv.cells.size = z) (hb : bytes ≤ 128)
    {κ : Foot} {k : Nat} {p : Option Addr} {n c : Nat} {vs : List Value} (hs : a.eval s = .slice p n c) (h : Sl w κ k z T p n c vs) (hone : ∀ u ∈ vs, u.oneCell' = true)
    (xv : Value) (hx : a.eval x = xv) (m : Nat) (news : List Value) (hsrc : Src Tryd.prog z tx xv m news w) (h63 : n + m ≤ 1000000000)
    (hQ : ∀ p' c' w' κ', Sl w' κ' k z T p' (n + m) c' (vs ++ news) → Fr κ (fun j => j = k) w w' κ' → (p' = p ∨ p' = some ⟨w.heap.size, 0, .none⟩) → (c = 0 → Ext w w') → (∀ q n0 c0 vs0, Sl w κ k z T q n0 c0 vs0 → Al p n c q n0 → Sl w' κ' k z T q n0 c0 vs0 ∧ Al p' (n + m) c' q n0) →
      wpList Tryd.prog ops Q rest (a.put o.dst (.slice p' (n + m) c')) w') : wpList Tryd.prog ops Q (o :: rest) a w := by
  obtain ⟨p', c', w', κ', hr, h1, h2, h3, h4, h5⟩ := run_append_sl h t tx o.type zv bytes ht hinfo hzs xv m news hsrc hone h63 hb
  refine wpList_plain hgd fun K hK => ?_
  unfold Oper.wp execOp
  simp only [ho, resolve, invoke, builtin, Sem.run_bind, Sem.run_pure, Result.andThen_ok, List.map_toArray, List.map_cons, List.map_nil, hs, hx, hr]
  exact hK _ _ (hQ p' c' w' κ' h1 h2 h3 h4 h5)
/-- append(s, x...), in a plain region, of many elements. -/
theorem wpList_append_slB {w : World} {ops : Array Oper} {rest : List Oper} {o : Oper} {a : Act} {Q : Exit → Act → World → Prop} (hgd : o.guard = none) (s x : Operand) (t tx : TypeId)
    (ho : o.op = .call { callee := .builtin .append, args := #[s, x], argTypes := #[t, tx] }) {T : TypeId} {zv : Value} {z bytes : Nat} (ht : Tryd.prog.underlying t = some (.slice T))
    (hinfo : (Tryd.prog.info? T).map (fun i => (i.zero, i.size, i.bytes)) = some (some zv, z, bytes)) (hzs : zv.cells.size = z)
    {κ : Foot} {k : Nat} {p : Option Addr} {n c : Nat} {vs : List Value} (hs : a.eval s = .slice p n c) (h : Sl w κ k z T p n c vs) (hone : ∀ u ∈ vs, u.oneCell' = true)
    (xv : Value) (hx : a.eval x = xv) (m : Nat) (news : List Value) (hsrc : Src Tryd.prog z tx xv m news w) (h63 : n + m ≤ 140737488355328) (hfit : (n + m) * bytes ≤ 140737488355328)
    (hQ : ∀ p' c' w' κ', Sl w' κ' k z T p' (n + m) c' (vs ++ news) → Fr κ (fun j => j = k) w w' κ' → (p' = p ∨ p' = some ⟨w.heap.size, 0, .none⟩) → (c = 0 → Ext w w') → (∀ q n0 c0 vs0, Sl w κ k z T q n0 c0 vs0 → Al p n c q n0 → Sl w' κ' k z T q n0 c0 vs0 ∧ Al p' (n + m) c' q n0) →
      wpList Tryd.prog ops Q rest (a.put o.dst (.slice p' (n + m) c')) w') : wpList Tryd.prog ops Q (o :: rest) a w := by
  obtain ⟨p', c', w', κ', hr, h1, h2, h3, h4, h5⟩ := run_append_slB h t tx o.type zv bytes ht hinfo hzs xv m news hsrc hone h63 hfit
  refine wpList_plain hgd fun K hK => ?_
  unfold Oper.wp execOp
  simp only [ho, resolve, invoke, builtin, Sem.run_bind, Sem.run_pure, Result.andThen_ok, List.map_toArray, List.map_cons, List.map_nil, hs, hx, hr]
  exact hK _ _ (hQ p' c' w' κ' h1 h2 h3 h4 h5)
/-- The same, as a step of a region that draws its order. -/
theorem step_append_sl {w : World} {ops : Array Oper} {o : Oper} {a : Act} {K : Act → World → Prop} {Q : Exit → Act → World → Prop} {E : Prop} (hgd : o.guard = none) (s x : Operand) (t tx : TypeId)
    (ho : o.op = .call { callee := .builtin .append, args := #[s, x], argTypes := #[t, tx] }) {T : TypeId} {zv : Value} {z bytes : Nat} (ht : Tryd.prog.underlying t = some (.slice T))
    (hinfo : (Tryd.prog.info? T).map (fun i => (i.zero, i.size, i.bytes)) = some (some zv, z, bytes)) (hzs : zv.cells.size = z) (hb : bytes ≤ 128)
    {κ : Foot} {k : Nat} {p : Option Addr} {n c : Nat} {vs : List Value} (hs : a.eval s = .slice p n c) (h : Sl w κ k z T p n c vs) (hone : ∀ u ∈ vs, u.oneCell' = true)
    (xv : Value) (hx : a.eval x = xv) (m : Nat) (news : List Value) (hsrc : Src Tryd.prog z tx xv m news w) (h63 : n + m ≤ 1000000000)
    (hQ : ∀ p' c' w' κ', Sl w' κ' k z T p' (n + m) c' (vs ++ news) → Fr κ (fun j => j = k) w w' κ' → (p' = p ∨ p' = some ⟨w.heap.size, 0, .none⟩) → (c = 0 → Ext w w') → (∀ q n0 c0 vs0, Sl w κ k z T q n0 c0 vs0 → Al p n c q n0 → Sl w' κ' k z T q n0 c0 vs0 ∧ Al p' (n + m) c' q n0) →
      K (a.put o.dst (.slice p' (n + m) c')) w') : if Region.wanted o (yielded ops a.tmps) = true then Oper.wp Tryd.prog o a w K Q else E := by
  have hw : Region.wanted o (yielded ops a.tmps) = true := by simp [Region.wanted, hgd]
  rw [if_pos hw]
  obtain ⟨p', c', w', κ', hr, h1, h2, h3, h4, h5⟩ := run_append_sl h t tx o.type zv bytes ht hinfo hzs xv m news hsrc hone h63 hb
  unfold Oper.wp execOp
  simp only [ho, resolve, invoke, builtin, Sem.run_bind, Sem.run_pure, Result.andThen_ok, List.map_toArray, List.map_cons, List.map_nil, hs, hx, hr]
  exact hQ p' c' w' κ' h1 h2 h3 h4 h5
end Go.Proofs.YtkjcpjalldbahaaDoor
end

section
namespace Go.Proofs.YtkjcpjalldbahaaDoor
open Go.RowKit

/-- The block of a slice. -/
def kp (p : Option Addr) : Foot := fun g => if p = some ⟨g, 0, none⟩ then 1 else 0
theorem kp_one {p : Option Addr} {g : Nat} (h : kp p g = 1) : p = some ⟨g, 0, none⟩ := by
  unfold kp at h
  by_cases q : p = some ⟨g, 0, none⟩
  · exact q
  · rw [if_neg q] at h; cases h
theorem Sl.kp {w : World} {κ : Foot} {k z : Nat} {T : TypeId} {p : Option Addr} {n c : Nat} {vs : List Value} (h : Sl w κ k z T p n c vs) : Sl w (kp p) 1 z T p n c vs :=
  ⟨h.1, h.2.1, h.2.2.1, fun hc => by
    obtain ⟨g, cur, e, _, r⟩ := h.2.2.2 hc
    exact ⟨g, cur, e, by simp [YtkjcpjalldbahaaDoor.kp, e], r⟩⟩
theorem Sl.ofBlkR {w : World} {κ : Foot} {k z : Nat} {T : TypeId} {g n : Nat} {vs : List Value} (h : Blk w g T vs) (hn : vs.length = n * z) (hk : κ g = k) : Sl w κ k z T (some ⟨g, 0, none⟩) n n vs :=
  ⟨hn, Nat.le_refl _, .inr ⟨g, rfl⟩, fun _ => ⟨g, vs.toArray, rfl, hk, h, by simp [hn], fun j u hj => by simpa using hj⟩⟩
end Go.Proofs.YtkjcpjalldbahaaDoor
end
