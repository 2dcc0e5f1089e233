/- Plain: edits one by one, with room for all. -/
import Derived.Test.YtkjcpjalldbahaaDoorM33
import Derived.Test.YtkjcpjalldbahaaDoorOpenEdit
namespace Go.Proofs.YtkjcpjalldbahaaDoor
open Go.RowKit Go.ChangeMaps Go.MapKept

theorem over_no {R D : List RowP} (hD : GoodR D) (hl : D.length ≤ 20000) : overR 1048576 1073741824 R D = false := by
  have := GoodR.bytes hD.each
  unfold overR
  simp
  omega
theorem apply_roomy {R : List RowP} (h : GoodR R) (l : List EditP) (hl : R.length + l.length ≤ 20000) : applyR 1048576 1073741824 R l = if (runE 0 R [] l).e = 0 then ⟨0, 0, (runE 0 R [] l).D, (runE 0 R [] l).v⟩ else ⟨(runE 0 R [] l).e, (runE 0 R [] l).at_, R, []⟩ := by
  obtain ⟨h1, h2, _⟩ := runE_good l 0 [] h
  unfold applyR
  dsimp only
  rw [over_no h1 (by omega)]
  rfl
theorem apply_one {R : List RowP} (h : GoodR R) (e : EditP) (hl : R.length ≤ 19000) : applyR 1048576 1073741824 R [e] = if (editR R e).1.e = 0 then ⟨0, 0, (editR R e).2, [(editR R e).1.last]⟩ else ⟨(editR R e).1.e, 0, R, []⟩ := by
  rw [apply_roomy h [e] (by simp; omega)]
  by_cases he : (editR R e).1.e = 0
  · rw [runE_go he, runE_nil, if_pos rfl, if_pos he]
    rfl
  · rw [runE_stop he, if_neg he, if_neg he]
/-- An argument's edit. -/
def EditO.toP (x : EditO) : EditP := ⟨x.Kind, x.Path, x.Any, x.Want, x.N, x.Text⟩
theorem EditOsP.edits {w : World} {p : Option Addr} {l : List EditO} (h : EditOsP w p l) : EditsP w p (l.map EditO.toP) := fun k x hk => by
  rw [List.getElem?_map] at hk
  cases hx : l[k]? with
  | none => rw [hx] at hk; cases hk
  | some y =>
    rw [hx] at hk
    cases hk
    obtain ⟨a, h1, h2, h3⟩ := h k y hx
    exact ⟨a, h1, h2, h3⟩
theorem edits_ok {l : List EditO} (h : ∀ x ∈ l, x.Ok) : ∀ e ∈ l.map EditO.toP, e.p.size ≤ 140737488351232 ∧ e.t.size ≤ 140737488351232 := fun e he => by
  obtain ⟨x, hx, rfl⟩ := List.mem_map.1 he
  exact ⟨(h x hx).Path, (h x hx).Text⟩
/-- A table while numbers are appended. -/
theorem IsT.keepA {w w' : World} {lo t b A : Nat} {qp qb : Int} {R : List RowP} {T' : TypeId} (h : IsT w lo t b qp qb R) (k : KeepA T' A w w') (h1 : 58 ≠ T') (h2 : 63 ≠ T') : IsT w' lo t b qp qb R := ⟨h.blk.keepA k h2, h.map.keepA k h1, h.good⟩
theorem KeepA.turn {w w' : World} {B : Nat} {T : TypeId} (k : KeepA T B w w') : Turn (fun g => B ≤ g) w w' := ⟨k.below.os, k.below.tape, k.below.output, k.below.size, fun g _ hn => k.below.block g (by omega)⟩
end Go.Proofs.YtkjcpjalldbahaaDoor
