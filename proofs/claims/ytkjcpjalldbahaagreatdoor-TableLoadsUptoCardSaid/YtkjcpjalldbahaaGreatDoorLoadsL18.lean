/- Plain, and worlds: a table loaded out of another one's rows; rows that are told are written over. -/
import Derived.Test.YtkjcpjalldbahaaGreatDoorDoesN18
import Derived.Test.YtkjcpjalldbahaaGreatDoorM37
namespace Go.Proofs.YtkjcpjalldbahaaGreatDoor
open Go.RowKit Go.ChangeMaps Go.MapKept

theorem dup_fresh : ∀ (l seen : List RowP), ((seen ++ l).map (·.p)).Nodup → dupR [] seen l = false
  | [], _, _ => rfl
  | r :: l, seen, h => by
    have h1 : hasR seen r.p = false := by
      cases e : hasR seen r.p with
      | false => rfl
      | true =>
        obtain ⟨x, hx, hp⟩ := hasR_iff.1 e
        rw [List.map_append, List.nodup_append] at h
        exact absurd hp (h.2.2 x.p (List.mem_map.2 ⟨x, hx, rfl⟩) r.p (by simp))
    unfold dupR
    rw [show hasR [] r.p = false from rfl, h1]
    simp only [Bool.or_self, Bool.false_eq_true, if_false]
    exact dup_fresh l (seen ++ [r]) (by rw [List.append_assoc]; exact h)
theorem good_all {R : List RowP} (h : ∀ r ∈ R, OkR r) : R.all okR = true := List.all_eq_true.2 fun r hr => (okR_iff (h r hr).num).2 (h r hr)
theorem load_fresh {R : List RowP} (h : GoodR R) : loadR [] R = (0, R) := by
  unfold loadR
  rw [if_pos (good_all h.each), dup_fresh R [] (by simpa using h.up.nodup), if_neg (by simp)]
  congr 1
  refine rows_ext (layR_rises _ RisesR.nil) h.up fun x => ?_
  rw [layR_mem R RisesR.nil h.up.nodup x]
  constructor
  · rintro (q | ⟨q, _⟩)
    · exact q
    · cases q
  · exact .inl
theorem load_have {R : List RowP} (h : GoodR R) {r : RowP} (hr : r ∈ R) : loadR R [r] = (8, R) := by
  unfold loadR
  rw [if_pos (good_all (R := [r]) fun x hx => by rw [List.mem_singleton] at hx; subst hx; exact h.each _ hr)]
  have : dupR R [] [r] = true := by
    unfold dupR
    rw [show hasR R r.p = true from hasR_iff.2 ⟨r, hr, rfl⟩]
    rfl
  rw [this, if_pos rfl]
theorem IsT.turnLo {S : Nat → Prop} {w w' : World} {lo t b : Nat} {qp qb : Int} {R : List RowP} (h : IsT w lo t b qp qb R) (f : Turn S w w') (ht : ¬ S t) (hb : ¬ S b) (hS : ∀ g, S g → g < lo) : IsT w' lo t b qp qb R := by
  obtain ⟨M, hm⟩ := h.map
  refine ⟨f.blk h.blk ht, ⟨M, hm.map.same (f.other b hm.map.lt hb), fun e he => ⟨⟨fun k x hk => ?_, fun y hy hL => ?_⟩, (hm.ents e he).low⟩, hm.rows⟩, h.good⟩
  · obtain ⟨a, h1, h2, h3⟩ := (hm.ents e he).vers.vers k x hk
    have hn : ¬ S a.block := fun q => by
      have q1 := hS _ q
      have q2 := (hm.ents e he).low a h1
      omega
    refine ⟨a, h1, Nat.lt_of_lt_of_le h2 f.size, fun j v hv => ?_⟩
    rw [← h3 j v hv]
    have hbl := f.other a.block h2 hn
    unfold World.cell?
    rw [add_blockV, hbl]
  · obtain ⟨cur, fr, e1⟩ := (hm.ents e he).vers.ty y hy hL
    have hn : ¬ S y.block := fun q => by
      have q1 := hS _ q
      have q2 := (hm.ents e he).low y hy
      omega
    exact ⟨cur, fr, (f.other _ (heap_lt e1) hn).trans e1⟩
/-- At the address stands a version of a slice of its own, which may be written over. -/
def HasV (w : World) (q : Option Addr) : Prop := ∃ g cs, q = some ⟨g, 0, none⟩ ∧ Blk w g 41 cs ∧ 3 ≤ cs.length
section
variable {w w' : World} {B c : Nat} {q : Option Addr} {L : List Ver}
theorem IsV.hasV (h : IsV w B q c L) (hL : L ≠ []) : HasV w q ∧ ∀ x, q = some x → B ≤ x.block := by
  have hpos : 0 < L.length := List.length_pos_iff.2 hL
  obtain ⟨g, cur, e, _, hg, hsz, _⟩ := h.sl.2.2.2 (Nat.lt_of_lt_of_le hpos h.le)
  refine ⟨⟨g, cur.toList, e, ?_, ?_⟩, h.low'⟩
  · unfold Blk
    rw [hg]
  · have h1 := h.le
    have h2 : 3 ≤ c * 3 := by omega
    simpa using Nat.le_trans h2 hsz
theorem HasV.ext (h : HasV w q) (x : Ext w w') : HasV w' q := by
  obtain ⟨g, cs, h1, h2, h3⟩ := h
  exact ⟨g, cs, h1, h2.ext x, h3⟩
theorem HasV.turn {S : Nat → Prop} (h : HasV w q) (f : Turn S w w') (hS : ∀ g, S g → NoT w g) : HasV w' q := by
  obtain ⟨g, cs, h1, h2, h3⟩ := h
  exact ⟨g, cs, h1, f.blk h2 (fun z => hS g z _ _ h2), h3⟩
theorem HasV.set_ (h : HasV w q) {g : Nat} {cs : List Value} (hb : Blk w g 41 cs) (o : Nat) (u : Value) : HasV (w.setCell ⟨g, o, none⟩ u) q := by
  obtain ⟨g', cs', h1, h2, h3⟩ := h
  by_cases e : g' = g
  · subst e
    exact ⟨g', _, h1, h2.set_ o u, by simpa using h3⟩
  · exact ⟨g', cs', h1, h2.other e o u, h3⟩
end
end Go.Proofs.YtkjcpjalldbahaaGreatDoor
