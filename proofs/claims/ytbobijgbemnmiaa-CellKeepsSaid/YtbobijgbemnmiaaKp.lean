/- A slice in one block of its own. -/
import Derived.Test.YtbobijgbemnmiaaAppS
namespace Go.Proofs.Ytbobijgbemnmiaa
open Go.RowKit

/-- The block of a slice. -/
def kp (p : Option Addr) : Foot := fun g => if p = some ⟨g, 0, none⟩ then 1 else 0
theorem kp_one {p : Option Addr} {g : Nat} (h : kp p g = 1) : p = some ⟨g, 0, none⟩ := by
  unfold kp at h
  by_cases q : p = some ⟨g, 0, none⟩
  · exact q
  · rw [if_neg q] at h; cases h
theorem Sl.kp {w : World} {κ : Foot} {k z : Nat} {T : TypeId} {p : Option Addr} {n c : Nat} {vs : List Value} (h : Sl w κ k z T p n c vs) : Sl w (kp p) 1 z T p n c vs :=
  ⟨h.1, h.2.1, h.2.2.1, fun hc => by
    obtain ⟨g, cur, e, _, r⟩ := h.2.2.2 hc
    exact ⟨g, cur, e, by simp [Ytbobijgbemnmiaa.kp, e], r⟩⟩
theorem Sl.ofBlkR {w : World} {κ : Foot} {k z : Nat} {T : TypeId} {g n : Nat} {vs : List Value} (h : Blk w g T vs) (hn : vs.length = n * z) (hk : κ g = k) : Sl w κ k z T (some ⟨g, 0, none⟩) n n vs :=
  ⟨hn, Nat.le_refl _, .inr ⟨g, rfl⟩, fun _ => ⟨g, vs.toArray, rfl, hk, h, by simp [hn], fun j u hj => by simpa using hj⟩⟩
end Go.Proofs.Ytbobijgbemnmiaa
