/- Contract: which segments are a log, in order, by the document (under way: its first loop). -/
import Derived.Test.YthnoegipadnmeaaRRowL
import Derived.Test.YthnoegipadnmeaaSegBase
import Derived.Test.YthnoegipadnmeaaSegMay
namespace Go.Proofs.Ythnoegipadnmeaa
open Go.RowKit

/-- What stands for the place of the segment with the greatest generation. -/
def atV (o : Option (Nat × Nat)) : Int := match o with
  | none => -1
  | some (a, _) => (a : Int)
set_option maxRecDepth 100000 in
set_option maxHeartbeats 8000000 in
theorem rRow_none (w : World) (p : Option Addr) (c0 : Nat) (L : List Seg) (h : SegsP w p L) (hl : L.length ≤ 1000000) (hnf : newF L L.length = none) :
    Calls Try.prog 19 #[.slice p L.length c0] w fun e w' => e = .returned (.tuple #[.slice none 0 0, .int .i64 3]) ∧ Ext w w' := by
  have HH := Lib.hid (fun u (hu : Ext w u) => h.ext hu)
  have HSu := Lib.hid (newF_succ L)
  have HNf := Lib.hid hnf
  have HNo : Hid (∀ j x, newF L (j + 1) = none → L[j]? = some x → newF L j = none ∧ x.k ≠ 1) := Lib.hid (fun j x h1 h2 => by
    rw [newF_succ L j x h2] at h1
    cases hn : newF L j with
    | none =>
      rw [hn] at h1
      simp only [newStep] at h1
      split at h1
      · cases h1
      · rename_i hk; exact ⟨rfl, hk⟩
    | some ag =>
      obtain ⟨a, g⟩ := ag
      rw [hn] at h1
      simp only [newStep] at h1
      split at h1 <;> cases h1)
  have HDn : Hid (∀ j, j ≤ L.length → newF L j = none) := Lib.hid (by
    have : ∀ d j, j + d = L.length → newF L j = none := by
      intro d
      induction d with
      | zero => intro j hj; rw [show j = L.length by omega]; exact hnf
      | succ d ih =>
        intro j hj
        exact (HNo.out j _ (ih (j + 1) (by omega)) (List.getElem?_eq_getElem (by omega))).1
    exact fun j hj => this (L.length - j) j (by omega))
  clear h hnf
  go_enter Try.func19, Try.ntmps19
  go_wp2
  go_loopw [4, 5] (fun av iv wr => ∃ j : Nat, j ≤ L.length ∧ iv = .int .i64 (j : Int) ∧ av = .int .i64 (-1) ∧ Hid (Ext w wr)) (fun _ iv _ => L.length - (intOf iv).toNat)
  case atStart => exact ⟨0, Nat.zero_le _, rfl, rfl, Lib.hid (Ext.refl _)⟩
  case round =>
    obtain ⟨j, hj, rfl, rfl, hx⟩ := hrel
    by_cases hlt : j < L.length
    · obtain ⟨x, hxj⟩ : ∃ x, L[j]? = some x := ⟨_, List.getElem?_eq_getElem hlt⟩
      obtain ⟨ad, q0, c2, rfl, ha, _, hc⟩ := HH.out _ hx.out j x hxj
      have k0 : wr.cell? (ad.add (j * 7)) = some (.int .u8 (x.k : Int)) := hc 0 _ rfl
      have hk := (HNo.out j x (HDn.out (j + 1) (by omega)) hxj).2
      have hki : ((x.k : Int) == 1) = false := by rw [beq_eq_false_iff_ne]; omega
      clear hxj hc ha hk
      go_wp2
      go_quiet (fail)
      go_wp2
      go_roundw
      case rel => exact ⟨j + 1, hlt, by go_num, rfl, Lib.hid (hx.out.drewN _)⟩
      case measure => simp [intOf]; omega
    · obtain rfl : j = L.length := by omega
      go_wp2
      go_ret2
      exact ⟨rfl, hx.out⟩
end Go.Proofs.Ythnoegipadnmeaa
