/- A record among a law's arguments, opened: what its walk asks of it. -/
import Derived.Test.YthoajlajcmcabaaOpenArgs
import Derived.Test.YthoajlajcmcabaaFrameL
import Derived.Lib.SmallJoins
namespace Go.Proofs.Ythoajlajcmcabaa
open Go.ChangeShapes Go.WideShapes Go.ChangeAt Go.RowKit
section
variable {H : Type} {enc : TypeId × Value → H} {W : World} {base : Nat} {v : Value} {d : DataW H} {p : List MemPlace}
theorem open_rec_p (hval : Value.okWide Try.prog W .any base 24 v) (h : DataW.Trod enc Try.prog W 0 (fun _ => true) true 24 v d p)
    {ts : List TypeId} {ds : List (DataW H)} {j : Nat} (hsz : (DataW.weightsEach Try.prog ts ds).all (· ≤ reachBytes) = true) (ht : ts[j]? = some 24) (hd : ds[j]? = some d) :
    ∃ r : Rec, v = .agg #[.int .u64 (r.n : Int), .string r.t] ∧ r.n < 18446744073709551616 ∧ r.t.size ≤ 140737488351232 := by
  obtain ⟨v0, v1, y0, y1, n, rfl, rfl, rfl, h0, h1⟩ := Go.Joins.open_agg2 Try.underlying24 (by kernel_rfl) (by kernel_rfl) hval h
  obtain ⟨z, hz, hx0, hw⟩ := DataW.trod_int (k := .u64) Try.underlying22 h0
  obtain ⟨s, hs, hx1, _⟩ := DataW.trod_string Try.underlying9 h1
  simp only [List.cons.injEq, and_true] at hz hs
  subst hz hs
  simp [Lit.wf, IntKind.min, IntKind.max, IntKind.signed, IntKind.bits] at hw
  have hsw := DataW.weights_mem_each (P := Try.prog) ht hd s.data.toList.length (by
    simp only [DataW.weights, Try.underlying24]
    refine DataW.weights_mem_each (P := Try.prog) (j := 1) (t := 9) (d := y1.1) rfl rfl _ ?_
    rw [hx1]
    simp [DataW.weights])
  have hs := List.all_eq_true.1 hsz _ hsw
  simp only [decide_eq_true_eq, reachBytes, size_list] at hs
  refine ⟨⟨z.toNat, s⟩, ?_, by show z.toNat < _; omega, by show s.size ≤ _; omega⟩
  have : ((z.toNat : Nat) : Int) = z := Int.toNat_of_nonneg (by omega)
  simp only [this]
end
end Go.Proofs.Ythoajlajcmcabaa
