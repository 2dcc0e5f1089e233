/- A slice of small numbers among a law's arguments, opened: what its walk asks of it. -/
import Derived.Test.YtdnpgmoiapkhnaaGreatDoorM04
import Derived.Test.YtdnpgmoiapkhnaaGreatDoorValsL
import Derived.Deep.Grids
namespace Go.Proofs.YtdnpgmoiapkhnaaGreatDoor
open Go.ChangeShapes Go.WideShapes Go.ChangeAt Go.RowKit
theorem cells_b8 : Tryz.prog.cellsOf 5 = 1 := by kernel_rfl
theorem bytes_b8 : Tryz.prog.bytesOf 5 = 1 := by kernel_rfl
def vU8 (l : List Nat) : List Value := l.map fun (n : Nat) => Value.int .u8 (n : Int)
section
variable {H : Type} {enc : TypeId × Value → H} {W : World} {base : Nat} {v : Value} {d : DataW H} {p : List MemPlace}
set_option maxRecDepth 100000 in
theorem open_u8s_p (hval : Value.okWide Tryz.prog W .any base 53 v) (h : DataW.Trod enc Tryz.prog W 0 (fun _ => true) true 53 v d p) (hlt : ∀ x ∈ p, x.block < W.heap.size)
    {ts : List TypeId} {ds : List (DataW H)} {j : Nat} (hsz : (DataW.weightsEach Tryz.prog ts ds).all (· ≤ reachBytes) = true) (ht : ts[j]? = some 53) (hd : ds[j]? = some d) :
    ∃ (pa : Option Addr) (n c : Nat) (l : List Nat), v = .slice pa n c ∧ l.length = n ∧ ValsP W pa (vU8 l) ∧ n ≤ 140737488355328 ∧ ∀ x, x ∈ l → x < 256 := by
  obtain ⟨a0, len, cap, rfl⟩ := okWide_slice Tryz.underlying53 hval
  obtain ⟨fuel, hf⟩ := h
  rcases open_ints (k := .u8) Tryz.underlying53 Tryz.underlying5 cells_b8 hf with ⟨hcs, hx⟩ | ⟨a, len', cap', zs, hcs, _, hl, hm, hz, hx, hcell, hwf⟩
  · simp [Value.cells] at hcs
    obtain ⟨rfl, rfl, rfl⟩ := hcs
    exact ⟨none, 0, 0, [], rfl, rfl, fun i s hs => by simp [vU8] at hs, by omega, by simp⟩
  · simp [Value.cells] at hcs
    obtain ⟨rfl, rfl, rfl⟩ := hcs
    simp only [Prod.mk.injEq] at hx
    obtain ⟨rfl, rfl⟩ := hx
    simp only [if_true] at hz
    have hr := sized_slice hsz ht hd Tryz.underlying53
    rw [bytes_b8] at hr
    simp only [lits, List.length_map, List.length_take, List.length_drop, reachBytes] at hr
    refine ⟨some a, len, cap, (zs.take len).map Int.toNat, rfl, by simp [List.length_take]; omega, fun i u hs => ?_, by omega, fun x hx => ?_⟩
    · have hi : i < len := by
        have := (List.getElem?_eq_some_iff.1 hs).1
        simp [vU8] at this
        omega
      unfold vU8 at hs
      rw [List.getElem?_map, List.getElem?_map] at hs
      rcases hz0 : (zs.take len)[i]? with _ | z
      · rw [hz0] at hs; cases hs
      · rw [hz0] at hs
        rw [List.getElem?_take, if_pos hi] at hz0
        have hmem : z ∈ zs := List.mem_of_getElem? hz0
        have hwz := hwf z hmem
        simp [Lit.wf, IntKind.min, IntKind.max, IntKind.signed, IntKind.bits] at hwz
        have hc := hcell i (by omega)
        have e : zs.getD i 0 = z := by rw [List.getD_eq_getElem?_getD, hz0]; rfl
        rw [e] at hc
        have e2 : u = .int .u8 z := by
          have := Option.some.inj hs
          rw [← this]
          show Value.int .u8 ((z.toNat : Nat) : Int) = _
          rw [Int.toNat_of_nonneg (by omega)]
        rw [e2]
        exact ⟨a, rfl, hlt (.cell a.block (a.off + i)) (MemPlace.mem_row.2 ⟨i, by omega, rfl⟩), hc⟩
    ·
      obtain ⟨z, hz1, rfl⟩ := List.mem_map.1 hx
      have hwz := hwf z (List.mem_of_mem_take hz1)
      simp [Lit.wf, IntKind.min, IntKind.max, IntKind.signed, IntKind.bits] at hwz
      omega
end
end Go.Proofs.YtdnpgmoiapkhnaaGreatDoor
