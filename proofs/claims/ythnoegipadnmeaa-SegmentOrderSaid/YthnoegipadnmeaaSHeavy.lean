/- Contract: whether a segment is too heavy for the laws. -/
import Derived.Test.YthnoegipadnmeaaSegB
import Derived.Test.YthnoegipadnmeaaTextsP
import Derived.Outline
namespace Go.Proofs.Ythnoegipadnmeaa
open Go.RowKit

set_option maxRecDepth 100000 in
set_option maxHeartbeats 4000000 in
theorem heavy_any (x : Seg) (p : Option Addr) (c : Nat) (w : World) (hr : TextsP w p x.r) (ht : x.t.size ≤ 140737488351232) (hs : ∀ s ∈ x.r, s.size ≤ 140737488351232) (hl : x.r.length ≤ 140737488355328) :
    Calls Try.prog 7 #[segV x (.slice p x.r.length c)] w fun e w' => ∃ b, e = .returned (.bool b) ∧ Ext w w' ∧ (b = false → x.Light) := by
  have HR := Lib.hid (hr.ext ((Ext.refl w).alloc (.cells #[.int .u8 (x.k : Int), .int .u64 (x.g : Int), .int .u64 (x.f : Int), .string x.t, .slice p x.r.length c, .int .i64 x.u, .bool x.w] 25)))
  have HS := Lib.hid hs
  have hb : Blk (w.alloc (.cells #[.int .u8 (x.k : Int), .int .u64 (x.g : Int), .int .u64 (x.f : Int), .string x.t, .slice p x.r.length c, .int .i64 x.u, .bool x.w] 25)) w.heap.size 25 [.int .u8 (x.k : Int), .int .u64 (x.g : Int), .int .u64 (x.f : Int), .string x.t, .slice p x.r.length c, .int .i64 x.u, .bool x.w] := Blk.new w _ _
  have c3 := hb.cell 3 _ rfl
  have c4 := hb.cell 4 _ rfl
  have HX := Lib.hid ((Ext.refl w).alloc (.cells #[.int .u8 (x.k : Int), .int .u64 (x.g : Int), .int .u64 (x.f : Int), .string x.t, .slice p x.r.length c, .int .i64 x.u, .bool x.w] 25))
  clear hb hr hs
  unfold segV
  go_enter Try.func7, Try.ntmps7
  go_wp2
  generalize (w.alloc (.cells #[.int .u8 (x.k : Int), .int .u64 (x.g : Int), .int .u64 (x.f : Int), .string x.t, .slice p x.r.length c, .int .i64 x.u, .bool x.w] 25)) = W at *
  go_loop [3, 4] (fun nv iv => ∃ j N : Nat, j ≤ x.r.length ∧ N ≤ 140737488363520 ∧ iv = .int .i64 (j : Int) ∧ nv = .int .i64 (N : Int) ∧ Hid (x.t.size ≤ N ∧ ∀ i s, i < j → x.r[i]? = some s → s.size ≤ N)) (fun _ iv => x.r.length - (intOf iv).toNat)
  case atStart => exact ⟨0, x.t.size, Nat.zero_le _, by omega, rfl, rfl, Lib.hid ⟨Nat.le_refl _, fun i s hi => by omega⟩⟩
  case round =>
    obtain ⟨j, N, hj, hN, rfl, rfl, hin⟩ := hrel
    by_cases hlt : j < x.r.length
    · by_cases h8 : N ≤ 8192
      · have h8i : (N : Int) ≤ 8192 := by omega
        obtain ⟨s, hs⟩ : ∃ s, x.r[j]? = some s := ⟨_, List.getElem?_eq_getElem hlt⟩
        obtain ⟨a, rfl, _, hc⟩ := HR.out j s hs
        have hs2 := HS.out s (List.mem_of_getElem? hs)
        have HSj := Lib.hid hs
        clear hs
        go_wp2
        go_round
        case rel =>
          refine ⟨j + 1, N + s.size, hlt, by omega, by go_num, by go_num, Lib.hid ⟨by have := hin.out.1; omega, fun i s' hi hs' => ?_⟩⟩
          by_cases hij : i = j
          · subst hij
            rw [HSj.out] at hs'
            cases hs'
            omega
          · have := hin.out.2 i s' (by omega) hs'
            omega
        case measure => simp [intOf]; omega
      · have h8i : ¬ (N : Int) ≤ 8192 := by omega
        have h8j : (8192 : Int) < (N : Int) := by omega
        clear hin
        go_wp2
        go_ret
        exact .inr ⟨rfl, HX.out⟩
    · obtain rfl : j = x.r.length := by omega
      by_cases h8 : N ≤ 8192
      · have h8i : (N : Int) ≤ 8192 := by omega
        have h8j : ¬ (8192 : Int) < (N : Int) := by omega
        have HF : Hid (x.r.length ≤ 60 → x.Light) := Lib.hid (fun h60 => ⟨by have := hin.out.1; omega, h60, fun s hs => by
          obtain ⟨i, hi⟩ := List.getElem?_of_mem hs
          have := hin.out.2 i s (List.getElem?_eq_some_iff.1 hi).1 hi
          omega⟩)
        clear hin
        go_wp2
        go_ret
        by_cases h60 : x.r.length ≤ 60
        · exact .inl ⟨by
            rw [show decide ((60 : Int) < (x.r.length : Int)) = false from by rw [decide_eq_false_iff_not]; omega]
            rfl, HX.out, HF.out h60⟩
        · exact .inr ⟨by
            rw [show decide ((60 : Int) < (x.r.length : Int)) = true from by rw [decide_eq_true_iff]; omega]
            rfl, HX.out⟩
      · have h8i : ¬ (N : Int) ≤ 8192 := by omega
        have h8j : (8192 : Int) < (N : Int) := by omega
        clear hin
        go_wp2
        go_ret
        exact .inr ⟨rfl, HX.out⟩
end Go.Proofs.Ythnoegipadnmeaa
