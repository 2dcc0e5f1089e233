/- Contracts: the bytes of all round keys, by the program. -/
import Derived.Test.YthglecfbcdikaaaKeyWords
import Derived.Test.YthglecfbcdikaaaBuilder
import Derived.Test.YthglecfbcdikaaaPut32
namespace Go.Proofs.Ythglecfbcdikaaa
open Go.RowKit
attribute [local irreducible] rkey expand enc dec kw
theorem info32s : (Try.prog.info? 22).map (·.size) = some 1 := by kernel_rfl
/-- An array of numbers, read by value. -/
theorem index_words (t n : Nat) (ht : Try.prog.underlying t = some (.array n 22)) (L : List Nat) (hL : L.length = n) (i : Nat) (hi : i < n) (w : World) :
    (Instr.index t (.agg (L.map cell32).toArray) (.int .i64 (i : Int))).run Try.prog w = .ok (.int .u32 (L.getD i 0 : Nat)) w := by
  have hi2 : i < L.length := by omega
  have hu2 := Try.underlying22
  have hg : L.getD i 0 = L[i] := by rw [List.getD_eq_getElem?_getD, List.getElem?_eq_getElem hi2]; rfl
  rw [hg]
  cases hq : Try.prog.info? 22 with
  | none => have := info32s; simp [hq] at this
  | some d =>
    have hs : d.size = 1 := by have := info32s; simpa [hq] using this
    simp [Instr.index, part, isAgg, run_underlying ht, run_underlying hu2, sizeOf, typeInfo, hq, hs, hL, asIntOf, go_sem, hi, cell32]
theorem four_of (l : List UInt8) (h : 4 ≤ l.length) : l.take 4 = [l.getD 0 0, l.getD 1 0, l.getD 2 0, l.getD 3 0] := by
  match l, h with
  | a :: b :: c :: d :: r, _ => simp
theorem take_kw {key : List UInt8} (h : key.length = 16) (j : Nat) (hj : j < 44) : (expand key 40).take (4 * (j + 1)) = (expand key 40).take (4 * j) ++ be 4 (kw key j) := by
  have hl := expand_length h 40
  rw [show 4 * (j + 1) = 4 * j + 4 by omega, List.take_add, four_of _ (by rw [List.length_drop]; omega)]
  unfold kw eB
  rw [be_w4]
  simp only [List.getD_eq_getElem?_getD, List.getElem?_drop, Nat.add_zero]
theorem be_len (n : Nat) : (be 4 n).length = 4 := be_length 4 n
set_option maxRecDepth 100000 in
set_option maxHeartbeats 1000000 in
theorem keyBytes_any (w : World) (key : List UInt8) (h : key.length = 16) :
    Calls Try.prog 35 #[.agg ((kws key 44).map cell32).toArray] w fun e w' => e = .returned (.string ⟨(expand key 40).toArray⟩) ∧ Ext w w' := by
  have HT := Lib.hid (fun j hj => take_kw h j hj)
  have HL := Lib.hid (expand_length h 40)
  have HI := Lib.hid (fun i (hi : i < 44) u => (index_words 79 44 Try.underlying79 (kws key 44) (kws_length key 44) i hi u).trans (by rw [kws_at key 44 i hi]))
  have HS := Lib.hid (sized32 size44 (kws_length key 44))
  have hr0 : Row32 (w.alloc (.cells ((kws key 44).map cell32).toArray 79)) w.heap.size 79 (kws key 44) := Row32.new w _ _
  have HR := Lib.hid (hr0.alloc (.cells #[.pointer none, .slice none 0 0] 61))
  have hb0 := IsB.new (w.alloc (.cells ((kws key 44).map cell32).toArray 79)) w.heap.size (by simp)
  have HB := Lib.hid hb0
  generalize expand key 40 = E at *
  clear h hr0 hb0
  go_enter Try.func35, Try.ntmps35
  go_wp2_with (refine wpList_load_row rfl 79 (.tmp 1) rfl w.heap.size rfl 79 _ (0, 0) _ HR.out Try.underlying79 rfl HS.out ?_)
  go_loopw [7] (fun i wr => ∃ j : Nat, j ≤ 44 ∧ i = .int .i64 j ∧ IsB wr w.heap.size (w.heap.size + 1) (E.take (4 * j)) ∧ Ext w wr) (fun i _ => 44 - (intOf i).toNat)
  case atStart => exact ⟨0, Nat.zero_le _, rfl, by simpa using HB.out, ((Ext.refl w).alloc _).alloc _⟩
  case round =>
    obtain ⟨j, hj, rfl, hb, hext⟩ := hrel
    have HB := Lib.hid hb; have HE := Lib.hid hext
    clear hb hext
    by_cases hlt : j < 44
    · have hix := HI.out j hlt
      have HTj := Lib.hid (HT.out j hlt)
      have H2 : Hid ((E.take (4 * j)).length + (be 4 (kw key j)).length ≤ 140737488355328) := Lib.hid (by rw [List.length_take, be_length]; omega)
      generalize kw key j = n at *
      go_wp2_with (first
        | (go_at_call 29; refine (Put32_any n _).mono ?_; rintro e w1 ⟨rfl, h1⟩; have x1 := Lib.hid (HE.out.trans h1); have b1 := Lib.hid (HB.out.ext h1); clear h1)
        | (go_at_call 24; refine (write_b w.heap.size (w.heap.size + 1) _ _ _ b1.out H2.out x1.out.size).mono ?_; rintro e w2 ⟨rfl, h2, h3⟩))
      go_roundw
      case rel => exact ⟨j + 1, by omega, by go_num, by rw [HTj.out]; exact h2, x1.out.trans3 h3⟩
      case measure => simp [intOf]; omega
    · obtain rfl : j = 44 := by omega
      have hbf := HB.out
      rw [List.take_of_length_le (by rw [HL.out]; omega)] at hbf
      have HBf := Lib.hid hbf
      clear hbf
      have e44 : ((44 : Nat) : Int) = 44 := rfl
      rw [e44]
      clear e44
      go_wp2_with (go_at_call 26; refine (string_b w.heap.size (w.heap.size + 1) _ _ HBf.out HE.out.size).mono ?_; rintro e w2 ⟨rfl, h3⟩)
      go_ret
      exact ⟨rfl, HE.out.trans3 h3⟩
end Go.Proofs.Ythglecfbcdikaaa
