/- Contracts: the words of a block, by the program. Contracts: an array of eight numbers, read by value. -/
import Derived.Test.YtdnpgmoiapkhnaaDoorM01
import Derived.Deep.QuietTactic
import Derived.BigQuiet
import Derived.RegionTactic
import Derived.Test.YtdnpgmoiapkhnaaDoorM02
section
namespace Go.Proofs.YtdnpgmoiapkhnaaDoor
open Go.RowKit
theorem get4_any (s : ByteArray) (hs : s.size = 64) (t : Nat) (ht : t < 16) (w : World) :
    Calls Tryd.prog 33 #[.string s, .int .i64 (4 * (t : Int))] w fun e w' => e = .returned (.tuple #[.int .u32 ((wat s.data.toList t : Nat) : Int), .bool true]) ∧ w = w' := by
  have h := Get32_any s (4 * (t : Int)) (by omega) w
  have e : (4 * (t : Int)) = ((4 * t : Nat) : Int) := by omega
  rw [e] at h ⊢
  rw [getv_yes (by omega), gets_yes (by omega)] at h
  exact h
theorem ws_fill {w : World} {g : Nat} {t : TypeId} {l : List UInt8} {k : Nat} (hk : k < 64) (h : Row32 w g t (ws l k ++ List.replicate (64 - k) 0)) (x : Int) (hx : x = ((if k < 16 then wat l k else wnext (ws l k) k : Nat) : Int)) :
    Row32 (w.setCell ⟨g, k, none⟩ (.int .u32 x)) g t (ws l (k + 1) ++ List.replicate (64 - (k + 1)) 0) := by
  have := h.set_ k x _ hx
  have e := set_zero32 (ws l k) 64 (if k < 16 then wat l k else wnext (ws l k) k) (by rw [ws_length]; exact hk)
  rw [ws_length] at e
  rw [e] at this
  exact this
theorem ws_cell {w : World} {g : Nat} {t : TypeId} {l : List UInt8} {k i : Nat} (h : Row32 w g t (ws l k ++ List.replicate (64 - k) 0)) (hi : i < k) : w.cell? ⟨g, i, none⟩ = some (.int .u32 ((ws l k).getD i 0 : Nat)) := by
  have := h.cell i (by simp [ws_length]; omega)
  rw [this, List.getD_eq_getElem?_getD, List.getD_eq_getElem?_getD, List.getElem?_append_left (by rw [ws_length]; exact hi)]
theorem ws_zero {w : World} {g : Nat} {t : TypeId} {l : List UInt8} {k : Nat} (h : Row32 w g t (ws l k ++ List.replicate (64 - k) 0)) (hk : k < 64) : w.cell? ⟨g, k, none⟩ = some (.int .u32 0) := by
  have := h.cell k (by simp [ws_length]; omega)
  rw [this, List.getD_eq_getElem?_getD, List.getElem?_append_right (by rw [ws_length]; omega), ws_length, Nat.sub_self, List.getElem?_replicate, if_pos (by omega)]
  rfl

theorem info44 : (Tryd.prog.info? 180).map (·.size) = some 64 := by kernel_rfl
set_option maxRecDepth 100000 in
set_option maxHeartbeats 1000000 in
theorem words_any (s : ByteArray) (hs : s.size = 64) (w : World) :
    Calls Tryd.prog 125 #[.string s] w fun e w' => e = .returned (.agg ((ws s.data.toList 64).map cell32).toArray) ∧ Ext w w' := by
  have CG := fun t ht u => get4_any s hs t ht u
  have HG := Lib.hid CG; clear CG
  have Hs := Lib.hid hs; clear hs
  have hz : ∀ u : World, Row32 (u.alloc (.cells (List.replicate 64 (Value.int .u32 0)).toArray 180)) u.heap.size 180 (List.replicate 64 0) := fun u => by
    have := Row32.new u (List.replicate 64 0) 180
    simpa [cell32] using this
  have HZ := Lib.hid hz; clear hz
  go_enter Tryd.func125, Tryd.ntmps125
  go_wp2
  go_loopw [10] (fun i wr => ∃ t : Nat, t ≤ 16 ∧ i = .int .i64 t ∧ Row32 wr (w.heap.size + 1) 180 (ws s.data.toList t ++ List.replicate (64 - t) 0) ∧ Row32 wr w.heap.size 180 (List.replicate 64 0) ∧ Ext w wr) (fun i _ => 16 - (intOf i).toNat)
  case atStart => exact ⟨0, Nat.zero_le _, rfl, by simpa [ws] using HZ.out (w.alloc _), (HZ.out w).alloc _, ((Ext.refl w).alloc _).alloc _⟩
  case round =>
    obtain ⟨t, ht, rfl, hrow, hres, hext⟩ := hrel
    by_cases hlt : t < 16
    · have hc := ws_zero hrow (by omega)
      have hf := hrow.frozen t
      go_wp2_with (go_at_call 33; refine (HG.out t hlt _).mono ?_; rintro e w1 ⟨rfl, rfl⟩)
      go_roundw
      case rel => exact ⟨t + 1, by omega, by go_num, ws_fill (by omega) hrow _ (by rw [if_pos hlt]), hres.other (by omega) _ _, hext.setCell (by simp) _⟩
      case measure => simp [intOf]; omega
    · obtain rfl : t = 16 := by omega
      clear hlt ht
      have e16 : ((16 : Nat) : Int) = 16 := rfl
      rw [e16]
      clear e16
      go_wp2
      go_loopw [5] (fun i wr => ∃ t : Nat, 16 ≤ t ∧ t ≤ 64 ∧ i = .int .i64 t ∧ Row32 wr (w.heap.size + 1) 180 (ws s.data.toList t ++ List.replicate (64 - t) 0) ∧ Row32 wr w.heap.size 180 (List.replicate 64 0) ∧ Ext w wr) (fun i _ => 64 - (intOf i).toNat)
      case atStart => exact ⟨16, by omega, by omega, rfl, hrow, hres, hext⟩
      case round =>
        clear hrow hres hext
        obtain ⟨t, h16, ht, rfl, hrow, hres, hext⟩ := hrel
        by_cases hlt : t < 64
        · have hc := ws_zero hrow hlt
          have hf := hrow.frozen t
          have c2 := ws_cell hrow (show t - 2 < t by omega)
          have c7 := ws_cell hrow (show t - 7 < t by omega)
          have c15 := ws_cell hrow (show t - 15 < t by omega)
          have c16 := ws_cell hrow (show t - 16 < t by omega)
          have b2 := getD_lt (ws_lt s.data.toList t) (t - 2)
          have b15 := getD_lt (ws_lt s.data.toList t) (t - 15)
          obtain ⟨x2, e2⟩ : ∃ x, x = (ws s.data.toList t).getD (t - 2) 0 := ⟨_, rfl⟩
          obtain ⟨x7, e7⟩ : ∃ x, x = (ws s.data.toList t).getD (t - 7) 0 := ⟨_, rfl⟩
          obtain ⟨x15, e15⟩ : ∃ x, x = (ws s.data.toList t).getD (t - 15) 0 := ⟨_, rfl⟩
          obtain ⟨x16, e16⟩ : ∃ x, x = (ws s.data.toList t).getD (t - 16) 0 := ⟨_, rfl⟩
          rw [← e2] at c2 b2; rw [← e7] at c7; rw [← e15] at c15 b15; rw [← e16] at c16
          have E2 := Lib.hid e2; have E7 := Lib.hid e7; have E15 := Lib.hid e15; have E16 := Lib.hid e16
          clear e2 e7 e15 e16
          have v1 := sg1_int x2 b2
          have v0 := sg0_int x15 b15
          go_wp2
          go_region
          all_goals
            go_wp2_with (go_at_call 126; ((with_reducible refine (turn_any _ (by assumption) _ _).mono ?_); rintro e w1 ⟨rfl, rfl⟩))
          all_goals
            clear v1 v0
            go_region
          all_goals
            go_wp2
            go_roundw
            case rel => exact ⟨t + 1, by omega, by omega, by go_num, ws_fill hlt hrow _ (by rw [if_neg (by omega)]; exact wnext_int _ _ _ _ _ _ E2.out E7.out E15.out E16.out), hres.other (by omega) _ _, (hext.setCell (p := ⟨w.heap.size + 1, t, none⟩) (by simp) _).drew.drew⟩
            case measure => simp [intOf]; omega
        · obtain rfl : t = 64 := by omega
          rw [Nat.sub_self, List.replicate_zero, List.append_nil] at hrow
          have i44 : (Tryd.prog.info? 180).map (·.size) = some (((ws s.data.toList 64).map cell32).toArray).size := by rw [info44]; simp [ws_length]
          have e64 : ((64 : Nat) : Int) = 64 := rfl
          rw [e64]
          clear e64
          go_wp2_with (first
            | (refine wpList_load_row rfl 180 (.tmp 3) rfl (w.heap.size + 1) rfl 180 _ (0, 0) _ hrow Tryd.underlying180 rfl i44 ?_)
            | (refine wpList_store_row rfl 180 (.tmp 2) (.tmp 66) rfl w.heap.size _ rfl rfl 180 _ hres i44 (by simp [ws_length]) (cells32_one _) ?_))
          exact bodyPost_ret (results_cell_row rfl _ _ w.heap.size 180 _ (0, 0) _ rfl (setRow_heap _ _ _ _ _ _ hres) Tryd.underlying180 rfl i44) rfl ⟨rfl, hext.setRow (Nat.le_refl _) _⟩
end Go.Proofs.YtdnpgmoiapkhnaaDoor
end

section
namespace Go.Proofs.YtdnpgmoiapkhnaaDoor
open Go.RowKit
theorem info29s : (Tryd.prog.info? 29).map (·.size) = some 1 := by kernel_rfl
theorem index8 (t : TypeId) (ht : Tryd.prog.underlying t = some (.array 8 29)) (cs : Array Value) (hc : cs.size = 8) (i : Nat) (hi : i < 8) (w : World) :
    (Instr.index t (.agg cs) (.int .i64 (i : Int))).run Tryd.prog w = .ok (cs.getD i undef) w := by
  have hu2 := Tryd.underlying29
  cases hq : Tryd.prog.info? 29 with
  | none => have := info29s; simp [hq] at this
  | some d =>
    have hs : d.size = 1 := by have := info29s; simpa [hq] using this
    simp [Instr.index, part, isAgg, run_underlying ht, run_underlying hu2, sizeOf, typeInfo, hq, hs, hc, hi, asIntOf, go_sem]
theorem index8s (t : TypeId) (ht : Tryd.prog.underlying t = some (.array 8 29)) (a b c d e f g h : Nat) :
    (∀ u, (Instr.index t (.agg #[.int .u32 (a : Int), .int .u32 (b : Int), .int .u32 (c : Int), .int .u32 (d : Int), .int .u32 (e : Int), .int .u32 (f : Int), .int .u32 (g : Int), .int .u32 (h : Int)]) (.int .i64 0)).run Tryd.prog u = .ok (.int .u32 (a : Int)) u) ∧
    (∀ u, (Instr.index t (.agg #[.int .u32 (a : Int), .int .u32 (b : Int), .int .u32 (c : Int), .int .u32 (d : Int), .int .u32 (e : Int), .int .u32 (f : Int), .int .u32 (g : Int), .int .u32 (h : Int)]) (.int .i64 1)).run Tryd.prog u = .ok (.int .u32 (b : Int)) u) ∧
    (∀ u, (Instr.index t (.agg #[.int .u32 (a : Int), .int .u32 (b : Int), .int .u32 (c : Int), .int .u32 (d : Int), .int .u32 (e : Int), .int .u32 (f : Int), .int .u32 (g : Int), .int .u32 (h : Int)]) (.int .i64 2)).run Tryd.prog u = .ok (.int .u32 (c : Int)) u) ∧
    (∀ u, (Instr.index t (.agg #[.int .u32 (a : Int), .int .u32 (b : Int), .int .u32 (c : Int), .int .u32 (d : Int), .int .u32 (e : Int), .int .u32 (f : Int), .int .u32 (g : Int), .int .u32 (h : Int)]) (.int .i64 3)).run Tryd.prog u = .ok (.int .u32 (d : Int)) u) ∧
    (∀ u, (Instr.index t (.agg #[.int .u32 (a : Int), .int .u32 (b : Int), .int .u32 (c : Int), .int .u32 (d : Int), .int .u32 (e : Int), .int .u32 (f : Int), .int .u32 (g : Int), .int .u32 (h : Int)]) (.int .i64 4)).run Tryd.prog u = .ok (.int .u32 (e : Int)) u) ∧
    (∀ u, (Instr.index t (.agg #[.int .u32 (a : Int), .int .u32 (b : Int), .int .u32 (c : Int), .int .u32 (d : Int), .int .u32 (e : Int), .int .u32 (f : Int), .int .u32 (g : Int), .int .u32 (h : Int)]) (.int .i64 5)).run Tryd.prog u = .ok (.int .u32 (f : Int)) u) ∧
    (∀ u, (Instr.index t (.agg #[.int .u32 (a : Int), .int .u32 (b : Int), .int .u32 (c : Int), .int .u32 (d : Int), .int .u32 (e : Int), .int .u32 (f : Int), .int .u32 (g : Int), .int .u32 (h : Int)]) (.int .i64 6)).run Tryd.prog u = .ok (.int .u32 (g : Int)) u) ∧
    (∀ u, (Instr.index t (.agg #[.int .u32 (a : Int), .int .u32 (b : Int), .int .u32 (c : Int), .int .u32 (d : Int), .int .u32 (e : Int), .int .u32 (f : Int), .int .u32 (g : Int), .int .u32 (h : Int)]) (.int .i64 7)).run Tryd.prog u = .ok (.int .u32 (h : Int)) u) :=
  ⟨fun u => index8 t ht #[.int .u32 (a : Int), .int .u32 (b : Int), .int .u32 (c : Int), .int .u32 (d : Int), .int .u32 (e : Int), .int .u32 (f : Int), .int .u32 (g : Int), .int .u32 (h : Int)] rfl 0 (by omega) u, fun u => index8 t ht #[.int .u32 (a : Int), .int .u32 (b : Int), .int .u32 (c : Int), .int .u32 (d : Int), .int .u32 (e : Int), .int .u32 (f : Int), .int .u32 (g : Int), .int .u32 (h : Int)] rfl 1 (by omega) u, fun u => index8 t ht #[.int .u32 (a : Int), .int .u32 (b : Int), .int .u32 (c : Int), .int .u32 (d : Int), .int .u32 (e : Int), .int .u32 (f : Int), .int .u32 (g : Int), .int .u32 (h : Int)] rfl 2 (by omega) u, fun u => index8 t ht #[.int .u32 (a : Int), .int .u32 (b : Int), .int .u32 (c : Int), .int .u32 (d : Int), .int .u32 (e : Int), .int .u32 (f : Int), .int .u32 (g : Int), .int .u32 (h : Int)] rfl 3 (by omega) u, fun u => index8 t ht #[.int .u32 (a : Int), .int .u32 (b : Int), .int .u32 (c : Int), .int .u32 (d : Int), .int .u32 (e : Int), .int .u32 (f : Int), .int .u32 (g : Int), .int .u32 (h : Int)] rfl 4 (by omega) u, fun u => index8 t ht #[.int .u32 (a : Int), .int .u32 (b : Int), .int .u32 (c : Int), .int .u32 (d : Int), .int .u32 (e : Int), .int .u32 (f : Int), .int .u32 (g : Int), .int .u32 (h : Int)] rfl 5 (by omega) u, fun u => index8 t ht #[.int .u32 (a : Int), .int .u32 (b : Int), .int .u32 (c : Int), .int .u32 (d : Int), .int .u32 (e : Int), .int .u32 (f : Int), .int .u32 (g : Int), .int .u32 (h : Int)] rfl 6 (by omega) u, fun u => index8 t ht #[.int .u32 (a : Int), .int .u32 (b : Int), .int .u32 (c : Int), .int .u32 (d : Int), .int .u32 (e : Int), .int .u32 (f : Int), .int .u32 (g : Int), .int .u32 (h : Int)] rfl 7 (by omega) u⟩
end Go.Proofs.YtdnpgmoiapkhnaaDoor
end
