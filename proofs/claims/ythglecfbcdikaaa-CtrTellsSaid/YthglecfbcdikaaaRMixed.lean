/- Contracts: the columns of a block mixed, by the document's answer. -/
import Derived.Test.YthglecfbcdikaaaRTable
import Derived.RegionTactic
import Derived.ChangeAlike
import Derived.BigRegion
import Derived.Deep.QuietTactic
import Derived.BigQuiet
namespace Go.Proofs.Ythglecfbcdikaaa
open Go.RowKit

def facL : List UInt8 := [2, 3, 1, 1]
/-- The first k products of a row and a column. -/
def dotN (l : List UInt8) (c r : Nat) : Nat → UInt8
  | 0 => 0
  | k + 1 => dotN l c r k ^^^ mulB (l.getD (4 * c + k) 0) (facL.getD ((k + 4 - r) % 4) 0)
theorem dotN_mix (l : List UInt8) (c r : Nat) (hc : c < 4) (hr : r < 4) : (mixC l)[4 * c + r]? = some (dotN l c r 4) := by
  unfold mixC mixBy
  have e1 : (4 * c + r) / 4 = c := by omega
  have e2 : (4 * c + r) % 4 = r := by omega
  rw [List.getElem?_map, List.getElem?_range (by omega)]
  simp only [Option.map_some, e1, e2]
  congr 1
  rcases (show r = 0 ∨ r = 1 ∨ r = 2 ∨ r = 3 by omega) with rfl | rfl | rfl | rfl
  all_goals
    simp only [dotN, dot, fac, facL, List.getD_cons_zero, List.getD_cons_succ, Nat.add_zero, UInt8.zero_xor]
    rw [mulB_comm (l.getD (4 * c) 0), mulB_comm (l.getD (4 * c + 1) 0), mulB_comm (l.getD (4 * c + 2) 0), mulB_comm (l.getD (4 * c + 3) 0)]
    rfl
theorem rtimes_byte (a b : UInt8) (w : World) : Calls Try.prog 45 #[.int .u8 (a.toNat : Int), .int .u8 (b.toNat : Int)] w fun e w' => e = .returned (.int .u8 ((mulB a b).toNat : Int)) ∧ w = w' := by
  have h := rTimes_any a.toNat b.toNat a.toNat_lt b.toNat_lt w
  rwa [← mulB_nat] at h
theorem xorB (a b : UInt8) : bits BinOp.xor IntKind.u8 (a.toNat : Int) (b.toNat : Int) = ((a ^^^ b).toNat : Int) := by
  rw [u8_xor_nat _ _ a.toNat_lt b.toNat_lt, UInt8.toNat_xor]
theorem facL_at (m : Nat) (h : m < 4) : facL[m]? = some (facL.getD m 0) := by
  rcases (show m = 0 ∨ m = 1 ∨ m = 2 ∨ m = 3 by omega) with rfl | rfl | rfl | rfl <;> rfl
theorem getD_at {l : List UInt8} {i : Nat} (h : i < l.length) : l[i]? = some (l.getD i 0) := by
  rw [List.getD_eq_getElem?_getD, List.getElem?_eq_getElem h]; rfl
set_option maxRecDepth 100000 in
set_option maxHeartbeats 4000000 in
theorem rmixed_any (w : World) (v : Value) (l : List UInt8) (hl : l.length = 16) (hv : BSl w v l) :
    Calls Try.prog 32 #[v] w fun e w' => ∃ g, e = .returned (.slice (some ⟨g, 0, none⟩) 16 16) ∧ w.heap.size ≤ g ∧ Row w' g 5 (mixC l) ∧ Ext w w' := by
  have hmk := make_bytes 16 (by omega)
  have e16 : ((16 : Nat) : Int) = 16 := rfl
  rw [e16] at hmk
  clear e16
  obtain ⟨gb, cb, rfl, hgb, hcb⟩ := hv
  rw [hl]
  have HCB := Lib.hid hcb; have HL := Lib.hid hl; have HM := Lib.hid (fun c r hc hr => dotN_mix l c r hc hr); have HML := Lib.hid (mixC_length l)
  clear hcb hl
  generalize mixC l = M at *
  go_enter Try.func32, Try.ntmps32
  go_wp2
  have hf0 : Row (w.alloc (.cells #[.int .u8 2, .int .u8 3, .int .u8 1, .int .u8 1] 5)) w.heap.size 5 facL := heap_alloc_new w _
  have HF := Lib.hid (fun (u : World) (hu : Ext (w.alloc (.cells #[.int .u8 2, .int .u8 3, .int .u8 1, .int .u8 1] 5)) u) => hf0.ext hu)
  have hx0 : Ext w (w.alloc (.cells #[.int .u8 2, .int .u8 3, .int .u8 1, .int .u8 1] 5)) := (Ext.refl w).alloc _
  have hg0 : w.heap.size + 1 = (w.alloc (.cells #[.int .u8 2, .int .u8 3, .int .u8 1, .int .u8 1] 5)).heap.size := by simp
  have hrow0 : Row ((w.alloc (.cells #[.int .u8 2, .int .u8 3, .int .u8 1, .int .u8 1] 5)).alloc (.cells (madeCells #[.int .u8 0] 16) 5)) (w.heap.size + 1) 5 (List.replicate 16 0) := by rw [hg0]; exact Row.made _ _ _
  have HG0 := Lib.hid hg0
  clear hf0 hg0
  generalize w.alloc (.cells #[.int .u8 2, .int .u8 3, .int .u8 1, .int .u8 1] 5) = W0 at *
  have HX0 := Lib.hid hx0
  go_loopw [5] (fun i wr => ∃ c : Nat, c ≤ 4 ∧ i = .int .i64 c ∧ Row wr (w.heap.size + 1) 5 (M.take (4 * c) ++ List.replicate (16 - 4 * c) 0) ∧ Ext W0 wr) (fun i _ => 4 - (intOf i).toNat)
  case atStart => exact ⟨0, by omega, rfl, by simpa using hrow0, (Ext.refl W0).alloc _⟩
  case round =>
    clear hrow0 hx0
    obtain ⟨c, hc, rfl, hrow, hext⟩ := hrel
    by_cases hlt : c < 4
    · have hci : (c : Int) < 4 := by omega
      have HR := Lib.hid hrow; have HE := Lib.hid hext
      clear hrow hext
      go_wp2
      go_loopw [6] (fun i wr2 => ∃ r : Nat, r ≤ 4 ∧ i = .int .i64 r ∧ Row wr2 (w.heap.size + 1) 5 (M.take (4 * c + r) ++ List.replicate (16 - (4 * c + r)) 0) ∧ Ext W0 wr2) (fun i _ => 4 - (intOf i).toNat)
      case atStart => exact ⟨0, by omega, rfl, HR.out, HE.out⟩
      case round =>
        clear HR HE
        obtain ⟨r, hr, rfl, hrow, hext⟩ := hrel
        by_cases hlr : r < 4
        · have hri : (r : Int) < 4 := by omega
          have HR := Lib.hid hrow; have HE := Lib.hid hext
          clear hrow hext
          go_wp2
          go_loopw [7, 8] (fun n i wr3 => ∃ k : Nat, k ≤ 4 ∧ i = .int .i64 k ∧ n = .int .u8 ((dotN l c r k).toNat : Int) ∧ Row wr3 (w.heap.size + 1) 5 (M.take (4 * c + r) ++ List.replicate (16 - (4 * c + r)) 0) ∧ Ext W0 wr3) (fun _ i _ => 4 - (intOf i).toNat)
          case atStart => exact ⟨0, by omega, rfl, rfl, HR.out, HE.out⟩
          case round =>
            clear HR HE
            obtain ⟨k, hk, rfl, rfl, hrow, hext⟩ := hrel
            have HR := Lib.hid hrow; have HE := Lib.hid hext
            clear hrow hext
            by_cases hlk : k < 4
            · have hki : (k : Int) < 4 := by omega
              have hk0 : (0 : Int) ≤ (k : Int) := by omega
              obtain ⟨m, hm⟩ : ∃ m : Nat, ((k : Int) - (r : Int) + 4) % 4 = (m : Int) := ⟨(k + 4 - r) % 4, by omega⟩
              have hm2 : m = (k + 4 - r) % 4 := by omega
              have hmt : ((k : Int) - (r : Int) + 4).tmod 4 = (m : Int) := by rw [Int.tmod_eq_emod_of_nonneg (by omega)]; exact hm
              have hm4 : m < 4 := by omega
              have hmi : (m : Int) < 4 := by omega
              have hm0 : (0 : Int) ≤ (m : Int) := by omega
              obtain ⟨x, hx⟩ : ∃ x : Nat, 4 * (c : Int) + (k : Int) = (x : Int) := ⟨4 * c + k, by omega⟩
              have hx2 : x = 4 * c + k := by omega
              have hx16 : x < 16 := by omega
              have hxi : (x : Int) < 16 := by omega
              have hw1 : IntKind.i64.wrap ((k : Int) - (r : Int)) = (k : Int) - (r : Int) := IntWalk.i64_in _ ⟨by omega, by omega⟩
              have hw2 : IntKind.i64.wrap ((k : Int) - (r : Int) + 4) = (k : Int) - (r : Int) + 4 := IntWalk.i64_in _ ⟨by omega, by omega⟩
              have hw3 : IntKind.i64.wrap (4 * (c : Int)) = 4 * (c : Int) := IntWalk.i64_in _ ⟨by omega, by omega⟩
              have hw4 : IntKind.i64.wrap (4 * (c : Int) + (k : Int)) = 4 * (c : Int) + (k : Int) := IntWalk.i64_in _ ⟨by omega, by omega⟩
              have hw5 : IntKind.i64.wrap (x : Int) = (x : Int) := IntWalk.i64_in _ ⟨by omega, by omega⟩
              have hcb := (Below.cell HE.out.below (p := ⟨gb, x, none⟩) (Nat.lt_of_lt_of_le hgb HX0.out.size)).trans ((Below.cell HX0.out.below (p := ⟨gb, x, none⟩) hgb).trans (HCB.out x _ (getD_at (by rw [HL.out]; exact hx16))))
              have hcf := (HF.out _ HE.out).cell m _ (facL_at m hm4)
              have hnx : dotN l c r (k + 1) = dotN l c r k ^^^ mulB (l.getD x 0) (facL.getD m 0) := by rw [dotN, hx2, hm2]
              have HNX := Lib.hid hnx
              have hxor := xorB (dotN l c r k) (mulB (l.getD x 0) (facL.getD m 0))
              clear hnx hx2 hm2
              generalize l.getD x 0 = A at *
              generalize facL.getD m 0 = B at *
              have HT := Lib.hid (rtimes_byte A B)
              go_wp2
              go_quiet ((go_at_call 45; exact Calls.quiet_of_same ((HT.out _).mono fun _ _ h => ⟨h.1, h.2.symm⟩)))
              go_wp2
              go_roundw
              case rel => exact ⟨k + 1, by omega, by go_num, by rw [HNX.out, UInt8.toNat_xor], HR.out.drewN _, HE.out.drewN _⟩
              case measure => simp [intOf]; omega
            · obtain rfl : k = 4 := by omega
              have hq : 4 * c + r < 16 := by omega
              have hcell := fill_cell HR.out HML.out hq
              have hfz := HR.out.frozen (4 * c + r)
              have hat := HM.out c r hlt hlr
              have HAt := Lib.hid hat
              clear hat
              obtain ⟨y, hy⟩ : ∃ y : Nat, 4 * (c : Int) + (r : Int) = (y : Int) := ⟨4 * c + r, by omega⟩
              have hy2 : 4 * c + r = y := by omega
              have hyi : (y : Int) < 16 := by omega
              have hy16 : y < 16 := by omega
              have hw3 : IntKind.i64.wrap (4 * (c : Int)) = 4 * (c : Int) := IntWalk.i64_in _ ⟨by omega, by omega⟩
              have hw5 : IntKind.i64.wrap (y : Int) = (y : Int) := IntWalk.i64_in _ ⟨by omega, by omega⟩
              rw [hy2] at HR hcell hfz HAt
              have HY := Lib.hid hy2
              clear hy2 hq
              have e4 : ((4 : Nat) : Int) = 4 := rfl
              rw [e4]
              clear e4
              generalize dotN l c r 4 = V at *
              go_wp2
              go_roundw
              case rel => exact ⟨r + 1, by omega, by go_num, by
                have h := fill_step HR.out HML.out hy16 _ _ HAt.out rfl
                rw [← Nat.add_assoc, HY.out]
                exact h, HE.out.setCell (p := ⟨w.heap.size + 1, y, none⟩) (by rw [HG0.out]; exact Nat.le_refl _) _⟩
              case measure => simp [intOf]; omega
        · obtain rfl : r = 4 := by omega
          have e4 : ((4 : Nat) : Int) = 4 := rfl
          rw [e4]
          clear e4
          have HR := Lib.hid hrow; have HE := Lib.hid hext
          clear hrow hext
          go_wp2
          go_roundw
          case rel => exact ⟨c + 1, by omega, by go_num, by
            have h := HR.out
            rw [show 4 * c + 4 = 4 * (c + 1) by omega] at h
            exact h, HE.out⟩
          case measure => simp [intOf]; omega
    · obtain rfl : c = 4 := by omega
      have e4 : ((4 : Nat) : Int) = 4 := rfl
      rw [e4]
      clear e4
      have HR := Lib.hid (fill_done hrow HML.out); have HE := Lib.hid hext
      clear hrow hext
      go_wp2
      go_ret
      exact ⟨_, rfl, by rw [HG0.out]; exact HX0.out.size, HR.out, HX0.out.trans HE.out⟩
end Go.Proofs.Ythglecfbcdikaaa
