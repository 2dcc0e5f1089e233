/- Contracts: the columns of a block mixed, by the document's answer. A text's bytes in a row of their own, as a conversion lays them: what is read, and written, there. Plain: a text's bytes in a row of their own that grows by append. Plain: the round keys as texts. -/
import Derived.Test.YtobhbppogeghnaaGreatDoorM33
import Derived.RegionTactic
import Derived.ChangeAlike
import Derived.BigRegion
import Derived.Deep.QuietTactic
import Derived.BigQuiet
import Derived.Test.YtobhbppogeghnaaGreatDoorProg
import Derived.Test.YtobhbppogeghnaaGreatDoorM00
import Derived.Lib.ConvBytes
import Derived.Laws.AppendOwn
import Derived.Test.YtobhbppogeghnaaGreatDoorM02
import Derived.Lib.FrozenHead
import Derived.Test.YtobhbppogeghnaaGreatDoorM21
section
namespace Go.Proofs.YtobhbppogeghnaaGreatDoor
open Go.RowKit

def facL : List UInt8 := [2, 3, 1, 1]
/-- The first k products of a row and a column. -/
def dotN (l : List UInt8) (c r : Nat) : Nat → UInt8
  | 0 => 0
  | k + 1 => dotN l c r k ^^^ mulB (l.getD (4 * c + k) 0) (facL.getD ((k + 4 - r) % 4) 0)
theorem dotN_mix (l : List UInt8) (c r : Nat) (hc : c < 4) (hr : r < 4) : (mixC l)[4 * c + r]? = some (dotN l c r 4) := by
  unfold mixC mixBy
  have e1 : (4 * c + r) / 4 = c := by omega
  have e2 : (4 * c + r) % 4 = r := by omega
  rw [List.getElem?_map, List.getElem?_range (by omega)]
  simp only [Option.map_some, e1, e2]
  congr 1
  rcases (show r = 0 ∨ r = 1 ∨ r = 2 ∨ r = 3 by omega) with rfl | rfl | rfl | rfl
  all_goals
    simp only [dotN, dot, fac, facL, List.getD_cons_zero, List.getD_cons_succ, Nat.add_zero, UInt8.zero_xor]
    rw [mulB_comm (l.getD (4 * c) 0), mulB_comm (l.getD (4 * c + 1) 0), mulB_comm (l.getD (4 * c + 2) 0), mulB_comm (l.getD (4 * c + 3) 0)]
    rfl
theorem rtimes_byte (a b : UInt8) (w : World) : Calls Tryz.prog 210 #[.int .u8 (a.toNat : Int), .int .u8 (b.toNat : Int)] w fun e w' => e = .returned (.int .u8 ((mulB a b).toNat : Int)) ∧ w = w' := by
  have h := rTimes_any a.toNat b.toNat a.toNat_lt b.toNat_lt w
  rwa [← mulB_nat] at h
theorem xorB (a b : UInt8) : bits BinOp.xor IntKind.u8 (a.toNat : Int) (b.toNat : Int) = ((a ^^^ b).toNat : Int) := by
  rw [u8_xor_nat _ _ a.toNat_lt b.toNat_lt, UInt8.toNat_xor]
theorem facL_at (m : Nat) (h : m < 4) : facL[m]? = some (facL.getD m 0) := by
  rcases (show m = 0 ∨ m = 1 ∨ m = 2 ∨ m = 3 by omega) with rfl | rfl | rfl | rfl <;> rfl
theorem getD_at {l : List UInt8} {i : Nat} (h : i < l.length) : l[i]? = some (l.getD i 0) := by
  rw [List.getD_eq_getElem?_getD, List.getElem?_eq_getElem h]; rfl
set_option maxRecDepth 100000 in
set_option maxHeartbeats 4000000 in
theorem rmixed_any (w : World) (v : Value) (l : List UInt8) (hl : l.length = 16) (hv : BSl w v l) :
    Calls Tryz.prog 184 #[v] w fun e w' => ∃ g, e = .returned (.slice (some ⟨g, 0, none⟩) 16 16) ∧ w.heap.size ≤ g ∧ Row w' g 5 (mixC l) ∧ Ext w w' := by
  have hmk := make_bytes 16 (by omega)
  have e16 : ((16 : Nat) : Int) = 16 := rfl
  rw [e16] at hmk
  clear e16
  obtain ⟨gb, cb, rfl, hgb, hcb⟩ := hv
  rw [hl]
  have HCB := Lib.hid hcb; have HL := Lib.hid hl; have HM := Lib.hid (fun c r hc hr => dotN_mix l c r hc hr); have HML := Lib.hid (mixC_length l)
  clear hcb hl
  generalize mixC l = M at *
  go_enter Tryz.func184, Tryz.ntmps184
  go_wp2
  have hf0 : Row (w.alloc (.cells #[.int .u8 2, .int .u8 3, .int .u8 1, .int .u8 1] 5)) w.heap.size 5 facL := heap_alloc_new w _
  have HF := Lib.hid (fun (u : World) (hu : Ext (w.alloc (.cells #[.int .u8 2, .int .u8 3, .int .u8 1, .int .u8 1] 5)) u) => hf0.ext hu)
  have hx0 : Ext w (w.alloc (.cells #[.int .u8 2, .int .u8 3, .int .u8 1, .int .u8 1] 5)) := (Ext.refl w).alloc _
  have hg0 : w.heap.size + 1 = (w.alloc (.cells #[.int .u8 2, .int .u8 3, .int .u8 1, .int .u8 1] 5)).heap.size := by simp
  have hrow0 : Row ((w.alloc (.cells #[.int .u8 2, .int .u8 3, .int .u8 1, .int .u8 1] 5)).alloc (.cells (madeCells #[.int .u8 0] 16) 5)) (w.heap.size + 1) 5 (List.replicate 16 0) := by rw [hg0]; exact Row.made _ _ _
  have HG0 := Lib.hid hg0
  clear hf0 hg0
  generalize w.alloc (.cells #[.int .u8 2, .int .u8 3, .int .u8 1, .int .u8 1] 5) = W0 at *
  have HX0 := Lib.hid hx0
  go_loopw [5] (fun i wr => ∃ c : Nat, c ≤ 4 ∧ i = .int .i64 c ∧ Row wr (w.heap.size + 1) 5 (M.take (4 * c) ++ List.replicate (16 - 4 * c) 0) ∧ Ext W0 wr) (fun i _ => 4 - (intOf i).toNat)
  case atStart => exact ⟨0, by omega, rfl, by simpa using hrow0, (Ext.refl W0).alloc _⟩
  case round =>
    clear hrow0 hx0
    obtain ⟨c, hc, rfl, hrow, hext⟩ := hrel
    by_cases hlt : c < 4
    · have hci : (c : Int) < 4 := by omega
      have HR := Lib.hid hrow; have HE := Lib.hid hext
      clear hrow hext
      go_wp2
      go_loopw [6] (fun i wr2 => ∃ r : Nat, r ≤ 4 ∧ i = .int .i64 r ∧ Row wr2 (w.heap.size + 1) 5 (M.take (4 * c + r) ++ List.replicate (16 - (4 * c + r)) 0) ∧ Ext W0 wr2) (fun i _ => 4 - (intOf i).toNat)
      case atStart => exact ⟨0, by omega, rfl, HR.out, HE.out⟩
      case round =>
        clear HR HE
        obtain ⟨r, hr, rfl, hrow, hext⟩ := hrel
        by_cases hlr : r < 4
        · have hri : (r : Int) < 4 := by omega
          have HR := Lib.hid hrow; have HE := Lib.hid hext
          clear hrow hext
          go_wp2
          go_loopw [7, 8] (fun n i wr3 => ∃ k : Nat, k ≤ 4 ∧ i = .int .i64 k ∧ n = .int .u8 ((dotN l c r k).toNat : Int) ∧ Row wr3 (w.heap.size + 1) 5 (M.take (4 * c + r) ++ List.replicate (16 - (4 * c + r)) 0) ∧ Ext W0 wr3) (fun _ i _ => 4 - (intOf i).toNat)
          case atStart => exact ⟨0, by omega, rfl, rfl, HR.out, HE.out⟩
          case round =>
            clear HR HE
            obtain ⟨k, hk, rfl, rfl, hrow, hext⟩ := hrel
            have HR := Lib.hid hrow; have HE := Lib.hid hext
            clear hrow hext
            by_cases hlk : k < 4
            · have hki : (k : Int) < 4 := by omega
              have hk0 : (0 : Int) ≤ (k : Int) := by omega
              obtain ⟨m, hm⟩ : ∃ m : Nat, ((k : Int) - (r : Int) + 4) % 4 = (m : Int) := ⟨(k + 4 - r) % 4, by omega⟩
              have hm2 : m = (k + 4 - r) % 4 := by omega
              have hmt : ((k : Int) - (r : Int) + 4).tmod 4 = (m : Int) := by rw [Int.tmod_eq_emod_of_nonneg (by omega)]; exact hm
              have hm4 : m < 4 := by omega
              have hmi : (m : Int) < 4 := by omega
              have hm0 : (0 : Int) ≤ (m : Int) := by omega
              obtain ⟨x, hx⟩ : ∃ x : Nat, 4 * (c : Int) + (k : Int) = (x : Int) := ⟨4 * c + k, by omega⟩
              have hx2 : x = 4 * c + k := by omega
              have hx16 : x < 16 := by omega
              have hxi : (x : Int) < 16 := by omega
              have hw1 : IntKind.i64.wrap ((k : Int) - (r : Int)) = (k : Int) - (r : Int) := IntWalk.i64_in _ ⟨by omega, by omega⟩
              have hw2 : IntKind.i64.wrap ((k : Int) - (r : Int) + 4) = (k : Int) - (r : Int) + 4 := IntWalk.i64_in _ ⟨by omega, by omega⟩
              have hw3 : IntKind.i64.wrap (4 * (c : Int)) = 4 * (c : Int) := IntWalk.i64_in _ ⟨by omega, by omega⟩
              have hw4 : IntKind.i64.wrap (4 * (c : Int) + (k : Int)) = 4 * (c : Int) + (k : Int) := IntWalk.i64_in _ ⟨by omega, by omega⟩
              have hw5 : IntKind.i64.wrap (x : Int) = (x : Int) := IntWalk.i64_in _ ⟨by omega, by omega⟩
              have hcb := (Below.cell HE.out.below (p := ⟨gb, x, none⟩) (Nat.lt_of_lt_of_le hgb HX0.out.size)).trans ((Below.cell HX0.out.below (p := ⟨gb, x, none⟩) hgb).trans (HCB.out x _ (getD_at (by rw [HL.out]; exact hx16))))
              have hcf := (HF.out _ HE.out).cell m _ (facL_at m hm4)
              have hnx : dotN l c r (k + 1) = dotN l c r k ^^^ mulB (l.getD x 0) (facL.getD m 0) := by rw [dotN, hx2, hm2]
              have HNX := Lib.hid hnx
              have hxor := xorB (dotN l c r k) (mulB (l.getD x 0) (facL.getD m 0))
              clear hnx hx2 hm2
              generalize l.getD x 0 = A at *
              generalize facL.getD m 0 = B at *
              have HT := Lib.hid (rtimes_byte A B)
              go_wp2
              go_quiet ((go_at_call 210; exact Calls.quiet_of_same ((HT.out _).mono fun _ _ h => ⟨h.1, h.2.symm⟩)))
              go_wp2
              go_roundw
              case rel => exact ⟨k + 1, by omega, by go_num, by rw [HNX.out, UInt8.toNat_xor], HR.out.drewN _, HE.out.drewN _⟩
              case measure => simp [intOf]; omega
            · obtain rfl : k = 4 := by omega
              have hq : 4 * c + r < 16 := by omega
              have hcell := fill_cell HR.out HML.out hq
              have hfz := HR.out.frozen (4 * c + r)
              have hat := HM.out c r hlt hlr
              have HAt := Lib.hid hat
              clear hat
              obtain ⟨y, hy⟩ : ∃ y : Nat, 4 * (c : Int) + (r : Int) = (y : Int) := ⟨4 * c + r, by omega⟩
              have hy2 : 4 * c + r = y := by omega
              have hyi : (y : Int) < 16 := by omega
              have hy16 : y < 16 := by omega
              have hw3 : IntKind.i64.wrap (4 * (c : Int)) = 4 * (c : Int) := IntWalk.i64_in _ ⟨by omega, by omega⟩
              have hw5 : IntKind.i64.wrap (y : Int) = (y : Int) := IntWalk.i64_in _ ⟨by omega, by omega⟩
              rw [hy2] at HR hcell hfz HAt
              have HY := Lib.hid hy2
              clear hy2 hq
              have e4 : ((4 : Nat) : Int) = 4 := rfl
              rw [e4]
              clear e4
              generalize dotN l c r 4 = V at *
              go_wp2
              go_roundw
              case rel => exact ⟨r + 1, by omega, by go_num, by
                have h := fill_step HR.out HML.out hy16 _ _ HAt.out rfl
                rw [← Nat.add_assoc, HY.out]
                exact h, HE.out.setCell (p := ⟨w.heap.size + 1, y, none⟩) (by rw [HG0.out]; exact Nat.le_refl _) _⟩
              case measure => simp [intOf]; omega
        · obtain rfl : r = 4 := by omega
          have e4 : ((4 : Nat) : Int) = 4 := rfl
          rw [e4]
          clear e4
          have HR := Lib.hid hrow; have HE := Lib.hid hext
          clear hrow hext
          go_wp2
          go_roundw
          case rel => exact ⟨c + 1, by omega, by go_num, by
            have h := HR.out
            rw [show 4 * c + 4 = 4 * (c + 1) by omega] at h
            exact h, HE.out⟩
          case measure => simp [intOf]; omega
    · obtain rfl : c = 4 := by omega
      have e4 : ((4 : Nat) : Int) = 4 := rfl
      rw [e4]
      clear e4
      have HR := Lib.hid (fill_done hrow HML.out); have HE := Lib.hid hext
      clear hrow hext
      go_wp2
      go_ret
      exact ⟨_, rfl, by rw [HG0.out]; exact HX0.out.size, HR.out, HX0.out.trans HE.out⟩
end Go.Proofs.YtobhbppogeghnaaGreatDoor
end

section
namespace Go.Proofs.YtobhbppogeghnaaGreatDoor
open Go.RowKit

/-- Block g begins with these bytes, and is not frozen there. -/
def BRow (w : World) (g : Nat) (t : TypeId) (l : List UInt8) : Prop := ∃ (rest : List Value) (fz : Nat × Nat), w.heap[g]? = some (.cells (l.map cellOf ++ rest).toArray t fz) ∧ l.length ≤ fz.1
section
variable {w w' : World} {g : Nat} {t : TypeId} {l : List UInt8}
theorem BRow.lt (h : BRow w g t l) : g < w.heap.size := by obtain ⟨_, _, h, _⟩ := h; exact heap_lt h
theorem BRow.cell (h : BRow w g t l) (i : Nat) (b : UInt8) (hb : l[i]? = some b) : w.cell? ⟨g, i, none⟩ = some (.int .u8 (b.toNat : Int)) := by
  obtain ⟨rest, fz, h, _⟩ := h
  have hi : i < l.length := (List.getElem?_eq_some_iff.1 hb).1
  rw [cell_of_row w g i _ t fz h]
  rw [List.getElem?_eq_getElem hi] at hb
  obtain rfl := Option.some.inj hb
  simp [List.getElem?_append_left, hi, cellOf]
theorem BRow.frozen (h : BRow w g t l) (i : Nat) (hi : i < l.length) : w.frozen? ⟨g, i, none⟩ = false := by
  obtain ⟨rest, ⟨lo, hi2⟩, h, hl⟩ := h
  have : ¬ lo ≤ i := by simp only at hl; omega
  simp [World.frozen?, h, this]
theorem BRow.set_ (h : BRow w g t l) (i : Nat) (hi : i < l.length) (x : Int) (b : UInt8) (hx : x = (b.toNat : Int)) : BRow (w.setCell ⟨g, i, none⟩ (.int .u8 x)) g t (l.set i b) := by
  subst hx
  obtain ⟨rest, fz, h, hl⟩ := h
  refine ⟨rest, fz, ?_, by simpa using hl⟩
  have e : (l.map cellOf ++ rest).set i (.int .u8 (b.toNat : Int)) = (l.set i b).map cellOf ++ rest := by
    rw [List.set_append_left _ _ (by simpa using hi), List.map_set]; rfl
  simp [World.setCell, Array.getElem?_modify, h]
  rw [e, List.map_set]
theorem BRow.ext (h : BRow w g t l) (hb : Ext w w') : BRow w' g t l := by
  have hlt := h.lt
  obtain ⟨rest, fz, h, hl⟩ := h
  exact ⟨rest, fz, (hb.block g hlt).trans h, hl⟩
set_option maxRecDepth 100000 in
/-- The text of the first n bytes. -/
theorem BRow.text (h : BRow w g t l) (n c : Nat) (hn : n ≤ l.length) :
    (convert 43 9 (.slice (some ⟨g, 0, none⟩) n c)).run Tryz.prog w = .ok (.string ⟨(l.take n).toArray⟩) w := by
  have hc := run_convert_bytes_arg (P := Tryz.prog) w 43 5 Tryz.underlying43 Tryz.underlying5 g 0 n c ((l.take n).map fun c => (c.toNat : Int)) (by simp; omega) (by
    intro i hi
    have hi2 : i < l.length := by omega
    have := h.cell i l[i] (List.getElem?_eq_getElem hi2)
    simpa [List.getD, hi, List.getElem?_eq_getElem hi2] using this) 9 Tryz.underlying9
  rw [hc]
  have e : strOfNums ((l.take n).map fun c => (c.toNat : Int)) = ⟨(l.take n).toArray⟩ := by
    unfold strOfNums
    congr 2
    rw [List.map_map]
    conv => rhs; rw [← List.map_id (l.take n)]
    apply List.map_congr_left
    intro b _
    simp
  rw [e]
end
/-- What a conversion of a text lays. -/
theorem bytes_of_text (w : World) (s : ByteArray) : ∃ (c : Nat) (W : World), (convert 9 43 (.string s)).run Tryz.prog w = .ok (.slice (some ⟨w.heap.size, 0, none⟩) s.size c) W ∧ s.size ≤ c ∧ Ext w W ∧ BRow W w.heap.size 5 s.data.toList := by
  refine ⟨grownCap w s.size 0 5, Lib.bytesWorld w 5 s, Lib.run_convert_string_bytes (P := Tryz.prog) w 9 43 5 s Tryz.underlying9 Tryz.underlying43 Tryz.underlying5, grownCap_ge w s.size 0 5, ?_, ?_⟩
  · refine ⟨?_, ?_, ?_, by rw [Lib.bytesWorld_size]; omega, fun k hk => Lib.bytesWorld_at_old w _ s k hk⟩
    all_goals
      unfold Lib.bytesWorld World.freeze
      split <;> rfl
  · refine ⟨List.replicate (grownCap w s.size 0 5 - s.size) (.int .u8 0), ((Lib.bytesCells w 5 s).size, (Lib.bytesCells w 5 s).size + 1), ?_, ?_⟩
    · rw [Lib.bytesWorld_at_new]
      have e : Lib.bytesCells w 5 s = (s.data.toList.map cellOf ++ List.replicate (grownCap w s.size 0 5 - s.size) (Value.int .u8 0)).toArray := by
        unfold Lib.bytesCells
        apply Array.toList_inj.1
        simp
        intro a _
        rfl
      rw [← e]
    · have := grownCap_ge w s.size 0 5
      simp [Lib.bytesCells]
end Go.Proofs.YtobhbppogeghnaaGreatDoor
end

section
namespace Go.Proofs.YtobhbppogeghnaaGreatDoor
open Go.RowKit

/-- A slice of bytes of the call's own, as a conversion lays it, or an append: the row is not frozen where bytes may come. -/
def BufT (w : World) (B : Nat) (v : Value) (l : List UInt8) : Prop :=
  ∃ g cap cur fz, v = .slice (some ⟨g, 0, none⟩) l.length cap ∧ B ≤ g ∧ w.heap[g]? = some (.cells cur 5 fz) ∧ (fz.2 = 0 ∨ cap ≤ fz.1) ∧ l.length ≤ cap ∧ cap ≤ maxLen ∧ cur.size = cap ∧ cur.toList.take l.length = l.map cellOf
section
variable {w w' : World} {B : Nat} {v : Value} {l : List UInt8}
theorem BufT.ext (h : BufT w B v l) (hx : Ext w w') : BufT w' B v l := by
  obtain ⟨g, cap, cur, fz, h1, h2, h3, h4⟩ := h
  exact ⟨g, cap, cur, fz, h1, h2, (hx.block g (heap_lt h3)).trans h3, h4⟩
theorem BufT.cells (h : BufT w B v l) : ∃ g c, v = .slice (some ⟨g, 0, none⟩) l.length c ∧ B ≤ g ∧ g < w.heap.size ∧ ∀ (i : Nat) (b : UInt8), l[i]? = some b → w.cell? ⟨g, i, none⟩ = some (.int .u8 (b.toNat : Int)) := by
  obtain ⟨g, cap, cur, fz, h1, h2, h3, h4, h5, h6, h7, h8⟩ := h
  refine ⟨g, cap, h1, h2, heap_lt h3, fun i b hb => ?_⟩
  have hi : i < l.length := (List.getElem?_eq_some_iff.1 hb).1
  rw [cell_of_row w g i cur _ fz h3]
  have e : cur.toList[i]? = (l.map cellOf)[i]? := by rw [← h8, List.getElem?_take, if_pos (by omega)]
  rw [← Array.getElem?_toList, e]
  simp [hb, cellOf]
end
/-- '[]byte(s)'. -/
theorem bufT_of_text (w : World) (s : ByteArray) (hs : s.size ≤ 1099511627776) : ∃ (c : Nat) (W : World), (convert 9 43 (.string s)).run Tryz.prog w = .ok (.slice (some ⟨w.heap.size, 0, none⟩) s.size c) W ∧ s.size ≤ c ∧ Ext w W ∧ BufT W w.heap.size (.slice (some ⟨w.heap.size, 0, none⟩) s.size c) s.data.toList := by
  have hge := grownCap_ge w s.size 0 5
  refine ⟨grownCap w s.size 0 5, Lib.bytesWorld w 5 s, Lib.run_convert_string_bytes (P := Tryz.prog) w 9 43 5 s Tryz.underlying9 Tryz.underlying43 Tryz.underlying5, hge, ?_, ?_⟩
  · refine ⟨?_, ?_, ?_, by rw [Lib.bytesWorld_size]; omega, fun k hk => Lib.bytesWorld_at_old w _ s k hk⟩
    all_goals
      unfold Lib.bytesWorld World.freeze
      split <;> rfl
  · have hcs : (Lib.bytesCells w 5 s).size = grownCap w s.size 0 5 := by
      unfold Lib.bytesCells
      simp
      show s.size + _ = _
      omega
    refine ⟨w.heap.size, _, Lib.bytesCells w 5 s, _, by rw [size_list], Nat.le_refl _, Lib.bytesWorld_at_new w _ s, .inr (by rw [hcs]; exact Nat.le_refl _), by rw [size_list]; exact hge, grownCap_le_maxLen w _ _ _ (by unfold maxLen; omega), hcs, ?_⟩
    unfold Lib.bytesCells
    rw [Array.toList_append, List.take_append_of_le_length (by simp), List.take_of_length_le (by simp)]
    simp
    intro a _
    rfl
theorem run_storeCells_atT (P : Program) (g o : Nat) (t : TypeId) (fz : Nat × Nat) : ∀ (vs : List Value) (i : Nat) (cur : Array Value) (w : World), w.heap[g]? = some (.cells cur t fz) → (fz.2 = 0 ∨ cur.size ≤ fz.1) → o + i + vs.length ≤ cur.size → (∀ v ∈ vs, v.oneCell' = true) →
    (storeCells ⟨g, o, none⟩ vs i).run P w = .ok () (w.setRow g (cur.toList.take (o + i) ++ vs ++ cur.toList.drop (o + i + vs.length)).toArray)
  | [], i, cur, w, hg, _, _, _ => by
    simp only [storeCells, List.append_nil, List.length_nil, Nat.add_zero, List.take_append_drop, Array.toArray_toList]
    rw [setRow_self w g cur t fz hg]
    rfl
  | v :: rest, i, cur, w, hg, hfz, hl, h1 => by
    have hi : o + i < cur.size := by simp at hl; omega
    have hadd : (⟨g, o, none⟩ : Addr).add i = ⟨g, o + i, none⟩ := by unfold Addr.add; split <;> simp_all
    have hcell : w.cell? ⟨g, o + i, none⟩ = some cur[o + i] := by simp [World.cell?, hg, hi]
    have hfro : w.frozen? ⟨g, o + i, none⟩ = false := by
      obtain ⟨lo, hi'⟩ := fz
      simp only [World.frozen?, hg, Bool.and_eq_false_iff, decide_eq_false_iff_not]
      simp only at hfz
      omega
    have hst : (store ((⟨g, o, none⟩ : Addr).add i) v).run P w = .ok () (w.setRow g (cur.setIfInBounds (o + i) v)) := by
      rw [hadd, run_store P w _ v _ (h1 v (by simp)), hcell]
      simp [hfro, setCell_eq_setRow w g (o + i) cur t fz v hg]
    have ih := run_storeCells_atT P g o t fz rest (i + 1) (cur.setIfInBounds (o + i) v) (w.setRow g (cur.setIfInBounds (o + i) v)) (setRow_heap w g cur _ t _ hg) (by simpa using hfz) (by simp at hl ⊢; omega) (fun x hx => h1 x (by simp [hx]))
    simp only [storeCells, Sem.run_bind, hst, Result.andThen_ok, ih, setRow_setRow]
    congr 3
    have e := list_seg_step cur.toList (o + i) v rest (by simp at hl ⊢; omega)
    simpa [Array.toList_setIfInBounds, Nat.add_assoc] using e
/-- 'append(b, ..)' of a block of new bytes, run. -/
theorem run_appendT (w : World) (ty : TypeId) (B : Nat) (v : Value) (l : List UInt8) (h : BufT w B v l) (g2 m : Nat) (news : List UInt8) (hl : news.length = m) (hrow : Row w g2 5 news) (hlen : l.length + m ≤ 140737488355328) (hB : B ≤ w.heap.size) (x : Nat) (hxs : x < w.heap.size) (hxv : ∀ n c, v ≠ .slice (some ⟨x, 0, none⟩) n c) :
    ∃ v' w', (Builtin.append_ #[43, 43] ty #[v, .slice (some ⟨g2, 0, none⟩) m m]).run Tryz.prog w = .ok v' w' ∧ BufT w' B v' (l ++ news) ∧ Below B w w' ∧ w'.heap[x]? = w.heap[x]? ∧ (∀ n c, v' ≠ .slice (some ⟨x, 0, none⟩) n c) := by
  obtain ⟨i0, hi, hz0, hz1, hz2⟩ := info_parts info5
  obtain ⟨g, cap, cur, fz, rfl, hbg, hg, hfz, hnc, hcm, hcs, htake⟩ := h
  have hnews : ∀ j u, (news.map cellOf)[j]? = some u → w.cell? ((⟨g2, 0, none⟩ : Addr).add j) = some u := by
    intro j u hj
    have e : ((⟨g2, 0, none⟩ : Addr).add j) = ⟨g2, j, none⟩ := by unfold Addr.add; split <;> simp_all
    rw [e, cell_of_row w g2 j _ _ (0, 0) hrow]
    simpa using hj
  have h1 : ∀ u ∈ news.map cellOf, u.oneCell' = true := by
    intro u hu
    simp only [List.mem_map] at hu
    obtain ⟨b, _, rfl⟩ := hu
    rfl
  have hln : (news.map cellOf).length = m * i0.size := by rw [hz1]; simp [hl]
  have hgx : g ≠ x := fun e => hxv l.length cap (by rw [e])
  by_cases hroom : l.length + m ≤ cap
  · have hf := run_firstCells_some (P := Tryz.prog) w i0.size m ⟨g2, 0, none⟩ m m (news.map cellOf) hln hnews
    have hst := run_storeCells_atT Tryz.prog g (l.length * i0.size) 5 fz (news.map cellOf) 0 cur w hg (by rw [hcs]; exact hfz) (by rw [hz1]; simp [hl]; omega) h1
    simp only [Nat.add_zero] at hst
    have hr : (Builtin.append_ #[43, 43] ty #[.slice (some ⟨g, 0, none⟩) l.length cap, .slice (some ⟨g2, 0, none⟩) m m]).run Tryz.prog w =
        .ok (.slice (some ⟨g, 0, none⟩) (l.length + m) cap) (w.setRow g (cur.toList.take (l.length * i0.size) ++ news.map cellOf ++ cur.toList.drop (l.length * i0.size + (news.map cellOf).length)).toArray) := by
      simp [Builtin.append_, run_underlying Tryz.underlying43, sizeOf, typeInfo, hi, Builtin.lenOf, hroom, hf, Addr.add_lit, hst]
    refine ⟨_, _, hr, ?_, ?_, setRow_other w g x _ (Ne.symm hgx), fun n c h => by injection h with h1; injection h1 with h2; injection h2 with h3; exact hgx h3⟩
    · refine ⟨g, cap, _, fz, by rw [List.length_append, hl], hbg, setRow_heap w g cur _ _ _ hg, hfz, by rw [List.length_append, hl]; exact hroom, hcm, ?_, ?_⟩
      · simp [hz1, hl, hcs]; omega
      · simp only [hz1, Nat.mul_one]
        rw [htake, List.map_append, List.length_append]
        exact List.take_left' (by simp)
    · exact ⟨rfl, rfl, rfl, by simp, fun k hk => setRow_other w g k _ (by omega)⟩
  · have holds : ∀ j u, (l.map cellOf)[j]? = some u → w.cell? ((⟨g, 0, none⟩ : Addr).add j) = some u := by
      intro j u hu
      have e : ((⟨g, 0, none⟩ : Addr).add j) = ⟨g, j, none⟩ := by unfold Addr.add; split <;> simp_all
      rw [e, cell_of_row w g j cur _ fz hg, ← Array.getElem?_toList]
      rw [← htake, List.getElem?_take] at hu
      split at hu
      · exact hu
      · cases hu
    have hr := run_append_grow (P := Tryz.prog) w 43 ty 5 i0 (.int .u8 0) Tryz.underlying43 hi hz0 ⟨g, 0, none⟩ l.length cap (l.map cellOf) (by rw [hz1]; simp) holds ⟨g2, 0, none⟩ m m (news.map cellOf) hln hnews (by omega) (by omega) (growslice_fits (by omega) (by rw [hz2]; omega))
    have hge := grownCap_ge w (l.length + m) cap 5
    have hcm2 := grownCap_le_maxLen w (l.length + m) cap 5 (by unfold maxLen; omega)
    refine ⟨_, _, hr, ⟨w.heap.size, _, _, (0, 0), by rw [List.length_append, hl], hB, heap_alloc_new w.drew _, .inl rfl, by rw [List.length_append, hl]; exact hge, hcm2, ?_, ?_⟩, ⟨rfl, rfl, rfl, by simp, fun k hk => Below.heap_alloc w.drew _ k (Nat.lt_of_lt_of_le hk hB)⟩, Below.heap_alloc w.drew _ x hxs, fun n c h => by injection h with h1; injection h1 with h2; injection h2 with h3; omega⟩
    · have hz : (Value.int IntKind.u8 0).cells.size = 1 := rfl
      simp [size_zeroCells, hl, hz]
      omega
    · rw [Array.toList_append, Array.toList_append, List.map_append, List.length_append]
      exact List.take_left' (by simp)
/-- The same, in a walk. -/
theorem wp_appendT {w : World} {o : Oper} {a : Act} {K : Act → World → Prop} {Q : Exit → Act → World → Prop} (s x : Operand)
    (ho : o.op = .call { callee := .builtin .append, args := #[s, x], argTypes := #[43, 43] })
    (B : Nat) (v : Value) (l : List UInt8) (hs : a.eval s = v) (hbuf : BufT w B v l) (g m : Nat) (news : List UInt8) (hx : a.eval x = .slice (some ⟨g, 0, none⟩) m m) (hl : news.length = m) (hrow : Row w g 5 news)
    (hlen : l.length + m ≤ 140737488355328) (hB : B ≤ w.heap.size) (y : Nat) (hxs : y < w.heap.size) (hxv : ∀ n c, v ≠ .slice (some ⟨y, 0, none⟩) n c)
    (h : ∀ v' w', BufT w' B v' (l ++ news) → Below B w w' → w'.heap[y]? = w.heap[y]? → (∀ n c, v' ≠ .slice (some ⟨y, 0, none⟩) n c) → K (a.put o.dst v') w') : Oper.wp Tryz.prog o a w K Q := by
  obtain ⟨v', w', hr, h2, h3, h4, h5⟩ := run_appendT w o.type B v l hbuf g m news hl hrow hlen hB y hxs hxv
  unfold Oper.wp execOp
  simp only [ho, resolve, invoke, builtin, Sem.run_bind, Sem.run_pure, Result.andThen_ok, List.map_toArray, List.map_cons, List.map_nil, hs, hx, hr]
  exact h v' w' h2 h3 h4 h5
theorem step_appendT {w : World} {ops : Array Oper} {o : Oper} {a : Act} {K : Act → World → Prop} {Q : Exit → Act → World → Prop} {E : Prop} (hg : o.guard = none) (s x : Operand)
    (ho : o.op = .call { callee := .builtin .append, args := #[s, x], argTypes := #[43, 43] })
    (B : Nat) (v : Value) (l : List UInt8) (hs : a.eval s = v) (hbuf : BufT w B v l) (g m : Nat) (news : List UInt8) (hx : a.eval x = .slice (some ⟨g, 0, none⟩) m m) (hl : news.length = m) (hrow : Row w g 5 news)
    (hlen : l.length + m ≤ 140737488355328) (hB : B ≤ w.heap.size) (y : Nat) (hxs : y < w.heap.size) (hxv : ∀ n c, v ≠ .slice (some ⟨y, 0, none⟩) n c)
    (h : ∀ v' w', BufT w' B v' (l ++ news) → Below B w w' → w'.heap[y]? = w.heap[y]? → (∀ n c, v' ≠ .slice (some ⟨y, 0, none⟩) n c) → K (a.put o.dst v') w') : if Region.wanted o (yielded ops a.tmps) = true then Oper.wp Tryz.prog o a w K Q else E := by
  have hw : Region.wanted o (yielded ops a.tmps) = true := by simp [Region.wanted, hg]
  rw [if_pos hw]
  exact wp_appendT s x ho B v l hs hbuf g m news hx hl hrow hlen hB y hxs hxv h
end Go.Proofs.YtobhbppogeghnaaGreatDoor
end

section
namespace Go.Proofs.YtobhbppogeghnaaGreatDoor
theorem rkey_text {key : List UInt8} (i : Nat) : ((expand key 40).drop (16 * i)).take 16 = rkey key i := by unfold rkey; rfl
def keyTexts (key : List UInt8) : List ByteArray := (List.range 11).map fun i => ⟨(rkey key i).toArray⟩
theorem keyTexts_length (key : List UInt8) : (keyTexts key).length = 11 := by simp [keyTexts]
theorem keyTexts_take (key : List UInt8) (i : Nat) (h : i < 11) : (keyTexts key).take (i + 1) = (keyTexts key).take i ++ [⟨(rkey key i).toArray⟩] := by
  have hl : i < (keyTexts key).length := by rw [keyTexts_length]; exact h
  rw [List.take_succ_eq_append_getElem hl]
  simp [keyTexts]
theorem keyTexts_at (key : List UInt8) (i : Nat) (h : i < 11) : (keyTexts key)[i]? = some ⟨(rkey key i).toArray⟩ := by unfold keyTexts; simp [h]
end Go.Proofs.YtobhbppogeghnaaGreatDoor
end
