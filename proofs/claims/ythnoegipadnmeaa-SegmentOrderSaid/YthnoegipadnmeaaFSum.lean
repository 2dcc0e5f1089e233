/- Contracts: a frame's sum, and what stands ahead of a record's text, by the program. -/
import Derived.Test.YthnoegipadnmeaaLay
import Derived.Test.YthnoegipadnmeaaPSum
import Derived.Test.YthnoegipadnmeaaTextAt
import Derived.Laws.Rows
import Derived.Laws.Tables
import Derived.StillTailTactics
import Derived.BigQuiet
import Derived.Deep.QuietTactic
namespace Go.Proofs.Ythnoegipadnmeaa
open Go.RowKit

set_option maxRecDepth 100000 in
/-- The text of a block's first bytes. -/
theorem Row.text_to {w : World} {g : Nat} {t : TypeId} {l : List UInt8} (h : Row w g t l) (n c : Nat) (hn : n ≤ l.length) :
    (convert 55 9 (.slice (some ⟨g, 0, none⟩) n c)).run Try.prog w = .ok (.string ⟨(l.take n).toArray⟩) w := by
  have hc := run_convert_bytes_arg (P := Try.prog) w 55 5 Try.underlying55 Try.underlying5 g 0 n c ((l.take n).map fun c => (c.toNat : Int)) (by simp; omega) (by
    intro i hi
    have hi2 : i < l.length := by omega
    have := h.cell i l[i] (List.getElem?_eq_getElem hi2)
    simpa [List.getD, hi, List.getElem?_eq_getElem hi2] using this) 9 Try.underlying9
  rw [hc]
  have e : strOfNums ((l.take n).map fun c => (c.toNat : Int)) = ⟨(l.take n).toArray⟩ := by
    unfold strOfNums
    congr 2
    rw [List.map_map]
    conv => rhs; rw [← List.map_id (l.take n)]
    apply List.map_congr_left
    intro b _
    simp
  rw [e]
/-- A frame's head as a value. -/
def headV (l : List UInt8) : Value := .agg (l.map cellOf).toArray
theorem sizeH : (Try.prog.info? 94).map (·.size) = some 16 := by kernel_rfl
theorem sizedH {l : List UInt8} (hl : l.length = 16) : (Try.prog.info? 94).map (·.size) = some ((l.map cellOf).toArray).size := by simp [sizeH, hl]
set_option maxHeartbeats 1000000 in
theorem fsum_any (l : List UInt8) (hl : l.length = 16) (s : ByteArray) (hs : s.size ≤ 140737488351232) (w : World) :
    Calls Try.prog 48 #[headV l, .string s] w fun e w' => e = .returned (.int .u64 (sumN (l.take 12 ++ s.data.toList) : Int)) ∧ Ext w w' := by
  have hr0 : Row (w.alloc (.cells (l.map cellOf).toArray 94)) w.heap.size 94 l := Blk.new w _ _
  have ht := hr0.text_to 12 16 (by omega)
  have hx0 : Ext w (w.alloc (.cells (l.map cellOf).toArray 94)) := (Ext.refl w).alloc _
  have HS := Lib.hid (fun u => psum_any ⟨(l.take 12).toArray⟩ (by show (l.take 12).length ≤ _; rw [List.length_take]; omega) u)
  have HM := Lib.hid (fun u => pmore_any (moreC 0#32 (l.take 12)) s hs u)
  rw [moreC_append] at HM
  have HE : Hid (sumN (l.take 12 ++ s.data.toList) = (moreC 0#32 (l.take 12 ++ s.data.toList)).toNat) := Lib.hid rfl
  have hlt := (moreC 0#32 (l.take 12 ++ s.data.toList)).isLt
  rw [HE.out]
  clear hr0 HE
  unfold headV
  generalize (moreC 0#32 (l.take 12 ++ s.data.toList)).toNat = m at *
  generalize hc1 : (moreC 0#32 (l.take 12)) = c1 at *
  go_enter Try.func48, Try.ntmps48
  go_wp2_with (first
    | (go_at_call 61; refine (HS.out _).mono ?_; rintro e w1 ⟨rfl, rfl⟩)
    | (go_at_call 60; refine (HM.out _).mono ?_; rintro e w1 ⟨rfl, rfl⟩))
  go_ret
  exact ⟨rfl, hx0⟩
