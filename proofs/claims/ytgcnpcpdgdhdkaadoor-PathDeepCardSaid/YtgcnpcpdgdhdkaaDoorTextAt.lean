/- Plain: a byte of a text. -/
import Derived.Test.YtgcnpcpdgdhdkaaDoorProg
import Derived.Test.YtgcnpcpdgdhdkaaDoorBytes
import Derived.WalkSpells
namespace Go.Proofs.YtgcnpcpdgdhdkaaDoor
open Go.RowKit
theorem text_get (s : ByteArray) (i : Nat) (b : UInt8) (hb : s.data.toList[i]? = some b) : s[i]? = some b := by
  have hi : i < s.data.toList.length := (List.getElem?_eq_some_iff.1 hb).1
  have h2 : i < s.size := by rw [← size_list]; exact hi
  rw [getElem?_pos s i h2]
  rw [List.getElem?_eq_getElem hi] at hb
  exact hb
theorem text_at (s : ByteArray) (i : Nat) (b : UInt8) (hb : s.data.toList[i]? = some b) (h : i < s.size) : s[i] = b := by
  have e := text_get s i b hb
  rw [getElem?_pos s i h] at e
  exact Option.some.inj e
theorem index_text (s : ByteArray) (i : Nat) (b : UInt8) (hb : s.data.toList[i]? = some b) (w : World) :
    (Instr.index 9 (.string s) (.int .i64 (i : Int))).run Tryd.prog w = .ok (.int .u8 (b.toNat : Int)) w := by
  have h := text_get s i b hb
  have hu := Tryd.underlying9
  have h0 : (0 : Int) ≤ (i : Int) := by omega
  simp [Instr.index, run_underlying hu, asIntOf, go_sem, h0, h]
end Go.Proofs.YtgcnpcpdgdhdkaaDoor
