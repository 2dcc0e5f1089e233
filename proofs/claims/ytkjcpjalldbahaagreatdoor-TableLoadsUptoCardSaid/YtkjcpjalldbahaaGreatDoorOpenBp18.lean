/- Edits and texts among a law's arguments, opened, where what is read is of small bulk. -/
import Derived.Test.YtkjcpjalldbahaaGreatDoorOpenB18
import Derived.Test.YtkjcpjalldbahaaGreatDoorOpenAct18
namespace Go.Proofs.YtkjcpjalldbahaaGreatDoor
open Go.ChangeShapes Go.WideShapes Go.ChangeAt Go.RowKit
section
variable {H : Type} {enc : TypeId × Value → H} {W : World} {base : Nat} {v : Value} {d : DataW H} {p : List MemPlace}
set_option maxRecDepth 100000 in
theorem open_editos_Bp (hval : Value.okWide Tryz.prog W .any base 35 v) (h : DataW.Trod enc Tryz.prog W 0 (fun _ => true) true 35 v d p) (hlt : ∀ x ∈ p, x.block < W.heap.size) (hb : Rows.uptoBulk d ≤ 1048576) :
    ∃ (pa : Option Addr) (c : Nat) (L : List EditO), v = .slice pa L.length c ∧ EditOsP W pa L ∧ (∀ x, x ∈ L → x.Ok ∧ x.Path.size ≤ 1048576 ∧ x.Text.size ≤ 1048576) ∧ L.length ≤ 1048576 := by
  obtain ⟨a0, len, cap, rfl⟩ := okWide_slice Tryz.underlying35 hval
  obtain ⟨fuel, hf⟩ := h
  exact open_editos_B hf hlt hb
set_option maxRecDepth 100000 in
theorem open_texts_Bp (hval : Value.okWide Tryz.prog W .any base 36 v) (h : DataW.Trod enc Tryz.prog W 0 (fun _ => true) true 36 v d p) (hlt : ∀ x ∈ p, x.block < W.heap.size) (hb : Rows.uptoBulk d ≤ 1048576) :
    ∃ (pa : Option Addr) (c : Nat) (L : List ByteArray), v = .slice pa L.length c ∧ TextsP W pa L ∧ (∀ x, x ∈ L → x.size ≤ 1048576) ∧ L.length ≤ 1048576 := by
  obtain ⟨a0, len, cap, rfl⟩ := okWide_slice Tryz.underlying36 hval
  obtain ⟨fuel, hf⟩ := h
  exact open_texts_B hf hlt hb
end
end Go.Proofs.YtkjcpjalldbahaaGreatDoor
