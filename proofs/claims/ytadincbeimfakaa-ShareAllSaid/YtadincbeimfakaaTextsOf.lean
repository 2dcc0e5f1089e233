/- Contract: texts of one length, out of any, by layer 6's law. -/
import Derived.Test.YtadincbeimfakaaFullL
import Derived.Test.YtadincbeimfakaaBufS
import Derived.Test.YtadincbeimfakaaTextsP
import Derived.Deep.RegionLaw
import Derived.StillTailTactics
import Derived.Outline
namespace Go.Proofs.Ytadincbeimfakaa
open Go.RowKit

def textsOf (l : List ByteArray) (n : Nat) : List ByteArray := l.map fun s => ⟨(fullN s n).toArray⟩
theorem textsOf_take (l : List ByteArray) (n j : Nat) (s : ByteArray) (h : l[j]? = some s) : (textsOf l n).take (j + 1) = (textsOf l n).take j ++ [⟨(fullN s n).toArray⟩] := by
  unfold textsOf
  rw [List.take_add_one, List.getElem?_map, h]
  rfl
theorem textsOf_length (l : List ByteArray) (n : Nat) : (textsOf l n).length = l.length := by simp [textsOf]
set_option maxRecDepth 100000 in
set_option maxHeartbeats 2000000 in
theorem texts_any (w : World) (p : Option Addr) (c : Nat) (l : List ByteArray) (n : Nat) (hn : n ≤ 1048576) (hl : l.length ≤ 50) (h : TextsP w p l) :
    Calls Try.prog 9 #[.slice p l.length c, .int .i64 (n : Int)] w fun e w' => ∃ v, e = .returned v ∧ BufS w' w.heap.size v (textsOf l n) ∧ Ext w w' := by
  have hmk := make_bytes n (by omega)
  obtain ⟨C, hC⟩ : ∃ C, madeCells #[Value.int .u8 0] n = C := ⟨_, rfl⟩
  rw [hC] at hmk
  have HCp := Lib.hid (fun u s => copy_full u C s n hC)
  have HTx := Lib.hid (fun u s => text_full u C s n hC)
  have HT := Lib.hid (fun j s hs => textsOf_take l n j s hs)
  have HTL := Lib.hid (textsOf_length l n)
  have HH := Lib.hid (fun u (hu : Ext w u) => h.ext hu)
  clear hC h
  go_enter Try.func9, Try.ntmps9
  go_wp2
  go_loopw [5, 6] (fun v i wr => ∃ j : Nat, j ≤ l.length ∧ i = .int .i64 (j : Int) ∧ BufS wr w.heap.size v ((textsOf l n).take j) ∧ Ext w wr) (fun _ i _ => l.length - (intOf i).toNat)
  case atStart => exact ⟨0, Nat.zero_le _, rfl, by rw [List.take_zero]; exact BufS.nil _ _, Ext.refl _⟩
  case round =>
    obtain ⟨j, hj, rfl, hb, hext⟩ := hrel
    have HB := Lib.hid hb; have HE := Lib.hid hext
    by_cases hlt : j < l.length
    · obtain ⟨s, hs⟩ : ∃ s, l[j]? = some s := ⟨_, List.getElem?_eq_getElem hlt⟩
      obtain ⟨a, rfl, _, hc1⟩ := HH.out _ (hext.alloc (.cells C 5)) j s hs
      have hcp := fun ty => HCp.out wr s ty
      have htx := HTx.out wr s
      obtain ⟨W2, hW2⟩ : ∃ W2, fullW wr C s n = W2 := ⟨_, rfl⟩
      have hx2 : Ext wr W2 := by rw [← hW2]; exact fullW_ext _ _ _ _
      rw [hW2] at hcp htx
      have HTj := Lib.hid (HT.out j s hs)
      obtain ⟨T, hT⟩ : ∃ T : ByteArray, (⟨(fullN s n).toArray⟩ : ByteArray) = T := ⟨_, rfl⟩
      rw [hT] at htx HTj
      have HX3 := Lib.hid (hx2.alloc (.cells #[.string T] 9))
      have HCl : Hid ((W2.alloc (.cells #[.string T] 9)).cell? ⟨W2.heap.size, 0, none⟩ = some (.string T)) := Lib.hid ((Blk.new W2 [.string T] 9).cell 0 _ rfl)
      have HLe : Hid (((textsOf l n).take j).length ≤ 1000000) := Lib.hid (by rw [List.length_take]; omega)
      clear hb hext hs hW2 hx2 hT
      go_wp2_with (at_builtin; refine append_text rfl (.tmp 22) (.tmp 25) rfl w.heap.size _ _ rfl (HB.out.ext HX3.out) W2.heap.size T rfl HCl.out HLe.out (HE.out.trans HX3.out).size ?_; intro v1 w2 hb1 hx4; have x5 : Ext w w2 := Below.trans (HE.out.trans HX3.out) hx4)
      go_roundw
      case rel => exact ⟨j + 1, hlt, by go_num, by rw [HTj.out]; exact hb1, x5⟩
      case measure => simp [intOf]; omega
    · obtain rfl : j = l.length := by omega
      have hbf := HB.out
      rw [List.take_of_length_le (by rw [HTL.out]; exact Nat.le_refl _)] at hbf
      clear hb
      go_wp2
      go_ret
      exact ⟨_, rfl, hbf, hext⟩
end Go.Proofs.Ytadincbeimfakaa
