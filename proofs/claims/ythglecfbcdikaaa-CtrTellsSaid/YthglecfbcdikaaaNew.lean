/- Contracts: the cipher of a key, by the program. -/
import Derived.Test.YthglecfbcdikaaaCellsZ
namespace Go.Proofs.Ythglecfbcdikaaa
open Go.RowKit
attribute [local irreducible] rkey expand enc dec
set_option maxRecDepth 100000 in
set_option maxHeartbeats 1000000 in
theorem New_yes (w : World) (s : ByteArray) (hs : s.size = 16) :
    Calls Try.prog 13 #[.string s] w fun e w' => ∃ c, e = .returned (.tuple #[.pointer (some ⟨c, 0, none⟩), .int .i64 0]) ∧ IsCipher w' c s.data.toList ∧ Ext w w' := by
  have hsl : s.data.toList.length = 16 := by rw [size_list]; exact hs
  have HEL : Hid ((expand s.data.toList 40).length = 176) := Lib.hid (by rw [expand_length hsl 40])
  have HK := Lib.hid (fun u c (h : Blk u c 57 cellsZ) => roundKeys_any u c 1 s hs (cellsZ_box h) h.lt)
  go_enter Try.func13, Try.ntmps13
  go_wp2_with (first
    | (refine wpList_built rfl 57 [(0, .const (.bool true)), (1, .tmp 8)] rfl _ rfl cellsZ.toArray built_cipher ?_)
    | (go_at_call 22; refine (newBoxes_any _).mono ?_; rintro e w1 ⟨rfl, h1⟩)
    | (go_at_call 23; refine (HK.out _ _ (Blk.new w1 cellsZ 57)).mono ?_; rintro e w2 ⟨rfl, h2⟩; have HB := Lib.hid (Blk.new w1 cellsZ 57))
    | (refine wpList_store_mid rfl 55 (.tmp 18) (.tmp 16) rfl w1.heap.size 513 _ rfl rfl ((HB.out.ext h2).there 513 _ (by rw [cellsZ_length, List.size_toArray, List.length_map, HEL.out]; decide)) (sized size176 HEL.out) (cells8_one _) ?_))
  go_ret2
  exact ⟨_, rfl, ⟨hsl, by have h := (HB.out.ext h2).setCells ((expand s.data.toList 40).map cellOf) 513 _ (by rw [cellsZ_length, List.length_map, HEL.out]; decide); rw [cellsZ_keyed _ HEL.out] at h; unfold cipherL; exact h⟩, ((h1.alloc _).trans h2).setCells h1.size _ _⟩
set_option maxRecDepth 100000 in
theorem New_no (w : World) (s : ByteArray) (hs : ¬ s.size = 16) :
    Calls Try.prog 13 #[.string s] w fun e w' => e = .returned (.tuple #[.pointer none, .int .i64 2]) ∧ w = w' := by
  have hn := size_ne s hs
  clear hs
  go_enter Try.func13, Try.ntmps13
  go_wp2
  go_ret2
  exact ⟨rfl, rfl⟩
end Go.Proofs.Ythglecfbcdikaaa
