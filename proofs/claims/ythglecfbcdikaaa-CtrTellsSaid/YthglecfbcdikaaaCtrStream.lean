/- Contracts: a stream, by the program. -/
import Derived.Test.YthglecfbcdikaaaCtrFirst
import Derived.Test.YthglecfbcdikaaaCtrErr
import Derived.Test.YthglecfbcdikaaaNew
namespace Go.Proofs.Ythglecfbcdikaaa
open Go.RowKit Go.Shelf
attribute [local irreducible] rkey expand enc dec ctrB ctrC ctrL

theorem blocks_any (c : Nat) (nonce : ByteArray) (f : Nat) (w : World) :
    Calls Try.prog 16 #[.pointer (some ⟨c, 0, none⟩), .string nonce, .int .u32 (f : Int)] w
      fun e w' => e = .returned (.func (.func 27) #[] #[.pointer (some ⟨w.heap.size + 2, 0, none⟩), .pointer (some ⟨w.heap.size, 0, none⟩), .pointer (some ⟨w.heap.size + 1, 0, none⟩)]) ∧
        w' = ((w.alloc (.cells #[.pointer (some ⟨c, 0, none⟩)] 35)).alloc (.cells #[.string nonce] 9)).alloc (.cells #[.int .u32 (f : Int)] 22) := by
  go_enter Try.func16, Try.ntmps16
  go_wp2
  go_ret
  exact ⟨rfl, rfl⟩
theorem first_made (u : World) (c : Nat) (key : List UInt8) (nonce : ByteArray) (f n : Nat) (hno : nonce.size = 12) (hfl : f < 4294967296) (hn2 : n ≤ 1048576) (hf : f + blocksOf n ≤ 4294967296) (hB : IsCipher u c key) :
    Calls Try.prog 15 #[.func (.func 27) #[] #[.pointer (some ⟨u.heap.size + 2, 0, none⟩), .pointer (some ⟨u.heap.size, 0, none⟩), .pointer (some ⟨u.heap.size + 1, 0, none⟩)], .int .i64 (n : Int)]
      (((u.alloc (.cells #[.pointer (some ⟨c, 0, none⟩)] 35)).alloc (.cells #[.string nonce] 9)).alloc (.cells #[.int .u32 (f : Int)] 22))
      fun e w' => e = .returned (.string ⟨(ctrL key nonce.data.toList f n).toArray⟩) ∧ Ext u w' := by
  have z1 : (u.alloc (.cells #[.pointer (some ⟨c, 0, none⟩)] 35)).heap.size = u.heap.size + 1 := by simp
  have z2 : ((u.alloc (.cells #[.pointer (some ⟨c, 0, none⟩)] 35)).alloc (.cells #[.string nonce] 9)).heap.size = u.heap.size + 2 := by simp
  have hx : Ext u (((u.alloc (.cells #[.pointer (some ⟨c, 0, none⟩)] 35)).alloc (.cells #[.string nonce] 9)).alloc (.cells #[.int .u32 (f : Int)] 22)) := (((Ext.refl _).alloc _).alloc _).alloc _
  have b1 := ((Blk.new u [.pointer (some ⟨c, 0, none⟩)] 35).alloc (.cells #[.string nonce] 9)).alloc (.cells #[.int .u32 (f : Int)] 22)
  have b2 := (Blk.new (u.alloc (.cells #[.pointer (some ⟨c, 0, none⟩)] 35)) [.string nonce] 9).alloc (.cells #[.int .u32 (f : Int)] 22)
  have b3 := Blk.new ((u.alloc (.cells #[.pointer (some ⟨c, 0, none⟩)] 35)).alloc (.cells #[.string nonce] 9)) [.int .u32 (f : Int)] 22
  rw [z1] at b2
  rw [z2] at b3
  exact (first_any (u.heap.size + 2) u.heap.size (u.heap.size + 1) c key hB.size nonce f (4294967296 - f) n _ b3.lt b1.lt b2.lt hno (by omega) (by omega) hn2 (by unfold blocksOf at hf; omega) (hB.ext hx) (b3.cell 0 _ rfl) (b1.cell 0 _ rfl) (b2.cell 0 _ rfl)).mono fun e w' h => ⟨h.1, hx.trans h.2⟩
set_option maxRecDepth 100000 in
set_option maxHeartbeats 2000000 in
theorem stream_yes (key nonce : ByteArray) (f n : Nat) (hk : key.size = 16) (hn : nonce.size = 12) (hn2 : n ≤ 1048576) (hfl : f < 4294967296) (hf : f + blocksOf n ≤ 4294967296) (w : World) :
    Calls Try.prog 9 #[.string key, .string nonce, .int .u32 (f : Int), .int .i64 (n : Int)] w
      fun e w' => e = .returned (.tuple #[.string ⟨(ctrL key.data.toList nonce.data.toList f n).toArray⟩, .int .i64 0]) ∧ Ext w w' := by
  have hni : ((nonce.size : Int) != 12) = false := by simp [hn]
  have hkl : key.data.toList.length = 16 := by rw [size_list]; exact hk
  have HNew := Lib.hid (fun u => New_yes u key hk)
  have HRoom := Lib.hid (fun u => room_any f hfl u)
  have hw0 : IntKind.u64.wrap (n : Int) = (n : Int) := IntWalk.u64_in _ ⟨by omega, by omega⟩
  obtain ⟨r, hr⟩ : ∃ r : Nat, (4294967296 - f) * 16 = r := ⟨_, rfl⟩
  have hnr : (n : Int) ≤ (r : Int) := by unfold blocksOf at hf; omega
  have hn0 : ¬ (n : Int) < 0 := by omega
  have hn3 : (n : Int) ≤ 1048576 := by omega
  rw [hr] at HRoom
  have HF := Lib.hid (fun u c (gB : IsCipher u c key.data.toList) => first_made u c key.data.toList nonce f n hn hfl hn2 hf gB)
  clear hr hk hn hn2 hfl hf hkl hn0
  go_enter Try.func9, Try.ntmps9
  go_wp2_with (first
    | (go_at_call 13; refine (HNew.out _).mono ?_; rintro e w1 ⟨c, rfl, hc1, h1x⟩)
    | (go_at_call 14; refine (HRoom.out _).mono ?_; rintro e w2 ⟨rfl, rfl⟩)
    | (go_at_call 16; refine (blocks_any _ _ _ _).mono ?_; rintro e w3 ⟨rfl, rfl⟩)
    | (go_at_call 15; refine (HF.out _ _ hc1).mono ?_; rintro e w4 ⟨rfl, h4x⟩))
  go_ret2
  exact ⟨rfl, h1x.trans h4x⟩
end Go.Proofs.Ythglecfbcdikaaa
