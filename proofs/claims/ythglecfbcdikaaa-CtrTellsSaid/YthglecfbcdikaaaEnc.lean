/- Contracts: a block ciphered, by the program. -/
import Derived.Test.YthglecfbcdikaaaCipher
namespace Go.Proofs.Ythglecfbcdikaaa
open Go.RowKit
attribute [local irreducible] rkey expand enc dec subShift unSubShift mixC unmixC addK

theorem slice_all (g : Nat) (w : World) : (Instr.sliceAt 54 (.pointer (some ⟨g, 0, none⟩)) none none none).run Try.prog w = .ok (.slice (some ⟨g, 0, none⟩) 16 16) w := by
  have hu : Try.prog.underlying 54 = some (.array (Try.prog.arrayLen 54) (Try.prog.elem 54)) := by rw [len16, elem16]; exact Try.underlying54
  rw [run_sliceAt_array_all (P := Try.prog) w 54 ⟨g, 0, none⟩ hu, elem16, size8_run, len16]
  simp only [Result.andThen, slicedAt, Nat.zero_mul]
  rw [if_neg (by omega), Addr.add_mid]
set_option maxRecDepth 100000 in
set_option maxHeartbeats 2000000 in
theorem Block_yes (w : World) (c : Nat) (key : List UInt8) (s : ByteArray) (h : IsCipher w c key) (hs : s.size = 16) :
    Calls Try.prog 28 #[.pointer (some ⟨c, 0, none⟩), .string s] w fun e w' => e = .returned (.tuple #[.string ⟨(enc (rkey key) s.data.toList).toArray⟩, .bool true]) ∧ Ext w w' := by
  have hz := zero_run zero16
  have hcl := h.lt
  have HC := Lib.hid (fun u (hu : Below w.heap.size w u) => h.below hu hcl)
  have HT := Lib.hid (cthere_any w c key h)
  have hK : ∀ n, n ≤ 10 → (rkey key n).length = 16 := fun n hn => rkey_length h.size n hn
  have hsl : s.data.toList.length = 16 := by rw [size_list]; exact hs
  have HK := Lib.hid hK; have HSl := Lib.hid hsl
  have HE := Lib.hid (encS_all (rkey key) s.data.toList)
  have HEL := Lib.hid (encS_length hK hsl)
  have hall := fun u => slice_all w.heap.size u
  have hcp := fun ty => copy_all (w.alloc (.cells (zc 16) 54)) ty w.heap.size 16 s _ 54 (Row.zero w _ 16) List.length_replicate hs
  have hr0 : Row ((w.alloc (.cells (zc 16) 54)).setRow w.heap.size (s.data.toList.map cellOf).toArray) w.heap.size 54 s.data.toList := setRow_heap _ _ _ _ _ _ (Row.zero w _ 16)
  have hb0 : Below w.heap.size w ((w.alloc (.cells (zc 16) 54)).setRow w.heap.size (s.data.toList.map cellOf).toArray) := below_setRow ((Below.refl _ w).alloc (Nat.le_refl _) _) (Nat.le_refl _) _
  have HR0 := Lib.hid hr0; have HB0 := Lib.hid hb0
  have HS := Lib.hid hs
  clear h hK hsl hr0 hb0
  go_enter Try.func28, Try.ntmps28
  go_wp2_with (first
    | (go_at_call 38; refine (HT.out).mono ?_; rintro e w1 ⟨rfl, rfl⟩)
    | (go_at_call 39; refine (add_any _ w.heap.size c 513 54 _ (rkey key 0) HR0.out HSl.out (HK.out 0 (by omega)) ((HC.out _ HB0.out).rk 0 (by omega)) hcl).mono ?_; rintro e w2 ⟨rfl, h2, h3⟩))
  have hw2 : Below w.heap.size w w2 := HB0.out.trans h2
  rw [← encS_zero] at h3
  have HR2 := Lib.hid h3; have HB2 := Lib.hid hw2
  clear h2 h3 hw2 HR0 HB0 hcp
  go_loopw [24] (fun i wr => ∃ j : Nat, j ≤ 10 ∧ i = .int .i64 j ∧ Row wr w.heap.size 54 (encS (rkey key) s.data.toList j) ∧ Below w.heap.size w wr) (fun i _ => 10 - (intOf i).toNat)
  case atStart => exact ⟨0, Nat.zero_le _, rfl, HR2.out, HB2.out⟩
  case round =>
    clear HR2 HB2
    obtain ⟨j, hj, rfl, hrow, hb⟩ := hrel
    by_cases hlt : j < 10
    · have HR := Lib.hid hrow; have HB := Lib.hid hb
      have HEj := Lib.hid (HEL.out j hj)
      have HKj := Lib.hid (HK.out (j + 1) hlt)
      have P1 := Lib.hid (put_any wr w.heap.size c 1 54 (encS (rkey key) s.data.toList j) boxT boxB HR.out HEj.out boxT_byte (HC.out _ HB.out).box hcl)
      have P2 := Lib.hid (fun u (hu : Row u w.heap.size 54 ((encS (rkey key) s.data.toList j).map boxB)) => turnLeft_any u w.heap.size _ hu (by rw [List.length_map]; exact HEj.out))
      have P3 := Lib.hid (fun u (hu : Row u w.heap.size 54 (subShift (encS (rkey key) s.data.toList j))) => mix_any u w.heap.size 54 _ hu (subShift_length _))
      have P4 := Lib.hid (fun u o l (ho : o = 513 + 16 * (j + 1)) (hl : l.length = 16) (hb : Below w.heap.size w u) (hu : Row u w.heap.size 54 l) => add_any u w.heap.size c o 54 l (rkey key (j + 1)) hu hl HKj.out (by rw [ho]; exact (HC.out _ hb).rk (j + 1) hlt) hcl)
      clear hrow hb
      by_cases h9 : j + 1 < 10
      · have h9i : (j : Int) + 1 < 10 := by omega
        have HS9 := Lib.hid (encS_mid (rkey key) s.data.toList j h9)
        go_wp2_with (first
          | (go_at_call 40; refine (P1.out).mono ?_; rintro e w3 ⟨rfl, h3, r3⟩)
          | (go_at_call 41; refine (P2.out _ r3).mono ?_; rintro e w4 ⟨rfl, h4, r4⟩; rw [shL_sub HEj.out] at r4)
          | (go_at_call 42; refine (P3.out _ r4).mono ?_; rintro e w5 ⟨rfl, h5, r5⟩; have b5 := ((HB.out.trans h3).trans h4).trans h5)
          | (go_at_call 39; refine (P4.out _ _ _ (by omega) (mixC_length _) b5 r5).mono ?_; rintro e w6 ⟨rfl, h6, r6⟩))
        go_roundw
        case rel => exact ⟨j + 1, by omega, by go_num, by rw [HS9.out]; exact r6, b5.trans h6⟩
        case measure => simp [intOf]; omega
      · obtain rfl : j = 9 := by omega
        have HS9 := Lib.hid (encS_last (rkey key) s.data.toList)
        go_wp2_with (first
          | (go_at_call 40; refine (P1.out).mono ?_; rintro e w3 ⟨rfl, h3, r3⟩)
          | (go_at_call 41; refine (P2.out _ r3).mono ?_; rintro e w4 ⟨rfl, h4, r4⟩; rw [shL_sub HEj.out] at r4; have b5 := (HB.out.trans h3).trans h4)
          | (go_at_call 39; refine (P4.out _ _ _ (by omega) (subShift_length _) b5 r4).mono ?_; rintro e w6 ⟨rfl, h6, r6⟩))
        go_roundw
        case rel => exact ⟨10, by omega, by go_num, by rw [HS9.out]; exact r6, b5.trans h6⟩
        case measure => simp [intOf]
    · obtain rfl : j = 10 := by omega
      rw [HE.out] at hrow
      have HKe := Lib.hid (enc_length HK.out s.data.toList)
      have ht := hrow.text (P := Try.prog) 30 5 9 Try.underlying30 Try.underlying5 Try.underlying9 16 16 HKe.out
      clear hrow
      have e10 : ((10 : Nat) : Int) = 10 := rfl
      rw [e10]
      clear e10
      go_wp2
      go_ret2
      exact ⟨rfl, hb⟩
theorem size_ne (s : ByteArray) (hs : ¬ s.size = 16) : ((s.size : Int) == 16) = false := by simp; omega
set_option maxRecDepth 100000 in
theorem Block_no (w : World) (c : Nat) (key : List UInt8) (s : ByteArray) (h : IsCipher w c key) (hs : ¬ s.size = 16) :
    Calls Try.prog 28 #[.pointer (some ⟨c, 0, none⟩), .string s] w fun e w' => e = .returned (.tuple #[.string ⟨#[]⟩, .bool false]) ∧ w = w' := by
  have HT := Lib.hid (cthere_any w c key h)
  have hn := size_ne s hs
  clear h hs
  go_enter Try.func28, Try.ntmps28
  go_wp2_with (go_at_call 38; refine (HT.out).mono ?_; rintro e w1 ⟨rfl, rfl⟩)
  go_ret2
  exact ⟨rfl, rfl⟩
set_option maxRecDepth 100000 in
theorem Block_nil (w : World) (s : ByteArray) :
    Calls Try.prog 28 #[.pointer none, .string s] w fun e w' => e = .returned (.tuple #[.string ⟨#[]⟩, .bool false]) ∧ w = w' := by
  go_enter Try.func28, Try.ntmps28
  go_wp2_with (go_at_call 38; refine (cthere_none _).mono ?_; rintro e w1 ⟨rfl, rfl⟩)
  go_ret2
  exact ⟨rfl, rfl⟩
end Go.Proofs.Ythglecfbcdikaaa
