/- Contracts: the block that ciphered is another, by the program. -/
import Derived.Test.YtlphbnbipbfclaaEnc
namespace Go.Proofs.Ytlphbnbipbfclaa
open Go.RowKit
attribute [local irreducible] rkey expand enc dec subShift unSubShift mixC unmixC addK
set_option maxRecDepth 100000 in
set_option maxHeartbeats 2000000 in
theorem Back_yes (w : World) (c : Nat) (key : List UInt8) (s : ByteArray) (h : IsCipher w c key) (hs : s.size = 16) :
    Calls Try.prog 20 #[.pointer (some ⟨c, 0, none⟩), .string s] w fun e w' => e = .returned (.tuple #[.string ⟨(dec (rkey key) s.data.toList).toArray⟩, .bool true]) ∧ Ext w w' := by
  have hz := zero_run zero16
  have hcl := h.lt
  have HC := Lib.hid (fun u (hu : Below w.heap.size w u) => h.below hu hcl)
  have HT := Lib.hid (there_any w c key h)
  have hK : ∀ n, n ≤ 10 → (rkey key n).length = 16 := fun n hn => rkey_length h.size n hn
  have hsl : s.data.toList.length = 16 := by rw [size_list]; exact hs
  have HK := Lib.hid hK
  have HE := Lib.hid (decS_all (rkey key) s.data.toList)
  have HEL := Lib.hid (fun i => decS_length (K := rkey key) hsl i)
  have HD := Lib.hid (dec_length hK (x := s.data.toList))
  have hall := fun u => slice_all w.heap.size u
  have hcp := fun ty => copy_all (w.alloc (.cells (zc 16) 48)) ty w.heap.size 16 s _ 48 (Row.zero w _ 16) List.length_replicate hs
  have hr0 : Row ((w.alloc (.cells (zc 16) 48)).setRow w.heap.size (s.data.toList.map cellOf).toArray) w.heap.size 48 s.data.toList := setRow_heap _ _ _ _ _ _ (Row.zero w _ 16)
  have hb0 : Below w.heap.size w ((w.alloc (.cells (zc 16) 48)).setRow w.heap.size (s.data.toList.map cellOf).toArray) := below_setRow ((Below.refl _ w).alloc (Nat.le_refl _) _) (Nat.le_refl _) _
  rw [← decS_zero (rkey key) s.data.toList] at hr0
  have HR0 := Lib.hid hr0; have HB0 := Lib.hid hb0
  clear h hK hsl hr0 hb0
  go_enter Try.func20, Try.ntmps20
  go_wp2_with (first
    | (go_at_call 28; refine (HT.out).mono ?_; rintro e w1 ⟨rfl, rfl⟩))
  rw [decS_zero] at HR0
  go_loopw [19] (fun i wr => ∃ j : Nat, j ≤ 10 ∧ i = .int .i64 j ∧ Row wr w.heap.size 48 (decS (rkey key) s.data.toList j) ∧ Below w.heap.size w wr) (fun i _ => 10 - (intOf i).toNat)
  case atStart => exact ⟨0, Nat.zero_le _, rfl, by rw [decS_zero]; exact HR0.out, HB0.out⟩
  case round =>
    clear HR0 HB0
    obtain ⟨j, hj, rfl, hrow, hb⟩ := hrel
    by_cases hlt : j < 10
    · have HR := Lib.hid hrow; have HB := Lib.hid hb
      have HEj := Lib.hid (HEL.out j)
      have HKj := Lib.hid (HK.out (10 - j) (by omega))
      have P1 := Lib.hid (fun o (ho : o = 513 + 16 * (10 - j)) => add_any wr w.heap.size c o 48 (decS (rkey key) s.data.toList j) (rkey key (10 - j)) HR.out HEj.out HKj.out (by rw [ho]; exact (HC.out _ HB.out).rk (10 - j) (by omega)) hcl)
      have hal : (addK (rkey key (10 - j)) (decS (rkey key) s.data.toList j)).length = 16 := addK_length HKj.out HEj.out
      have HAl := Lib.hid hal
      have P2 := Lib.hid (fun u (hu : Row u w.heap.size 48 (addK (rkey key (10 - j)) (decS (rkey key) s.data.toList j))) => unmix_any u w.heap.size 48 _ hu HAl.out)
      have P3 := Lib.hid (fun u l (hl : l.length = 16) (hu : Row u w.heap.size 48 l) => turnRight_any u w.heap.size l hu hl)
      have P4 := Lib.hid (fun u l (hl : l.length = 16) (hu : Row u w.heap.size 48 l) (hb : Below w.heap.size w u) => put_any u w.heap.size c 257 48 l unboxT unboxB hu hl unboxT_byte (HC.out _ hb).unbox hcl)
      have P5 := Lib.hid (fun l (hl : l.length = 16) => show (shR l 16).map unboxB = unSubShift l from shR_un hl)
      have P6 := Lib.hid (fun (l : List UInt8) (hl : l.length = 16) => (shR_length l 16).trans hl)
      clear hrow hb hal
      obtain ⟨n, hn⟩ : ∃ n : Nat, 10 - (j : Int) = (n : Int) := ⟨10 - j, by omega⟩
      have hn2 : 10 - j = n := by omega
      have hn3 : n ≤ 10 := by omega
      rcases Nat.eq_zero_or_pos j with h0 | h0
      · subst h0
        have HS9 := Lib.hid (decS_one (rkey key) s.data.toList)
        go_wp2_with (first
          | (go_at_call 29; refine (P1.out _ (by omega)).mono ?_; rintro e w3 ⟨rfl, h3, r3⟩)
          | (go_at_call 34; refine (P3.out _ _ HAl.out r3).mono ?_; rintro e w4 ⟨rfl, h4, r4⟩; have b4 := (HB.out.trans h3).trans h4)
          | (go_at_call 30; refine (P4.out _ _ (P6.out _ HAl.out) r4 b4).mono ?_; rintro e w5 ⟨rfl, h5, r5⟩; rw [P5.out _ HAl.out] at r5))
        go_roundw
        case rel => exact ⟨1, by omega, by go_num, by rw [HS9.out]; exact r5, b4.trans h5⟩
        case measure => simp [intOf]
      · have h0i : (0 : Int) < (j : Int) := by omega
        have HS9 := Lib.hid (decS_more (rkey key) s.data.toList j h0)
        go_wp2_with (first
          | (go_at_call 29; refine (P1.out _ (by omega)).mono ?_; rintro e w3 ⟨rfl, h3, r3⟩)
          | (go_at_call 33; refine (P2.out _ r3).mono ?_; rintro e w7 ⟨rfl, h7, r7⟩)
          | (go_at_call 34; refine (P3.out _ _ (unmixC_length _) r7).mono ?_; rintro e w4 ⟨rfl, h4, r4⟩; have b4 := ((HB.out.trans h3).trans h7).trans h4)
          | (go_at_call 30; refine (P4.out _ _ (P6.out _ (unmixC_length _)) r4 b4).mono ?_; rintro e w5 ⟨rfl, h5, r5⟩; rw [P5.out _ (unmixC_length _)] at r5))
        go_roundw
        case rel => exact ⟨j + 1, by omega, by go_num, by rw [HS9.out]; exact r5, b4.trans h5⟩
        case measure => simp [intOf]; omega
    · obtain rfl : j = 10 := by omega
      have HR := Lib.hid hrow; have HB := Lib.hid hb
      have P1 := Lib.hid (add_any wr w.heap.size c 513 48 (decS (rkey key) s.data.toList 10) (rkey key 0) HR.out (HEL.out 10) (HK.out 0 (by omega)) ((HC.out _ HB.out).rk 0 (by omega)) hcl)
      rw [HE.out] at P1
      have HTx := Lib.hid (fun u (hu : Row u w.heap.size 48 (dec (rkey key) s.data.toList)) => hu.text (P := Try.prog) 31 5 9 Try.underlying31 Try.underlying5 Try.underlying9 16 16 HD.out)
      clear hrow hb
      have e10 : ((10 : Nat) : Int) = 10 := rfl
      rw [e10]
      clear e10
      go_wp2_with (go_at_call 29; refine (P1.out).mono ?_; rintro e w3 ⟨rfl, h3, r3⟩; have ht := HTx.out _ r3)
      go_ret2
      exact ⟨rfl, HB.out.trans h3⟩
set_option maxRecDepth 100000 in
theorem Back_no (w : World) (c : Nat) (key : List UInt8) (s : ByteArray) (h : IsCipher w c key) (hs : ¬ s.size = 16) :
    Calls Try.prog 20 #[.pointer (some ⟨c, 0, none⟩), .string s] w fun e w' => e = .returned (.tuple #[.string ⟨#[]⟩, .bool false]) ∧ w = w' := by
  have HT := Lib.hid (there_any w c key h)
  have hn := size_ne s hs
  clear h hs
  go_enter Try.func20, Try.ntmps20
  go_wp2_with (go_at_call 28; refine (HT.out).mono ?_; rintro e w1 ⟨rfl, rfl⟩)
  go_ret2
  exact ⟨rfl, rfl⟩
set_option maxRecDepth 100000 in
theorem Back_nil (w : World) (s : ByteArray) :
    Calls Try.prog 20 #[.pointer none, .string s] w fun e w' => e = .returned (.tuple #[.string ⟨#[]⟩, .bool false]) ∧ w = w' := by
  go_enter Try.func20, Try.ntmps20
  go_wp2_with (go_at_call 28; refine (there_none _).mono ?_; rintro e w1 ⟨rfl, rfl⟩)
  go_ret2
  exact ⟨rfl, rfl⟩
end Go.Proofs.Ytlphbnbipbfclaa
