/- Contracts: sums, gone on, joined, by the program. -/
import Derived.Test.YtnecafoickjleaaPJoin
namespace Go.Proofs.Ytnecafoickjleaa
open Go.RowKit

theorem not_ones (a : BitVec 32) : bits .xor .u32 IntKind.u32.max (a.toNat : Int) = ((a ^^^ ones).toNat : Int) := by
  rw [BitVec.xor_comm]
  exact bx ones a
theorem pmore_any (c : BitVec 32) (s : ByteArray) (hs : s.size ≤ 140737488351232) (w : World) : Calls Try.prog 10 #[.int .u32 (c.toNat : Int), .string s] w fun e w' => e = .returned (.int .u32 ((moreC c s.data.toList).toNat : Int)) ∧ w = w' := by
  have h0 := not_ones c
  have HS := Lib.hid (fun j x (h : s.data.toList[j]? = some x) => rowC_step (c ^^^ ones) s.data.toList j x h)
  have HE : Hid (moreC c s.data.toList = rowC (c ^^^ ones) s.data.toList ^^^ ones) := Lib.hid rfl
  have HZ : Hid (rowC (c ^^^ ones) (s.data.toList.take 0) = c ^^^ ones) := Lib.hid rfl
  have HL := Lib.hid (size_list s)
  generalize rowC (c ^^^ ones) = R at *
  generalize c ^^^ ones = c0 at *
  go_enter Try.func10, Try.ntmps10
  go_wp2
  go_loop [5, 6, 11] (fun cv _ iv => ∃ j : Nat, j ≤ s.size ∧ iv = .int .i64 (j : Int) ∧ cv = w32 (R (s.data.toList.take j))) (fun _ _ iv => s.size - (intOf iv).toNat)
  case atStart => exact ⟨0, Nat.zero_le _, rfl, by rw [HZ.out]; rfl⟩
  case round =>
    obtain ⟨j, hj, rfl, rfl⟩ := hrel
    by_cases hlt : j < s.size
    · obtain ⟨x, hx⟩ : ∃ x, s.data.toList[j]? = some x := ⟨_, byte_at s j hlt⟩
      have hix := fun u => index_text s j x hx u
      have hbx := bx_byte (R (s.data.toList.take j)) x
      have HSj := Lib.hid (HS.out j x hx)
      have hx8 := x.toNat_lt
      clear hx
      have HD : Hid (R (s.data.toList.take (j + 1)) = hfN 8 (R (s.data.toList.take j) ^^^ bt x)) := HSj
      have HC := Lib.hid (gone_any (R (s.data.toList.take j) ^^^ bt x))
      unfold w32
      generalize (R (s.data.toList.take j) ^^^ bt x) = D at *
      generalize (R (s.data.toList.take j)).toNat = n at *
      generalize x.toNat = b at *
      go_wp2_with (go_at_call 15; refine (HC.out _).mono ?_; rintro e w1 ⟨rfl, rfl⟩)
      go_round
      case rel => exact ⟨j + 1, by omega, by go_num, by rw [HD.out]⟩
      case measure => simp [intOf]; omega
    · obtain rfl : j = s.size := by omega
      have ht := List.take_of_length_le (show s.data.toList.length ≤ s.size by rw [HL.out]; exact Nat.le_refl _)
      rw [ht]
      clear ht
      have h1 := not_ones (R s.data.toList)
      rw [← HE.out] at h1
      unfold w32
      generalize (R s.data.toList).toNat = n at *
      go_wp2
      go_ret
      exact ⟨rfl, rfl⟩
theorem psum_any (s : ByteArray) (hs : s.size ≤ 140737488351232) (w : World) : Calls Try.prog 8 #[.string s] w fun e w' => e = .returned (.int .u32 ((moreC 0#32 s.data.toList).toNat : Int)) ∧ w = w' := by
  have HM := Lib.hid (fun u => (show Calls Try.prog 10 #[.int .u32 0, .string s] u fun e w' => e = .returned (.int .u32 ((moreC 0#32 s.data.toList).toNat : Int)) ∧ u = w' from pmore_any 0#32 s hs u))
  go_enter Try.func8, Try.ntmps8
  go_wp2_with (go_at_call 10; refine (HM.out _).mono ?_; rintro e w1 ⟨rfl, rfl⟩)
  go_ret
  exact ⟨rfl, rfl⟩
theorem low64 (n : Nat) (hn : n < 18446744073709551616) : bits .and .u64 (n : Int) 1 = ((n % 2 : Nat) : Int) := by
  rw [show (1 : Int) = ((1 : Nat) : Int) from rfl, u64_and_nat _ _ hn (by decide), Nat.and_one_is_mod]
theorem blk_zero_at (w : World) (g : Nat) (h : w.heap.size = g) : Blk (w.alloc (.cells zc32 38)) g 38 z32 := by
  subst h
  exact blk_zero w
set_option maxHeartbeats 1000000 in
theorem pjoin_any (a b : BitVec 32) (n : Nat) (hn : n < 18446744073709551616) (w : World) : Calls Try.prog 12 #[.int .u32 (a.toNat : Int), .int .u32 (b.toNat : Int), .int .u64 (n : Int)] w fun e w' => e = .returned (.int .u32 ((joinC a b n).toNat : Int)) ∧ Ext w w' := by
  have hz := zero_run zero38
  have HJ : Hid (∀ c, c = hfN (8 * n) a → c ^^^ b = joinC a b n) := Lib.hid (fun c h => by rw [h]; rfl)
  have HO := Lib.hid (fun u => oneZero_any u)
  have HF := Lib.hid (fun (e : Nat) c u => of_any (hfN e) (Lin.hfN e) c u)
  have HT := Lib.hid (fun (e : Nat) u => by
    have h := times_any (hfN e) (hfN e) (Lin.hfN e) u
    rw [tab_congr (F := fun c => hfN e (hfN e c)) (G := hfN (e * 2)) (fun c => by rw [Nat.mul_two, hfN_add])] at h
    exact h)
  have HL := Lib.hid (fun (e : Nat) => tab_length (hfN e))
  have HN := Lib.hid (fun (e : Nat) => tab_one (hfN e))
  generalize hTab : (fun e : Nat => tab (hfN e)) = TB at *
  have hT : ∀ e, tab (hfN e) = TB e := fun e => congrFun hTab e
  simp only [hT] at HO HF HT HL HN
  have hb := fun c => bx c b
  clear hTab hT
  go_enter Try.func12, Try.ntmps12
  go_wp2_with (first
    | (go_at_call 17; refine (HO.out _).mono ?_; rintro e w1 ⟨rfl, x1⟩
       have hz1 := blk_zero w1
       have HX1 := Lib.hid x1
       have HB1 := Lib.hid (setRow_heap _ _ _ (TB 8).toArray _ _ hz1)
       clear x1 hz1)
    | (refine wpList_store_row rfl 38 (.tmp 7) (.tmp 8) rfl w1.heap.size _ rfl rfl 38 _ (blk_zero w1) (sizedV (HL.out 8)) (by simp [HL.out, z32_length]) (HN.out 8) ?_))
  have HB : Hid (Blk ((w1.alloc (.cells zc32 38)).setRow w1.heap.size (TB 8).toArray) w1.heap.size 38 (TB 8)) := HB1
  have HX : Hid (Ext w ((w1.alloc (.cells zc32 38)).setRow w1.heap.size (TB 8).toArray)) := Lib.hid ((HX1.out.alloc _).setRow HX1.out.size _)
  have HX1s := Lib.hid (Below.size HX1.out)
  clear HB1 HX1
  simp only [Act.put]
  go_loopw [0, 2, 7] (fun av nv zv wr => ∃ (e k z : Nat) (c : BitVec 32), k ≤ n ∧ hfN (e * k) c = hfN (8 * n) a ∧ nv = .int .u64 (k : Int) ∧ av = .int .u32 (c.toNat : Int) ∧ zv = .pointer (some ⟨z, 0, none⟩) ∧ Blk wr z 38 (TB e) ∧ w.heap.size ≤ z ∧ Ext w wr) (fun _ nv _ _ => (intOf nv).toNat)
  case atStart => exact ⟨8, n, w1.heap.size, a, Nat.le_refl _, rfl, rfl, rfl, rfl, HB.out, HX1s.out, HX.out⟩
  case round =>
    obtain ⟨e, k, z, c, hk, hinv, rfl, rfl, rfl, hblk, hz1, hx⟩ := hrel
    have HI := Lib.hid hinv
    have HB := Lib.hid hblk
    have HX := Lib.hid hx
    have HZ1 := Lib.hid hz1
    clear hinv hblk hx hz1
    by_cases h0 : k = 0
    · subst h0
      have hJ := HJ.out c (by have := HI.out; rwa [Nat.mul_zero] at this)
      have hbc := hb c
      rw [hJ] at hbc
      clear hJ
      generalize c.toNat = m at *
      go_wp2
      go_ret
      exact ⟨rfl, HX.out⟩
    · have hk0 : 0 < k := by omega
      have hk0i : (0 : Int) < (k : Int) := by omega
      have HF1 := Lib.hid (HF.out e c)
      have HT1 := Lib.hid (HT.out e)
      have HL1 := Lib.hid (HL.out e)
      have HL2 := Lib.hid (HL.out (e * 2))
      have HN2 := Lib.hid (HN.out (e * 2))
      cases hodd : decide (k % 2 = 1)
      · have HI2 : Hid (hfN (e * 2 * (k / 2)) c = hfN (8 * n) a) := Lib.hid (by
          have : ¬ k % 2 = 1 := by simpa using hodd
          have e1 : e * 2 * (k / 2) = e * k := by rw [Nat.mul_assoc]; congr 1; omega
          rw [e1]; exact HI.out)
        have ho : bits .and .u64 (k : Int) 1 = 0 := by
          have : ¬ k % 2 = 1 := by simpa using hodd
          rw [low64 k (by omega)]; simp; omega
        clear hodd
        go_wp2_with (first
          | (refine wpList_load_row rfl 38 (.tmp 7) rfl z rfl 38 _ (0, 0) _ HB.out Try.underlying38 rfl (sizedV HL1.out) ?_)
          | (go_at_call 19; (refine (HT1.out _).mono ?_); rintro e' w3 ⟨rfl, x3⟩
             have HX3 := Lib.hid x3
             have HB3 := Lib.hid (setRow_heap _ _ _ (TB (e * 2)).toArray _ _ (HB.out.ext HX3.out))
             have HX4 := Lib.hid ((HX.out.trans HX3.out).setRow HZ1.out (TB (e * 2)).toArray)
             have HB4 := Lib.hid (blk_zero_at (w3.setRow z (TB (e * 2)).toArray) w3.heap.size (by simp))
             have HX5 := Lib.hid ((HX.out.trans HX3.out).size)
             clear x3)
          | (refine wpList_store_row rfl 38 (.tmp 7) (.tmp 21) rfl z _ rfl rfl 38 _ (HB.out.ext HX3.out) (sizedV HL2.out) (by simp [HL1.out, HL2.out]) HN2.out ?_)
          | (refine wpList_load_row rfl 38 (.tmp 7) rfl z rfl 38 _ (0, 0) _ HB3.out Try.underlying38 rfl (sizedV HL2.out) ?_)
          | (refine wpList_store_row rfl 38 (.tmp 7) (.tmp 22) rfl w3.heap.size _ rfl rfl 38 _ HB4.out (sizedV HL2.out) (by simp [HL2.out, z32_length]) HN2.out ?_))
        exact ⟨⟨e * 2, k / 2, w3.heap.size, c, by omega, HI2.out, by go_num, rfl, rfl, setRow_heap _ _ _ _ _ _ HB4.out, HX5.out, (HX4.out.alloc _).setRow HX5.out _⟩, by simp [intOf]; omega⟩
      · have HI2 : Hid (hfN (e * 2 * (k / 2)) (hfN e c) = hfN (8 * n) a) := Lib.hid (by
          have : k % 2 = 1 := by simpa using hodd
          have e1 : e + e * 2 * (k / 2) = e * k := by
            have e2 : k = 1 + 2 * (k / 2) := by omega
            conv => rhs; rw [e2]
            rw [Nat.mul_add, Nat.mul_one, Nat.mul_assoc]
          rw [← hfN_add, e1]; exact HI.out)
        have ho : bits .and .u64 (k : Int) 1 = 1 := by
          have : k % 2 = 1 := by simpa using hodd
          rw [low64 k (by omega)]; omega
        clear hodd
        go_wp2_with (first
          | (refine wpList_load_row rfl 38 (.tmp 7) rfl z rfl 38 _ (0, 0) _ HB.out Try.underlying38 rfl (sizedV HL1.out) ?_)
          | (refine wpList_load_row rfl 38 (.tmp 7) rfl z rfl 38 _ (0, 0) _ (HB.out.ext HX2.out) Try.underlying38 rfl (sizedV HL1.out) ?_)
          | (go_at_call 18; (refine (HF1.out _).mono ?_); rintro e' w2 ⟨rfl, x2⟩
             have HX2 := Lib.hid x2
             clear x2)
          | (go_at_call 19; (refine (HT1.out _).mono ?_); rintro e' w3 ⟨rfl, x3⟩
             have HX3 := Lib.hid x3
             have HB3 := Lib.hid (setRow_heap _ _ _ (TB (e * 2)).toArray _ _ ((HB.out.ext HX2.out).ext HX3.out))
             have HX4 := Lib.hid (((HX.out.trans HX2.out).trans HX3.out).setRow HZ1.out (TB (e * 2)).toArray)
             have HB4 := Lib.hid (blk_zero_at (w3.setRow z (TB (e * 2)).toArray) w3.heap.size (by simp))
             have HX5 := Lib.hid (((HX.out.trans HX2.out).trans HX3.out).size)
             clear x3)
          | (refine wpList_store_row rfl 38 (.tmp 7) (.tmp 21) rfl z _ rfl rfl 38 _ ((HB.out.ext HX2.out).ext HX3.out) (sizedV HL2.out) (by simp [HL1.out, HL2.out]) HN2.out ?_)
          | (refine wpList_load_row rfl 38 (.tmp 7) rfl z rfl 38 _ (0, 0) _ HB3.out Try.underlying38 rfl (sizedV HL2.out) ?_)
          | (refine wpList_store_row rfl 38 (.tmp 7) (.tmp 22) rfl w3.heap.size _ rfl rfl 38 _ HB4.out (sizedV HL2.out) (by simp [HL2.out, z32_length]) HN2.out ?_))
        exact ⟨⟨e * 2, k / 2, w3.heap.size, hfN e c, by omega, HI2.out, by go_num, rfl, rfl, setRow_heap _ _ _ _ _ _ HB4.out, HX5.out, (HX4.out.alloc _).setRow HX5.out _⟩, by simp [intOf]; omega⟩
/-- What later texts lean on. -/
theorem sum_any (s : ByteArray) (hs : s.size ≤ 140737488351232) (w : World) : Calls Try.prog 8 #[.string s] w fun e w' => e = .returned (.int .u32 ((moreC 0#32 s.data.toList).toNat : Int)) ∧ Ext w w' := (psum_any s hs w).mono fun e w' h => ⟨h.1, by rw [← h.2]; exact Ext.refl w⟩
theorem more_any (c : BitVec 32) (s : ByteArray) (hs : s.size ≤ 140737488351232) (w : World) : Calls Try.prog 10 #[.int .u32 (c.toNat : Int), .string s] w fun e w' => e = .returned (.int .u32 ((moreC c s.data.toList).toNat : Int)) ∧ Ext w w' := (pmore_any c s hs w).mono fun e w' h => ⟨h.1, by rw [← h.2]; exact Ext.refl w⟩
theorem join_any (a b : BitVec 32) (n : Nat) (hn : n < 18446744073709551616) (w : World) : Calls Try.prog 12 #[.int .u32 (a.toNat : Int), .int .u32 (b.toNat : Int), .int .u64 (n : Int)] w fun e w' => e = .returned (.int .u32 ((joinC a b n).toNat : Int)) ∧ Ext w w' := pjoin_any a b n hn w
end Go.Proofs.Ytnecafoickjleaa
