/- Contract: the records in front of bytes, by the document's answer. -/
import Derived.Test.YtoffjkeejnldlaaRDec
import Derived.Test.YtoffjkeejnldlaaRecs
import Derived.Test.YtoffjkeejnldlaaTextsP
import Derived.BigQuiet
import Derived.Deep.QuietTactic
import Derived.Test.YtoffjkeejnldlaaScanL
namespace Go.Proofs.Ytoffjkeejnldlaa
open Go.RowKit

set_option maxRecDepth 100000 in
set_option maxHeartbeats 4000000 in
theorem rScan_any (w : World) (s : ByteArray) (hs : s.size ≤ 1000000) (first : Nat) (hf : first < 18446744073709551616) :
    Calls Try.prog 36 #[.string s, .int .u64 (first : Int)] w fun e w' => ∃ v, e = .returned (.tuple #[v, .int .i64 ((scanF s first).2.1 : Int), .int .i64 ((scanF s first).2.2 : Int)]) ∧ Ext w w' ∧ BufR w' w.heap.size v (scanF s first).1 := by
  obtain ⟨R, hR⟩ : ∃ R, R = scanF s first := ⟨_, rfl⟩
  rw [← hR]
  have HR := Lib.hid hR
  clear hR
  go_enter Try.func36, Try.ntmps36
  go_wp2
  go_loopw [7, 8, 9] (fun lv av nv wr => ∃ (L : List Rec) (a n : Nat), lv = lv ∧ av = .int .i64 (a : Int) ∧ nv = .int .u64 (n : Int) ∧ BufR wr w.heap.size lv L ∧ a ≤ s.size ∧ n < 18446744073709551616 ∧ L.length ≤ a ∧ Ext w wr ∧
    R = (L ++ (scanF (s.extract a s.size) n).1, a + (scanF (s.extract a s.size) n).2.1, (scanF (s.extract a s.size) n).2.2)) (fun _ av _ _ => s.size - (intOf av).toNat)
  case atStart => exact ⟨[], 0, first, rfl, rfl, rfl, BufR.nil _ _, Nat.zero_le _, hf, Nat.zero_le _, Ext.refl _, by rw [HR.out, ByteArray.extract_zero_size]; simp⟩
  case round =>
    obtain ⟨L, a, n, _, rfl, rfl, hbuf, ha, hn, hL, hx, hS⟩ := hrel
    have HS := Lib.hid hS; have HX := Lib.hid hx; have HB := Lib.hid hbuf
    clear hS hx hbuf HR
    by_cases hlt : a < s.size
    · have hcut := fun u => cut_from s a ha u
      have HD := Lib.hid (fun u => rDecode_any (s.extract a s.size) (by rw [rest_size]; omega) u)
      obtain ⟨T, hT⟩ : ∃ T, T = s.extract a s.size := ⟨_, rfl⟩
      have hTs : T.size = s.size - a := by rw [hT, rest_size]
      have hT0 : T.size ≠ 0 := by omega
      rw [← hT] at HS hcut HD
      have HT := Lib.hid hT; have HTs := Lib.hid hTs
      clear hT
      have HUse := Lib.hid (fun h => decF_used T h)
      have HBad := Lib.hid (fun he => scanF_bad (first := n) hT0 he)
      have HForm := Lib.hid (fun he hn => scanF_form (first := n) hT0 he hn)
      have HMore := Lib.hid (fun he hn => scanF_more (first := n) hT0 he hn)
      have HItm := Lib.hid (decF_itm T)
      have hn64 := HItm.out.2.1
      have he101 := HItm.out.2.2
      have HRest := Lib.hid (fun m => rest_rest s a m)
      rw [← HT.out] at HRest
      generalize hd : decF T = D at *
      obtain ⟨r, u, e0⟩ := D
      dsimp only at *
      unfold recV at HD
      have HBl : Hid (∀ w1 : World, Blk (w1.alloc (.cells #[.int .u64 (r.n : Int), .string r.t] 60)) w1.heap.size 60 (recCells r)) := Lib.hid (fun w1 => Blk.new w1 _ _)
      clear hd hT0 hTs
      by_cases he : e0 = 0
      · subst he
        have HD0 : Hid (∀ u1, Calls Try.prog 34 #[.string T] u1 fun e w' => e = .returned (.tuple #[.agg #[.int .u64 (r.n : Int), .string r.t], .int .i64 (u : Int), .int .i64 0]) ∧ Ext u1 w') := HD
        by_cases hrn : r.n = n
        · have HM := Lib.hid (HMore.out rfl hrn)
          obtain ⟨hu1, hu2, hu3⟩ := HUse.out rfl
          have hub : u ≤ 65552 := by have := HItm.out.1; omega
          have hsum : IntKind.i64.wrap ((a : Int) + (u : Int)) = (a : Int) + (u : Int) := IntWalk.i64_in _ ⟨by omega, by omega⟩
          have Hu1 := Lib.hid hu1
          clear hu1
          subst hrn
          obtain ⟨n', hn'⟩ : ∃ n', n' = (r.n + 1) % 18446744073709551616 := ⟨_, rfl⟩
          rw [← hn'] at HM
          have hwn : IntKind.u64.wrap ((r.n : Int) + 1) = (n' : Int) := by
            rw [hn']
            by_cases h1 : r.n + 1 < 18446744073709551616
            · rw [Nat.mod_eq_of_lt h1]
              exact u64_nat (x := r.n + 1) h1
            · have e : r.n = 18446744073709551615 := by omega
              rw [e]
              decide
          have hn64' : n' < 18446744073709551616 := by rw [hn']; exact Nat.mod_lt _ (by decide)
          have HBn : Hid (∀ w1 : World, Blk ((w1.alloc (.cells #[.int .u64 (r.n : Int), .string r.t] 60)).alloc (.cells #[.int .u64 (r.n : Int), .string r.t] 60)) (w1.heap.size + 1) 60 (recCells r)) := Lib.hid (fun w1 => by
            have := Blk.new (w1.alloc (.cells #[.int .u64 (r.n : Int), .string r.t] 60)) (recCells r) 60
            simpa [recCells] using this)
          have Hn' := Lib.hid hn'
          clear HBad HForm HMore HUse HD hn'
          go_wp2_with (first
            | (go_at_call 34; refine (HD0.out _).mono ?_; rintro e w1 ⟨rfl, x1⟩; have X1 := Lib.hid x1; have hb1 := HBl.out w1; have c0 := hb1.cell 0 _ rfl; have c1 := hb1.cell 1 _ rfl; clear x1 hb1)
            | (refine append_rec rfl (.tmp 37) (.tmp 39) rfl w.heap.size _ L rfl (HB.out.ext ((X1.out.alloc _).alloc _)) (w1.heap.size + 1) r rfl (HBn.out w1) (by omega) (Nat.le_trans HX.out.size ((X1.out.alloc _).alloc _).size) ?_; intro v2 w2 hb2 hx2 _; have HB2 := Lib.hid hb2; have HX2 := Lib.hid (Below.mono ((X1.out.alloc _).alloc _) HX.out.size |>.trans hx2); clear hb2 hx2))
          have HSn := HS.out
          rw [HM.out, HRest.out] at HSn
          have Hu := Hu1.out; have HTz := HTs.out
          go_roundw
          case rel => exact ⟨L ++ [r], a + u, n', trivial, by go_num, rfl, HB2.out, by omega, hn64', by simp; omega, HX.out.trans3 HX2.out, by rw [HSn]; simp [Nat.add_assoc]⟩
          case measure => simp [intOf]; omega
        · have HM := Lib.hid (HForm.out rfl hrn)
          have hne : ((r.n : Int) != (n : Int)) = true := by
            have q : ¬ (r.n : Int) = (n : Int) := by omega
            simpa using q
          have HS2 := HS.out
          rw [HM.out, List.append_nil, Nat.add_zero] at HS2
          have HS3 := Lib.hid HS2
          clear HS2 HBad HForm HMore HUse HD hrn
          go_wp2_with (go_at_call 34; refine (HD0.out _).mono ?_; rintro e w1 ⟨rfl, x1⟩; have X1 := Lib.hid x1; have hb1 := HBl.out w1; have c0 := hb1.cell 0 _ rfl; have c1 := hb1.cell 1 _ rfl; clear x1 hb1)
          go_ret3
          refine ⟨_, by rw [HS3.out]; rfl, HX.out.trans (X1.out.alloc _), ?_⟩
          rw [HS3.out]
          exact HB.out.ext (X1.out.alloc _)
      · have hne : ((e0 : Int) != 0) = true := by
          have q : ¬ (e0 : Int) = 0 := by omega
          simpa using q
        have HB0 := Lib.hid (HBad.out he)
        have HS2 := HS.out
        rw [HB0.out, List.append_nil, Nat.add_zero] at HS2
        have HS3 := Lib.hid HS2
        clear HS2
        go_wp2_with (go_at_call 34; refine (HD.out _).mono ?_; rintro e w1 ⟨rfl, x1⟩; have X1 := Lib.hid x1; clear x1)
        go_ret3
        refine ⟨_, by rw [HS3.out]; rfl, HX.out.trans (X1.out.alloc _), ?_⟩
        rw [HS3.out]
        exact HB.out.ext (X1.out.alloc _)
    · obtain rfl : a = s.size := by omega
      have h0 : (s.extract s.size s.size).size = 0 := by rw [rest_size]; omega
      have HS2 := HS.out
      rw [scanF_nil h0] at HS2
      have HS3 := Lib.hid HS2
      clear HS2 h0 hlt
      go_wp2
      go_ret3
      refine ⟨_, by rw [HS3.out]; rfl, HX.out, ?_⟩
      rw [HS3.out, List.append_nil]
      exact HB.out
end Go.Proofs.Ytoffjkeejnldlaa
