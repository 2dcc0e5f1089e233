/- Contract: the records in front of bytes, as an iterator hands them out, and behind them the fault. -/
import Derived.Test.YthnoegipadnmeaaKpL
import Derived.Test.YthnoegipadnmeaaFDec
import Derived.Test.YthnoegipadnmeaaScanL
import Derived.Test.YthnoegipadnmeaaRecs
namespace Go.Proofs.Ythnoegipadnmeaa
open Go.RowKit Go.Shelf
attribute [local go_sem] Oper.semAt_some

def strSize : Value → Nat
  | .string b => b.size
  | _ => 0
theorem frames_any (s : ByteArray) (w : World) :
    Calls Try.prog 54 #[.string s] w fun e w' => e = .returned (.func (.func 67) #[] #[.pointer (some ⟨w.heap.size, 0, none⟩)]) ∧ w' = w.alloc (.cells #[.string s] 9) := by
  go_enter Try.func54, Try.ntmps54
  go_wp2
  go_ret
  exact ⟨rfl, rfl⟩
set_option maxRecDepth 100000 in
set_option maxHeartbeats 2000000 in
theorem frames_stops (n : Nat) (hn : 1 ≤ n) (bs n₀ : Nat) (s : ByteArray) (hs : s.size ≤ 1000000) (w : World) (hw : n₀ ≤ w.heap.size)
    (hbs : bs < w.heap.size) (h1 : w.cell? ⟨bs, 0, none⟩ = some (.string s)) :
    SeqStopsK Fence.wide n Try.prog 67 #[.pointer (some ⟨bs, 0, none⟩)] (fun x : Itm => #[recV x.1.1, .int .i64 (x.1.2 : Int)]) (Below n₀)
      (fun xs => xs = allI s) (fun pre => ∃ t, pre ++ t = allI s) (allI s).length w := fun l J Jx W hW hJ hJx hY h0 => by
  have HY := Lib.hid hY; have HJ := Lib.hid hJ
  have c1 := (hW.cell (p := ⟨bs, 0, none⟩) hbs).trans h1
  have HW := Lib.hid (show n₀ ≤ W.heap.size from by have := hW.size; omega)
  clear hW hY hJ hJx h1
  refine callsIn_of_wp Try.func67 rfl trivial ?_ rfl
  simp only [Try.ntmps67, List.size_toArray, List.length_cons, List.length_nil, Nat.reduceAdd, Nat.reduceSub, Array.replicate_succ, Array.replicate_zero, List.push_toArray, List.append_toArray, List.nil_append, List.cons_append]
  gi_wp2
  gi_loopw [3] (fun rv wr => ∃ (pre : List Itm) (r : ByteArray), rv = .string r ∧ allI s = pre ++ allI r ∧ r.size ≤ s.size ∧ J pre wr ∧ Below n₀ W wr) (fun rv _ => strSize rv)
  case atStart => exact ⟨[], s, rfl, rfl, Nat.le_refl _, h0, Below.refl _ _⟩
  case round =>
    obtain ⟨pre, r, rfl, hall, hr, hJr, hbr⟩ := hrel
    clear h0
    have HJr := Lib.hid hJr; have HBr := Lib.hid hbr; have HA := Lib.hid hall
    clear hJr hbr hall
    by_cases h0 : r.size = 0
    · obtain rfl : r = ⟨#[]⟩ := by
        cases r with | mk d => congr 1; exact Array.size_eq_zero_iff.1 h0
      have hS := HA.out
      rw [allI_nil h0, List.append_nil] at hS
      have HS := Lib.hid hS
      clear hS h0 hr
      gi_wp2
      go_end0
      exact ⟨⟨_, rfl⟩, .inl ⟨_, HS.out.symm, HJr.out⟩⟩
    · have hne : (r.toList == []) = false := by
        rw [ByteArray.toList_eq]
        cases hq : (r.data.toList == []) with
        | false => rfl
        | true =>
          have := beq_iff_eq.1 hq
          exact absurd (by rw [← size_list, this]; rfl) h0
      have HD := Lib.hid (fun u => Decode_any r (by omega) u)
      have HEnc : Hid ((itm r).1 = ((decF r).1, (decF r).2.2)) := Lib.hid rfl
      have HUse := Lib.hid (fun h => decF_used r h)
      have HOk := Lib.hid (fun h => allI_ok h0 h)
      have HBad := Lib.hid (fun h => allI_bad h0 h)
      have he101 := (decF_itm r).2.2
      have hlt : pre.length < (allI s).length := by
        rw [HA.out, List.length_append]
        by_cases he : (decF r).2.2 = 0
        · rw [allI_ok h0 he, List.length_cons]; omega
        · rw [allI_bad h0 he, List.length_singleton]; omega
      have HY2 := Lib.hid (fun W1 (h : J pre W1) => HY.out pre (itm r) W1 h hlt)
      obtain ⟨x, hx⟩ : ∃ x, x = itm r := ⟨_, rfl⟩
      rw [← hx] at HOk HBad HEnc HY2
      have HS := Lib.hid (show n₀ ≤ wr.heap.size from by have := HBr.out.size; have := HW.out; omega)
      rw [HEnc.out] at HY2
      clear hx hlt
      generalize hd : decF r = D at *
      obtain ⟨q, u, e0⟩ := D
      dsimp only at *
      unfold recV at HD HY2
      have HBl : Hid (∀ w1 : World, Blk (w1.alloc (.cells #[.int .u64 (q.n : Int), .string q.t] 60)) w1.heap.size 60 (recCells q)) := Lib.hid (fun w1 => Blk.new w1 _ _)
      clear hd
      by_cases he : e0 = 0
      · subst he
        have HA2 := HA.out
        rw [HOk.out rfl] at HA2
        have HA3 := Lib.hid HA2
        obtain ⟨hu1, hu2, hu3⟩ := HUse.out rfl
        have Hu1 := Lib.hid hu1
        have HD0 : Hid (∀ u1, Calls Try.prog 30 #[.string r] u1 fun e w' => e = .returned (.tuple #[.agg #[.int .u64 (q.n : Int), .string q.t], .int .i64 (u : Int), .int .i64 0]) ∧ Ext u1 w') := HD
        have HY0 : Hid (∀ W1, J pre W1 → YieldAt Fence.wide (n - 1) Try.prog l #[.agg #[.int .u64 (q.n : Int), .string q.t], .int .i64 0] W1 fun e W' => (e = .returned (.bool true) ∧ J (pre ++ [x]) W' ∧ Below n₀ W1 W') ∨ (e = .returned (.bool false) ∧ Jx (pre ++ [x]) W')) := HY2
        have hcut := fun u1 => cut_from r u hu2 u1
        clear HBad HUse HOk HD HY2 HEnc HA2 hu1
        gi_wp2_with (refine ⟨trivial, ?_⟩; gi_at_call 30; refine (callsIn_wide.2 (HD0.out _)).mono ?_; rintro e w2 ⟨rfl, x2⟩; have x3 := x2.alloc (.cells #[.int .u64 (q.n : Int), .string q.t] 60); have hb2 := HBl.out w2; have c2 := hb2.cell 0 _ rfl; have c3 := hb2.cell 1 _ rfl; have X3 := Lib.hid x3; obtain ⟨fn, tmps, assign, body, hy, hR⟩ := HY0.out _ (HJ.out _ _ _ none HJr.out (grown_of_ext x3) (fun r e => by cases e)); clear x2 x3 hb2)
        refine hR.mono ?_
        rintro e W3 (⟨rfl, hJ3, hk3⟩ | ⟨rfl, hJx3⟩)
        · gi_wp2
          go_roundw
          case rel => exact ⟨pre ++ [x], r.extract u r.size, rfl, by rw [HA3.out]; simp, by rw [rest_size]; omega, hJ3, (HBr.out.trans (Below.mono X3.out.below HS.out)).trans hk3⟩
          case measure => simp only [strSize]; rw [rest_size]; have := Hu1.out; omega
        · gi_wp2
          refine bodyPost_ret (results_none rfl _ _ _) rfl ?_
          exact ⟨⟨_, rfl⟩, .inr ⟨_, ⟨allI (r.extract u r.size), by rw [HA3.out]; simp⟩, hJx3⟩⟩
      · have hne0 : ((e0 : Int) != 0) = true := by
          have q : ¬ (e0 : Int) = 0 := by omega
          simpa using q
        have HA2 := HA.out
        rw [HBad.out he] at HA2
        have HA3 := Lib.hid HA2
        clear HBad HUse HOk HEnc HA2
        gi_wp2_with (refine ⟨trivial, ?_⟩; gi_at_call 30; refine (callsIn_wide.2 (HD.out _)).mono ?_; rintro e w2 ⟨rfl, x2⟩; have x3 := x2.alloc (.cells #[.int .u64 (q.n : Int), .string q.t] 60); have hb2 := HBl.out w2; have c2 := hb2.cell 0 _ rfl; have c3 := hb2.cell 1 _ rfl; have X3 := Lib.hid x3; obtain ⟨fn, tmps, assign, body, hy, hR⟩ := HY2.out _ (HJ.out _ _ _ none HJr.out (grown_of_ext x3) (fun r e => by cases e)); clear x2 x3 hb2)
        refine hR.mono ?_
        rintro e W3 (⟨rfl, hJ3, hk3⟩ | ⟨rfl, hJx3⟩)
        · gi_wp2
          refine bodyPost_ret (results_none rfl _ _ _) rfl ?_
          exact ⟨⟨_, rfl⟩, .inl ⟨_, HA3.out.symm, hJ3⟩⟩
        · gi_wp2
          refine bodyPost_ret (results_none rfl _ _ _) rfl ?_
          exact ⟨⟨_, rfl⟩, .inr ⟨_, ⟨[], by rw [HA3.out]; simp⟩, hJx3⟩⟩
end Go.Proofs.Ythnoegipadnmeaa
