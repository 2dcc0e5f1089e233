/- The walk of layer 10's statement FrameBack. -/
import Derived.Test.YthoajlajcmcabaaFAlive
import Derived.Test.YthoajlajcmcabaaFRow
namespace Go.Proofs.Ythoajlajcmcabaa
open Go.RowKit

theorem zero_build (u : World) : (binOp .eql 24 (.agg #[.int .u64 0, .string ⟨#[]⟩]) (.agg #[.int .u64 0, .string ⟨#[]⟩])).run Try.prog u = .ok (.bool true) u := rec_eql Rec.zero Rec.zero true (by simp) u
theorem txt_eq_iff (a b : ByteArray) : ((a.toList == b.toList) = true) ↔ a = b := by
  rw [beq_iff_eq, ByteArray.toList_eq, ByteArray.toList_eq]
  constructor
  · intro h
    cases a; cases b
    congr 1
    exact Array.toList_inj.1 h
  · rintro rfl; rfl
set_option maxRecDepth 100000 in
set_option maxHeartbeats 4000000 in
theorem FrameBack_walk (x y : Rec) (s : ByteArray) (W : World) (y0 : x.n < 18446744073709551616) (z0 : x.t.size ≤ 140737488351232) (y1 : y.n < 18446744073709551616) (z1 : y.t.size ≤ 140737488351232) (z2 : s.size ≤ 140737488351232) :
    Calls Try.prog 6 #[.agg #[.int .u64 (x.n : Int), .string x.t], .agg #[.int .u64 (y.n : Int), .string y.t], .string s] W fun e W' => e = .returned (.bool true) ∧ Ext W W' := by
  obtain ⟨W1, hW1⟩ : ∃ W1, (W.alloc (.cells #[.int .u64 (x.n : Int), .string x.t] 24)).alloc (.cells #[.int .u64 (y.n : Int), .string y.t] 24) = W1 := ⟨_, rfl⟩
  have hbx : Blk W1 W.heap.size 24 [.int .u64 (x.n : Int), .string x.t] := by rw [← hW1]; exact (Blk.new W _ _).alloc _
  have hby : Blk W1 (W.heap.size + 1) 24 [.int .u64 (y.n : Int), .string y.t] := by
    rw [← hW1]
    have := Blk.new (W.alloc (.cells #[.int .u64 (x.n : Int), .string x.t] 24)) [.int .u64 (y.n : Int), .string y.t] 24
    simpa using this
  have hx1 : Ext W W1 := by rw [← hW1]; exact ((Ext.refl W).alloc _).alloc _
  have c0 := hbx.cell 0 _ rfl
  have c1 := hbx.cell 1 _ rfl
  have c2 := hby.cell 0 _ rfl
  have c3 := hby.cell 1 _ rfl
  have HBx := Lib.hid hbx; have HBy := Lib.hid hby; have HX1 := Lib.hid hx1
  clear hbx hby hx1
  by_cases hh : 4096 < x.t.size + y.t.size ∨ 4096 < s.size
  · have hcase : (4096 : Int) < (x.t.size : Int) + (y.t.size : Int) ∨ (¬ (4096 : Int) < (x.t.size : Int) + (y.t.size : Int) ∧ (4096 : Int) < (s.size : Int)) := by omega
    clear hh
    go_enter Try.func6, Try.ntmps6
    rcases hcase with q | ⟨q1, q2⟩
    all_goals
      go_wp2_with (go_at_call 8; refine (alive_any _).mono ?_; rintro e w1 ⟨rfl, h1⟩)
      go_ret
      exact ⟨rfl, HX1.out.trans h1⟩
  · have n1 : ¬ (4096 : Int) < (x.t.size : Int) + (y.t.size : Int) := by omega
    have n2 : ¬ (4096 : Int) < (s.size : Int) := by omega
    have HEx := Lib.hid (fun u => enc_yes x y0 (by omega) u)
    have HEy := Lib.hid (fun u => enc_yes y y1 (by omega) u)
    have HD := Lib.hid (fun u => Decode_any s (by omega) u)
    have hgd := rec_guard
    have hfx := frameT_size x; have hfy := frameT_size y
    have HInj := Lib.hid (fun h => frame_inj x y (by omega) y0 (by omega) y1 h)
    have HFr := Lib.hid (fun h => frame_front x y (by omega) y0 (by omega) y1 h)
    -- what the first test comes to
    have htest : ∀ d1 d2 : Bool, (d1 = true ↔ x ≠ y) → (d2 = true ↔ x = y) → ((frameT x).toList == (frameT y).toList) = d2 ∧ (d1 = true → (frameT x).size ≤ (frameT y).size → (((frameT y).extract 0 (frameT x).size).toList == (frameT x).toList) = false) := by
      intro d1 d2 h1 h2
      refine ⟨?_, fun hd hle => ?_⟩
      · rw [Bool.eq_iff_iff, txt_eq_iff, h2]
        exact ⟨HInj.out, fun e => by rw [e]⟩
      · rw [← Bool.not_eq_true, txt_eq_iff]
        intro e
        refine h1.1 hd (HFr.out ?_)
        have e2 := congrArg (fun b : ByteArray => b.data.toList) e
        simp only [cut_list, List.drop_zero, Nat.sub_zero, frameT_list, frameT_size] at e2
        rw [frameL_length]
        exact e2
    have hcut : (frameT x).size ≤ (frameT y).size → ∀ u : World, (Instr.slice 9 (.string (frameT y)) none (some (.int .i64 ((frameT x).size : Int))) none).run Try.prog u = .ok (.string ((frameT y).extract 0 (frameT x).size)) u := fun h u => cut_to _ _ h u
    -- the three ways of the first test
    have hways : ∃ d1 d2 : Bool, (d1 = true ↔ x ≠ y) ∧ (d2 = true ↔ x = y) ∧ (d1 = false ∧ d2 = true ∨ d1 = true ∧ d2 = false) := by
      by_cases hxy : x = y
      · exact ⟨false, true, by simp [hxy], by simp [hxy], .inl ⟨rfl, rfl⟩⟩
      · exact ⟨true, false, by simp [hxy], by simp [hxy], .inr ⟨rfl, rfl⟩⟩
    obtain ⟨d1, d2, hd1, hd2, hd⟩ := hways
    obtain ⟨ht1, ht2⟩ := htest d1 d2 hd1 hd2
    have hq1 := fun u => rec_neq x y d1 hd1 u
    have hq2 := fun u => rec_eql x y d2 hd2 u
    have hbx4 : Hid ((frameT x).size ≤ 5000 ∧ (frameT y).size ≤ 5000) := Lib.hid (by omega)
    clear hh HInj HFr htest hd1 hd2 hfx hfy
    generalize hA : frameT x = A at *
    generalize hB : frameT y = B at *
    clear hA hB
    generalize hC : B.extract 0 A.size = C at *
    clear hC
    -- what the second half comes to
    by_cases he : (decF s).2.2 = 0
    · obtain ⟨hf1, hf2, hf3⟩ := decF_front s he
      obtain ⟨hu1, hu2, hu3⟩ := decF_used s he
      have HEr := Lib.hid (fun u => enc_yes (decF s).1 hf3 hf2 u)
      have hsz := frameT_size (decF s).1
      have hcs : ∀ u : World, (Instr.slice 9 (.string s) none (some (.int .i64 ((frameT (decF s).1).size : Int))) none).run Try.prog u = .ok (.string (frameT (decF s).1)) u := fun u => by
        have := cut_to s (frameT (decF s).1).size (by omega) u
        rw [this]
        have e : (s.extract 0 (frameT (decF s).1).size).data.toList = frameL (decF s).1 := by
          rw [cut_list, List.drop_zero, Nat.sub_zero, hsz, ← hu1]; exact hf1
        have e2 : s.extract 0 (frameT (decF s).1).size = frameT (decF s).1 := by
          rw [← txt_back (s.extract 0 (frameT (decF s).1).size), e]; rfl
        rw [e2]
      have hfl : (decF s).2.1 = (frameT (decF s).1).size := by omega
      have hful : (frameT (decF s).1).size ≤ s.size := by omega
      rw [hfl] at HD
      have HBl : Hid (∀ u : World, Blk (u.alloc (.cells #[.int .u64 ((decF s).1.n : Int), .string (decF s).1.t] 24)) u.heap.size 24 [.int .u64 ((decF s).1.n : Int), .string (decF s).1.t]) := Lib.hid (fun u => Blk.new u _ _)
      unfold recV at HD
      rw [he] at HD
      have HD0 : Hid (∀ u1, Calls Try.prog 14 #[.string s] u1 fun e w' => e = .returned (.tuple #[.agg #[.int .u64 ((decF s).1.n : Int), .string (decF s).1.t], .int .i64 ((frameT (decF s).1).size : Int), .int .i64 0]) ∧ Ext u1 w') := HD
      clear HD hf1 hf2 hf3 hu1 hu2 hu3 hsz hfl he
      generalize frameT (decF s).1 = F at *
      generalize (decF s).1 = r at *
      have hgo : (d1 = false ∧ d2 = true) ∨ (d1 = true ∧ d2 = false ∧ A.size ≤ B.size) ∨ (d1 = true ∧ d2 = false ∧ ¬ A.size ≤ B.size) := by
        by_cases hle : A.size ≤ B.size
        · exact hd.elim .inl fun h => .inr (.inl ⟨h.1, h.2, hle⟩)
        · exact hd.elim .inl fun h => .inr (.inr ⟨h.1, h.2, hle⟩)
      clear hd
      have hFF : (F.toList == F.toList) = true := by simp
      go_enter Try.func6, Try.ntmps6
      rcases hgo with ⟨rfl, rfl⟩ | ⟨rfl, rfl, hle⟩ | ⟨rfl, rfl, hle⟩
      case' inr.inl =>
        have h2 := ht2 rfl hle
        have h3 := hcut hle
        clear ht2 hcut
      all_goals
        go_wp2_with (first
        | (go_at_call 12; (with_reducible refine (HEx.out _).mono ?_); rintro e w1 ⟨rfl, x1⟩; have X1 := Lib.hid x1; have k2 := (HBy.out.ext x1).cell 0 _ rfl; have k3 := (HBy.out.ext x1).cell 1 _ rfl; clear c0 c1 c2 c3 x1)
        | (go_at_call 12; (with_reducible refine (HEy.out _).mono ?_); rintro e w2 ⟨rfl, x2⟩; have X2 := Lib.hid (X1.out.trans x2); have c0 := (HBx.out.ext X2.out).cell 0 _ rfl; have c1 := (HBx.out.ext X2.out).cell 1 _ rfl; have c2 := (HBy.out.ext X2.out).cell 0 _ rfl; have c3 := (HBy.out.ext X2.out).cell 1 _ rfl; clear k2 k3 x2)
        | (go_at_call 14; refine (HD0.out _).mono ?_; rintro e w3 ⟨rfl, x3⟩; have X3 := Lib.hid ((X2.out.trans x3).alloc (.cells #[.int .u64 (r.n : Int), .string r.t] 24)); have k0 := (HBl.out w3).cell 0 _ rfl; have k1 := (HBl.out w3).cell 1 _ rfl; clear x3 c0 c1 c2 c3)
        | (go_at_call 12; (with_reducible refine (HEr.out _).mono ?_); rintro e w4 ⟨rfl, x4⟩; have X4 := Lib.hid (X3.out.trans x4))
        | (go_at_call 8; refine (alive_any _).mono ?_; rintro e w5 ⟨rfl, x5⟩))
        go_ret
        exact ⟨rfl, HX1.out.trans (X4.out.trans x5)⟩
    · have hzero : decF s = (Rec.zero, 0, (decF s).2.2) := by
        rcases decF_any s with ⟨e, h, _, _⟩ | ⟨_, _, _, _, h⟩
        · rw [h]
        · exact absurd (by rw [h]) he
      rw [hzero] at HD
      have hne : (((decF s).2.2 : Int) != 0) = true := by
        have q : ¬ ((decF s).2.2 : Int) = 0 := by omega
        simpa using q
      generalize (decF s).2.2 = e0 at *
      have HBl : Hid (∀ u : World, Blk (u.alloc (.cells #[.int .u64 0, .string ⟨#[]⟩] 24)) u.heap.size 24 [.int .u64 0, .string ⟨#[]⟩]) := Lib.hid (fun u => Blk.new u _ _)
      have HD0 : Hid (∀ u1, Calls Try.prog 14 #[.string s] u1 fun e w' => e = .returned (.tuple #[.agg #[.int .u64 0, .string ⟨#[]⟩], .int .i64 0, .int .i64 (e0 : Int)]) ∧ Ext u1 w') := HD
      have hzz := zero_build
      clear HD hzero he
      have hgo : (d1 = false ∧ d2 = true) ∨ (d1 = true ∧ d2 = false ∧ A.size ≤ B.size) ∨ (d1 = true ∧ d2 = false ∧ ¬ A.size ≤ B.size) := by
        by_cases hle : A.size ≤ B.size
        · exact hd.elim .inl fun h => .inr (.inl ⟨h.1, h.2, hle⟩)
        · exact hd.elim .inl fun h => .inr (.inr ⟨h.1, h.2, hle⟩)
      clear hd
      go_enter Try.func6, Try.ntmps6
      rcases hgo with ⟨rfl, rfl⟩ | ⟨rfl, rfl, hle⟩ | ⟨rfl, rfl, hle⟩
      case' inr.inl =>
        have h2 := ht2 rfl hle
        have h3 := hcut hle
        clear ht2 hcut
      all_goals
        go_wp2_with (first
        | (go_at_call 12; (with_reducible refine (HEx.out _).mono ?_); rintro e w1 ⟨rfl, x1⟩; have X1 := Lib.hid x1; have k2 := (HBy.out.ext x1).cell 0 _ rfl; have k3 := (HBy.out.ext x1).cell 1 _ rfl; clear c0 c1 c2 c3 x1)
        | (go_at_call 12; (with_reducible refine (HEy.out _).mono ?_); rintro e w2 ⟨rfl, x2⟩; have X2 := Lib.hid (X1.out.trans x2); have c0 := (HBx.out.ext X2.out).cell 0 _ rfl; have c1 := (HBx.out.ext X2.out).cell 1 _ rfl; have c2 := (HBy.out.ext X2.out).cell 0 _ rfl; have c3 := (HBy.out.ext X2.out).cell 1 _ rfl; clear k2 k3 x2)
        | (go_at_call 14; refine (HD0.out _).mono ?_; rintro e w3 ⟨rfl, x3⟩; have X3 := Lib.hid ((X2.out.trans x3).alloc (.cells #[.int .u64 0, .string ⟨#[]⟩] 24)); have k0 := (HBl.out w3).cell 0 _ rfl; have k1 := (HBl.out w3).cell 1 _ rfl; clear x3 c0 c1 c2 c3)
        | (go_at_call 8; refine (alive_any _).mono ?_; rintro e w5 ⟨rfl, x5⟩))
        go_ret
        exact ⟨rfl, HX1.out.trans (X3.out.trans x5)⟩
end Go.Proofs.Ythoajlajcmcabaa
