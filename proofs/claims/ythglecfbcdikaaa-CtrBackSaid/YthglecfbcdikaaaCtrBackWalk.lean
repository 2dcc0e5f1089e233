/- The walk of CtrBack. -/
import Derived.Test.YthglecfbcdikaaaTurnT
import Derived.Test.YthglecfbcdikaaaTxtB
import Derived.Test.YthglecfbcdikaaaCtrWorks
import Derived.Test.YthglecfbcdikaaaNatOf
namespace Go.Proofs.Ythglecfbcdikaaa
open Go.RowKit
attribute [local irreducible] rkey expand enc dec ctrB ctrC ctrL xorL turnL

set_option maxRecDepth 100000 in
set_option maxHeartbeats 4000000 in
theorem CtrBack_walk (a n : ByteArray) (a2 : Int) (s : ByteArray) (a4 : Int) (z0 : a.size ≤ 140737488351232) (z1 : n.size ≤ 140737488351232) (w2 : (Lit.int .u32 a2).wf = true) (z3 : s.size ≤ 140737488351232) (w4 : (Lit.int .u8 a4).wf = true) (w : World) :
    Calls Try.prog 4 #[.string a, .string n, .int .u32 a2, .string s, .int .u8 a4] w fun e w' => e = .returned (.bool true) ∧ Ext w w' := by
  obtain ⟨f, rfl, hf⟩ := nat_of_u32 w2
  obtain ⟨c, rfl, hc⟩ := nat_of_u8 w4
  clear w2 w4
  have x0 := Ext.refl w
  by_cases h1 : 1024 < a.size + n.size ∨ 4096 < s.size ∨ 4294966296 < f
  · have h1i : (1024 : Int) < (a.size : Int) + (n.size : Int) ∨ (4096 : Int) < (s.size : Int) ∨ (4294966296 : Int) < (f : Int) := by omega
    clear h1 hf hc
    go_enter Try.func4, Try.ntmps4
    by_cases c1 : (1024 : Int) < (a.size : Int) + (n.size : Int)
    · clear h1i
      go_wp2_with (go_at_call 7; refine (ctr_works _).mono ?_; rintro e w7 ⟨rfl, h7⟩)
      go_ret
      exact ⟨rfl, h7⟩
    · by_cases c2 : (4096 : Int) < (s.size : Int)
      · clear h1i
        go_wp2_with (go_at_call 7; refine (ctr_works _).mono ?_; rintro e w7 ⟨rfl, h7⟩)
        go_ret
        exact ⟨rfl, h7⟩
      · have c4 : (4294966296 : Int) < (f : Int) := by
          rcases h1i with h | h | h
          · exact absurd h c1
          · exact absurd h c2
          · exact h
        clear h1i
        go_wp2_with (go_at_call 7; refine (ctr_works _).mono ?_; rintro e w7 ⟨rfl, h7⟩)
        go_ret
        exact ⟨rfl, h7⟩
  · have c1 : ¬ (1024 : Int) < (a.size : Int) + (n.size : Int) := by omega
    have c2 : ¬ (4096 : Int) < (s.size : Int) := by omega
    have c3 : ¬ (4294966296 : Int) < (f : Int) := by omega
    have hs : s.size ≤ 4096 := by omega
    have hfb : f + blocksOf s.size ≤ 4294967296 := by unfold blocksOf; omega
    obtain ⟨k, hk⟩ : ∃ k, k = min c (s.size / 16) := ⟨_, rfl⟩
    obtain ⟨p, hp⟩ : ∃ p, p = 16 * k := ⟨_, rfl⟩
    have hps : p ≤ s.size := by omega
    have hkb : f + k + blocksOf (s.size - p) ≤ 4294967296 := by unfold blocksOf; omega
    have hmin : ∀ (ts : Array TypeId) (t : TypeId) (u : World), (Builtin.min_ ts t #[.int .i64 (16 * (c : Int)), .int .i64 ((s.size : Int) / 16 * 16)]).run Try.prog u = .ok (.int .i64 (p : Int)) u := fun ts t u => by
      have := run_min_int2 (P := Try.prog) (w := u) ts t .i64 .i64 (16 * (c : Int)) ((s.size : Int) / 16 * 16)
      rw [this]
      congr 2
      omega
    have hq : (p : Int) / 16 = (k : Int) := by omega
    have F1 := Lib.hid (fun u => full16_any a u)
    have F2 := Lib.hid (fun u => full12_any n u)
    have hK := fulln_size a 16; have hN := fulln_size n 12
    generalize (⟨(fullN a 16).toArray⟩ : ByteArray) = K at *
    generalize (⟨(fullN n 12).toArray⟩ : ByteArray) = N at *
    have s1 := turnT_size K N f s hK
    have y1 : (s.extract 0 p).size = p := by rw [ByteArray.size_extract]; omega
    have y2 : (s.extract p s.size).size = s.size - p := by rw [ByteArray.size_extract]; omega
    have t1 := turnT_size K N f (s.extract 0 p) hK
    have t2 := turnT_size K N (f + k) (s.extract p s.size) hK
    have T1 := turnT_to K N f s hK hN (by omega) hfb hf
    have T2 := turnT_to K N f (turnT K N f s) hK hN (by rw [s1]; omega) (by rw [s1]; exact hfb) hf
    have T3 := turnT_to K N f (s.extract 0 p) hK hN (by omega) (by rw [y1]; unfold blocksOf; omega) hf
    have T4 := turnT_to K N (f + k) (s.extract p s.size) hK hN (by omega) (by rw [y2]; exact hkb) (by omega)
    have T5 := turnT_to K N f ⟨(List.replicate s.size 0).toArray⟩ hK hN (by rw [txt_size, List.length_replicate]; omega) (by rw [txt_size, List.length_replicate]; exact hfb) hf
    have HS := Lib.hid (fun u => stream_yes K N f s.size hK hN (by omega) hf hfb u)
    have e1 := turnT_twice K N f s hK
    have e2 := turnT_cut K N f s hK k (by omega)
    rw [← hp] at e2
    have e3 := turnT_zero K N f s.size hK
    rw [e1] at T2
    rw [e3] at T5
    have hmk := make_bytes s.size (by omega)
    have hzr := fun u => Row.made u 5 s.size
    obtain ⟨C, hC⟩ : ∃ C, madeCells #[Value.int .u8 0] s.size = C := ⟨_, rfl⟩
    rw [hC] at hmk hzr
    have hzt := fun u => (hzr u).text (P := Try.prog) 30 5 9 Try.underlying30 Try.underlying5 Try.underlying9 s.size s.size (List.length_replicate)
    have d1 := slice_upto s p hps
    have d2 := slice_behind s p hps
    have T4b : Hid (∀ u, Calls Try.prog 11 #[.string K, .string N, .int .u32 ((f : Int) + (k : Int)), .string (s.extract p s.size)] u fun e w' => e = .returned (.tuple #[.string (turnT K N (f + k) (s.extract p s.size)), .int .i64 0]) ∧ Ext u w') := Lib.hid (fun u => by
      have := T4.out u
      rwa [Int.natCast_add] at this)
    have hkw : IntKind.u32.wrap (k : Int) = (k : Int) := IntWalk.u32_in _ ⟨by omega, by omega⟩
    have hfk : IntKind.u32.wrap ((f : Int) + (k : Int)) = (f : Int) + (k : Int) := IntWalk.u32_in _ ⟨by omega, by omega⟩
    have hfki : (f : Int) + (k : Int) ≤ 4294967295 := by omega
    have hki : (k : Int) ≤ 256 := by omega
    have hpi : (p : Int) ≤ 4096 := by omega
    have l1 : (turnT K N f (s.extract 0 p)).size ≤ 4096 := by omega
    have l2 : (turnT K N (f + k) (s.extract p s.size)).size ≤ 4096 := by omega
    clear T4 e1 e3 hzr hC t1 t2 y1 y2
    have hE2 := e2
    generalize turnT K N f (s.extract 0 p) = A at *
    generalize turnT K N (f + k) (s.extract p s.size) = B at *
    generalize s.extract 0 p = S1 at *
    generalize s.extract p s.size = S2 at *
    generalize (⟨(ctrL K.data.toList N.data.toList f s.size).toArray⟩ : ByteArray) = Z at *
    generalize (⟨(List.replicate s.size 0).toArray⟩ : ByteArray) = S0 at *
    generalize turnT K N f s = X at *
    clear h1 hs hfb hkb hK hN hf hk hp hps
    go_enter Try.func4, Try.ntmps4
    go_wp2_with (first
      | (go_at_call 8; with_reducible refine (F1.out _).mono ?_; rintro e v1 ⟨rfl, x1⟩; replace x0 := x0.trans x1)
      | (go_at_call 8; with_reducible refine (F2.out _).mono ?_; rintro e v2 ⟨rfl, x2⟩; replace x0 := x0.trans x2)
      | (go_at_call 11; with_reducible refine (T1.out _).mono ?_; rintro e v5 ⟨rfl, x5⟩; replace x0 := x0.trans x5)
      | (go_at_call 11; with_reducible refine (T2.out _).mono ?_; rintro e v6 ⟨rfl, x6⟩; replace x0 := x0.trans x6)
      | (go_at_call 11; with_reducible refine (T3.out _).mono ?_; rintro e v7 ⟨rfl, x7⟩; replace x0 := x0.trans x7)
      | (go_at_call 11; with_reducible refine (T4b.out _).mono ?_; rintro e v8 ⟨rfl, x8⟩; replace x0 := x0.trans x8)
      | (go_at_call 11; with_reducible refine (T5.out _).mono ?_; rintro e v9 ⟨rfl, x9⟩; replace x0 := (x0.alloc _).trans x9)
      | (go_at_call 9; with_reducible refine (HS.out _).mono ?_; rintro e v11 ⟨rfl, x11⟩; replace x0 := x0.trans x11)
      | (go_at_call 7; refine (ctr_works _).mono ?_; rintro e v10 ⟨rfl, x10⟩; replace x0 := x0.trans x10))
    go_ret
    exact ⟨rfl, x0⟩
end Go.Proofs.Ythglecfbcdikaaa
