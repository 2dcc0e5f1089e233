/- Contracts: an edit's outcome on a cell, by the program. -/
import Derived.Test.YtkjcpjalldbahaaDoorM23
section
namespace Go.Proofs.YtkjcpjalldbahaaDoor
open Go.RowKit

theorem size3T (w : World) (o o' o'' : Obj) : (((w.alloc o).alloc o').alloc o'').heap.size = w.heap.size + 3 := by simp
def editV (e : EditP) : Value := .agg #[.int .u8 (e.k : Int), .string e.p, .bool e.any, .int .u64 (e.want : Int), .int .u64 (e.n : Int), .string e.t]
set_option maxRecDepth 100000 in
set_option maxHeartbeats 4000000 in
theorem outcome_any (w : World) (m : Nat) (p : Option Addr) (c : Nat) (L : List Ver) (h : VersP w p L) (hl : L.length ≤ 1000000) (hm : m < 18446744073709551616) (k : Nat) (s : ByteArray) (any : Bool) (want n : Nat) (t : ByteArray) (hs : s.size ≤ 140737488351232) (ht : t.size ≤ 140737488355328) :
    Calls Tryd.prog 30 #[.agg #[.int .u64 (m : Int), .slice p L.length c], .agg #[.int .u8 (k : Int), .string s, .bool any, .int .u64 (want : Int), .int .u64 (n : Int), .string t]] w fun e w' => ∃ q c', e = .returned (.tuple #[.agg #[.int .u64 ((outR m L ⟨k, s, any, want, n, t⟩).last : Int), .slice q (outR m L ⟨k, s, any, want, n, t⟩).L.length c'], .int .i64 ((outR m L ⟨k, s, any, want, n, t⟩).e : Int)]) ∧ IsV w' w.heap.size q c' (outR m L ⟨k, s, any, want, n, t⟩).L ∧ Ext w w' := by
  obtain ⟨nn, hnn⟩ : ∃ nn, L.length = nn := ⟨_, rfl⟩
  have HX0 := Lib.hid ((((Ext.refl w).alloc (.cells #[.int .u64 (m : Int), .slice p nn c] 54)).alloc (.cells #[.int .u8 (k : Int), .string s, .bool any, .int .u64 (want : Int), .int .u64 (n : Int), .string t] 40)).alloc (.cells #[.int .u64 0, .slice none 0 0] 54))
  have HB1 := Lib.hid (((Blk.new w [.int .u64 (m : Int), .slice p nn c] 54).alloc (.cells #[.int .u8 (k : Int), .string s, .bool any, .int .u64 (want : Int), .int .u64 (n : Int), .string t] 40)).alloc (.cells #[.int .u64 0, .slice none 0 0] 54))
  have HB2 := Lib.hid ((Blk.new1V w (.cells #[.int .u64 (m : Int), .slice p nn c] 54) [.int .u8 (k : Int), .string s, .bool any, .int .u64 (want : Int), .int .u64 (n : Int), .string t] 40).alloc (.cells #[.int .u64 0, .slice none 0 0] 54))
  have HB3 := Lib.hid (Blk.new2V w (.cells #[.int .u64 (m : Int), .slice p nn c] 54) (.cells #[.int .u8 (k : Int), .string s, .bool any, .int .u64 (want : Int), .int .u64 (n : Int), .string t] 40) [.int .u64 0, .slice none 0 0] 54)
  have HP := Lib.hid (fun u => May_any s hs u)
  have HNN := Lib.hid hnn
  obtain ⟨⟨er, la, LL⟩, hO⟩ : ∃ O, outR m L ⟨k, s, any, want, n, t⟩ = O := ⟨_, rfl⟩
  obtain ⟨nl, hnl⟩ : ∃ nl, LL.length = nl := ⟨_, rfl⟩
  rw [hO, hnn]
  dsimp only
  rw [hnl]
  cases hp : mayB s.data.toList with
  | false =>
    have hO2 : (⟨2, 0, []⟩ : Out) = ⟨er, la, LL⟩ := by rw [← hO]; simp [outR, hp]
    simp only [Out.mk.injEq] at hO2
    obtain ⟨rfl, rfl, rfl⟩ := hO2
    simp only [List.length_nil] at hnl
    subst hnl
    rw [hp] at HP
    clear h hnn hO hp hs ht hm hl
    go_enter Tryd.func30, Tryd.ntmps30
    go_wp2_with (go_at_call 38; refine (HP.out _).mono ?_; rintro e w1 ⟨rfl, x1⟩; have HX1 := Lib.hid (HX0.out.trans x1); have A3 := Lib.hid (HB3.out.ext x1); have c0 := A3.out.cell 0 _ rfl; have c1 := A3.out.cell 1 _ rfl; have cf0 := A3.out.frozen 0; have cf1 := A3.out.frozen 1; clear x1)
    exact bodyPost_ret (resV_row_tmp rfl _ _ (w.heap.size + 2) #[.int .u64 0, .slice none 0 0] rfl (load_cell _ _ 0 _ _ _ ((A3.out.set_ 0 _).set_ 1 _))) rfl ⟨none, 0, rfl, IsV.nil _ _, (HX1.out.setCell (p := ⟨w.heap.size + 2, 0, none⟩) (by show w.heap.size ≤ w.heap.size + 2; omega) _).setCell (p := ⟨w.heap.size + 2, 1, none⟩) (by show w.heap.size ≤ w.heap.size + 2; omega) _⟩
  | true =>
    rw [hp] at HP
    by_cases hk1 : k = 1
    · subst hk1
      have hO2 : putL m L any want t = ⟨er, la, LL⟩ := by rw [← hO]; simp [outR, hp]
      have HC : Hid (∀ u, Ext w u → Calls Tryd.prog 44 #[.agg #[.int .u64 (m : Int), .slice p nn c], .bool any, .int .u64 (want : Int), .string t] u fun e w' => ∃ q c', e = .returned (.tuple #[.agg #[.int .u64 (la : Int), .slice q nl c'], .int .i64 (er : Int)]) ∧ IsV w' u.heap.size q c' LL ∧ Ext u w') := Lib.hid (fun u x => by
        have := put_any u m p c L (h.ext x) hl hm any want t ht
        rw [hO2, hnn] at this
        dsimp only at this
        rwa [hnl] at this)
      clear h hnn hO hO2 hp hs ht hm hl hnl
      go_enter Tryd.func30, Tryd.ntmps30
      go_wp2_with (first | (go_at_call 38; refine (HP.out _).mono ?_; rintro e w1 ⟨rfl, x1⟩; have HX1 := Lib.hid (HX0.out.trans x1); have A1 := Lib.hid (HB1.out.ext x1); have A2 := Lib.hid (HB2.out.ext x1); have A3 := Lib.hid (HB3.out.ext x1); have a0 := A1.out.cell 0 _ rfl; have a1 := A1.out.cell 1 _ rfl; have b0 := A2.out.cell 0 _ rfl; have b2 := A2.out.cell 2 _ rfl; have b3 := A2.out.cell 3 _ rfl; have b4 := A2.out.cell 4 _ rfl; have b5 := A2.out.cell 5 _ rfl; have c0 := A3.out.cell 0 _ rfl; have c1 := A3.out.cell 1 _ rfl; have cf0 := A3.out.frozen 0; have cf1 := A3.out.frozen 1; clear x1) | (go_at_call 44; refine (HC.out _ HX1.out).mono ?_; rintro e w2 ⟨q, c2, rfl, v2, x2⟩; have HX2 := Lib.hid (HX1.out.trans x2); have HV2 : Hid (IsV w2 w.heap.size q c2 LL) := Lib.hid (v2.base HX1.out.size); have D3 := Lib.hid (A3.out.ext x2); have c0 := D3.out.cell 0 _ rfl; have c1 := D3.out.cell 1 _ rfl; have cf0 := D3.out.frozen 0; have cf1 := D3.out.frozen 1; clear v2 x2))
      exact bodyPost_ret (resV_row_tmp rfl _ _ (w.heap.size + 2) #[.int .u64 (la : Int), .slice q nl c2] rfl (load_cell _ _ _ _ _ _ ((D3.out.set_ 0 _).set_ 1 _))) rfl ⟨q, c2, rfl, (HV2.out.parted D3.out (by decide) _).parted (D3.out.set_ 0 _) (by decide) _, (HX2.out.setCell (p := ⟨w.heap.size + 2, 0, none⟩) (by show w.heap.size ≤ w.heap.size + 2; omega) _).setCell (p := ⟨w.heap.size + 2, 1, none⟩) (by show w.heap.size ≤ w.heap.size + 2; omega) _⟩
    by_cases hk2 : k = 2
    · subst hk2
      have hO2 : delL m L any want = ⟨er, la, LL⟩ := by rw [← hO]; simp [outR, hp]
      have HC : Hid (∀ u, Ext w u → Calls Tryd.prog 45 #[.agg #[.int .u64 (m : Int), .slice p nn c], .bool any, .int .u64 (want : Int)] u fun e w' => ∃ q c', e = .returned (.tuple #[.agg #[.int .u64 (la : Int), .slice q nl c'], .int .i64 (er : Int)]) ∧ IsV w' u.heap.size q c' LL ∧ Ext u w') := Lib.hid (fun u x => by
        have := delV_any u m p c L (h.ext x) hl hm any want
        rw [hO2, hnn] at this
        dsimp only at this
        rwa [hnl] at this)
      clear h hnn hO hO2 hp hs ht hm hl hnl hk1
      go_enter Tryd.func30, Tryd.ntmps30
      go_wp2_with (first | (go_at_call 38; refine (HP.out _).mono ?_; rintro e w1 ⟨rfl, x1⟩; have HX1 := Lib.hid (HX0.out.trans x1); have A1 := Lib.hid (HB1.out.ext x1); have A2 := Lib.hid (HB2.out.ext x1); have A3 := Lib.hid (HB3.out.ext x1); have a0 := A1.out.cell 0 _ rfl; have a1 := A1.out.cell 1 _ rfl; have b0 := A2.out.cell 0 _ rfl; have b2 := A2.out.cell 2 _ rfl; have b3 := A2.out.cell 3 _ rfl; have b4 := A2.out.cell 4 _ rfl; have b5 := A2.out.cell 5 _ rfl; have c0 := A3.out.cell 0 _ rfl; have c1 := A3.out.cell 1 _ rfl; have cf0 := A3.out.frozen 0; have cf1 := A3.out.frozen 1; clear x1) | (go_at_call 45; refine (HC.out _ HX1.out).mono ?_; rintro e w2 ⟨q, c2, rfl, v2, x2⟩; have HX2 := Lib.hid (HX1.out.trans x2); have HV2 : Hid (IsV w2 w.heap.size q c2 LL) := Lib.hid (v2.base HX1.out.size); have D3 := Lib.hid (A3.out.ext x2); have c0 := D3.out.cell 0 _ rfl; have c1 := D3.out.cell 1 _ rfl; have cf0 := D3.out.frozen 0; have cf1 := D3.out.frozen 1; clear v2 x2))
      exact bodyPost_ret (resV_row_tmp rfl _ _ (w.heap.size + 2) #[.int .u64 (la : Int), .slice q nl c2] rfl (load_cell _ _ _ _ _ _ ((D3.out.set_ 0 _).set_ 1 _))) rfl ⟨q, c2, rfl, (HV2.out.parted D3.out (by decide) _).parted (D3.out.set_ 0 _) (by decide) _, (HX2.out.setCell (p := ⟨w.heap.size + 2, 0, none⟩) (by show w.heap.size ≤ w.heap.size + 2; omega) _).setCell (p := ⟨w.heap.size + 2, 1, none⟩) (by show w.heap.size ≤ w.heap.size + 2; omega) _⟩
    by_cases hk3 : k = 3
    · subst hk3
      have hO2 : desL m L n = ⟨er, la, LL⟩ := by rw [← hO]; simp [outR, hp]
      have HC : Hid (∀ u, Ext w u → Calls Tryd.prog 46 #[.agg #[.int .u64 (m : Int), .slice p nn c], .int .u64 (n : Int)] u fun e w' => ∃ q c', e = .returned (.tuple #[.agg #[.int .u64 (la : Int), .slice q nl c'], .int .i64 (er : Int)]) ∧ IsV w' u.heap.size q c' LL ∧ Ext u w') := Lib.hid (fun u x => by
        have := des_any u m p c L (h.ext x) hl n
        rw [hO2, hnn] at this
        dsimp only at this
        rwa [hnl] at this)
      clear h hnn hO hO2 hp hs ht hm hl hnl hk1 hk2
      go_enter Tryd.func30, Tryd.ntmps30
      go_wp2_with (first | (go_at_call 38; refine (HP.out _).mono ?_; rintro e w1 ⟨rfl, x1⟩; have HX1 := Lib.hid (HX0.out.trans x1); have A1 := Lib.hid (HB1.out.ext x1); have A2 := Lib.hid (HB2.out.ext x1); have A3 := Lib.hid (HB3.out.ext x1); have a0 := A1.out.cell 0 _ rfl; have a1 := A1.out.cell 1 _ rfl; have b0 := A2.out.cell 0 _ rfl; have b2 := A2.out.cell 2 _ rfl; have b3 := A2.out.cell 3 _ rfl; have b4 := A2.out.cell 4 _ rfl; have b5 := A2.out.cell 5 _ rfl; have c0 := A3.out.cell 0 _ rfl; have c1 := A3.out.cell 1 _ rfl; have cf0 := A3.out.frozen 0; have cf1 := A3.out.frozen 1; clear x1) | (go_at_call 46; refine (HC.out _ HX1.out).mono ?_; rintro e w2 ⟨q, c2, rfl, v2, x2⟩; have HX2 := Lib.hid (HX1.out.trans x2); have HV2 : Hid (IsV w2 w.heap.size q c2 LL) := Lib.hid (v2.base HX1.out.size); have D3 := Lib.hid (A3.out.ext x2); have c0 := D3.out.cell 0 _ rfl; have c1 := D3.out.cell 1 _ rfl; have cf0 := D3.out.frozen 0; have cf1 := D3.out.frozen 1; clear v2 x2))
      exact bodyPost_ret (resV_row_tmp rfl _ _ (w.heap.size + 2) #[.int .u64 (la : Int), .slice q nl c2] rfl (load_cell _ _ _ _ _ _ ((D3.out.set_ 0 _).set_ 1 _))) rfl ⟨q, c2, rfl, (HV2.out.parted D3.out (by decide) _).parted (D3.out.set_ 0 _) (by decide) _, (HX2.out.setCell (p := ⟨w.heap.size + 2, 0, none⟩) (by show w.heap.size ≤ w.heap.size + 2; omega) _).setCell (p := ⟨w.heap.size + 2, 1, none⟩) (by show w.heap.size ≤ w.heap.size + 2; omega) _⟩
    have hk1i : ((k : Int) == 1) = false := by have : ¬ (k : Int) = 1 := (by omega); simpa using this
    have hk2i : ((k : Int) == 2) = false := by have : ¬ (k : Int) = 2 := (by omega); simpa using this
    have hk3i : ((k : Int) == 3) = false := by have : ¬ (k : Int) = 3 := (by omega); simpa using this
    have hO2 : (⟨2, 0, []⟩ : Out) = ⟨er, la, LL⟩ := by rw [← hO]; simp [outR, hk1, hk2, hk3]
    simp only [Out.mk.injEq] at hO2
    obtain ⟨rfl, rfl, rfl⟩ := hO2
    simp only [List.length_nil] at hnl
    subst hnl
    clear h hnn hO hp hs ht hm hl hk1 hk2 hk3
    go_enter Tryd.func30, Tryd.ntmps30
    go_wp2_with ((go_at_call 38; refine (HP.out _).mono ?_; rintro e w1 ⟨rfl, x1⟩; have HX1 := Lib.hid (HX0.out.trans x1); have A1 := Lib.hid (HB1.out.ext x1); have A2 := Lib.hid (HB2.out.ext x1); have A3 := Lib.hid (HB3.out.ext x1); have a0 := A1.out.cell 0 _ rfl; have a1 := A1.out.cell 1 _ rfl; have b0 := A2.out.cell 0 _ rfl; have b2 := A2.out.cell 2 _ rfl; have b3 := A2.out.cell 3 _ rfl; have b4 := A2.out.cell 4 _ rfl; have b5 := A2.out.cell 5 _ rfl; have c0 := A3.out.cell 0 _ rfl; have c1 := A3.out.cell 1 _ rfl; have cf0 := A3.out.frozen 0; have cf1 := A3.out.frozen 1; clear x1))
    exact bodyPost_ret (resV_row_tmp rfl _ _ (w.heap.size + 2) #[.int .u64 0, .slice none 0 0] rfl (load_cell _ _ 0 _ _ _ ((A3.out.set_ 0 _).set_ 1 _))) rfl ⟨none, 0, rfl, IsV.nil _ _, (HX1.out.setCell (p := ⟨w.heap.size + 2, 0, none⟩) (by show w.heap.size ≤ w.heap.size + 2; omega) _).setCell (p := ⟨w.heap.size + 2, 1, none⟩) (by show w.heap.size ≤ w.heap.size + 2; omega) _⟩
end Go.Proofs.YtkjcpjalldbahaaDoor
end
