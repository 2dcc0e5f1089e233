/- The walk of ShaPieces. -/
import Derived.Test.YtlhacmkidonkgaaDoorShaWorks
import Derived.Deep.RegionHeld3
namespace Go.Proofs.YtlhacmkidonkgaaDoor
open Go.RowKit

/-- The first k bytes of a text. -/
def PT (s : ByteArray) (k : Nat) : List UInt8 := s.data.toList.take k
theorem PT_length (s : ByteArray) (k : Nat) (h : k ≤ s.size) : (PT s k).length = k := by unfold PT; rw [List.length_take, size_list]; omega
theorem PT_add (s : ByteArray) (k n : Nat) : PT s k ++ (s.extract k (k + n)).data.toList = PT s (k + n) := by
  unfold PT
  rw [Lib.extract_data, Nat.add_sub_cancel_left, List.take_add]
theorem PT_all (s : ByteArray) : PT s s.size = s.data.toList := by unfold PT; rw [List.take_of_length_le (by rw [size_list]; exact Nat.le_refl _)]
theorem PT_zero (s : ByteArray) : PT s 0 = [] := rfl
/-- The sum of the first k bytes. -/
def SS (s : ByteArray) (k : Nat) : ByteArray := ⟨(shaL (PT s k)).toArray⟩
theorem add_piece (s : ByteArray) (hs : s.size ≤ 2048) (b : Nat) (hb : 2 ≤ b) (u : World) (at_ n : Nat) (hle : at_ + n ≤ s.size) (hL : Laid u) (h : IsHash u b (PT s at_)) :
    Calls Tryd.prog 13 #[.pointer (some ⟨b, 0, none⟩), .string (s.extract at_ (at_ + n))] u fun e w' => e = .returned (.tuple #[]) ∧ IsHash w' b (PT s (at_ + n)) ∧ Below b u w' := by
  have := Add_any u b (PT s at_) (s.extract at_ (at_ + n)) hL hb h (by rw [PT_length s at_ (by omega), ByteArray.size_extract]; omega)
  refine this.mono fun e w' he => ⟨he.1, ?_, he.2.2⟩
  have h2 := he.2.1
  rwa [PT_add] at h2
theorem len_piece (s : ByteArray) (b : Nat) (u : World) (at_ n : Nat) (hle : at_ + n ≤ s.size) (h : IsHash u b (PT s (at_ + n))) :
    Calls Tryd.prog 14 #[.pointer (some ⟨b, 0, none⟩)] u fun e w' => e = .returned (.int .u64 ((at_ : Int) + (n : Int))) ∧ u = w' := by
  have := Len_any u b _ h
  rw [PT_length s _ hle] at this
  have e : ((at_ + n : Nat) : Int) = (at_ : Int) + (n : Int) := by omega
  rw [e] at this
  exact this
theorem whole_piece (s : ByteArray) (hs : s.size ≤ 2048) (b : Nat) (hb : 2 ≤ b) (u : World) (k : Nat) (hk : k ≤ s.size) (hL : Laid u) (h : IsHash u b (PT s k)) :
    Calls Tryd.prog 13 #[.pointer (some ⟨b, 0, none⟩), .string (s.extract k s.size)] u fun e w' => e = .returned (.tuple #[]) ∧ IsHash w' b (PT s s.size) ∧ Below b u w' := by
  have := add_piece s hs b hb u k (s.size - k) (by omega) hL h
  rwa [Nat.add_sub_cancel' hk] at this
theorem len_whole (s : ByteArray) (b : Nat) (u : World) (h : IsHash u b (PT s s.size)) :
    Calls Tryd.prog 14 #[.pointer (some ⟨b, 0, none⟩)] u fun e w' => e = .returned (.int .u64 (s.size : Int)) ∧ u = w' := by
  have := Len_any u b _ h
  rwa [PT_length s _ (Nat.le_refl _)] at this
theorem of_piece (s : ByteArray) (hs : s.size ≤ 2048) (u : World) (k : Nat) (t : TypeId) (hk : k ≤ s.size) (hL : Laid u) :
    Calls Tryd.prog 8 #[.slice (some ⟨u.heap.size, 0, none⟩) 1 1] (u.alloc (.cells #[.string (s.extract 0 k)] t)) fun e w' => e = .returned (.string (SS s k)) ∧ Ext u w' := by
  have := Of_one u (s.extract 0 k) t hL (by rw [ByteArray.size_extract]; omega)
  have e : (s.extract 0 k).data.toList = PT s k := by unfold PT; simp
  rw [e] at this
  exact this
theorem of_whole (s : ByteArray) (hs : s.size ≤ 2048) (u : World) (t : TypeId) (hL : Laid u) :
    Calls Tryd.prog 8 #[.slice (some ⟨u.heap.size, 0, none⟩) 1 1] (u.alloc (.cells #[.string s] t)) fun e w' => e = .returned (.string (SS s s.size)) ∧ Ext u w' := by
  have := Of_one u s t hL (by omega)
  rw [← PT_all] at this
  exact this
theorem texts_one_drew (w : World) (s : ByteArray) (t : TypeId) : Texts (w.alloc (.cells #[.string s] t)).drew ⟨w.heap.size, 0, none⟩ [s] := texts_one w s t
theorem of_old (s : ByteArray) (hs : s.size ≤ 2048) (u : World) (g k : Nat) (hk : k ≤ s.size) (hL : Laid u) (hT : Texts u ⟨g, 0, none⟩ [s.extract 0 k]) :
    Calls Tryd.prog 8 #[.slice (some ⟨g, 0, none⟩) 1 1] u fun e w' => e = .returned (.string (SS s k)) ∧ Ext u w' := by
  have := Of_any u ⟨g, 0, none⟩ 1 [s.extract 0 k] hL hT (by simp) (by rw [joinL_one, size_list, ByteArray.size_extract]; omega)
  have e : (s.extract 0 k).data.toList = PT s k := by unfold PT; simp
  rw [joinL_one, e] at this
  exact this
theorem of_old_whole (s : ByteArray) (hs : s.size ≤ 2048) (u : World) (g : Nat) (hL : Laid u) (hT : Texts u ⟨g, 0, none⟩ [s]) :
    Calls Tryd.prog 8 #[.slice (some ⟨g, 0, none⟩) 1 1] u fun e w' => e = .returned (.string (SS s s.size)) ∧ Ext u w' := by
  have := Of_any u ⟨g, 0, none⟩ 1 [s] hL hT (by simp) (by rw [joinL_one, size_list]; omega)
  rw [joinL_one, ← PT_all] at this
  exact this
theorem sum_piece (s : ByteArray) (b : Nat) (u : World) (k : Nat) (hL : Laid u) (h : IsHash u b (PT s k)) :
    Calls Tryd.prog 15 #[.pointer (some ⟨b, 0, none⟩)] u fun e w' => e = .returned (.string (SS s k)) ∧ Ext u w' := Sum_any u b _ hL h
/-- A row of bytes, and one of truths, or none. -/
def Bytes (w : World) (pa : Option Addr) (n : Nat) : Prop := ∀ k, k < n → ∃ p z, pa = some p ∧ p.block < w.heap.size ∧ (0 : Int) ≤ z ∧ z < 256 ∧ w.cell? (p.add k) = some (.int .u8 z)
def Truths (w : World) (qa : Option Addr) (n : Nat) : Prop := ∀ k, k < n → ∃ q c, qa = some q ∧ q.block < w.heap.size ∧ w.cell? (q.add k) = some (.bool c)
theorem ext_cell {w w' : World} (hx : Ext w w') {a : Addr} {v : Value} (ha : a.block < w.heap.size) (h : w.cell? a = some v) : w'.cell? a = some v := by
  rw [hx.below.cell ha]; exact h

set_option maxRecDepth 100000 in
set_option maxHeartbeats 4000000 in
theorem ShaPieces_walk (s : ByteArray) (pa qa : Option Addr) (np nq pc qc : Nat) (w : World) (hL : Laid w) (hp : Bytes w pa np) (hq : Truths w qa nq) (hs0 : s.size ≤ 140737488351232) (hnp : np ≤ 140737488351232) (hnq : nq ≤ 140737488351232) :
    Calls Tryd.prog 5 #[.string s, .slice pa np pc, .slice qa nq qc] w fun e w' => e = .returned (.bool true) ∧ Ext w w' := by
  have hsz := hL.size
  have HL := Lib.hid hL; have HP := Lib.hid hp; have HQ := Lib.hid hq
  clear hL hp hq
  by_cases hg : 2048 < s.size ∨ 300 < np ∨ 300 < nq
  · by_cases g1 : 2048 < s.size
    all_goals
      by_cases g2 : 300 < np
    all_goals
      by_cases g3 : 300 < nq
    all_goals first
      | (exfalso; omega)
      | (clear hg
         go_enter Tryd.func5, Tryd.ntmps5
         go_wp2_with (go_at_call 7; refine (sha_works _ HL.out).mono ?_; rintro e w1 ⟨rfl, h1⟩)
         go_ret
         exact ⟨rfl, h1⟩)
  · have hs : s.size ≤ 2048 := by omega
    have hn1 : np ≤ 300 := by omega
    have hn2 : nq ≤ 300 := by omega
    clear hg hs0 hnp hnq
    have HA := Lib.hid (fun u a n h1 h2 h3 => add_piece s hs w.heap.size hsz u a n h1 h2 h3)
    have HN := Lib.hid (fun u a n h1 h2 => len_piece s w.heap.size u a n h1 h2)
    have HS := Lib.hid (fun u k (h1 : Laid u) (h2 : IsHash u w.heap.size (PT s k)) => sum_piece s w.heap.size u k h1 h2)
    have HO := Lib.hid (fun u k t h1 h2 => of_piece s hs u k t h1 h2)
    have HW := Lib.hid (fun u t h1 => of_whole s hs u t h1)
    go_enter Tryd.func5, Tryd.ntmps5
    go_wp2_with (go_at_call 12; refine (New_any w HL.out).mono ?_; rintro e w1 ⟨rfl, hH, h1⟩)
    have HH := Lib.hid hH; have HE := Lib.hid h1
    clear hH h1
    go_loopw [8, 9] (fun a i wr => ∃ (k j : Nat), k ≤ s.size ∧ (j ≤ np ∨ k = s.size) ∧ j ≤ 301 ∧ a = .int .i64 k ∧ i = .int .i64 j ∧ IsHash wr w.heap.size (PT s k) ∧ Ext w wr) (fun a i _ => (s.size - (intOf a).toNat) + (np - (intOf i).toNat))
    case atStart => exact ⟨0, 0, Nat.zero_le _, .inl (Nat.zero_le _), by omega, rfl, rfl, HH.out, HE.out⟩
    case round =>
      obtain ⟨k, j, hk, hj, hj2, rfl, rfl, hH, hext⟩ := hrel
      have HH2 := Lib.hid hH; have HE2 := Lib.hid hext
      clear hH hext
      by_cases hlt : k < s.size
      · have hjn : j ≤ np := by omega
        clear hj
        have i1 : (k : Int) < (s.size : Int) := by omega
        by_cases hjp : j < np
        · obtain ⟨p, z, hpe, hpb, hz0, hz1, hpc0⟩ := HP.out j hjp
          obtain ⟨n, hn⟩ : ∃ n : Nat, (n : Int) = min ((s.size : Int) - (k : Int)) z := ⟨(min ((s.size : Int) - (k : Int)) z).toNat, by omega⟩
          have hle : k + n ≤ s.size := by omega
          have hmin : ∀ (ts : Array TypeId) (t : TypeId) (W : World), (Builtin.min_ ts t #[.int .i64 ((s.size : Int) - (k : Int)), .int .i64 z]).run Tryd.prog W = .ok (.int .i64 (n : Int)) W := fun ts t W => by
            have := run_min_int2 (P := Tryd.prog) (w := W) ts t .i64 .i64 ((s.size : Int) - (k : Int)) z
            rw [this]
            congr 2
            rw [hn]
            omega
          have hpc := ext_cell HE2.out (by rw [add_block]; exact hpb) hpc0
          have hpb2 : p.block < wr.heap.size := Nat.lt_of_lt_of_le hpb HE2.out.size
          have i2 : (j : Int) < (np : Int) := by omega
          have HM := Lib.hid hn
          clear hn hpc0
          subst hpe
          have hd1 : k + n ≤ 2048 := by omega
          go_wp2_with (first
            | (go_at_call 13; ((with_reducible refine (HA.out _ k n hle (HL.out.ext HE2.out) HH2.out).mono ?_); (rintro e w2 ⟨rfl, hH2, hb2⟩); have HH3 := Lib.hid hH2; have HE3 := Lib.hid (HE2.out.trans3 hb2); clear hH2 hb2))
            | (go_at_call 14; refine (HN.out _ k n hle HH3.out).mono ?_; rintro e w3 ⟨rfl, rfl⟩))
          by_cases hjq : j < nq
          · obtain ⟨q, c, hqe, hqb, hqc0⟩ := HQ.out j hjq
            have hqc := ext_cell HE3.out (by rw [add_block]; exact hqb) hqc0
            have hqb2 : q.block < w2.heap.size := Nat.lt_of_lt_of_le hqb HE3.out.size
            have i3 : (j : Int) < (nq : Int) := by omega
            have i4 : decide ((j : Int) < (nq : Int)) = true := by simp; omega
            have i5 : (0 : Int) ≤ (j : Int) := by omega
            clear hqc0
            subst hqe
            cases c
            · go_quiet (fail)
              go_wp2
              go_roundw
              case rel => exact ⟨k + n, j + 1, hle, .inl hjp, by omega, by go_num, by go_num, HH3.out.ext ((Ext.refl _).drewN _), HE3.out.trans ((Ext.refl _).drewN _)⟩
              case measure => simp [intOf]; omega
            · have hx := Lib.hid ((Ext.refl w2).drew)
              have b1 : (0 : Int) ≤ (k : Int) + (n : Int) := by omega
              have b2 : (k : Int) + (n : Int) ≤ (s.size : Int) := by omega
              have b3 : ((k : Int) + (n : Int)).toNat = k + n := by omega
              have b4 : k + n ≤ s.size := hle
              go_region_held3 (fun u => u.cell? (q.add j) = some (.bool true)) (first | exact hqc | exact ext_cell hx.out (by rw [add_block]; exact hqb2) hqc | exact ext_cell (((Ext.refl w2).alloc _).drew) (by rw [add_block]; exact hqb2) hqc | go_keep) (first
                | (go_at_call 15; ((with_reducible refine (HS.out _ (k + n) (HL.out.ext (HE3.out.trans hx.out)) (HH3.out.ext hx.out)).mono ?_); rintro e w4 ⟨rfl, h4⟩; replace hx := Lib.hid (hx.out.trans h4); clear h4))
                | (go_at_call 15; ((with_reducible refine (HS.out _ (k + n) (HL.out.ext (HE3.out.trans ((Ext.refl w2).alloc _).drew)) (HH3.out.ext ((Ext.refl w2).alloc _).drew)).mono ?_); rintro e w4 ⟨rfl, h4⟩; have hT := Lib.hid (Texts.ext (texts_one_drew w2 _ _) h4); replace hx := Lib.hid ((((Ext.refl w2).alloc _).drew).trans h4); clear h4))
                | (go_at_call 8; ((with_reducible refine (HO.out _ (k + n) _ (by omega) (HL.out.ext (HE3.out.trans hx.out))).mono ?_); rintro e w4 ⟨rfl, h4⟩; replace hx := Lib.hid (hx.out.trans h4); clear h4))
                | (go_at_call 8; ((with_reducible refine (of_old s hs _ _ (k + n) (by omega) (HL.out.ext (HE3.out.trans hx.out)) hT.out).mono ?_); rintro e w4 ⟨rfl, h4⟩; replace hx := Lib.hid (hx.out.trans h4); clear h4)))
              all_goals
                go_wp2
                go_roundw
                case rel => exact ⟨k + n, j + 1, hle, .inl hjp, by omega, by go_num, by go_num, HH3.out.ext hx.out, HE3.out.trans hx.out⟩
                case measure => simp [intOf]; omega
          · have i3 : (nq : Int) ≤ (j : Int) := by omega
            have i4 : decide ((j : Int) < (nq : Int)) = false := by simp; omega
            go_quiet (fail)
            go_wp2
            go_roundw
            case rel => exact ⟨k + n, j + 1, hle, .inl hjp, by omega, by go_num, by go_num, HH3.out.ext ((Ext.refl _).drewN _), HE3.out.trans ((Ext.refl _).drewN _)⟩
            case measure => simp [intOf]; omega
        · have i2 : (np : Int) ≤ (j : Int) := by omega
          have HA2 := Lib.hid (fun u (h2 : Laid u) h3 => whole_piece s hs w.heap.size hsz u k hk h2 h3)
          have HN2 := Lib.hid (fun u h2 => len_whole s w.heap.size u h2)
          go_wp2_with (first
            | (go_at_call 13; ((with_reducible refine (HA2.out _ (HL.out.ext HE2.out) HH2.out).mono ?_); (rintro e w2 ⟨rfl, hH2, hb2⟩); have HH3 := Lib.hid hH2; have HE3 := Lib.hid (HE2.out.trans3 hb2); clear hH2 hb2))
            | (go_at_call 14; refine (HN2.out _ HH3.out).mono ?_; rintro e w3 ⟨rfl, rfl⟩))
          by_cases hjq : j < nq
          · obtain ⟨q, c, hqe, hqb, hqc0⟩ := HQ.out j hjq
            have hqc := ext_cell HE3.out (by rw [add_block]; exact hqb) hqc0
            have hqb2 : q.block < w2.heap.size := Nat.lt_of_lt_of_le hqb HE3.out.size
            have i3 : (j : Int) < (nq : Int) := by omega
            have i4 : decide ((j : Int) < (nq : Int)) = true := by simp; omega
            have i5 : (0 : Int) ≤ (j : Int) := by omega
            clear hqc0
            subst hqe
            cases c
            · go_quiet (fail)
              go_wp2
              go_roundw
              case rel => exact ⟨s.size, j + 1, Nat.le_refl _, .inr rfl, by omega, int_eq (by omega), by go_num, HH3.out.ext ((Ext.refl _).drewN _), HE3.out.trans ((Ext.refl _).drewN _)⟩
              case measure => simp [intOf]; omega
            · have hx := Lib.hid ((Ext.refl w2).drew)
              have b1 : (k : Int) + ((s.size : Int) - (k : Int)) = (s.size : Int) := by omega
              have b2 : (0 : Int) ≤ (s.size : Int) := by omega
              go_region_held3 (fun u => u.cell? (q.add j) = some (.bool true)) (first | exact hqc | exact ext_cell hx.out (by rw [add_block]; exact hqb2) hqc | exact ext_cell (((Ext.refl w2).alloc _).drew) (by rw [add_block]; exact hqb2) hqc | go_keep) (first
                | (go_at_call 15; ((with_reducible refine (HS.out _ (s.size) (HL.out.ext (HE3.out.trans hx.out)) (HH3.out.ext hx.out)).mono ?_); rintro e w4 ⟨rfl, h4⟩; replace hx := Lib.hid (hx.out.trans h4); clear h4))
                | (go_at_call 15; ((with_reducible refine (HS.out _ (s.size) (HL.out.ext (HE3.out.trans ((Ext.refl w2).alloc _).drew)) (HH3.out.ext ((Ext.refl w2).alloc _).drew)).mono ?_); rintro e w4 ⟨rfl, h4⟩; have hT := Lib.hid (Texts.ext (texts_one_drew w2 _ _) h4); replace hx := Lib.hid ((((Ext.refl w2).alloc _).drew).trans h4); clear h4))
                | (go_at_call 8; ((with_reducible refine (HW.out _ _ (HL.out.ext (HE3.out.trans hx.out))).mono ?_); rintro e w4 ⟨rfl, h4⟩; replace hx := Lib.hid (hx.out.trans h4); clear h4))
                | (go_at_call 8; ((with_reducible refine (of_old_whole s hs _ _ (HL.out.ext (HE3.out.trans hx.out)) hT.out).mono ?_); rintro e w4 ⟨rfl, h4⟩; replace hx := Lib.hid (hx.out.trans h4); clear h4)))
              all_goals
                go_wp2
                go_roundw
                case rel => exact ⟨s.size, j + 1, Nat.le_refl _, .inr rfl, by omega, int_eq (by omega), by go_num, HH3.out.ext hx.out, HE3.out.trans hx.out⟩
                case measure => simp [intOf]; omega
          · have i3 : (nq : Int) ≤ (j : Int) := by omega
            have i4 : decide ((j : Int) < (nq : Int)) = false := by simp; omega
            go_quiet (fail)
            go_wp2
            go_roundw
            case rel => exact ⟨s.size, j + 1, Nat.le_refl _, .inr rfl, by omega, int_eq (by omega), by go_num, HH3.out.ext ((Ext.refl _).drewN _), HE3.out.trans ((Ext.refl _).drewN _)⟩
            case measure => simp [intOf]; omega
      · obtain rfl : k = s.size := by omega
        have i1 : ¬ ((s.size : Int) < (s.size : Int)) := by omega
        clear hj hlt
        have hx := Lib.hid (Ext.refl wr)
        go_wp2_with (first
          | (go_at_call 13; ((with_reducible refine (Add_nil s _).mono ?_); rintro e w2 ⟨rfl, rfl⟩))
          | (go_at_call 15; ((with_reducible refine (HS.out _ s.size (HL.out.ext (HE2.out.trans hx.out)) (HH2.out.ext hx.out)).mono ?_); rintro e w2 ⟨rfl, h2⟩; replace hx := Lib.hid (hx.out.trans h2); clear h2))
          | (go_at_call 15; ((with_reducible refine (Sum_nil _).mono ?_); rintro e w2 ⟨rfl, rfl⟩))
          | (go_at_call 8; ((with_reducible refine (HW.out _ _ (HL.out.ext (HE2.out.trans hx.out))).mono ?_); rintro e w2 ⟨rfl, h2⟩; replace hx := Lib.hid (hx.out.trans h2); clear h2))
          | (go_at_call 14; ((with_reducible refine (Len_nil _).mono ?_); rintro e w2 ⟨rfl, rfl⟩))
          | (go_at_call 7; ((with_reducible refine (sha_works _ (HL.out.ext (HE2.out.trans hx.out))).mono ?_); rintro e w2 ⟨rfl, h2⟩; replace hx := Lib.hid (hx.out.trans h2); clear h2)))
        go_ret
        exact ⟨rfl, HE2.out.trans hx.out⟩
end Go.Proofs.YtlhacmkidonkgaaDoor
