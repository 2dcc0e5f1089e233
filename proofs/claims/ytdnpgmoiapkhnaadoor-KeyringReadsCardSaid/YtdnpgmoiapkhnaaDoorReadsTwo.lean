/- Contracts: keys by epochs: Read of any rows: a ring where epochs rise from 1 on, else nothing: by the program. Contracts: keys by epochs: Read of any bytes: by the program. Contracts: keys by epochs: the document's Read, of any bytes. -/
import Derived.Test.YtdnpgmoiapkhnaaDoorM13
import Derived.Test.YtdnpgmoiapkhnaaDoorM45
import Derived.Test.YtdnpgmoiapkhnaaDoorM35
import Derived.Test.YtdnpgmoiapkhnaaDoorM02
import Derived.Test.YtdnpgmoiapkhnaaDoorM12
import Derived.Deep.RegionLaw
import Derived.BigRegion
import Derived.Outline
section
namespace Go.Proofs.YtdnpgmoiapkhnaaDoor
open Go.RowKit

/-- Epochs rise, from 1 on. -/
def Rising (L : List (Nat × ByteArray)) : Prop := (eps L).Pairwise (· < ·) ∧ ∀ e ∈ eps L, 1 ≤ e
/-- Rows of any epochs of 32 bits and keys of 32 bytes. -/
structure RowsOk (L : List (Nat × ByteArray)) : Prop where
  one : 1 ≤ L.length
  few : L.length ≤ 64
  each : ∀ x ∈ L, x.1 < 4294967296 ∧ x.2.size = 32
theorem RowsOk.good {L : List (Nat × ByteArray)} (h : RowsOk L) (hr : Rising L) : GoodK L :=
  ⟨fun e => by have := h.one; rw [e] at this; simp at this, h.few, hr.1, fun x hx => ⟨hr.2 _ (List.mem_map.2 ⟨x, hx, rfl⟩), (h.each x hx).1, (h.each x hx).2⟩⟩
/-- What Read answers: a ring of the rows, or nothing. -/
def ReadE (w w' : World) (L : List (Nat × ByteArray)) (e : Ending) : Prop :=
  (Rising L ∧ ∃ r b, e = .returned (.tuple #[.pointer (some ⟨r, 0, none⟩), .int .i64 0]) ∧ IsK w' r b L ∧ w.heap.size ≤ r ∧ w.heap.size ≤ b) ∨ (¬ Rising L ∧ e = .returned (.tuple #[.pointer none, .int .i64 7]))
theorem rising_next {L : List (Nat × ByteArray)} {j e : Nat} {s : ByteArray} (hd : L.take (j + 1) = L.take j ++ [(e, s)]) (h : Rising (L.take j)) (he : top (eps (L.take j)) < e) : Rising (L.take (j + 1)) := by
  rw [hd]
  unfold Rising eps
  rw [List.map_append, List.pairwise_append]
  refine ⟨⟨h.1, List.pairwise_singleton _ _, fun x hx y hy => ?_⟩, fun x hx => ?_⟩
  · rw [List.map_cons, List.map_nil, List.mem_singleton] at hy
    subst hy
    exact Nat.lt_of_le_of_lt (le_top hx) he
  · rcases List.mem_append.1 hx with hx | hx
    · exact h.2 x hx
    · rw [List.map_cons, List.map_nil, List.mem_singleton] at hx
      rw [hx]
      show 1 ≤ e
      omega
theorem rising_stop {L : List (Nat × ByteArray)} {j e : Nat} {s : ByteArray} (hd : L.take (j + 1) = L.take j ++ [(e, s)]) (he : e ≤ top (eps (L.take j))) : ¬ Rising L := by
  intro h
  have hs : (L.take (j + 1)).Sublist L := List.take_sublist _ _
  have h1 : Rising (L.take (j + 1)) := ⟨h.1.sublist (hs.map _), fun x hx => h.2 x ((hs.map _).subset hx)⟩
  rw [hd] at h1
  unfold Rising eps at h1
  rw [List.map_append, List.pairwise_append] at h1
  by_cases hn : eps (L.take j) = []
  · rw [hn] at he
    have := h1.2 e (by simp)
    simp [top] at he
    omega
  · have := h1.1.2.2 _ (top_mem hn) e (by simp)
    exact absurd this (Nat.not_lt.2 he)
theorem top_snocR (K : List (Nat × ByteArray)) (t : Nat) (s : ByteArray) (h : top (eps K) < t) : top (eps (K ++ [(t, s)])) = t := by
  have hp : (eps (K ++ [(t, s)])).Perm (t :: eps K) := by
    unfold eps
    rw [List.map_append]
    exact List.perm_append_comm
  rw [top_perm hp, top_cons]
  omega
set_option maxRecDepth 100000 in
set_option maxHeartbeats 4000000 in
theorem read_rows (w : World) (L : List (Nat × ByteArray)) (hG : RowsOk L) :
    Calls Tryd.prog 12 #[.string ⟨(ringL L).toArray⟩] w fun e w' => ReadE w w' L e ∧ Ext w w' := by
  have h1 : 1 ≤ L.length := hG.one
  have h64 := hG.few
  have hsz : ByteArray.size ⟨(ringL L).toArray⟩ = 1 + L.length * 36 := by
    rw [txt_size, ringL, List.length_cons, rowsL_length fun x hx => (hG.each x hx).2]
    omega
  have HCnt := Lib.hid (fun u => count_yes ⟨(ringL L).toArray⟩ L.length (by rw [hsz]; omega) (by
    rw [text_at _ 0 (UInt8.ofNat L.length) (by simp [ringL]) (by rw [hsz]; omega)]
    simp
    omega) h1 h64 hsz u)
  have hcut : ∀ u, (Instr.slice 9 (.string ⟨(ringL L).toArray⟩) (some (.int .i64 1)) none none).run Tryd.prog u = .ok (.string ⟨(rowsL L).toArray⟩) u := fun u => by
    have := cut_from ⟨(ringL L).toArray⟩ 1 (by rw [hsz]; omega) u
    have e := (left_cut [UInt8.ofNat L.length] (rowsL L)).2
    rw [show ([UInt8.ofNat L.length] ++ rowsL L) = ringL L from rfl, show [UInt8.ofNat L.length].length = 1 from rfl] at e
    rw [e] at this
    exact this
  have hmm := @run_makeMap Tryd.prog
  have HGd := Lib.hid hG
  have HSz := Lib.hid hsz
  clear hG hsz
  generalize (⟨(ringL L).toArray⟩ : ByteArray) = S at *
  generalize hR0 : (⟨(rowsL L).toArray⟩ : ByteArray) = R0 at *
  have HR0 := Lib.hid hR0
  clear hR0
  go_enter Tryd.func12, Tryd.ntmps12
  go_wp2_with (go_at_call 31; refine (HCnt.out _).mono ?_; rintro e w1 ⟨rfl, rfl⟩)
  have X1 : Ext w (w.alloc (.cells #[.string R0] 9)) := (Ext.refl w).alloc _
  have B1 := Blk.new w [.string R0] 9
  have M1 := IsM.made (w.alloc (.cells #[.string R0] 9))
  have hz1 : (w.alloc (.cells #[.string R0] 9)).heap.size = w.heap.size + 1 := by simp
  rw [hz1] at M1
  have X2 := X1.alloc (.map #[] 0)
  have B2 := B1.alloc (.map #[] 0)
  have HX2 := Lib.hid X2; have HB2 := Lib.hid B2; have HM2 := Lib.hid M1
  clear X1 B1 M1 hz1 X2 B2 hmm hcut
  go_loopw [9, 24] (fun lv iv wr => ∃ j m : Nat, j ≤ L.length ∧ iv = .int .i64 (j : Int) ∧ lv = .int .u32 (m : Int) ∧ Hid (m = top (eps (L.take j))) ∧ Hid (Rising (L.take j)) ∧ Hid (Blk wr w.heap.size 9 [.string ⟨(rowsL (L.drop j)).toArray⟩]) ∧ Hid (IsM wr (w.heap.size + 1) (L.take j)) ∧ Hid (Ext w wr)) (fun _ iv _ => L.length - (intOf iv).toNat)
  case atStart =>
    refine ⟨0, 0, Nat.zero_le _, rfl, rfl, Lib.hid (by simp [eps, top]), Lib.hid (by simp [Rising, eps]), Lib.hid ?_, Lib.hid ?_, HX2⟩
    · rw [List.drop_zero, HR0.out]; exact HB2.out
    · rw [List.take_zero]; exact HM2.out
  case round =>
    obtain ⟨j, m, hj, rfl, rfl, HMn, HRi, HB, HM, HX⟩ := hrel
    by_cases hlt : j < L.length
    · have hlti : (j : Int) < (L.length : Int) := by omega
      obtain ⟨⟨e, s⟩, hx⟩ : ∃ x, L[j]? = some x := ⟨_, List.getElem?_eq_getElem hlt⟩
      have hmem := List.mem_of_getElem? hx
      have hs : s.size = 32 := (HGd.out.each _ hmem).2
      have he32 : e < 4294967296 := (HGd.out.each _ hmem).1
      have hd : L.drop j = (e, s) :: L.drop (j + 1) := by
        obtain ⟨h1, h2⟩ := List.getElem?_eq_some_iff.1 hx
        rw [← h2]
        exact List.drop_eq_getElem_cons h1
      have ht : L.take (j + 1) = L.take j ++ [(e, s)] := by
        rw [List.take_add_one, hx]
        rfl
      have HT := Lib.hid ht
      have hB := HB.out
      rw [hd, rowsL, List.append_assoc] at hB
      have HB2 := Lib.hid hB
      have HT1 := Lib.hid (fun u (hu : Blk u w.heap.size 9 [.string ⟨(be 4 e ++ (s.data.toList ++ rowsL (L.drop (j + 1)))).toArray⟩]) => takeK_cut u w.heap.size _ _ 4 4 rfl (be_length 4 e) hu)
      have HT2 := Lib.hid (fun u (hu : Blk u w.heap.size 9 [.string ⟨(s.data.toList ++ rowsL (L.drop (j + 1))).toArray⟩]) => by
        have := takeK_cut u w.heap.size s.data.toList _ 32 32 rfl (by rw [size_list]; exact hs) hu
        rw [string_of] at this
        exact this)
      have HG4 := Lib.hid (fun u => by
        have := Get32_any ⟨(be 4 e).toArray⟩ 0 (by rw [txt_size, be_length]; omega) u
        rw [(getK_be e he32).1, (getK_be e he32).2] at this
        exact this)
      have HRk := Lib.hid (fun u => rootKeyOf_any s hs u)
      clear hx hmem hd ht hB HB HR0 HSz HCnt
      generalize hRr : rowsL (L.drop (j + 1)) = Rr at *
      have HRr := Lib.hid hRr
      clear hRr
      generalize be 4 e = E at *
      by_cases hle : e ≤ m
      · have hlei : (e : Int) ≤ (m : Int) := by omega
        have HSt := Lib.hid (rising_stop HT.out (by rw [← HMn.out]; exact hle))
        clear hle HT2 HRk
        go_wp2_with (first
          | (go_at_call 32; (with_reducible refine (HT1.out _ HB2.out).mono ?_); rintro e1 w4 ⟨rfl, b4, hw4⟩; have B4 := Lib.hid b4; have M4 := Lib.hid (set_m hw4 HM.out); have X4 := Lib.hid (set_x hw4 HX.out); clear b4 hw4)
          | (go_at_call 33; refine (HG4.out _).mono ?_; rintro e1 w5 ⟨rfl, rfl⟩))
        go_ret2
        exact ⟨.inr ⟨HSt.out, rfl⟩, X4.out⟩
      have HNx := Lib.hid (rising_next HT.out HRi.out (by rw [← HMn.out]; omega))
      have htp : top (eps (L.take (j + 1))) = e := by rw [HT.out]; exact top_snocR _ _ _ (by rw [← HMn.out]; omega)
      have HTp := Lib.hid htp
      have HPt := Lib.hid (fun u (hu : IsM u (w.heap.size + 1) (L.take j)) => hu.put (e := e) (s := s) he32 (fun q => by have := le_top q; rw [← HMn.out] at this; omega))
      have hle2 : ¬ (e : Int) ≤ (m : Int) := by omega
      clear hle htp
      go_wp2_with (first
        | (go_at_call 32; (with_reducible refine (HT1.out _ HB2.out).mono ?_); rintro e1 w4 ⟨rfl, b4, hw4⟩; have B4 := Lib.hid b4; have M4 := Lib.hid (set_m hw4 HM.out); have X4 := Lib.hid (set_x hw4 HX.out); clear b4 hw4)
        | (go_at_call 33; refine (HG4.out _).mono ?_; rintro e1 w5 ⟨rfl, rfl⟩)
        | (go_at_call 32; (with_reducible refine (HT2.out _ B4.out).mono ?_); rintro e1 w6 ⟨rfl, b6, hw6⟩; have B6 := Lib.hid b6; have M6 := Lib.hid (set_m hw6 M4.out); have X6 := Lib.hid (set_x hw6 X4.out); clear b6 hw6)
        | (go_at_call 34; refine (HRk.out _).mono ?_; rintro e1 w7 ⟨rfl, x7⟩; obtain ⟨w8, hrun, m8, t8⟩ := HPt.out _ (M6.out.ext x7); have M8 := Lib.hid m8; have B7 := Lib.hid (B6.out.ext x7); have X7 := Lib.hid (X6.out.trans x7); have T8 := Lib.hid t8; clear m8 t8 x7))
      have g8 := T8.out.grown
      have B8' : Blk w8 w.heap.size 9 [.string ⟨Rr.toArray⟩] := (g8.block _ B7.out.lt (by simp)).trans B7.out
      have X8 : Ext w w8 := X7.out.grown g8 (fun k hk => by cases hk; omega)
      have B8 := B8'
      rw [← HRr.out] at B8
      have M9 := M8.out
      rw [← HT.out] at M9
      clear hrun
      go_roundw
      case rel => exact ⟨j + 1, e, hlt, by go_num, rfl, Lib.hid HTp.out.symm, HNx, Lib.hid B8, Lib.hid M9, Lib.hid X8⟩
      case measure => simp [intOf]; omega
    · obtain rfl : j = L.length := by omega
      have HM9 := Lib.hid (by have := HM.out; rwa [List.take_length] at this)
      go_wp2
      go_ret2
      have hR := HRi.out
      rw [List.take_length] at hR
      exact ⟨.inl ⟨hR, _, _, rfl, ⟨Blk.new _ _ _, HM9.out.alloc _, HGd.out.good hR⟩, HX.out.size, Nat.le_succ _⟩, HX.out.alloc _⟩
end Go.Proofs.YtdnpgmoiapkhnaaDoor
end

section
namespace Go.Proofs.YtdnpgmoiapkhnaaDoor
open Go.RowKit

/-- So many rows of bytes. -/
def rowsOf : Nat → List UInt8 → List (Nat × ByteArray)
  | 0, _ => []
  | n + 1, l => (num (l.take 4), ⟨((l.drop 4).take 32).toArray⟩) :: rowsOf n (l.drop 36)
theorem rowsOf_length : ∀ (n : Nat) (l : List UInt8), (rowsOf n l).length = n
  | 0, _ => rfl
  | n + 1, l => by rw [rowsOf, List.length_cons, rowsOf_length n]
theorem rowsL_rowsOf : ∀ (n : Nat) (l : List UInt8), l.length = 36 * n → rowsL (rowsOf n l) = l
  | 0, l, h => by
    have : l = [] := List.length_eq_zero_iff.1 (by omega)
    subst this
    rfl
  | n + 1, l, h => by
    rw [rowsOf, rowsL, rowsL_rowsOf n (l.drop 36) (by rw [List.length_drop]; omega)]
    have h4 : be 4 (num (l.take 4)) = l.take 4 := be_num _ 4 (by rw [List.length_take]; omega)
    simp only [h4]
    have e : l.drop 36 = (l.drop 4).drop 32 := by rw [List.drop_drop]
    rw [e, List.append_assoc, List.take_append_drop, List.take_append_drop]
theorem rowsOf_each : ∀ (n : Nat) (l : List UInt8), l.length = 36 * n → ∀ x ∈ rowsOf n l, x.1 < 4294967296 ∧ x.2.size = 32
  | 0, _, _, x, hx => by cases hx
  | n + 1, l, h, x, hx => by
    rw [rowsOf] at hx
    rcases List.mem_cons.1 hx with rfl | hx
    · refine ⟨num_lt 4 _ (by rw [List.length_take]; omega), ?_⟩
      show ByteArray.size ⟨((l.drop 4).take 32).toArray⟩ = 32
      rw [txt_size, List.length_take, List.length_drop]
      omega
    · exact rowsOf_each n (l.drop 36) (by rw [List.length_drop]; omega) x hx
/-- The count of a text fits. -/
def Counted (s : ByteArray) : Prop := ∃ (b : UInt8) (l : List UInt8), s.data.toList = b :: l ∧ 1 ≤ b.toNat ∧ b.toNat ≤ 64 ∧ l.length = 36 * b.toNat
theorem count_no (s : ByteArray) (h : ¬ Counted s) (hz : s.size ≤ 140737488351232) (w : World) :
    Calls Tryd.prog 31 #[.string s] w fun e w' => e = .returned (.tuple #[.int .i64 0, .bool false]) ∧ w = w' := by
  have hls : s.toList.length = s.size := by rw [ByteArray.toList_eq, size_list]
  by_cases h0 : 0 < s.size
  · have hemp : s.toList.isEmpty = false := by
      cases hq : s.toList with
      | nil => rw [hq] at hls; simp at hls; omega
      | cons => rfl
    have h0i : (0 : Int) < (s.size : Int) := by omega
    have hb256 := UInt8.toNat_lt s[0]
    have hcase : s[0].toNat < 1 ∨ 64 < s[0].toNat ∨ ¬ s.size = 1 + s[0].toNat * 36 := by
      rcases Nat.lt_or_ge s[0].toNat 1 with q | q1
      · exact .inl q
      · rcases Nat.lt_or_ge 64 s[0].toNat with q | q2
        · exact .inr (.inl q)
        · refine .inr (.inr fun q3 => h ⟨s[0], s.data.toList.tail, ?_, q1, q2, ?_⟩)
          · cases hd : s.data.toList with
            | nil => have := size_list s; rw [hd] at this; simp at this; omega
            | cons x r =>
              have := text_at s 0 x (by rw [hd]; rfl) h0
              rw [this]
              rfl
          · rw [List.length_tail, size_list]; omega
    obtain ⟨n, hb⟩ : ∃ n, s[0].toNat = n := ⟨_, rfl⟩
    have hw : wrap64 (s[0].toNat : Int) = (n : Int) := by rw [hb]; simp [wrap64]; omega
    rw [hb] at hcase hb256
    have HC := Lib.hid hcase
    clear hcase h hls hb
    go_enter Tryd.func31, Tryd.ntmps31
    by_cases h1 : n < 1
    · have h1i : (n : Int) < 1 := by omega
      go_wp2
      go_ret2
      exact ⟨rfl, rfl⟩
    · have h1i : ¬ (n : Int) < 1 := by omega
      by_cases h2 : 64 < n
      · have h2i : (64 : Int) < (n : Int) := by omega
        go_wp2
        go_ret2
        exact ⟨rfl, rfl⟩
      · have h2i : ¬ (64 : Int) < (n : Int) := by omega
        have h3 : ¬ (s.size : Int) = 1 + (n : Int) * 36 := by have := HC.out; omega
        have h3b : ((s.size : Int) != 1 + (n : Int) * 36) = true := by simpa using h3
        go_wp2
        go_ret2
        exact ⟨rfl, rfl⟩
  · have hemp : s.toList.isEmpty = true := by
      cases hq : s.toList with
      | nil => rfl
      | cons => rw [hq] at hls; simp at hls; omega
    clear h hls
    go_enter Tryd.func31, Tryd.ntmps31
    go_wp2
    go_ret2
    exact ⟨rfl, rfl⟩
theorem read_no (s : ByteArray) (h : ¬ Counted s) (hz : s.size ≤ 140737488351232) (w : World) :
    Calls Tryd.prog 12 #[.string s] w fun e w' => e = .returned (.tuple #[.pointer none, .int .i64 7]) ∧ w = w' := by
  have HC := Lib.hid (fun u => count_no s h hz u)
  clear h hz
  go_enter Tryd.func12, Tryd.ntmps12
  go_wp2_with (go_at_call 31; refine (HC.out _).mono ?_; rintro e w1 ⟨rfl, rfl⟩)
  go_ret2
  exact ⟨rfl, rfl⟩
/-- A text whose count fits is that of its rows. -/
theorem counted_rows {s : ByteArray} (h : Counted s) : ∃ L, RowsOk L ∧ s = ⟨(ringL L).toArray⟩ := by
  obtain ⟨b, l, hs, h1, h2, h3⟩ := h
  refine ⟨rowsOf b.toNat l, ⟨by rw [rowsOf_length]; exact h1, by rw [rowsOf_length]; exact h2, rowsOf_each _ _ h3⟩, ?_⟩
  apply ByteArray.ext
  apply Array.toList_inj.1
  rw [hs, ringL, rowsOf_length, rowsL_rowsOf _ _ h3]
  simp
end Go.Proofs.YtdnpgmoiapkhnaaDoor
end

section
namespace Go.Proofs.YtdnpgmoiapkhnaaDoor
open Go.RowKit

set_option maxRecDepth 100000 in
theorem rread_no (s : ByteArray) (h : ¬ Counted s) (hz : s.size ≤ 140737488351232) (w : World) :
    Calls Tryd.prog 13 #[.string s] w fun e w' => e = .returned (.pointer none) ∧ w = w' := by
  by_cases h0 : 0 < s.size
  · have h0i : (0 : Int) < (s.size : Int) := by omega
    have h0n : ¬ (s.size : Int) = 0 := by omega
    have hb256 := UInt8.toNat_lt s[0]
    have hcase : s[0].toNat < 1 ∨ 64 < s[0].toNat ∨ ¬ s.size = 1 + s[0].toNat * 36 := by
      rcases Nat.lt_or_ge s[0].toNat 1 with q | q1
      · exact .inl q
      · rcases Nat.lt_or_ge 64 s[0].toNat with q | q2
        · exact .inr (.inl q)
        · refine .inr (.inr fun q3 => h ⟨s[0], s.data.toList.tail, ?_, q1, q2, ?_⟩)
          · cases hd : s.data.toList with
            | nil => have := size_list s; rw [hd] at this; simp at this; omega
            | cons x r =>
              have := text_at s 0 x (by rw [hd]; rfl) h0
              rw [this]
              rfl
          · rw [List.length_tail, size_list]; omega
    obtain ⟨n, hb⟩ : ∃ n, s[0].toNat = n := ⟨_, rfl⟩
    have hw : wrap64 (s[0].toNat : Int) = (n : Int) := by rw [hb]; simp [wrap64]; omega
    rw [hb] at hcase hb256
    have HC := Lib.hid hcase
    clear hcase h hb
    go_enter Tryd.func13, Tryd.ntmps13
    by_cases h1 : n < 1
    · have h1i : (n : Int) < 1 := by omega
      go_wp2
      go_ret
      exact ⟨rfl, rfl⟩
    · have h1i : ¬ (n : Int) < 1 := by omega
      by_cases h2 : 64 < n
      · have h2i : (64 : Int) < (n : Int) := by omega
        go_wp2
        go_ret
        exact ⟨rfl, rfl⟩
      · have h2i : ¬ (64 : Int) < (n : Int) := by omega
        have h3 : ¬ (s.size : Int) = 1 + (n : Int) * 36 := by have := HC.out; omega
        have h3b : ((s.size : Int) != 1 + (n : Int) * 36) = true := by simpa using h3
        go_wp2
        go_ret
        exact ⟨rfl, rfl⟩
  · have h0n : (s.size : Int) = 0 := by omega
    clear h
    go_enter Tryd.func13, Tryd.ntmps13
    go_wp2
    go_ret
    exact ⟨rfl, rfl⟩
/-- What stands at a row. -/
theorem row_at {L : List (Nat × ByteArray)} (hs : ∀ x ∈ L, x.2.size = 32) {j e : Nat} {s : ByteArray} (hx : L[j]? = some (e, s)) :
    ∃ pre post, ringL L = pre ++ (be 4 e ++ (s.data.toList ++ post)) ∧ pre.length = 1 + j * 36 := by
  obtain ⟨h1, h2⟩ := List.getElem?_eq_some_iff.1 hx
  have hd : L.drop j = (e, s) :: L.drop (j + 1) := by rw [← h2]; exact List.drop_eq_getElem_cons h1
  refine ⟨UInt8.ofNat L.length :: rowsL (L.take j), rowsL (L.drop (j + 1)), ?_, ?_⟩
  · have hr : rowsL (L.take j ++ L.drop j) = rowsL (L.take j) ++ (be 4 e ++ s.data.toList ++ rowsL (L.drop (j + 1))) := by rw [rowsL_append, hd, rowsL]
    rw [List.take_append_drop] at hr
    unfold ringL
    rw [hr]
    simp
  · rw [List.length_cons, rowsL_length (fun x hx2 => hs x (List.mem_of_mem_take hx2)), List.length_take]
    omega
theorem sub_row {pre post : List UInt8} {e : Nat} {s : ByteArray} (hs : s.size = 32) : sub ⟨(pre ++ (be 4 e ++ (s.data.toList ++ post))).toArray⟩ pre.length 4 = be 4 e ∧ (⟨(pre ++ (be 4 e ++ (s.data.toList ++ post))).toArray⟩ : ByteArray).extract (pre.length + 4) (pre.length + 4 + 32) = s := by
  constructor
  · unfold sub
    show List.take 4 (List.drop pre.length (pre ++ (be 4 e ++ (s.data.toList ++ post)))) = be 4 e
    rw [List.drop_append_of_le_length (Nat.le_refl _), List.drop_length, List.nil_append, List.take_append_of_le_length (by rw [be_length]; exact Nat.le_refl _)]
    exact List.take_of_length_le (by rw [be_length]; exact Nat.le_refl _)
  · apply ByteArray.ext
    apply Array.toList_inj.1
    rw [Lib.extract_data]
    have e1 : pre ++ (be 4 e ++ (s.data.toList ++ post)) = (pre ++ be 4 e) ++ (s.data.toList ++ post) := by simp
    simp only [e1]
    rw [List.drop_append_of_le_length (by simp [be_length]), List.drop_of_length_le (by simp [be_length]), List.nil_append, List.take_append_of_le_length (by rw [size_list]; omega)]
    exact List.take_of_length_le (by rw [size_list]; omega)
/-- What the document's Read answers: a ring of the rows, or nothing. -/
def RReadE (w w' : World) (L : List (Nat × ByteArray)) (e : Ending) : Prop :=
  (Rising L ∧ ∃ d p c, e = .returned (.pointer (some ⟨d, 0, none⟩)) ∧ IsR w' w.heap.size d p c L) ∨ (¬ Rising L ∧ e = .returned (.pointer none))
set_option maxRecDepth 100000 in
set_option maxHeartbeats 8000000 in
theorem rread_rows (w : World) (L : List (Nat × ByteArray)) (hG : RowsOk L) :
    Calls Tryd.prog 13 #[.string ⟨(ringL L).toArray⟩] w fun e w' => RReadE w w' L e ∧ Ext w w' := by
  have h1 : 1 ≤ L.length := hG.one
  have h64 := hG.few
  have hsz : ByteArray.size ⟨(ringL L).toArray⟩ = 1 + L.length * 36 := by
    rw [txt_size, ringL, List.length_cons, rowsL_length fun x hx => (hG.each x hx).2]
    omega
  have hfirst := index_text ⟨(ringL L).toArray⟩ 0 (UInt8.ofNat L.length) (by simp [ringL])
  have hfn : (((UInt8.ofNat L.length).toNat : Nat) : Int) = (L.length : Int) := by rw [UInt8.toNat_ofNat']; omega
  have hfirst2 : ∀ u, (Instr.index 9 (.string ⟨(ringL L).toArray⟩) (.int .i64 0)).run Tryd.prog u = .ok (.int .u8 (L.length : Int)) u := fun u => by
    have := hfirst u
    rw [hfn] at this
    exact this
  have HRow := Lib.hid (fun j e s (hx : L[j]? = some (e, s)) => row_at (fun x hx => (hG.each x hx).2) hx)
  have HGd := Lib.hid hG
  have HX := Lib.hid (rfl : (⟨(ringL L).toArray⟩ : ByteArray) = ⟨(ringL L).toArray⟩)
  obtain ⟨S, hS⟩ : ∃ S : ByteArray, S = ⟨(ringL L).toArray⟩ := ⟨_, rfl⟩
  rw [← hS] at hsz hfirst2 ⊢
  have HS := Lib.hid hS
  have hszi : (S.size : Int) = 1 + (L.length : Int) * 36 := by omega
  have h0n : ¬ (S.size : Int) = 0 := by omega
  have h0i : (0 : Int) < (S.size : Int) := by omega
  have h1i : ¬ (L.length : Int) < 1 := by omega
  have h2i : ¬ (64 : Int) < (L.length : Int) := by omega
  have hwn : IntKind.i64.wrap (L.length : Int) = (L.length : Int) := IntWalk.i64_in _ ⟨by omega, by omega⟩
  have hwm : wrap64 (L.length : Int) = (L.length : Int) := IntWalk.wrap64_in _ ⟨by omega, by omega⟩
  have HSz := Lib.hid hsz
  obtain ⟨W1, hW1⟩ : ∃ W1, w.alloc (.cells #[.slice none 0 0] 62) = W1 := ⟨_, rfl⟩
  have hX1 : Ext w W1 := by rw [← hW1]; exact (Ext.refl w).alloc _
  have hR1 : IsR W1 w.heap.size w.heap.size none 0 [] := ⟨by rw [← hW1]; exact Blk.new w _ _, Sl.nil _ _ _ _ _, Nat.le_refl _, fun g hg => (by cases hg), by simp [kp]⟩
  have HX1 := Lib.hid hX1; have HR1 := Lib.hid hR1
  clear hG hsz hfirst hfn HX hS hX1 hR1 h1
  go_enter Tryd.func13, Tryd.ntmps13
  go_wp2
  clear h0n h0i h1i h2i hwn hwm hszi hfirst2
  go_loopw [5, 6] (fun lv iv wr => ∃ (j m : Nat) (pd : Option Addr) (cd : Nat), j ≤ L.length ∧ iv = .int .i64 (j : Int) ∧ lv = .int .u32 (m : Int) ∧ Hid (m = top (eps (L.take j))) ∧ Hid (Rising (L.take j)) ∧ Hid (IsR wr w.heap.size w.heap.size pd cd (L.take j)) ∧ Hid (Ext w wr)) (fun _ iv _ => L.length - (intOf iv).toNat)
  case atStart =>
    exact ⟨0, 0, none, 0, Nat.zero_le _, rfl, rfl, Lib.hid (by simp [eps, top]), Lib.hid (by simp [Rising, eps]), by rw [List.take_zero]; exact HR1, HX1⟩
  case round =>
    clear HX1 HR1 hW1
    obtain ⟨j, m, pd, cd, hj, rfl, rfl, HM, HRi, HD, HXr⟩ := hrel
    by_cases hlt : j < L.length
    · have hlti : (j : Int) < (L.length : Int) := by omega
      obtain ⟨⟨e, s⟩, hx⟩ : ∃ x, L[j]? = some x := ⟨_, List.getElem?_eq_getElem hlt⟩
      have hmem := List.mem_of_getElem? hx
      have hs32 : s.size = 32 := (HGd.out.each _ hmem).2
      have he32 : e < 4294967296 := (HGd.out.each _ hmem).1
      obtain ⟨pre, post, hrow, hpre⟩ := HRow.out j e s hx
      have hsub := sub_row (pre := pre) (post := post) (e := e) hs32
      rw [← hrow, ← HS.out, hpre] at hsub
      have ht : L.take (j + 1) = L.take j ++ [(e, s)] := by
        rw [List.take_add_one, hx]
        rfl
      have HT := Lib.hid ht
      obtain ⟨A, hA⟩ : ∃ A, 1 + j * 36 = A := ⟨_, rfl⟩
      rw [hA] at hsub
      have hAi : 1 + (j : Int) * 36 = (A : Int) := by omega
      have hAs : A + 36 ≤ S.size := by rw [HSz.out]; omega
      have hSs : S.size ≤ 3000 := by rw [HSz.out]; omega
      have hg := fun u => rGet_yes S A 4 (by omega) (by omega) (by omega) u
      rw [hsub.1, num_be, Nat.mod_eq_of_lt he32] at hg
      have HG : Hid (∀ u, Calls Tryd.prog 35 #[.string S, .int .i64 (A : Int), .int .i64 4] u fun r w' => r = .returned (.tuple #[.int .u64 (e : Int), .bool true]) ∧ u = w') := Lib.hid hg
      have hsl := fun u => cut_mid S (A + 4) (A + 4 + 32) (by omega) (by omega) u
      rw [hsub.2] at hsl
      have hsl2 : ∀ u, (Instr.slice 9 (.string S) (some (.int .i64 ((A : Int) + 4))) (some (.int .i64 ((A : Int) + 4 + 32))) none).run Tryd.prog u = .ok (.string s) u := hsl
      have hw1 : IntKind.i64.wrap ((j : Int) * 36) = (j : Int) * 36 := IntWalk.i64_in _ ⟨by omega, by omega⟩
      have hw2 : IntKind.i64.wrap (1 + (j : Int) * 36) = 1 + (j : Int) * 36 := IntWalk.i64_in _ ⟨by omega, by omega⟩
      have hw3 : IntKind.i64.wrap ((A : Int) + 4) = (A : Int) + 4 := IntWalk.i64_in _ ⟨by omega, by omega⟩
      have hw4 : IntKind.i64.wrap ((A : Int) + 4 + 32) = (A : Int) + 4 + 32 := IntWalk.i64_in _ ⟨by omega, by omega⟩
      have hw5 : IntKind.u32.wrap (e : Int) = (e : Int) := by simp [IntKind.wrap, IntKind.signed, IntKind.bits]; omega
      clear hx hmem hrow hpre hsub ht hg hsl hA
      go_upto_region 12 with (fail)
      clear hw1 hw2 hAi
      by_cases hle : e ≤ m
      · have hlei : (e : Int) ≤ (m : Int) := by omega
        have HSt := Lib.hid (rising_stop HT.out (by rw [← HM.out]; exact hle))
        clear hle
        go_wp2_with (go_at_call 35; refine (HG.out _).mono ?_; rintro e1 w4 ⟨rfl, rfl⟩)
        go_ret
        exact ⟨.inr ⟨HSt.out, rfl⟩, HXr.out⟩
      · have hlei : ¬ (e : Int) ≤ (m : Int) := by omega
        have HNx := Lib.hid (rising_next HT.out HRi.out (by rw [← HM.out]; omega))
        have htp : top (eps (L.take (j + 1))) = e := by rw [HT.out]; exact top_snocR _ _ _ (by rw [← HM.out]; omega)
        have HTp := Lib.hid htp
        clear hle htp
        go_upto_region 16 with (go_at_call 35; refine (HG.out _).mono ?_; rintro e1 w4 ⟨rfl, rfl⟩)
        have c0 := HD.out.ring.cell 0 _ rfl
        have hltk : (L.take j).length = j := by rw [List.length_take]; omega
        have HX9 : Hid (Ext wr ((wr.alloc (.cells #[.int .u32 (e : Int), .string s] 59)).drew)) := Lib.hid ((Ext.refl wr).alloc _).drew
        have c9 := (HD.out.ring.ext HX9.out).cell 0 _ rfl
        have hl1 : (L.take j).length + 1 ≤ 1000000000 := by omega
        go_region_law (refine step_append_sl rfl (.tmp 56) (.tmp 66) 60 60 rfl Tryd.underlying60 infoEn rfl (by decide) (by simp only [hltk]; simp [Act.eval]) (HD.out.ents.ext HX9.out) (entL_one _) _ (by simp [Act.eval]) 1 [.int .u32 (e : Int), .string s] ((Sl.ofBlkR (κ := fun _ => 0) (z := 2) ((Blk.new wr [.int .u32 (e : Int), .string s] 59).ext (Ext.refl _).drew) rfl rfl).src Tryd.underlying60 (by intro u hu; simp at hu; rcases hu with rfl | rfl <;> rfl)) hl1 ?_; intro p2 c2 w3 κ3 s3 f3 e3 x3 _; obtain ⟨m1, m2⟩ := HD.out.more HXr.out.size HX9.out s3 f3 e3 x3; have hd3 := (f3.blk (HD.out.ring.ext HX9.out) (fun q => HD.out.apart q)); have c3 := hd3.cell 0 _ rfl; have g3 := hd3.frozen 0; have M1 := Lib.hid m1; have M2 := Lib.hid m2; clear s3 f3 e3 x3 m1 m2 hd3)
        all_goals
          have hm1 := M1.out
          have hm2 := M2.out
          rw [← HT.out] at hm1
          simp only [hltk] at hm1 hm2
          have HI := Lib.hid hm1
          have HY := Lib.hid (HXr.out.trans3 hm2.below)
          clear hm1 hm2 M1 M2 c0 c9 hl1
          go_wp2
          go_roundw
          case rel => exact ⟨j + 1, e, p2, c2, hlt, by go_num, rfl, Lib.hid HTp.out.symm, HNx, HI, HY⟩
          case measure => simp [intOf]; omega
    · obtain rfl : j = L.length := by omega
      have hlti : ¬ (L.length : Int) < (L.length : Int) := by omega
      have hR := HRi.out
      rw [List.take_length] at hR
      have hD := HD.out
      rw [List.take_length] at hD
      have HD2 := Lib.hid hD; have HR2 := Lib.hid hR
      clear hlti hD hR HD HRi
      go_wp2
      go_ret
      exact ⟨.inl ⟨HR2.out, _, _, _, rfl, HD2.out⟩, HXr.out⟩
end Go.Proofs.YtdnpgmoiapkhnaaDoor
end
