/- The walk of ShaTells. -/
import Derived.Test.YtlhacmkidonkgaaDoorShaWorks
namespace Go.Proofs.YtlhacmkidonkgaaDoor
open Go.RowKit

/-- The first k texts, one behind the other. -/
def J (l : List ByteArray) (k : Nat) : ByteArray := ⟨(joinL (l.take k)).toArray⟩
theorem J_size (l : List ByteArray) (k : Nat) : (J l k).size = (joinL (l.take k)).length := txt_size _
theorem J_succ (l : List ByteArray) (k : Nat) (h : k < l.length) : J l k ++ l[k] = J l (k + 1) := by
  apply ByteArray.ext
  rw [ByteArray.data_append]
  apply Array.toList_inj.1
  simp [J, joinL_succ l k h]
theorem rOf_J (l : List ByteArray) (h : (J l l.length).size ≤ 2048) (w : World) :
    Calls Tryd.prog 9 #[.string (J l l.length)] w fun e w' => e = .returned (.string ⟨(shaL (joinL l)).toArray⟩) ∧ Ext w w' := by
  have := rOf_any (J l l.length) (by omega) w
  have e : (J l l.length).data.toList = joinL l := by simp [J]
  rw [e] at this
  exact this
set_option maxRecDepth 100000 in
set_option maxHeartbeats 1000000 in
theorem ShaTells_walk (a : Addr) (c : Nat) (l : List ByteArray) (w : World) (hL : Laid w) (hT : Texts w a l) (hn : l.length ≤ 140737488355328) (hs : ∀ s, s ∈ l → s.size ≤ 140737488351232) :
    Calls Tryd.prog 3 #[.slice (some a) l.length c] w fun e w' => e = .returned (.bool true) ∧ Ext w w' := by
  have HL := Lib.hid hL; have HT := Lib.hid hT; have HS := Lib.hid hs
  clear hL hT hs
  have hJ0 : J l 0 = ByteArray.empty := by simp [J, joinL]; rfl
  go_enter Tryd.func3, Tryd.ntmps3
  go_wp2_with fail
  go_loop [3, 4] (fun p i => ∃ k : Nat, k ≤ l.length ∧ k ≤ 100 ∧ i = .int .i64 k ∧ p = .string (J l k) ∧ (J l k).size ≤ 2048) (fun _ i => 100 - (intOf i).toNat)
  case atStart => exact ⟨0, Nat.zero_le _, by omega, rfl, by rw [hJ0]; rfl, by rw [hJ0]; decide⟩
  case round =>
    clear hJ0
    obtain ⟨k, hk, hk2, rfl, rfl, hsz⟩ := hrel
    by_cases hlt : k < l.length ∧ k < 100
    · obtain ⟨h1, h2⟩ := hlt
      have hc := (HT.out k l[k] (List.getElem?_eq_getElem h1)).2
      have hj := J_succ l k h1
      have hb := HS.out l[k] (List.getElem_mem h1)
      have hbl := (HT.out k l[k] (List.getElem?_eq_getElem h1)).1
      have i1 : (k : Int) < (l.length : Int) := by omega
      have i2 : (k : Int) < 100 := by omega
      generalize l[k] = s at *
      by_cases hbig : 2048 < (J l (k + 1)).size
      · go_wp2_with (go_at_call 7; refine (sha_works _ HL.out).mono ?_; rintro e w1 ⟨rfl, h3⟩)
        go_ret
        exact ⟨rfl, h3⟩
      · have hsm : (J l (k + 1)).size ≤ 2048 := by omega
        go_wp2_with fail
        go_round
        case rel => exact ⟨k + 1, h1, h2, by go_num, rfl, hsm⟩
        case measure => simp [intOf]; omega
    · by_cases h100 : 100 < l.length
      · obtain rfl : k = 100 := by omega
        have i1 : ((100 : Nat) : Int) < (l.length : Int) := by omega
        go_wp2_with (go_at_call 7; refine (sha_works _ HL.out).mono ?_; rintro e w1 ⟨rfl, h3⟩)
        go_ret
        exact ⟨rfl, h3⟩
      · obtain rfl : k = l.length := by omega
        have i1 : (l.length : Int) ≤ 100 := by omega
        have hjl : (joinL l).length ≤ 2048 := by rw [J_size, List.take_length] at hsz; exact hsz
        have HO := Lib.hid (Of_any w a c l HL.out HT.out hn (by omega))
        have HR := Lib.hid (fun u => rOf_J l hsz u)
        clear hsz hjl hlt h100
        go_wp2_with (first
          | (go_at_call 8; refine (HO.out).mono ?_; rintro e w1 ⟨rfl, h1⟩)
          | (go_at_call 9; refine (HR.out _).mono ?_; rintro e w2 ⟨rfl, h2⟩)
          | (go_at_call 7; refine (sha_works _ (HL.out.ext (h1.trans h2))).mono ?_; rintro e w3 ⟨rfl, h3⟩))
        go_ret
        exact ⟨rfl, (h1.trans h2).trans h3⟩
set_option maxRecDepth 100000 in
theorem ShaTells_none (w : World) (hL : Laid w) :
    Calls Tryd.prog 3 #[.slice none 0 0] w fun e w' => e = .returned (.bool true) ∧ Ext w w' := by
  have HO := Lib.hid (Of_none w hL)
  have HL := Lib.hid hL
  have HR := Lib.hid (fun u => rOf_any ByteArray.empty (by decide) u)
  clear hL
  go_enter Tryd.func3, Tryd.ntmps3
  go_wp2_with fail
  go_loop [3, 4] (fun p i => p = .string ByteArray.empty ∧ i = .int .i64 0) (fun _ _ => 0)
  case atStart => exact ⟨rfl, rfl⟩
  case round =>
    obtain ⟨rfl, rfl⟩ := hrel
    go_wp2_with (first
      | (go_at_call 8; refine (HO.out).mono ?_; rintro e w1 ⟨rfl, h1⟩)
      | (go_at_call 9; refine (HR.out _).mono ?_; rintro e w2 ⟨rfl, h2⟩)
      | (go_at_call 7; refine (sha_works _ (HL.out.ext (h1.trans h2))).mono ?_; rintro e w3 ⟨rfl, h3⟩))
    go_ret
    exact ⟨rfl, (h1.trans h2).trans h3⟩
end Go.Proofs.YtlhacmkidonkgaaDoor
