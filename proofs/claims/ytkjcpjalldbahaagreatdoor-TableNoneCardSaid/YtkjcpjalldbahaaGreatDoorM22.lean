/- Plain: a byte of a text. Contracts: pieces, by the program and by the document. Texts spelt as lists: how long; one behind another. -/
import Derived.Test.YtkjcpjalldbahaaGreatDoorProg
import Derived.Test.YtkjcpjalldbahaaGreatDoorM00
import Derived.WalkSpells
import Derived.Test.YtkjcpjalldbahaaGreatDoorM11
import Derived.Lib.Strings
import Derived.Outline
section
namespace Go.Proofs.YtkjcpjalldbahaaGreatDoor
open Go.RowKit
theorem text_get (s : ByteArray) (i : Nat) (b : UInt8) (hb : s.data.toList[i]? = some b) : s[i]? = some b := by
  have hi : i < s.data.toList.length := (List.getElem?_eq_some_iff.1 hb).1
  have h2 : i < s.size := by rw [← size_list]; exact hi
  rw [getElem?_pos s i h2]
  rw [List.getElem?_eq_getElem hi] at hb
  exact hb
theorem text_at (s : ByteArray) (i : Nat) (b : UInt8) (hb : s.data.toList[i]? = some b) (h : i < s.size) : s[i] = b := by
  have e := text_get s i b hb
  rw [getElem?_pos s i h] at e
  exact Option.some.inj e
theorem index_text (s : ByteArray) (i : Nat) (b : UInt8) (hb : s.data.toList[i]? = some b) (w : World) :
    (Instr.index 9 (.string s) (.int .i64 (i : Int))).run Tryz.prog w = .ok (.int .u8 (b.toNat : Int)) w := by
  have h := text_get s i b hb
  have hu := Tryz.underlying9
  have h0 : (0 : Int) ≤ (i : Int) := by omega
  simp [Instr.index, run_underlying hu, asIntOf, go_sem, h0, h]
end Go.Proofs.YtkjcpjalldbahaaGreatDoor
end

section
namespace Go.Proofs.YtkjcpjalldbahaaGreatDoor
open Go.RowKit

theorem retB {a b : Bool} (h : a = b) : Ending.returned (.bool a) = .returned (.bool b) := by rw [h]
theorem str_cases (s : ByteArray) : s = ⟨#[]⟩ ∨ (s.toList.isEmpty = false ∧ s.data.toList.isEmpty = false ∧ s.data.toList ≠ []) := by
  by_cases h : s.data.toList = []
  · left
    apply ByteArray.ext
    apply Array.toList_inj.1
    rw [h]
  · right
    have e : s.data.toList.isEmpty = false := by cases e : s.data.toList with
      | nil => exact absurd e h
      | cons => rfl
    exact ⟨by rw [Lib.toList_data]; exact e, e, h⟩
theorem inB_nat (b : UInt8) : inB b = (decide (b.toNat = 46) || decide (b.toNat = 95) || decide (b.toNat = 45) || (decide (97 ≤ b.toNat) && decide (b.toNat ≤ 122)) || (decide (48 ≤ b.toNat) && decide (b.toNat ≤ 57))) := by
  unfold inB
  have e : ∀ (n : UInt8), (b == n) = decide (b.toNat = n.toNat) := fun n => by
    rw [Bool.eq_iff_iff]; simp [UInt8.toNat_inj]
  rw [e, e, e]; rfl
set_option maxHeartbeats 1000000 in
theorem isIn_any (b : UInt8) (w : World) : Calls Tryz.prog 81 #[.int .u8 (b.toNat : Int)] w fun e w' => e = .returned (.bool (inB b)) ∧ w = w' := by
  rw [inB_nat]
  have hb := b.toNat_lt
  generalize b.toNat = n at *
  by_cases h1 : n = 46
  · subst h1; go_enter Tryz.func81, Tryz.ntmps81; go_wp2; go_ret; exact ⟨rfl, rfl⟩
  · have k1 : ((n : Int) == 46) = false := by rw [beq_eq_false_iff_ne]; omega
    by_cases h2 : n = 95
    · subst h2; go_enter Tryz.func81, Tryz.ntmps81; go_wp2; go_ret; exact ⟨rfl, rfl⟩
    · have k2 : ((n : Int) == 95) = false := by rw [beq_eq_false_iff_ne]; omega
      by_cases h3 : n = 45
      · subst h3; go_enter Tryz.func81, Tryz.ntmps81; go_wp2; go_ret; exact ⟨rfl, rfl⟩
      · have k3 : ((n : Int) == 45) = false := by rw [beq_eq_false_iff_ne]; omega
        simp only [decide_eq_false h1, decide_eq_false h2, decide_eq_false h3, Bool.false_or]
        clear h1 h2 h3
        by_cases h4 : 97 ≤ n <;> by_cases h5 : n ≤ 122 <;> by_cases h6 : 48 ≤ n <;> by_cases h7 : n ≤ 57
        all_goals first
          | (exfalso; omega)
          | (have g4 : decide ((97 : Int) ≤ (n : Int)) = decide (97 ≤ n) := by rw [decide_eq_decide]; omega
             have g5 : decide ((n : Int) ≤ 122) = decide (n ≤ 122) := by rw [decide_eq_decide]; omega
             have g6 : decide ((48 : Int) ≤ (n : Int)) = decide (48 ≤ n) := by rw [decide_eq_decide]; omega
             have g7 : decide ((n : Int) ≤ 57) = decide (n ≤ 57) := by rw [decide_eq_decide]; omega
             obtain ⟨R, hR⟩ : ∃ R, ((decide (97 ≤ n) && decide (n ≤ 122)) || (decide (48 ≤ n) && decide (n ≤ 57))) = R := ⟨_, rfl⟩
             rw [hR]
             first | rw [decide_eq_true h4] at g4 hR | rw [decide_eq_false h4] at g4 hR
             first | rw [decide_eq_true h5] at g5 hR | rw [decide_eq_false h5] at g5 hR
             first | rw [decide_eq_true h6] at g6 hR | rw [decide_eq_false h6] at g6 hR
             first | rw [decide_eq_true h7] at g7 hR | rw [decide_eq_false h7] at g7 hR
             clear h4 h5 h6 h7
             subst hR
             go_enter Tryz.func81, Tryz.ntmps81
             go_wp2
             go_ret
             exact ⟨rfl, rfl⟩)
theorem all_take (l : List UInt8) (k : Nat) (b : UInt8) (h : l[k]? = some b) : (l.take (k + 1)).all inB = ((l.take k).all inB && inB b) := by
  rw [List.take_add_one, h]; simp
theorem all_no (l : List UInt8) (k : Nat) (b : UInt8) (h : l[k]? = some b) (hb : inB b = false) : l.all inB = false := by
  rw [List.all_eq_false]
  exact ⟨b, List.mem_of_getElem? h, by simp [hb]⟩
theorem piece_is (s : ByteArray) (h1 : ¬ s.size < 1) (h2 : ¬ 32 < s.size) : pieceB s.data.toList = s.data.toList.all inB := by
  unfold pieceB
  rw [size_list, decide_eq_true (by omega), decide_eq_true (by omega)]; rfl
set_option maxHeartbeats 1000000 in
theorem isPiece_any (s : ByteArray) (hs : s.size ≤ 140737488351232) (w : World) : Calls Tryz.prog 59 #[.string s] w fun e w' => e = .returned (.bool (pieceB s.data.toList)) ∧ w = w' := by
  by_cases h1 : s.size < 1
  · have e : pieceB s.data.toList = false := by unfold pieceB; rw [size_list, decide_eq_false (by omega)]; rfl
    rw [e]
    go_enter Tryz.func59, Tryz.ntmps59; go_wp2; go_ret; exact ⟨rfl, rfl⟩
  by_cases h2 : 32 < s.size
  · have e : pieceB s.data.toList = false := by unfold pieceB; rw [size_list, decide_eq_false (p := s.size ≤ 32) (by omega)]; simp
    rw [e]
    go_enter Tryz.func59, Tryz.ntmps59; go_wp2; go_ret; exact ⟨rfl, rfl⟩
  rw [piece_is s h1 h2]
  obtain ⟨R, hR⟩ : ∃ R, s.data.toList.all inB = R := ⟨_, rfl⟩
  rw [hR]
  have HR := Lib.hid hR
  clear hR
  have HS := Lib.hid (size_list s)
  go_enter Tryz.func59, Tryz.ntmps59
  go_wp2
  go_loop [14] (fun i => ∃ k : Nat, k ≤ s.size ∧ i = .int .i64 k ∧ Hid ((s.data.toList.take k).all inB = true)) (fun i => s.size - (intOf i).toNat)
  case atStart => exact ⟨0, Nat.zero_le _, rfl, Lib.hid (by simp)⟩
  case round =>
    obtain ⟨k, hk, rfl, hall⟩ := hrel
    by_cases hlt : k < s.size
    · obtain ⟨b, hb⟩ : ∃ b, s.data.toList[k]? = some b := ⟨_, List.getElem?_eq_getElem (by rw [size_list]; exact hlt)⟩
      have hix := index_text s k b hb
      have HB := Lib.hid hb
      clear hb
      cases hi : inB b with
      | true =>
        have HI := Lib.hid hi
        clear hi
        go_wp2_with (go_at_call 81; refine (isIn_any _ _).mono ?_; rintro e w' ⟨rfl, rfl⟩; rw [HI.out])
        go_round
        case rel => exact ⟨k + 1, by omega, by go_num, Lib.hid (by rw [all_take _ _ _ HB.out, hall.out, HI.out]; rfl)⟩
        case measure => simp [intOf]; omega
      | false =>
        have HI := Lib.hid hi
        obtain rfl : R = false := by rw [← HR.out]; exact all_no _ _ _ HB.out hi
        clear hi
        go_wp2_with (go_at_call 81; refine (isIn_any _ _).mono ?_; rintro e w' ⟨rfl, rfl⟩; rw [HI.out])
        go_ret
        exact ⟨rfl, rfl⟩
    · obtain rfl : k = s.size := by omega
      have e := hall.out
      rw [List.take_of_length_le (by rw [HS.out]; exact Nat.le_refl _)] at e
      obtain rfl : R = true := by rw [← HR.out]; exact e
      clear e
      go_wp2
      go_ret
      exact ⟨rfl, rfl⟩
set_option maxHeartbeats 2000000 in
theorem rpiece_any (s : ByteArray) (hs : s.size ≤ 140737488351232) (w : World) : Calls Tryz.prog 62 #[.string s] w fun e w' => e = .returned (.bool (pieceB s.data.toList)) ∧ w = w' := by
  by_cases h1 : s.size < 1
  · have e : pieceB s.data.toList = false := by unfold pieceB; rw [size_list, decide_eq_false (by omega)]; rfl
    rw [e]
    go_enter Tryz.func62, Tryz.ntmps62; go_wp2; go_ret; exact ⟨rfl, rfl⟩
  by_cases h2 : 32 < s.size
  · have e : pieceB s.data.toList = false := by unfold pieceB; rw [size_list, decide_eq_false (p := s.size ≤ 32) (by omega)]; simp
    rw [e]
    go_enter Tryz.func62, Tryz.ntmps62; go_wp2; go_ret; exact ⟨rfl, rfl⟩
  rw [piece_is s h1 h2]
  obtain ⟨R, hR⟩ : ∃ R, s.data.toList.all inB = R := ⟨_, rfl⟩
  rw [hR]
  have HR := Lib.hid hR
  clear hR
  have HS := Lib.hid (size_list s)
  go_enter Tryz.func62, Tryz.ntmps62
  go_wp2
  go_loop [3] (fun i => ∃ k : Nat, k ≤ s.size ∧ i = .int .i64 k ∧ Hid ((s.data.toList.take k).all inB = true)) (fun i => s.size - (intOf i).toNat)
  case atStart => exact ⟨0, Nat.zero_le _, rfl, Lib.hid (by simp)⟩
  case round =>
    obtain ⟨k, hk, rfl, hall⟩ := hrel
    by_cases hlt : k < s.size
    · obtain ⟨b, hb⟩ : ∃ b, s.data.toList[k]? = some b := ⟨_, List.getElem?_eq_getElem (by rw [size_list]; exact hlt)⟩
      have hix := index_text s k b hb
      have HB := Lib.hid hb
      clear hb
      have HN := Lib.hid (inB_nat b)
      have hb256 := b.toNat_lt
      obtain ⟨n, hn⟩ : ∃ n, b.toNat = n := ⟨_, rfl⟩
      rw [hn] at hix hb256
      have HX := Lib.hid (hn ▸ HN.out)
      clear hn HN
      have hc : (inB b = true ∧ (n = 46 ∨ n = 95 ∨ n = 45 ∨ (97 ≤ n ∧ n ≤ 122) ∨ (48 ≤ n ∧ n ≤ 57))) ∨ (inB b = false ∧ ¬ n = 46 ∧ ¬ n = 95 ∧ ¬ n = 45 ∧ ¬ (97 ≤ n ∧ n ≤ 122) ∧ ¬ (48 ≤ n ∧ n ≤ 57)) := by
        rw [HX.out]
        by_cases q : (n = 46 ∨ n = 95 ∨ n = 45 ∨ (97 ≤ n ∧ n ≤ 122) ∨ (48 ≤ n ∧ n ≤ 57))
        · exact .inl ⟨by simp only [Bool.or_eq_true, Bool.and_eq_true, decide_eq_true_eq]; omega, q⟩
        · refine .inr ⟨?_, by omega, by omega, by omega, by omega, by omega⟩
          rw [← Bool.not_eq_true]
          simp only [Bool.or_eq_true, Bool.and_eq_true, decide_eq_true_eq]
          omega
      have f1 : ((n : Int) ≥ 97) = (97 ≤ n) := by rw [eq_iff_iff]; omega
      rcases hc with ⟨hi, hq⟩ | ⟨hi, q1, q2, q3, q4, q5⟩
      · have HI := Lib.hid hi
        clear hi f1
        rcases hq with rfl | rfl | rfl | ⟨q1, q2⟩ | ⟨q1, q2⟩
        all_goals
          go_wp2
          go_round
          case rel => exact ⟨k + 1, by omega, by go_num, Lib.hid (by rw [all_take _ _ _ HB.out, hall.out, HI.out]; rfl)⟩
          case measure => simp [intOf]; omega
      · obtain rfl : R = false := by rw [← HR.out]; exact all_no _ _ _ HB.out hi
        clear hi f1
        have g1 : ((n : Int) == 46) = false := by rw [beq_eq_false_iff_ne]; omega
        have g2 : ((n : Int) == 95) = false := by rw [beq_eq_false_iff_ne]; omega
        have g3 : ((n : Int) == 45) = false := by rw [beq_eq_false_iff_ne]; omega
        have hcase : (n < 48) ∨ (57 < n ∧ n < 97) ∨ 122 < n := by omega
        clear q1 q2 q3 q4 q5
        rcases hcase with q | ⟨q, q'⟩ | q
        · go_wp2
          go_ret
          exact ⟨rfl, rfl⟩
        · have d57 : decide ((n : Int) ≤ 57) = false := decide_eq_false (by omega)
          go_wp2
          go_ret
          exact ⟨rfl, rfl⟩
        · have d57 : decide ((n : Int) ≤ 57) = false := decide_eq_false (by omega)
          have d122 : decide ((n : Int) ≤ 122) = false := decide_eq_false (by omega)
          go_wp2
          go_ret
          exact ⟨rfl, rfl⟩
    · obtain rfl : k = s.size := by omega
      have e := hall.out
      rw [List.take_of_length_le (by rw [HS.out]; exact Nat.le_refl _)] at e
      obtain rfl : R = true := by rw [← HR.out]; exact e
      clear e
      go_wp2
      go_ret
      exact ⟨rfl, rfl⟩
end Go.Proofs.YtkjcpjalldbahaaGreatDoor
end

section
namespace Go.Proofs.YtkjcpjalldbahaaGreatDoor
open Go.RowKit

theorem txt_size (l : List UInt8) : ((⟨l.toArray⟩ : ByteArray)).size = l.length := by simp [ByteArray.size]
theorem str_append (a b : List UInt8) : (⟨a.toArray⟩ : ByteArray) ++ ⟨b.toArray⟩ = ⟨(a ++ b).toArray⟩ := by
  apply ByteArray.ext
  rw [ByteArray.data_append]
  simp
theorem txt_cat (s : ByteArray) (b : List UInt8) : s ++ ⟨b.toArray⟩ = ⟨(s.data.toList ++ b).toArray⟩ := by
  apply ByteArray.ext
  rw [ByteArray.data_append]
  simp
theorem txt_extract (l : List UInt8) (n : Nat) : (⟨l.toArray⟩ : ByteArray).extract 0 n = ⟨(l.take n).toArray⟩ := by
  apply ByteArray.ext
  simp
/-- The first n bytes of a text. -/
theorem slice_upto (X : ByteArray) (c : Nat) (h : c ≤ X.size) (u : World) : (Instr.slice 9 (.string X) none (some (.int .i64 (c : Int))) none).run Tryz.prog u = .ok (.string (X.extract 0 c)) u := by
  have hj : (0 : Int) ≤ (c : Int) ∧ (c : Int) ≤ (X.size : Int) := by omega
  simp [Instr.slice, Instr.sliceBounds, Instr.sliceBound, asIntOf, run_underlying Tryz.underlying9, hj]
  intro hgt
  omega
end Go.Proofs.YtkjcpjalldbahaaGreatDoor
end
