/- Plain: a byte of a text. Contracts: pieces, by the program and by the document. Texts spelt as lists: how long; one behind another. Contracts: the library's split at a slash, its copies of texts, its index of a slash, its cut of a prefix. Texts cut: from, up to, between. Contract: a text, cut at its slashes, by the document. -/
import Derived.Test.YtkjcpjalldbahaaDoorProg
import Derived.Test.YtkjcpjalldbahaaDoorM00
import Derived.WalkSpells
import Derived.Test.YtkjcpjalldbahaaDoorM08
import Derived.Lib.Strings
import Derived.Outline
import Derived.Test.YtkjcpjalldbahaaDoorM09
import Derived.Test.YtkjcpjalldbahaaDoorShelf
import Derived.Shelf.Strings.SplitCore
import Derived.Test.YtkjcpjalldbahaaDoorM02
section
namespace Go.Proofs.YtkjcpjalldbahaaDoor
open Go.RowKit
theorem text_get (s : ByteArray) (i : Nat) (b : UInt8) (hb : s.data.toList[i]? = some b) : s[i]? = some b := by
  have hi : i < s.data.toList.length := (List.getElem?_eq_some_iff.1 hb).1
  have h2 : i < s.size := by rw [← size_list]; exact hi
  rw [getElem?_pos s i h2]
  rw [List.getElem?_eq_getElem hi] at hb
  exact hb
theorem text_at (s : ByteArray) (i : Nat) (b : UInt8) (hb : s.data.toList[i]? = some b) (h : i < s.size) : s[i] = b := by
  have e := text_get s i b hb
  rw [getElem?_pos s i h] at e
  exact Option.some.inj e
theorem index_text (s : ByteArray) (i : Nat) (b : UInt8) (hb : s.data.toList[i]? = some b) (w : World) :
    (Instr.index 9 (.string s) (.int .i64 (i : Int))).run Tryd.prog w = .ok (.int .u8 (b.toNat : Int)) w := by
  have h := text_get s i b hb
  have hu := Tryd.underlying9
  have h0 : (0 : Int) ≤ (i : Int) := by omega
  simp [Instr.index, run_underlying hu, asIntOf, go_sem, h0, h]
end Go.Proofs.YtkjcpjalldbahaaDoor
end

section
namespace Go.Proofs.YtkjcpjalldbahaaDoor
open Go.RowKit

theorem retB {a b : Bool} (h : a = b) : Ending.returned (.bool a) = .returned (.bool b) := by rw [h]
theorem str_cases (s : ByteArray) : s = ⟨#[]⟩ ∨ (s.toList.isEmpty = false ∧ s.data.toList.isEmpty = false ∧ s.data.toList ≠ []) := by
  by_cases h : s.data.toList = []
  · left
    apply ByteArray.ext
    apply Array.toList_inj.1
    rw [h]
  · right
    have e : s.data.toList.isEmpty = false := by cases e : s.data.toList with
      | nil => exact absurd e h
      | cons => rfl
    exact ⟨by rw [Lib.toList_data]; exact e, e, h⟩
theorem inB_nat (b : UInt8) : inB b = (decide (b.toNat = 46) || decide (b.toNat = 95) || decide (b.toNat = 45) || (decide (97 ≤ b.toNat) && decide (b.toNat ≤ 122)) || (decide (48 ≤ b.toNat) && decide (b.toNat ≤ 57))) := by
  unfold inB
  have e : ∀ (n : UInt8), (b == n) = decide (b.toNat = n.toNat) := fun n => by
    rw [Bool.eq_iff_iff]; simp [UInt8.toNat_inj]
  rw [e, e, e]; rfl
set_option maxHeartbeats 1000000 in
theorem isIn_any (b : UInt8) (w : World) : Calls Tryd.prog 73 #[.int .u8 (b.toNat : Int)] w fun e w' => e = .returned (.bool (inB b)) ∧ w = w' := by
  rw [inB_nat]
  have hb := b.toNat_lt
  generalize b.toNat = n at *
  by_cases h1 : n = 46
  · subst h1; go_enter Tryd.func73, Tryd.ntmps73; go_wp2; go_ret; exact ⟨rfl, rfl⟩
  · have k1 : ((n : Int) == 46) = false := by rw [beq_eq_false_iff_ne]; omega
    by_cases h2 : n = 95
    · subst h2; go_enter Tryd.func73, Tryd.ntmps73; go_wp2; go_ret; exact ⟨rfl, rfl⟩
    · have k2 : ((n : Int) == 95) = false := by rw [beq_eq_false_iff_ne]; omega
      by_cases h3 : n = 45
      · subst h3; go_enter Tryd.func73, Tryd.ntmps73; go_wp2; go_ret; exact ⟨rfl, rfl⟩
      · have k3 : ((n : Int) == 45) = false := by rw [beq_eq_false_iff_ne]; omega
        simp only [decide_eq_false h1, decide_eq_false h2, decide_eq_false h3, Bool.false_or]
        clear h1 h2 h3
        by_cases h4 : 97 ≤ n <;> by_cases h5 : n ≤ 122 <;> by_cases h6 : 48 ≤ n <;> by_cases h7 : n ≤ 57
        all_goals first
          | (exfalso; omega)
          | (have g4 : decide ((97 : Int) ≤ (n : Int)) = decide (97 ≤ n) := by rw [decide_eq_decide]; omega
             have g5 : decide ((n : Int) ≤ 122) = decide (n ≤ 122) := by rw [decide_eq_decide]; omega
             have g6 : decide ((48 : Int) ≤ (n : Int)) = decide (48 ≤ n) := by rw [decide_eq_decide]; omega
             have g7 : decide ((n : Int) ≤ 57) = decide (n ≤ 57) := by rw [decide_eq_decide]; omega
             obtain ⟨R, hR⟩ : ∃ R, ((decide (97 ≤ n) && decide (n ≤ 122)) || (decide (48 ≤ n) && decide (n ≤ 57))) = R := ⟨_, rfl⟩
             rw [hR]
             first | rw [decide_eq_true h4] at g4 hR | rw [decide_eq_false h4] at g4 hR
             first | rw [decide_eq_true h5] at g5 hR | rw [decide_eq_false h5] at g5 hR
             first | rw [decide_eq_true h6] at g6 hR | rw [decide_eq_false h6] at g6 hR
             first | rw [decide_eq_true h7] at g7 hR | rw [decide_eq_false h7] at g7 hR
             clear h4 h5 h6 h7
             subst hR
             go_enter Tryd.func73, Tryd.ntmps73
             go_wp2
             go_ret
             exact ⟨rfl, rfl⟩)
theorem all_take (l : List UInt8) (k : Nat) (b : UInt8) (h : l[k]? = some b) : (l.take (k + 1)).all inB = ((l.take k).all inB && inB b) := by
  rw [List.take_add_one, h]; simp
theorem all_no (l : List UInt8) (k : Nat) (b : UInt8) (h : l[k]? = some b) (hb : inB b = false) : l.all inB = false := by
  rw [List.all_eq_false]
  exact ⟨b, List.mem_of_getElem? h, by simp [hb]⟩
theorem piece_is (s : ByteArray) (h1 : ¬ s.size < 1) (h2 : ¬ 32 < s.size) : pieceB s.data.toList = s.data.toList.all inB := by
  unfold pieceB
  rw [size_list, decide_eq_true (by omega), decide_eq_true (by omega)]; rfl
set_option maxHeartbeats 1000000 in
theorem isPiece_any (s : ByteArray) (hs : s.size ≤ 140737488351232) (w : World) : Calls Tryd.prog 53 #[.string s] w fun e w' => e = .returned (.bool (pieceB s.data.toList)) ∧ w = w' := by
  by_cases h1 : s.size < 1
  · have e : pieceB s.data.toList = false := by unfold pieceB; rw [size_list, decide_eq_false (by omega)]; rfl
    rw [e]
    go_enter Tryd.func53, Tryd.ntmps53; go_wp2; go_ret; exact ⟨rfl, rfl⟩
  by_cases h2 : 32 < s.size
  · have e : pieceB s.data.toList = false := by unfold pieceB; rw [size_list, decide_eq_false (p := s.size ≤ 32) (by omega)]; simp
    rw [e]
    go_enter Tryd.func53, Tryd.ntmps53; go_wp2; go_ret; exact ⟨rfl, rfl⟩
  rw [piece_is s h1 h2]
  obtain ⟨R, hR⟩ : ∃ R, s.data.toList.all inB = R := ⟨_, rfl⟩
  rw [hR]
  have HR := Lib.hid hR
  clear hR
  have HS := Lib.hid (size_list s)
  go_enter Tryd.func53, Tryd.ntmps53
  go_wp2
  go_loop [14] (fun i => ∃ k : Nat, k ≤ s.size ∧ i = .int .i64 k ∧ Hid ((s.data.toList.take k).all inB = true)) (fun i => s.size - (intOf i).toNat)
  case atStart => exact ⟨0, Nat.zero_le _, rfl, Lib.hid (by simp)⟩
  case round =>
    obtain ⟨k, hk, rfl, hall⟩ := hrel
    by_cases hlt : k < s.size
    · obtain ⟨b, hb⟩ : ∃ b, s.data.toList[k]? = some b := ⟨_, List.getElem?_eq_getElem (by rw [size_list]; exact hlt)⟩
      have hix := index_text s k b hb
      have HB := Lib.hid hb
      clear hb
      cases hi : inB b with
      | true =>
        have HI := Lib.hid hi
        clear hi
        go_wp2_with (go_at_call 73; refine (isIn_any _ _).mono ?_; rintro e w' ⟨rfl, rfl⟩; rw [HI.out])
        go_round
        case rel => exact ⟨k + 1, by omega, by go_num, Lib.hid (by rw [all_take _ _ _ HB.out, hall.out, HI.out]; rfl)⟩
        case measure => simp [intOf]; omega
      | false =>
        have HI := Lib.hid hi
        obtain rfl : R = false := by rw [← HR.out]; exact all_no _ _ _ HB.out hi
        clear hi
        go_wp2_with (go_at_call 73; refine (isIn_any _ _).mono ?_; rintro e w' ⟨rfl, rfl⟩; rw [HI.out])
        go_ret
        exact ⟨rfl, rfl⟩
    · obtain rfl : k = s.size := by omega
      have e := hall.out
      rw [List.take_of_length_le (by rw [HS.out]; exact Nat.le_refl _)] at e
      obtain rfl : R = true := by rw [← HR.out]; exact e
      clear e
      go_wp2
      go_ret
      exact ⟨rfl, rfl⟩
end Go.Proofs.YtkjcpjalldbahaaDoor
end

section
namespace Go.Proofs.YtkjcpjalldbahaaDoor
open Go.RowKit

theorem txt_size (l : List UInt8) : ((⟨l.toArray⟩ : ByteArray)).size = l.length := by simp [ByteArray.size]
theorem str_append (a b : List UInt8) : (⟨a.toArray⟩ : ByteArray) ++ ⟨b.toArray⟩ = ⟨(a ++ b).toArray⟩ := by
  apply ByteArray.ext
  rw [ByteArray.data_append]
  simp
theorem txt_cat (s : ByteArray) (b : List UInt8) : s ++ ⟨b.toArray⟩ = ⟨(s.data.toList ++ b).toArray⟩ := by
  apply ByteArray.ext
  rw [ByteArray.data_append]
  simp
theorem txt_extract (l : List UInt8) (n : Nat) : (⟨l.toArray⟩ : ByteArray).extract 0 n = ⟨(l.take n).toArray⟩ := by
  apply ByteArray.ext
  simp
/-- The first n bytes of a text. -/
theorem slice_upto (X : ByteArray) (c : Nat) (h : c ≤ X.size) (u : World) : (Instr.slice 9 (.string X) none (some (.int .i64 (c : Int))) none).run Tryd.prog u = .ok (.string (X.extract 0 c)) u := by
  have hj : (0 : Int) ≤ (c : Int) ∧ (c : Int) ≤ (X.size : Int) := by omega
  simp [Instr.slice, Instr.sliceBounds, Instr.sliceBound, asIntOf, run_underlying Tryd.underlying9, hj]
  intro hgt
  omega
end Go.Proofs.YtkjcpjalldbahaaDoor
end

section
namespace Go.Proofs.YtkjcpjalldbahaaDoor
open Go.RowKit

theorem infoT : (Tryd.prog.info? 9).map (fun i => (i.zero, i.size, i.bytes)) = some (some (.string ByteArray.empty), 1, 16) := by kernel_rfl
theorem genSplit_any (s : ByteArray) (w : World) (hs : s.size < 4294967281) :
    Calls Tryd.prog 72 #[.string s, .string ⟨#[47]⟩, .int .i64 0, .int .i64 (-1)] w fun e w' =>
      e = .returned (.slice (some ⟨w.heap.size, 0, none⟩) (cutsB s).length (cutsB s).length) ∧ w' = w.alloc (.cells ((cutsB s).map Value.string).toArray 9) := by
  have h1 : 1 ≤ (⟨#[47]⟩ : ByteArray).size := by decide
  have hle := Lib.countB_le ⟨#[47]⟩ h1 s.size s (Nat.le_refl _)
  have hlen := Lib.splitB_all ⟨#[47]⟩ h1 0 _ s rfl
  have c := Any.strings_genSplit_core Tryd.lays221 infoT s ⟨#[47]⟩ 0 (-1) (Lib.countB s ⟨#[47]⟩ + 1) w hs h1 (Nat.zero_le _)
    (fun x c _ => (Tryd.strings_Index_one x 47 _).mono fun e w' ⟨he, hw⟩ => ⟨by rw [he]; show _ = Ending.returned (.int .i64 (Lib.index x.data.toList [47])); rw [Lib.index_one], hw⟩)
    ((Tryd.strings_Count_one s 47 w).mono fun e w' ⟨he, hw⟩ => ⟨by rw [he]; show _ = Ending.returned (Value.int .i64 ((Lib.count s.data.toList [47] : Nat) : Int)); rw [Lib.count_one]; rfl, hw⟩)
    (by decide) (by decide) (by rw [if_pos (by decide)]; omega)
  rw [Nat.add_sub_cancel, hlen] at c
  have e2 : Lib.cellsOf (Lib.splitB ⟨#[47]⟩ 0 (Lib.countB s ⟨#[47]⟩) s) (Lib.countB s ⟨#[47]⟩ + 1) = ((Lib.splitB ⟨#[47]⟩ 0 (Lib.countB s ⟨#[47]⟩) s).map Value.string).toArray := by rw [← hlen]; exact Lib.cellsOf_full _
  rw [e2, ← hlen, split_cuts] at c
  exact c
theorem split_any (s : ByteArray) (w : World) (hs : s.size < 4294967281) :
    Calls Tryd.prog 52 #[.string s, .string ⟨#[47]⟩] w fun e w' =>
      e = .returned (.slice (some ⟨w.heap.size, 0, none⟩) (cutsB s).length (cutsB s).length) ∧ w' = w.alloc (.cells ((cutsB s).map Value.string).toArray 9) := by
  have c := genSplit_any s w hs
  go_enter Tryd.func52, Tryd.ntmps52
  go_wp2_with (go_at_call 72; refine c.mono ?_; rintro e w' ⟨rfl, hw⟩; rw [hw])
  go_ret
  exact ⟨rfl, rfl⟩
theorem strcloneP_any (s : ByteArray) (hs : s.size ≤ 140737488351232) (w : World) : Calls Tryd.prog 33 #[.string s] w fun e w' => e = .returned (.string s) ∧ Ext w w' := by
  have c := Tryd.stringslite_Clone s w (by omega)
  go_enter Tryd.func33, Tryd.ntmps33
  go_wp2_with (go_at_call 47; refine c.mono ?_; rintro e w' ⟨rfl, hb⟩; have X : Ext w w' := hb; have HX := Lib.hid X; clear hb X)
  go_ret
  exact ⟨rfl, HX.out⟩
theorem strindexP_any (s : ByteArray) (w : World) : Calls Tryd.prog 76 #[.string s, .string ⟨#[47]⟩] w fun e w' => e = .returned (.int .i64 (Lib.indexByte s.data.toList 47)) ∧ w = w' :=
  (Tryd.strings_Index_one s 47 w).mono fun _ _ ⟨he, hw⟩ => ⟨he, hw.symm⟩
theorem cutPrefix_any (s p : ByteArray) (w : World) : Calls Tryd.prog 75 #[.string s, .string p] w fun e w' => e = .returned (.tuple #[.string (toB (Lib.trimPrefix s.data.toList p.data.toList)), .bool (Lib.hasPrefix s.data.toList p.data.toList)]) ∧ w = w' :=
  (Tryd.strings_CutPrefix s p w).mono fun _ _ ⟨he, hw⟩ => ⟨he, hw.symm⟩
end Go.Proofs.YtkjcpjalldbahaaDoor
end

section
namespace Go.Proofs.YtkjcpjalldbahaaDoor
open Go.RowKit

theorem cut_to (X : ByteArray) (c : Nat) (h : c ≤ X.size) (u : World) : (Instr.slice 9 (.string X) none (some (.int .i64 (c : Int))) none).run Tryd.prog u = .ok (.string (X.extract 0 c)) u := by
  have hj : (0 : Int) ≤ (c : Int) ∧ (c : Int) ≤ (X.size : Int) := by omega
  simp [Instr.slice, Instr.sliceBounds, Instr.sliceBound, asIntOf, run_underlying Tryd.underlying9, hj]
  intro hgt
  omega
theorem cut_from (X : ByteArray) (c : Nat) (h : c ≤ X.size) (u : World) : (Instr.slice 9 (.string X) (some (.int .i64 (c : Int))) none none).run Tryd.prog u = .ok (.string (X.extract c X.size)) u := by
  have hj : (0 : Int) ≤ (c : Int) ∧ (c : Int) ≤ (X.size : Int) := by omega
  simp [Instr.slice, Instr.sliceBounds, Instr.sliceBound, asIntOf, run_underlying Tryd.underlying9, hj]
  intro hgt
  omega
theorem cut_mid (X : ByteArray) (a c : Nat) (ha : a ≤ c) (h : c ≤ X.size) (u : World) : (Instr.slice 9 (.string X) (some (.int .i64 (a : Int))) (some (.int .i64 (c : Int))) none).run Tryd.prog u = .ok (.string (X.extract a c)) u := by
  have hj : (0 : Int) ≤ (c : Int) ∧ (c : Int) ≤ (X.size : Int) := by omega
  have hk : (0 : Int) ≤ (a : Int) ∧ (a : Int) ≤ (c : Int) := by omega
  simp [Instr.slice, Instr.sliceBounds, Instr.sliceBound, asIntOf, run_underlying Tryd.underlying9, hj, hk]
  rw [if_pos h, if_pos ha]
theorem cut_list (X : ByteArray) (a c : Nat) : (X.extract a c).data.toList = (X.data.toList.drop a).take (c - a) := by
  rw [ByteArray.data_extract, Array.toList_extract, List.extract_eq_take_drop]
end Go.Proofs.YtkjcpjalldbahaaDoor
end

section
namespace Go.Proofs.YtkjcpjalldbahaaDoor
open Go.RowKit

/-- The end of a call that answers these texts. -/
def TextsR (l : List ByteArray) (w : World) (e : Ending) (w' : World) : Prop := ∃ p c, e = .returned (.slice p l.length c) ∧ TextsP w' p l ∧ Ext w w'
/-- How far a text is cut. -/
def CutAt (S : List UInt8) (a k : Nat) (L : List (List UInt8)) : Prop := a ≤ k ∧ k ≤ S.length ∧ cuts S = L ++ cuts (S.drop a) ∧ 47 ∉ (S.drop a).take (k - a)
theorem cutAt_start (S : List UInt8) : CutAt S 0 0 [] := ⟨Nat.le_refl _, Nat.zero_le _, rfl, by simp⟩
theorem cutAt_next {S : List UInt8} {a k : Nat} {L : List (List UInt8)} (h : CutAt S a k L) {b : UInt8} (hb : S[k]? = some b) (hn : b ≠ 47) : CutAt S a (k + 1) L := by
  obtain ⟨h1, h2, h3, h4⟩ := h
  have hk : k < S.length := (List.getElem?_eq_some_iff.1 hb).1
  refine ⟨by omega, hk, h3, ?_⟩
  rw [show k + 1 - a = (k - a) + 1 by omega, List.take_add_one, List.getElem?_drop, show a + (k - a) = k by omega, hb]
  simp only [Option.toList_some, List.mem_append, List.mem_singleton, not_or]
  exact ⟨h4, Ne.symm hn⟩
theorem drop_slash {S : List UInt8} {a k : Nat} (h1 : a ≤ k) (hb : S[k]? = some 47) : S.drop a = (S.drop a).take (k - a) ++ 47 :: S.drop (k + 1) := by
  have hk : k < S.length := (List.getElem?_eq_some_iff.1 hb).1
  conv => lhs; rw [← List.take_append_drop (k - a) (S.drop a)]
  rw [List.drop_drop, show a + (k - a) = k by omega, List.drop_eq_getElem_cons hk]
  rw [List.getElem?_eq_getElem hk] at hb
  rw [Option.some.inj hb]
theorem cutAt_slash {S : List UInt8} {a k : Nat} {L : List (List UInt8)} (h : CutAt S a k L) (hb : S[k]? = some 47) : CutAt S (k + 1) (k + 1) (L ++ [(S.drop a).take (k - a)]) := by
  obtain ⟨h1, h2, h3, h4⟩ := h
  have hk : k < S.length := (List.getElem?_eq_some_iff.1 hb).1
  refine ⟨Nat.le_refl _, hk, ?_, by simp⟩
  rw [h3, drop_slash h1 hb, cuts_app, cuts_one _ h4, ← drop_slash h1 hb]
  simp
theorem cutAt_end {S : List UInt8} {a : Nat} {L : List (List UInt8)} (h : CutAt S a S.length L) : cuts S = L ++ [(S.drop a).take (S.length - a)] := by
  obtain ⟨h1, h2, h3, h4⟩ := h
  have e : (S.drop a).take (S.length - a) = S.drop a := List.take_of_length_le (by simp)
  rw [e] at h4 ⊢
  rw [h3, cuts_one _ h4]
theorem cutAt_len {S : List UInt8} {a k : Nat} {L : List (List UInt8)} (h : CutAt S a k L) : L.length ≤ S.length := by
  have h2 := count_slash S
  rw [h.2.2.1] at h2
  have h3 : 1 ≤ (cuts (S.drop a)).length := by
    have := cuts_ne (S.drop a)
    cases e : cuts (S.drop a) with
    | nil => exact absurd e this
    | cons => simp
  simp at h2
  omega
theorem extract_toB (s : ByteArray) (a k : Nat) : s.extract a k = toB ((s.data.toList.drop a).take (k - a)) := by
  apply ByteArray.ext
  apply Array.toList_inj.1
  rw [cut_list, toB_data]
end Go.Proofs.YtkjcpjalldbahaaDoor
end
