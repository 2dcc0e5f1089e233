/- Contracts: the library's split at a slash, its copies of texts, its index of a slash, its cut of a prefix. Texts cut: from, up to, between. Contract: a text, cut at its slashes, by the document. -/
import Derived.Test.YtkjcpjalldbahaaGreatDoorM12
import Derived.Test.YtkjcpjalldbahaaGreatDoorShelf
import Derived.Test.YtkjcpjalldbahaaGreatDoorM22
import Derived.Shelf.Strings.SplitCore
import Derived.Test.YtkjcpjalldbahaaGreatDoorProg
import Derived.Test.YtkjcpjalldbahaaGreatDoorM00
import Derived.Test.YtkjcpjalldbahaaGreatDoorM02
import Derived.Outline
section
namespace Go.Proofs.YtkjcpjalldbahaaGreatDoor
open Go.RowKit

theorem infoT : (Tryz.prog.info? 9).map (fun i => (i.zero, i.size, i.bytes)) = some (some (.string ByteArray.empty), 1, 16) := by kernel_rfl
theorem genSplit_any (s : ByteArray) (w : World) (hs : s.size < 4294967281) :
    Calls Tryz.prog 80 #[.string s, .string ⟨#[47]⟩, .int .i64 0, .int .i64 (-1)] w fun e w' =>
      e = .returned (.slice (some ⟨w.heap.size, 0, none⟩) (cutsB s).length (cutsB s).length) ∧ w' = w.alloc (.cells ((cutsB s).map Value.string).toArray 9) := by
  have h1 : 1 ≤ (⟨#[47]⟩ : ByteArray).size := by decide
  have hle := Lib.countB_le ⟨#[47]⟩ h1 s.size s (Nat.le_refl _)
  have hlen := Lib.splitB_all ⟨#[47]⟩ h1 0 _ s rfl
  have c := Any.strings_genSplit_core Tryz.lays221 infoT s ⟨#[47]⟩ 0 (-1) (Lib.countB s ⟨#[47]⟩ + 1) w hs h1 (Nat.zero_le _)
    (fun x c _ => (Tryz.strings_Index_one x 47 _).mono fun e w' ⟨he, hw⟩ => ⟨by rw [he]; show _ = Ending.returned (.int .i64 (Lib.index x.data.toList [47])); rw [Lib.index_one], hw⟩)
    ((Tryz.strings_Count_one s 47 w).mono fun e w' ⟨he, hw⟩ => ⟨by rw [he]; show _ = Ending.returned (Value.int .i64 ((Lib.count s.data.toList [47] : Nat) : Int)); rw [Lib.count_one]; rfl, hw⟩)
    (by decide) (by decide) (by rw [if_pos (by decide)]; omega)
  rw [Nat.add_sub_cancel, hlen] at c
  have e2 : Lib.cellsOf (Lib.splitB ⟨#[47]⟩ 0 (Lib.countB s ⟨#[47]⟩) s) (Lib.countB s ⟨#[47]⟩ + 1) = ((Lib.splitB ⟨#[47]⟩ 0 (Lib.countB s ⟨#[47]⟩) s).map Value.string).toArray := by rw [← hlen]; exact Lib.cellsOf_full _
  rw [e2, ← hlen, split_cuts] at c
  exact c
theorem split_any (s : ByteArray) (w : World) (hs : s.size < 4294967281) :
    Calls Tryz.prog 58 #[.string s, .string ⟨#[47]⟩] w fun e w' =>
      e = .returned (.slice (some ⟨w.heap.size, 0, none⟩) (cutsB s).length (cutsB s).length) ∧ w' = w.alloc (.cells ((cutsB s).map Value.string).toArray 9) := by
  have c := genSplit_any s w hs
  go_enter Tryz.func58, Tryz.ntmps58
  go_wp2_with (go_at_call 80; refine c.mono ?_; rintro e w' ⟨rfl, hw⟩; rw [hw])
  go_ret
  exact ⟨rfl, rfl⟩
theorem strcloneP_any (s : ByteArray) (hs : s.size ≤ 140737488351232) (w : World) : Calls Tryz.prog 73 #[.string s] w fun e w' => e = .returned (.string s) ∧ Ext w w' := by
  have c := Tryz.stringslite_Clone s w (by omega)
  go_enter Tryz.func73, Tryz.ntmps73
  go_wp2_with (go_at_call 92; refine c.mono ?_; rintro e w' ⟨rfl, hb⟩; have X : Ext w w' := hb; have HX := Lib.hid X; clear hb X)
  go_ret
  exact ⟨rfl, HX.out⟩
theorem strindexP_any (s : ByteArray) (w : World) : Calls Tryz.prog 100 #[.string s, .string ⟨#[47]⟩] w fun e w' => e = .returned (.int .i64 (Lib.indexByte s.data.toList 47)) ∧ w = w' :=
  (Tryz.strings_Index_one s 47 w).mono fun _ _ ⟨he, hw⟩ => ⟨he, hw.symm⟩
theorem cutPrefix_any (s p : ByteArray) (w : World) : Calls Tryz.prog 102 #[.string s, .string p] w fun e w' => e = .returned (.tuple #[.string (toB (Lib.trimPrefix s.data.toList p.data.toList)), .bool (Lib.hasPrefix s.data.toList p.data.toList)]) ∧ w = w' :=
  (Tryz.strings_CutPrefix s p w).mono fun _ _ ⟨he, hw⟩ => ⟨he, hw.symm⟩
end Go.Proofs.YtkjcpjalldbahaaGreatDoor
end

section
namespace Go.Proofs.YtkjcpjalldbahaaGreatDoor
open Go.RowKit

theorem cut_to (X : ByteArray) (c : Nat) (h : c ≤ X.size) (u : World) : (Instr.slice 9 (.string X) none (some (.int .i64 (c : Int))) none).run Tryz.prog u = .ok (.string (X.extract 0 c)) u := by
  have hj : (0 : Int) ≤ (c : Int) ∧ (c : Int) ≤ (X.size : Int) := by omega
  simp [Instr.slice, Instr.sliceBounds, Instr.sliceBound, asIntOf, run_underlying Tryz.underlying9, hj]
  intro hgt
  omega
theorem cut_from (X : ByteArray) (c : Nat) (h : c ≤ X.size) (u : World) : (Instr.slice 9 (.string X) (some (.int .i64 (c : Int))) none none).run Tryz.prog u = .ok (.string (X.extract c X.size)) u := by
  have hj : (0 : Int) ≤ (c : Int) ∧ (c : Int) ≤ (X.size : Int) := by omega
  simp [Instr.slice, Instr.sliceBounds, Instr.sliceBound, asIntOf, run_underlying Tryz.underlying9, hj]
  intro hgt
  omega
theorem cut_mid (X : ByteArray) (a c : Nat) (ha : a ≤ c) (h : c ≤ X.size) (u : World) : (Instr.slice 9 (.string X) (some (.int .i64 (a : Int))) (some (.int .i64 (c : Int))) none).run Tryz.prog u = .ok (.string (X.extract a c)) u := by
  have hj : (0 : Int) ≤ (c : Int) ∧ (c : Int) ≤ (X.size : Int) := by omega
  have hk : (0 : Int) ≤ (a : Int) ∧ (a : Int) ≤ (c : Int) := by omega
  simp [Instr.slice, Instr.sliceBounds, Instr.sliceBound, asIntOf, run_underlying Tryz.underlying9, hj, hk]
  rw [if_pos h, if_pos ha]
theorem cut_list (X : ByteArray) (a c : Nat) : (X.extract a c).data.toList = (X.data.toList.drop a).take (c - a) := by
  rw [ByteArray.data_extract, Array.toList_extract, List.extract_eq_take_drop]
end Go.Proofs.YtkjcpjalldbahaaGreatDoor
end

section
namespace Go.Proofs.YtkjcpjalldbahaaGreatDoor
open Go.RowKit

/-- The end of a call that answers these texts. -/
def TextsR (l : List ByteArray) (w : World) (e : Ending) (w' : World) : Prop := ∃ p c, e = .returned (.slice p l.length c) ∧ TextsP w' p l ∧ Ext w w'
/-- How far a text is cut. -/
def CutAt (S : List UInt8) (a k : Nat) (L : List (List UInt8)) : Prop := a ≤ k ∧ k ≤ S.length ∧ cuts S = L ++ cuts (S.drop a) ∧ 47 ∉ (S.drop a).take (k - a)
theorem cutAt_start (S : List UInt8) : CutAt S 0 0 [] := ⟨Nat.le_refl _, Nat.zero_le _, rfl, by simp⟩
theorem cutAt_next {S : List UInt8} {a k : Nat} {L : List (List UInt8)} (h : CutAt S a k L) {b : UInt8} (hb : S[k]? = some b) (hn : b ≠ 47) : CutAt S a (k + 1) L := by
  obtain ⟨h1, h2, h3, h4⟩ := h
  have hk : k < S.length := (List.getElem?_eq_some_iff.1 hb).1
  refine ⟨by omega, hk, h3, ?_⟩
  rw [show k + 1 - a = (k - a) + 1 by omega, List.take_add_one, List.getElem?_drop, show a + (k - a) = k by omega, hb]
  simp only [Option.toList_some, List.mem_append, List.mem_singleton, not_or]
  exact ⟨h4, Ne.symm hn⟩
theorem drop_slash {S : List UInt8} {a k : Nat} (h1 : a ≤ k) (hb : S[k]? = some 47) : S.drop a = (S.drop a).take (k - a) ++ 47 :: S.drop (k + 1) := by
  have hk : k < S.length := (List.getElem?_eq_some_iff.1 hb).1
  conv => lhs; rw [← List.take_append_drop (k - a) (S.drop a)]
  rw [List.drop_drop, show a + (k - a) = k by omega, List.drop_eq_getElem_cons hk]
  rw [List.getElem?_eq_getElem hk] at hb
  rw [Option.some.inj hb]
theorem cutAt_slash {S : List UInt8} {a k : Nat} {L : List (List UInt8)} (h : CutAt S a k L) (hb : S[k]? = some 47) : CutAt S (k + 1) (k + 1) (L ++ [(S.drop a).take (k - a)]) := by
  obtain ⟨h1, h2, h3, h4⟩ := h
  have hk : k < S.length := (List.getElem?_eq_some_iff.1 hb).1
  refine ⟨Nat.le_refl _, hk, ?_, by simp⟩
  rw [h3, drop_slash h1 hb, cuts_app, cuts_one _ h4, ← drop_slash h1 hb]
  simp
theorem cutAt_end {S : List UInt8} {a : Nat} {L : List (List UInt8)} (h : CutAt S a S.length L) : cuts S = L ++ [(S.drop a).take (S.length - a)] := by
  obtain ⟨h1, h2, h3, h4⟩ := h
  have e : (S.drop a).take (S.length - a) = S.drop a := List.take_of_length_le (by simp)
  rw [e] at h4 ⊢
  rw [h3, cuts_one _ h4]
theorem cutAt_len {S : List UInt8} {a k : Nat} {L : List (List UInt8)} (h : CutAt S a k L) : L.length ≤ S.length := by
  have h2 := count_slash S
  rw [h.2.2.1] at h2
  have h3 : 1 ≤ (cuts (S.drop a)).length := by
    have := cuts_ne (S.drop a)
    cases e : cuts (S.drop a) with
    | nil => exact absurd e this
    | cons => simp
  simp at h2
  omega
theorem extract_toB (s : ByteArray) (a k : Nat) : s.extract a k = toB ((s.data.toList.drop a).take (k - a)) := by
  apply ByteArray.ext
  apply Array.toList_inj.1
  rw [cut_list, toB_data]
set_option maxRecDepth 100000 in
set_option maxHeartbeats 2000000 in
theorem rcut_any (s : ByteArray) (hs : s.size ≤ 1000) (w : World) :
    Calls Tryz.prog 61 #[.string s] w fun e w' => ∃ v, e = .returned v ∧ BufS w' w.heap.size v (cutsB s) ∧ Ext w w' := by
  have HSz := Lib.hid (size_list s)
  have HM := Lib.hid (fun a c (ha : a ≤ c) (h : c ≤ s.size) (u : World) => cut_mid s a c ha h u)
  have HEx := Lib.hid (fun a k => extract_toB s a k)
  go_enter Tryz.func61, Tryz.ntmps61
  go_wp2
  go_loopw [3, 4, 5] (fun v av iv wr => ∃ (a k : Nat) (L : List (List UInt8)), av = .int .i64 (a : Int) ∧ iv = .int .i64 (k : Int) ∧ k ≤ s.size + 1 ∧ BufS wr w.heap.size v (L.map toB) ∧ Ext w wr ∧
      Hid ((k ≤ s.size → CutAt s.data.toList a k L) ∧ (k = s.size + 1 → cuts s.data.toList = L))) (fun _ _ i _ => s.size + 1 - (intOf i).toNat)
  case atStart => exact ⟨0, 0, [], rfl, rfl, Nat.zero_le _, BufS.nil _ _, Ext.refl _, Lib.hid ⟨fun _ => cutAt_start _, fun h => by omega⟩⟩
  case round =>
    obtain ⟨a, k, L, rfl, rfl, hk, hbuf, hext, hcut⟩ := hrel
    have HB := Lib.hid hbuf; have HE := Lib.hid hext
    clear hbuf hext
    by_cases hle : k ≤ s.size
    · have hcA := hcut.out.1 hle
      have hak := hcA.1
      have hLl : (L.map toB).length ≤ 1000000 := by have := cutAt_len hcA; rw [HSz.out] at this; simp; omega
      have hmid := HM.out a k hak hle
      rw [HEx.out a k] at hmid
      have HCA := Lib.hid hcA
      clear hcA
      obtain ⟨T, hT⟩ : ∃ T, T = (s.data.toList.drop a).take (k - a) := ⟨_, rfl⟩
      rw [← hT] at hmid
      have HT := Lib.hid hT
      clear hT
      have HLe := Lib.hid hLl
      clear hLl
      have HX3 := Lib.hid ((Ext.refl wr).alloc (.cells #[.string (toB T)] 9))
      have HCl : Hid ((wr.alloc (.cells #[.string (toB T)] 9)).cell? ⟨wr.heap.size, 0, none⟩ = some (.string (toB T))) := Lib.hid ((Blk.new wr [.string (toB T)] 9).cell 0 _ rfl)
      rcases Nat.lt_or_ge k s.size with hlt | hge
      · obtain ⟨b, hb⟩ : ∃ b, s.data.toList[k]? = some b := ⟨_, List.getElem?_eq_getElem (by rw [HSz.out]; exact hlt)⟩
        have hix := index_text s k b hb
        have hne : ((k : Int) == (s.size : Int)) = false := by rw [beq_eq_false_iff_ne]; omega
        have HBb := Lib.hid hb
        clear hb
        by_cases h47 : b = 47
        · subst h47
          have hix2 : ∀ u, (Instr.index 9 (.string s) (.int .i64 (k : Int))).run Tryz.prog u = .ok (.int .u8 47) u := hix
          clear hix
          go_wp2_with (at_builtin; refine append_text rfl (.tmp 22) (.tmp 27) rfl w.heap.size _ _ rfl (HB.out.ext HX3.out) wr.heap.size (toB T) rfl HCl.out HLe.out (HE.out.trans HX3.out).size ?_; intro v1 w2 hb1 hx4; have X5 : Hid (Ext w w2) := Lib.hid (Below.trans (HE.out.trans HX3.out) hx4); have HB1 := Lib.hid hb1; clear hb1 hx4)
          go_roundw
          case rel =>
            refine ⟨k + 1, k + 1, L ++ [T], by go_num, by go_num, by omega, by have := HB1.out; simpa using this, X5.out, Lib.hid ⟨fun _ => ?_, fun h => by omega⟩⟩
            have := cutAt_slash HCA.out HBb.out
            rw [← HT.out] at this
            exact this
          case measure => simp [intOf]; omega
        · have hnb : ((b.toNat : Int) == 47) = false := by
            rw [beq_eq_false_iff_ne]
            intro e
            exact h47 (UInt8.toNat_inj.1 (by show b.toNat = 47; omega))
          have H47 := Lib.hid h47
          clear h47
          go_wp2
          go_roundw
          case rel => exact ⟨a, k + 1, L, rfl, by go_num, by omega, HB.out, HE.out, Lib.hid ⟨fun _ => cutAt_next HCA.out HBb.out H47.out, fun h => by omega⟩⟩
          case measure => simp [intOf]; omega
      · obtain rfl : k = s.size := by omega
        go_wp2_with (at_builtin; refine append_text rfl (.tmp 22) (.tmp 27) rfl w.heap.size _ _ rfl (HB.out.ext HX3.out) wr.heap.size (toB T) rfl HCl.out HLe.out (HE.out.trans HX3.out).size ?_; intro v1 w2 hb1 hx4; have X5 : Hid (Ext w w2) := Lib.hid (Below.trans (HE.out.trans HX3.out) hx4); have HB1 := Lib.hid hb1; clear hb1 hx4)
        go_roundw
        case rel =>
          refine ⟨s.size + 1, s.size + 1, L ++ [T], by go_num, by go_num, by omega, by have := HB1.out; simpa using this, X5.out, Lib.hid ⟨fun h => by omega, fun _ => ?_⟩⟩
          have hc := HCA.out
          rw [HT.out]
          rw [← HSz.out] at hc ⊢
          exact cutAt_end hc
        case measure => simp [intOf]
    · obtain rfl : k = s.size + 1 := by omega
      have hfin : Hid (cutsB s = L.map toB) := Lib.hid (by unfold cutsB; rw [hcut.out.2 rfl])
      go_wp2
      go_ret
      exact ⟨_, rfl, by rw [hfin.out]; exact HB.out, HE.out⟩
end Go.Proofs.YtkjcpjalldbahaaGreatDoor
end
