/- Contract: a text, cut at its slashes, by the document. -/
import Derived.Test.YtgcnpcpdgdhdkaaDoorPathN
import Derived.Test.YtgcnpcpdgdhdkaaDoorTextsP
import Derived.Test.YtgcnpcpdgdhdkaaDoorTextAt
import Derived.Test.YtgcnpcpdgdhdkaaDoorCutS
import Derived.Outline
namespace Go.Proofs.YtgcnpcpdgdhdkaaDoor
open Go.RowKit

/-- The end of a call that answers these texts. -/
def TextsR (l : List ByteArray) (w : World) (e : Ending) (w' : World) : Prop := ∃ p c, e = .returned (.slice p l.length c) ∧ TextsP w' p l ∧ Ext w w'
/-- How far a text is cut. -/
def CutAt (S : List UInt8) (a k : Nat) (L : List (List UInt8)) : Prop := a ≤ k ∧ k ≤ S.length ∧ cuts S = L ++ cuts (S.drop a) ∧ 47 ∉ (S.drop a).take (k - a)
theorem cutAt_start (S : List UInt8) : CutAt S 0 0 [] := ⟨Nat.le_refl _, Nat.zero_le _, rfl, by simp⟩
theorem cutAt_next {S : List UInt8} {a k : Nat} {L : List (List UInt8)} (h : CutAt S a k L) {b : UInt8} (hb : S[k]? = some b) (hn : b ≠ 47) : CutAt S a (k + 1) L := by
  obtain ⟨h1, h2, h3, h4⟩ := h
  have hk : k < S.length := (List.getElem?_eq_some_iff.1 hb).1
  refine ⟨by omega, hk, h3, ?_⟩
  rw [show k + 1 - a = (k - a) + 1 by omega, List.take_add_one, List.getElem?_drop, show a + (k - a) = k by omega, hb]
  simp only [Option.toList_some, List.mem_append, List.mem_singleton, not_or]
  exact ⟨h4, Ne.symm hn⟩
theorem drop_slash {S : List UInt8} {a k : Nat} (h1 : a ≤ k) (hb : S[k]? = some 47) : S.drop a = (S.drop a).take (k - a) ++ 47 :: S.drop (k + 1) := by
  have hk : k < S.length := (List.getElem?_eq_some_iff.1 hb).1
  conv => lhs; rw [← List.take_append_drop (k - a) (S.drop a)]
  rw [List.drop_drop, show a + (k - a) = k by omega, List.drop_eq_getElem_cons hk]
  rw [List.getElem?_eq_getElem hk] at hb
  rw [Option.some.inj hb]
theorem cutAt_slash {S : List UInt8} {a k : Nat} {L : List (List UInt8)} (h : CutAt S a k L) (hb : S[k]? = some 47) : CutAt S (k + 1) (k + 1) (L ++ [(S.drop a).take (k - a)]) := by
  obtain ⟨h1, h2, h3, h4⟩ := h
  have hk : k < S.length := (List.getElem?_eq_some_iff.1 hb).1
  refine ⟨Nat.le_refl _, hk, ?_, by simp⟩
  rw [h3, drop_slash h1 hb, cuts_app, cuts_one _ h4, ← drop_slash h1 hb]
  simp
theorem cutAt_end {S : List UInt8} {a : Nat} {L : List (List UInt8)} (h : CutAt S a S.length L) : cuts S = L ++ [(S.drop a).take (S.length - a)] := by
  obtain ⟨h1, h2, h3, h4⟩ := h
  have e : (S.drop a).take (S.length - a) = S.drop a := List.take_of_length_le (by simp)
  rw [e] at h4 ⊢
  rw [h3, cuts_one _ h4]
theorem cutAt_len {S : List UInt8} {a k : Nat} {L : List (List UInt8)} (h : CutAt S a k L) : L.length ≤ S.length := by
  have h2 := count_slash S
  rw [h.2.2.1] at h2
  have h3 : 1 ≤ (cuts (S.drop a)).length := by
    have := cuts_ne (S.drop a)
    cases e : cuts (S.drop a) with
    | nil => exact absurd e this
    | cons => simp
  simp at h2
  omega
theorem extract_toB (s : ByteArray) (a k : Nat) : s.extract a k = toB ((s.data.toList.drop a).take (k - a)) := by
  apply ByteArray.ext
  apply Array.toList_inj.1
  rw [cut_list, toB_data]
set_option maxRecDepth 100000 in
set_option maxHeartbeats 2000000 in
theorem rcut_any (s : ByteArray) (hs : s.size ≤ 1000) (w : World) :
    Calls Tryd.prog 21 #[.string s] w fun e w' => ∃ v, e = .returned v ∧ BufS w' w.heap.size v (cutsB s) ∧ Ext w w' := by
  have HSz := Lib.hid (size_list s)
  have HM := Lib.hid (fun a c (ha : a ≤ c) (h : c ≤ s.size) (u : World) => cut_mid s a c ha h u)
  have HEx := Lib.hid (fun a k => extract_toB s a k)
  go_enter Tryd.func21, Tryd.ntmps21
  go_wp2
  go_loopw [3, 4, 5] (fun v av iv wr => ∃ (a k : Nat) (L : List (List UInt8)), av = .int .i64 (a : Int) ∧ iv = .int .i64 (k : Int) ∧ k ≤ s.size + 1 ∧ BufS wr w.heap.size v (L.map toB) ∧ Ext w wr ∧
      Hid ((k ≤ s.size → CutAt s.data.toList a k L) ∧ (k = s.size + 1 → cuts s.data.toList = L))) (fun _ _ i _ => s.size + 1 - (intOf i).toNat)
  case atStart => exact ⟨0, 0, [], rfl, rfl, Nat.zero_le _, BufS.nil _ _, Ext.refl _, Lib.hid ⟨fun _ => cutAt_start _, fun h => by omega⟩⟩
  case round =>
    obtain ⟨a, k, L, rfl, rfl, hk, hbuf, hext, hcut⟩ := hrel
    have HB := Lib.hid hbuf; have HE := Lib.hid hext
    clear hbuf hext
    by_cases hle : k ≤ s.size
    · have hcA := hcut.out.1 hle
      have hak := hcA.1
      have hLl : (L.map toB).length ≤ 1000000 := by have := cutAt_len hcA; rw [HSz.out] at this; simp; omega
      have hmid := HM.out a k hak hle
      rw [HEx.out a k] at hmid
      have HCA := Lib.hid hcA
      clear hcA
      obtain ⟨T, hT⟩ : ∃ T, T = (s.data.toList.drop a).take (k - a) := ⟨_, rfl⟩
      rw [← hT] at hmid
      have HT := Lib.hid hT
      clear hT
      have HLe := Lib.hid hLl
      clear hLl
      have HX3 := Lib.hid ((Ext.refl wr).alloc (.cells #[.string (toB T)] 9))
      have HCl : Hid ((wr.alloc (.cells #[.string (toB T)] 9)).cell? ⟨wr.heap.size, 0, none⟩ = some (.string (toB T))) := Lib.hid ((Blk.new wr [.string (toB T)] 9).cell 0 _ rfl)
      rcases Nat.lt_or_ge k s.size with hlt | hge
      · obtain ⟨b, hb⟩ : ∃ b, s.data.toList[k]? = some b := ⟨_, List.getElem?_eq_getElem (by rw [HSz.out]; exact hlt)⟩
        have hix := index_text s k b hb
        have hne : ((k : Int) == (s.size : Int)) = false := by rw [beq_eq_false_iff_ne]; omega
        have HBb := Lib.hid hb
        clear hb
        by_cases h47 : b = 47
        · subst h47
          have hix2 : ∀ u, (Instr.index 9 (.string s) (.int .i64 (k : Int))).run Tryd.prog u = .ok (.int .u8 47) u := hix
          clear hix
          go_wp2_with (at_builtin; refine append_text rfl (.tmp 22) (.tmp 27) rfl w.heap.size _ _ rfl (HB.out.ext HX3.out) wr.heap.size (toB T) rfl HCl.out HLe.out (HE.out.trans HX3.out).size ?_; intro v1 w2 hb1 hx4; have X5 : Hid (Ext w w2) := Lib.hid (Below.trans (HE.out.trans HX3.out) hx4); have HB1 := Lib.hid hb1; clear hb1 hx4)
          go_roundw
          case rel =>
            refine ⟨k + 1, k + 1, L ++ [T], by go_num, by go_num, by omega, by have := HB1.out; simpa using this, X5.out, Lib.hid ⟨fun _ => ?_, fun h => by omega⟩⟩
            have := cutAt_slash HCA.out HBb.out
            rw [← HT.out] at this
            exact this
          case measure => simp [intOf]; omega
        · have hnb : ((b.toNat : Int) == 47) = false := by
            rw [beq_eq_false_iff_ne]
            intro e
            exact h47 (UInt8.toNat_inj.1 (by show b.toNat = 47; omega))
          have H47 := Lib.hid h47
          clear h47
          go_wp2
          go_roundw
          case rel => exact ⟨a, k + 1, L, rfl, by go_num, by omega, HB.out, HE.out, Lib.hid ⟨fun _ => cutAt_next HCA.out HBb.out H47.out, fun h => by omega⟩⟩
          case measure => simp [intOf]; omega
      · obtain rfl : k = s.size := by omega
        go_wp2_with (at_builtin; refine append_text rfl (.tmp 22) (.tmp 27) rfl w.heap.size _ _ rfl (HB.out.ext HX3.out) wr.heap.size (toB T) rfl HCl.out HLe.out (HE.out.trans HX3.out).size ?_; intro v1 w2 hb1 hx4; have X5 : Hid (Ext w w2) := Lib.hid (Below.trans (HE.out.trans HX3.out) hx4); have HB1 := Lib.hid hb1; clear hb1 hx4)
        go_roundw
        case rel =>
          refine ⟨s.size + 1, s.size + 1, L ++ [T], by go_num, by go_num, by omega, by have := HB1.out; simpa using this, X5.out, Lib.hid ⟨fun h => by omega, fun _ => ?_⟩⟩
          have hc := HCA.out
          rw [HT.out]
          rw [← HSz.out] at hc ⊢
          exact cutAt_end hc
        case measure => simp [intOf]
    · obtain rfl : k = s.size + 1 := by omega
      have hfin : Hid (cutsB s = L.map toB) := Lib.hid (by unfold cutsB; rw [hcut.out.2 rfl])
      go_wp2
      go_ret
      exact ⟨_, rfl, by rw [hfin.out]; exact HB.out, HE.out⟩
end Go.Proofs.YtgcnpcpdgdhdkaaDoor
