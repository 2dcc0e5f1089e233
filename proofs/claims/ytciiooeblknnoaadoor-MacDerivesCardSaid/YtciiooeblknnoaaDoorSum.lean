/- Contracts: the sum of all that came till now, by the program. -/
import Derived.Test.YtciiooeblknnoaaDoorLast
namespace Go.Proofs.YtciiooeblknnoaaDoor
open Go.RowKit

theorem hash_state {w : World} {b : Nat} {st : St} {buf : List UInt8} {n : Nat} (h : Blk w b 77 (hashCells st buf n)) :
    w.cell? ⟨b, 1, none⟩ = some (.int .u32 (st.a : Nat)) ∧ w.cell? ⟨b, 2, none⟩ = some (.int .u32 (st.b : Nat)) ∧ w.cell? ⟨b, 3, none⟩ = some (.int .u32 (st.c : Nat)) ∧ w.cell? ⟨b, 4, none⟩ = some (.int .u32 (st.d : Nat)) ∧
    w.cell? ⟨b, 5, none⟩ = some (.int .u32 (st.e : Nat)) ∧ w.cell? ⟨b, 6, none⟩ = some (.int .u32 (st.f : Nat)) ∧ w.cell? ⟨b, 7, none⟩ = some (.int .u32 (st.g : Nat)) ∧ w.cell? ⟨b, 8, none⟩ = some (.int .u32 (st.h : Nat)) :=
  mid8 (off := 1) h rfl
theorem blk_state {w : World} {b : Nat} {T : TypeId} {st : St} (h : Blk w b T (mid [] st.list [])) :
    w.cell? ⟨b, 0, none⟩ = some (.int .u32 (st.a : Nat)) ∧ w.cell? ⟨b, 1, none⟩ = some (.int .u32 (st.b : Nat)) ∧ w.cell? ⟨b, 2, none⟩ = some (.int .u32 (st.c : Nat)) ∧ w.cell? ⟨b, 3, none⟩ = some (.int .u32 (st.d : Nat)) ∧
    w.cell? ⟨b, 4, none⟩ = some (.int .u32 (st.e : Nat)) ∧ w.cell? ⟨b, 5, none⟩ = some (.int .u32 (st.f : Nat)) ∧ w.cell? ⟨b, 6, none⟩ = some (.int .u32 (st.g : Nat)) ∧ w.cell? ⟨b, 7, none⟩ = some (.int .u32 (st.h : Nat)) :=
  mid8 (off := 0) h rfl
theorem take64 (q : ByteArray) : (q.extract 0 64).data.toList = q.data.toList.take 64 := by simp
set_option maxRecDepth 100000 in
set_option maxHeartbeats 1000000 in
theorem Sum_any (w : World) (b : Nat) (m : List UInt8) (hL : Laid w) (h : IsHash w b m) :
    Calls Tryd.prog 34 #[.pointer (some ⟨b, 0, none⟩)] w fun e w' => e = .returned (.string ⟨(shaL m).toArray⟩) ∧ Ext w w' := by
  have HT := Lib.hid (there_any w b m h)
  have HLa := Lib.hid (fun u (hx : Ext w u) => last_any u b m (h.ext hx))
  have HK := Lib.hid (shaL_kept m)
  obtain ⟨buf, _, _, h3⟩ := h.blk
  have hbl := h3.lt
  obtain ⟨k0, k1, k2, k3, k4, k5, k6, k7⟩ := hash_state h3
  have ok := stOf_ok m
  have hz : (m.length % 64 + zeros m.length + 9) % 64 = 0 := by unfold zeros; omega
  have hlen : (restOf m ++ tailOf m.length).length = m.length % 64 + zeros m.length + 9 := by rw [List.length_append, restOf_length, tailOf_length]; omega
  have hz63 := zeros_le m.length
  have HLd := Lib.hid hL
  clear h3 h hL
  generalize stOf m = st at *
  generalize restOf m ++ tailOf m.length = L at *
  generalize m.length % 64 + zeros m.length + 9 = n at *
  obtain ⟨N, hN⟩ : ∃ N, N = n / 64 := ⟨_, rfl⟩
  rw [← hN] at HK
  have hn : n = 64 * N := by omega
  have HO := Lib.hid ok; have HLen := Lib.hid (hlen.trans hn)
  clear ok hlen hz hN hn hz63
  go_enter Tryd.func34, Tryd.ntmps34
  go_wp2_with (first
    | (go_at_call 42; refine (HT.out).mono ?_; rintro e w1 ⟨rfl, rfl⟩)
    | (go_at_call 45; refine (HLa.out _ ((Ext.refl w).alloc _)).mono ?_; rintro e w1 ⟨rfl, h1⟩))
  have hB0 : Blk w1 w.heap.size 74 (mid [] st.list []) := Blk.ext (show Blk (w.alloc _) w.heap.size 74 (mid [] st.list []) from Blk.new w _ _) h1
  have hx1 : Ext w w1 := Below.trans ((Ext.refl w).alloc _) (Below.mono h1.below (by simp))
  have HB0 := Lib.hid hB0
  clear h1 hB0 k0 k1 k2 k3 k4 k5 k6 k7
  go_loopw [4] (fun p wr => ∃ (k : Nat) (q : ByteArray), k ≤ N ∧ p = .string q ∧ q.data.toList = L.drop (64 * k) ∧ Blk wr w.heap.size 74 (mid [] (folds k L st).list []) ∧ Ext w wr) (fun p _ => strLen p)
  case atStart => exact ⟨0, _, Nat.zero_le _, rfl, by simp, HB0.out, hx1⟩
  case round =>
    clear hx1
    obtain ⟨k, q, hk, rfl, hq, hB, hext⟩ := hrel
    have hqs : q.size = 64 * N - 64 * k := by rw [← size_list, hq, List.length_drop, HLen.out]
    have HQ := Lib.hid hq; have HBk := Lib.hid hB
    have hsucc : folds (k + 1) L st = stp ((L.drop (64 * k)).take 64) (folds k L st) := by rw [folds_add, folds_succ, folds_zero]
    have HSu := Lib.hid hsucc
    have hfo := Lib.hid (folds_ok k L HO.out)
    clear hq hB hsucc
    by_cases hlt : k < N
    · have h64 : 64 ≤ q.size := by omega
      have HQS := Lib.hid hqs; clear hqs
      have hes : (q.extract 0 64).size = 64 := by rw [ByteArray.size_extract]; omega
      have hed : (q.extract 0 64).data.toList = (L.drop (64 * k)).take 64 := by rw [take64, HQ.out]
      have C := take_any (folds k L st) hfo.out (q.extract 0 64) hes w.heap.size 0 74 [] [] wr (HLd.out.ext hext) rfl HBk.out
      rw [hed, ← HSu.out] at C
      have HC := Lib.hid C; clear C hes hed
      go_wp2_with (go_at_call 44; refine (HC.out).mono ?_; rintro e w2 ⟨rfl, h2, hB2⟩)
      go_roundw
      case rel => exact ⟨k + 1, _, hlt, rfl, by rw [Lib.extract_data, HQ.out, List.drop_drop, List.take_of_length_le (by rw [List.length_drop, HLen.out]; have := HQS.out; omega)]; congr 1, hB2, hext.trans3 h2⟩
      case measure => simp only [strLen]; rw [ByteArray.size_extract]; omega
    · obtain rfl : k = N := by omega
      have hq0 : q.size = 0 := by omega
      clear hqs
      obtain ⟨k0, k1, k2, k3, k4, k5, k6, k7⟩ := blk_state HBk.out
      have hF := HK.out
      generalize folds k L st = S at *
      have HF := Lib.hid hF; clear hF
      go_wp2_with (go_at_call 46; refine (text_any S _).mono ?_; rintro e w3 ⟨rfl, h3⟩)
      go_ret
      exact ⟨by rw [HF.out]; rfl, hext.trans h3⟩
end Go.Proofs.YtciiooeblknnoaaDoor
