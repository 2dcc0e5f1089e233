/- Contracts: the end of the padded text, and the sum out of what is kept, by the program. Contracts: the sum of all that came till now, by the program. -/
import Derived.Test.YteddogalmdgjlaaDoorM21
import Derived.Test.YteddogalmdgjlaaDoorM22
import Derived.Deep.RegionWith
import Derived.Deep.RegionHeld3
import Derived.Deep.DeepCutAuto
section
namespace Go.Proofs.YteddogalmdgjlaaDoor
open Go.RowKit

theorem repeatL_zeros (c : Nat) : Lib.repeatL [0] c = List.replicate c 0 := by
  induction c with
  | zero => rfl
  | succ n ih => rw [Lib.repeatL, ih, List.replicate_succ]; rfl
theorem repeat_any (c : Nat) (hc : c ≤ 63) (w : World) :
    Calls Tryd.prog 73 #[.string ⟨#[0]⟩, .int .i64 (c : Int)] w fun e w' => e = .returned (.string ⟨(List.replicate c 0).toArray⟩) ∧ Ext w w' := by
  have h := Tryd.strings_Repeat ⟨#[0]⟩ c w (by omega) (by show 1 * c ≤ _; omega)
  have e : (⟨#[0]⟩ : ByteArray).data.toList = [0] := rfl
  rw [e, repeatL_zeros] at h
  exact h
theorem restLen_any (w : World) (b : Nat) (m : List UInt8) (h : IsHash w b m) :
    Calls Tryd.prog 88 #[.pointer (some ⟨b, 0, none⟩)] w fun e w' => e = .returned (.int .i64 ((m.length % 64 : Nat) : Int)) ∧ w = w' := by
  obtain ⟨buf, h1, h2, h3⟩ := h.blk
  have hc := hash_count h3 h1
  have hs := h.small
  clear h1 h2 h3 h
  generalize m.length = n at *
  go_enter Tryd.func88, Tryd.ntmps88
  go_wp2
  go_ret
  exact ⟨by simp, rfl⟩
theorem there_any (w : World) (b : Nat) (m : List UInt8) (h : IsHash w b m) :
    Calls Tryd.prog 87 #[.pointer (some ⟨b, 0, none⟩)] w fun e w' => e = .returned (.bool true) ∧ w = w' := by
  obtain ⟨buf, h1, h2, h3⟩ := h.blk
  have hc := hash_made h3
  clear h1 h2 h3 h
  go_enter Tryd.func87, Tryd.ntmps87
  go_wp2
  go_ret
  exact ⟨rfl, rfl⟩
theorem there_no (w : World) :
    Calls Tryd.prog 87 #[.pointer none] w fun e w' => e = .returned (.bool false) ∧ w = w' := by
  go_enter Tryd.func87, Tryd.ntmps87
  go_wp2
  go_ret
  exact ⟨rfl, rfl⟩
theorem put8_any (n : Nat) (w : World) : Calls Tryd.prog 99 #[.int .u64 (8 * (n : Int))] w fun e w' => e = .returned (.string ⟨(be 8 (8 * n)).toArray⟩) ∧ Ext w w' := by
  have := Put64_any (8 * n) w
  have e : ((8 * n : Nat) : Int) = 8 * (n : Int) := by omega
  rw [e] at this
  exact this
set_option maxRecDepth 100000 in
set_option maxHeartbeats 1000000 in
theorem last_any (w : World) (b : Nat) (m : List UInt8) (h : IsHash w b m) :
    Calls Tryd.prog 90 #[.pointer (some ⟨b, 0, none⟩)] w fun e w' => e = .returned (.string ⟨(restOf m ++ tailOf m.length).toArray⟩) ∧ Ext w w' := by
  have HR := Lib.hid (restLen_any w b m h)
  obtain ⟨buf, h1, h2, h3⟩ := h.blk
  have hs := h.small
  have hbl := h3.lt
  have hcount := fun u (hx : Ext w u) => hash_count (h3.ext hx) h1
  have htext := fun u (hx : Ext w u) => hash_text (h3.ext hx) (m.length % 64) 64 (by omega)
  rw [h2] at htext
  have hz := zeros_le m.length
  have hrl := restOf_length m
  have he : (⟨(restOf m).toArray⟩ : ByteArray) ++ ⟨#[128]⟩ ++ ⟨(List.replicate (zeros m.length) 0).toArray⟩ ++ ⟨(be 8 (8 * m.length)).toArray⟩ = ⟨(restOf m ++ tailOf m.length).toArray⟩ := by
    have e128 : (⟨#[128]⟩ : ByteArray) = ⟨([128] : List UInt8).toArray⟩ := rfl
    rw [e128, str_append, str_append, str_append]
    simp [tailOf]
  obtain ⟨r, hr⟩ : ∃ r, r = m.length % 64 := ⟨_, rfl⟩
  have hzi : (63 : Int) - ((r : Int) + 8) % 64 = (zeros m.length : Int) := by unfold zeros; omega
  have hr64 : r < 64 := by omega
  rw [← hr] at HR htext hrl
  have HE := Lib.hid he; have HC := Lib.hid hcount; have HT := Lib.hid htext; have HRL := Lib.hid hrl
  clear he hcount htext hrl h1 h2 h3 h hr
  generalize restOf m = R at *
  generalize hZ : zeros m.length = z at *
  generalize m.length = n at *
  clear hZ
  have HB8 := Lib.hid (be_length 8 (8 * n))
  go_enter Tryd.func90, Tryd.ntmps90
  go_wp2_with (go_at_call 88; refine (HR.out).mono ?_; rintro e w1 ⟨rfl, rfl⟩)
  have hr1 : (r : Int) ≤ 64 := by omega
  have hr2 : r ≤ 64 := by omega
  have hw8 : IntKind.u64.wrap (8 * (n : Int)) = 8 * (n : Int) := IntWalk.u64_in _ ⟨by omega, by omega⟩
  have hl1 := HRL.out
  have hl2 := HB8.out
  have c0 := HC.out w.drew (Ext.refl w).drew
  have t0 := HT.out w.drew (Ext.refl w).drew
  have x0 := (Ext.refl w).drew
  have hb1 : ¬ 9223372036854775807 < r + 1 := by omega
  have hb2 : ¬ 9223372036854775807 < r + 1 + z := by omega
  have hb3 : ¬ 9223372036854775807 < r + 1 + z + 8 := by omega
  go_region_held3 (fun u => u.cell? ⟨b, 73, none⟩ = some (.int .u64 (n : Int)) ∧ (convert 35 9 (.slice (some ⟨b, 9, none⟩) r 64)).run Tryd.prog u = .ok (.string ⟨R.toArray⟩) u ∧ Ext w u) (first | exact ⟨c0, t0, x0⟩ | exact ⟨HC.out _ (by assumption), HT.out _ (by assumption), by assumption⟩ | go_keep) (first
    | (go_at_call 73; refine (repeat_any z hz _).mono ?_; rintro e w4 ⟨rfl, h4⟩; have x4 := Ext.trans (a := w) (by assumption) h4)
    | (go_at_call 99; refine (put8_any n _).mono ?_; rintro e w5 ⟨rfl, h5⟩; have x5 := Ext.trans (a := w) (by assumption) h5))
  all_goals
    have hx : Ext w _ := x5
    go_wp2
    go_ret
    exact ⟨by rw [← HE.out]; simp, hx⟩
end Go.Proofs.YteddogalmdgjlaaDoor
end

section
namespace Go.Proofs.YteddogalmdgjlaaDoor
open Go.RowKit

theorem hash_state {w : World} {b : Nat} {st : St} {buf : List UInt8} {n : Nat} (h : Blk w b 139 (hashCells st buf n)) :
    w.cell? ⟨b, 1, none⟩ = some (.int .u32 (st.a : Nat)) ∧ w.cell? ⟨b, 2, none⟩ = some (.int .u32 (st.b : Nat)) ∧ w.cell? ⟨b, 3, none⟩ = some (.int .u32 (st.c : Nat)) ∧ w.cell? ⟨b, 4, none⟩ = some (.int .u32 (st.d : Nat)) ∧
    w.cell? ⟨b, 5, none⟩ = some (.int .u32 (st.e : Nat)) ∧ w.cell? ⟨b, 6, none⟩ = some (.int .u32 (st.f : Nat)) ∧ w.cell? ⟨b, 7, none⟩ = some (.int .u32 (st.g : Nat)) ∧ w.cell? ⟨b, 8, none⟩ = some (.int .u32 (st.h : Nat)) :=
  mid8 (off := 1) h rfl
theorem blk_state {w : World} {b : Nat} {T : TypeId} {st : St} (h : Blk w b T (mid [] st.list [])) :
    w.cell? ⟨b, 0, none⟩ = some (.int .u32 (st.a : Nat)) ∧ w.cell? ⟨b, 1, none⟩ = some (.int .u32 (st.b : Nat)) ∧ w.cell? ⟨b, 2, none⟩ = some (.int .u32 (st.c : Nat)) ∧ w.cell? ⟨b, 3, none⟩ = some (.int .u32 (st.d : Nat)) ∧
    w.cell? ⟨b, 4, none⟩ = some (.int .u32 (st.e : Nat)) ∧ w.cell? ⟨b, 5, none⟩ = some (.int .u32 (st.f : Nat)) ∧ w.cell? ⟨b, 6, none⟩ = some (.int .u32 (st.g : Nat)) ∧ w.cell? ⟨b, 7, none⟩ = some (.int .u32 (st.h : Nat)) :=
  mid8 (off := 0) h rfl
theorem take64 (q : ByteArray) : (q.extract 0 64).data.toList = q.data.toList.take 64 := by simp
set_option maxRecDepth 100000 in
set_option maxHeartbeats 1000000 in
theorem Sum_any (w : World) (b : Nat) (m : List UInt8) (hL : Laid w) (h : IsHash w b m) :
    Calls Tryd.prog 77 #[.pointer (some ⟨b, 0, none⟩)] w fun e w' => e = .returned (.string ⟨(shaL m).toArray⟩) ∧ Ext w w' := by
  have HT := Lib.hid (there_any w b m h)
  have HLa := Lib.hid (fun u (hx : Ext w u) => last_any u b m (h.ext hx))
  have HK := Lib.hid (shaL_kept m)
  obtain ⟨buf, _, _, h3⟩ := h.blk
  have hbl := h3.lt
  obtain ⟨k0, k1, k2, k3, k4, k5, k6, k7⟩ := hash_state h3
  have ok := stOf_ok m
  have hz : (m.length % 64 + zeros m.length + 9) % 64 = 0 := by unfold zeros; omega
  have hlen : (restOf m ++ tailOf m.length).length = m.length % 64 + zeros m.length + 9 := by rw [List.length_append, restOf_length, tailOf_length]; omega
  have hz63 := zeros_le m.length
  have HLd := Lib.hid hL
  clear h3 h hL
  generalize stOf m = st at *
  generalize restOf m ++ tailOf m.length = L at *
  generalize m.length % 64 + zeros m.length + 9 = n at *
  obtain ⟨N, hN⟩ : ∃ N, N = n / 64 := ⟨_, rfl⟩
  rw [← hN] at HK
  have hn : n = 64 * N := by omega
  have HO := Lib.hid ok; have HLen := Lib.hid (hlen.trans hn)
  clear ok hlen hz hN hn hz63
  go_enter Tryd.func77, Tryd.ntmps77
  go_wp2_with (first
    | (go_at_call 87; refine (HT.out).mono ?_; rintro e w1 ⟨rfl, rfl⟩)
    | (go_at_call 90; refine (HLa.out _ ((Ext.refl w).alloc _)).mono ?_; rintro e w1 ⟨rfl, h1⟩))
  have hB0 : Blk w1 w.heap.size 136 (mid [] st.list []) := Blk.ext (show Blk (w.alloc _) w.heap.size 136 (mid [] st.list []) from Blk.new w _ _) h1
  have hx1 : Ext w w1 := Below.trans ((Ext.refl w).alloc _) (Below.mono h1.below (by simp))
  have HB0 := Lib.hid hB0
  clear h1 hB0 k0 k1 k2 k3 k4 k5 k6 k7
  go_loopw [4] (fun p wr => ∃ (k : Nat) (q : ByteArray), k ≤ N ∧ p = .string q ∧ q.data.toList = L.drop (64 * k) ∧ Blk wr w.heap.size 136 (mid [] (folds k L st).list []) ∧ Ext w wr) (fun p _ => strLen p)
  case atStart => exact ⟨0, _, Nat.zero_le _, rfl, by simp, HB0.out, hx1⟩
  case round =>
    clear hx1
    obtain ⟨k, q, hk, rfl, hq, hB, hext⟩ := hrel
    have hqs : q.size = 64 * N - 64 * k := by rw [← size_list, hq, List.length_drop, HLen.out]
    have HQ := Lib.hid hq; have HBk := Lib.hid hB
    have hsucc : folds (k + 1) L st = stp ((L.drop (64 * k)).take 64) (folds k L st) := by rw [folds_add, folds_succ, folds_zero]
    have HSu := Lib.hid hsucc
    have hfo := Lib.hid (folds_ok k L HO.out)
    clear hq hB hsucc
    by_cases hlt : k < N
    · have h64 : 64 ≤ q.size := by omega
      have HQS := Lib.hid hqs; clear hqs
      have hes : (q.extract 0 64).size = 64 := by rw [ByteArray.size_extract]; omega
      have hed : (q.extract 0 64).data.toList = (L.drop (64 * k)).take 64 := by rw [take64, HQ.out]
      have C := take_any (folds k L st) hfo.out (q.extract 0 64) hes w.heap.size 0 136 [] [] wr (HLd.out.ext hext) rfl HBk.out
      rw [hed, ← HSu.out] at C
      have HC := Lib.hid C; clear C hes hed
      go_wp2_with (go_at_call 89; refine (HC.out).mono ?_; rintro e w2 ⟨rfl, h2, hB2⟩)
      go_roundw
      case rel => exact ⟨k + 1, _, hlt, rfl, by rw [Lib.extract_data, HQ.out, List.drop_drop, List.take_of_length_le (by rw [List.length_drop, HLen.out]; have := HQS.out; omega)]; congr 1, hB2, hext.trans3 h2⟩
      case measure => simp only [strLen]; rw [ByteArray.size_extract]; omega
    · obtain rfl : k = N := by omega
      have hq0 : q.size = 0 := by omega
      clear hqs
      obtain ⟨k0, k1, k2, k3, k4, k5, k6, k7⟩ := blk_state HBk.out
      have hF := HK.out
      generalize folds k L st = S at *
      have HF := Lib.hid hF; clear hF
      go_wp2_with (go_at_call 91; refine (text_any S _).mono ?_; rintro e w3 ⟨rfl, h3⟩)
      go_ret
      exact ⟨by rw [HF.out]; rfl, hext.trans h3⟩
end Go.Proofs.YteddogalmdgjlaaDoor
end
