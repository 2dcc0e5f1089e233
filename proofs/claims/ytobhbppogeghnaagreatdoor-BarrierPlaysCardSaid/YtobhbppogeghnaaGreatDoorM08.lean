/- Contracts: a Hash is made, bytes come, how many, by the program. Contracts: the sum of texts in a row, by the program. Plain words: texts in a row, one behind the other. Contracts: the block key of a key, and the inner and the outer key, by the program. -/
import Derived.Test.YtobhbppogeghnaaGreatDoorM07
import Derived.Deep.RegionHeld3
import Derived.StillTailTactics
import Derived.Test.YtobhbppogeghnaaGreatDoorM02
import Derived.Test.YtobhbppogeghnaaGreatDoorM06
section
namespace Go.Proofs.YtobhbppogeghnaaGreatDoor
open Go.RowKit

theorem laid_first {w : World} (h : Laid w) :
    w.cell? ⟨0, 0, none⟩ = some (.int .u32 (init.a : Nat)) ∧ w.cell? ⟨0, 1, none⟩ = some (.int .u32 (init.b : Nat)) ∧ w.cell? ⟨0, 2, none⟩ = some (.int .u32 (init.c : Nat)) ∧ w.cell? ⟨0, 3, none⟩ = some (.int .u32 (init.d : Nat)) ∧
    w.cell? ⟨0, 4, none⟩ = some (.int .u32 (init.e : Nat)) ∧ w.cell? ⟨0, 5, none⟩ = some (.int .u32 (init.f : Nat)) ∧ w.cell? ⟨0, 6, none⟩ = some (.int .u32 (init.g : Nat)) ∧ w.cell? ⟨0, 7, none⟩ = some (.int .u32 (init.h : Nat)) :=
  ⟨h.first 0 (by omega), h.first 1 (by omega), h.first 2 (by omega), h.first 3 (by omega), h.first 4 (by omega), h.first 5 (by omega), h.first 6 (by omega), h.first 7 (by omega)⟩
theorem stOf_nil : stOf [] = init := by unfold stOf; rw [show ([] : List UInt8).length / 64 = 0 from rfl, folds_zero]
theorem new_hash (w : World) (cs : Array Value) (hc : cs = (hashCells init (List.replicate 64 0) 0).toArray) : IsHash (w.alloc (.cells cs 219)) w.heap.size [] :=
  ⟨by decide, List.replicate 64 0, by simp, by simp [restOf], by rw [stOf_nil, hc]; exact Blk.new w _ _⟩
set_option maxRecDepth 100000 in
theorem New_any (w : World) (hL : Laid w) :
    Calls Tryz.prog 140 #[] w fun e w' => e = .returned (.pointer (some ⟨w.heap.size, 0, none⟩)) ∧ IsHash w' w.heap.size [] ∧ Ext w w' := by
  obtain ⟨k0, k1, k2, k3, k4, k5, k6, k7⟩ := laid_first hL
  clear hL
  go_enter Tryz.func140, Tryz.ntmps140
  go_wp2_with (refine wpList_build rfl 219 _ rfl (by kernel_rfl) ?_)
  go_ret
  exact ⟨rfl, new_hash w _ (by kernel_rfl), (Ext.refl w).alloc _⟩
/-- Behind whole blocks and what is left of the text. -/
theorem hash_done {w : World} {b : Nat} {m s : List UInt8} {buf2 q : List UInt8} (hs : m.length + s.length < 1152921504606846976) (N : Nat) (hN : N = (m.length % 64 + s.length) / 64) (hq : q = (restOf m ++ s).drop (64 * N)) (hb : buf2.length = 64) (hbq : buf2.take q.length = q)
    (h : Blk w b 219 (hashCells (folds N (restOf m ++ s) (stOf m)) buf2 (m.length + s.length))) : IsHash w b (m ++ s) := by
  have hl : q.length = (m ++ s).length % 64 := by rw [hq, List.length_drop, List.length_append, restOf_length, List.length_append, hN]; omega
  refine ⟨by rw [List.length_append]; exact hs, buf2, hb, ?_, ?_⟩
  · rw [← hl, hbq, hq, restOf_append, hN]
  · rw [stOf_append, ← hN, List.length_append]; exact h
theorem laid_take {buf l : List UInt8} {k : Nat} (hk : k = l.length) : (laidIn buf l 0 k).take l.length = l := by
  subst hk
  simp [laidIn]
theorem laid_rest {buf l : List UInt8} {i k : Nat} (hk : k = l.length) (hb : i ≤ buf.length) : (laidIn buf l i k).take (i + k) = buf.take i ++ l := by
  subst hk
  unfold laidIn
  rw [List.take_append_of_le_length (by simp; omega), List.take_of_length_le (by simp; omega)]
  simp
theorem keep64 {w : World} {b : Nat} {st : St} {buf : List UInt8} {n : Nat} (h : Blk w b 219 (hashCells st buf n)) (hb : buf.length = 64) : (convert 43 9 (.slice (some ⟨b, 9, none⟩) 64 64)).run Tryz.prog w = .ok (.string ⟨buf.toArray⟩) w := by
  have := hash_text h 64 64 (Nat.le_of_eq hb.symm)
  rwa [List.take_of_length_le (Nat.le_of_eq hb)] at this
def AddPost (b : Nat) (m s : List UInt8) (w : World) (e : Ending) (w' : World) : Prop := e = .returned (.tuple #[]) ∧ IsHash w' b (m ++ s) ∧ Below b w w'
set_option maxRecDepth 100000 in
set_option maxHeartbeats 1000000 in
theorem Add_any (w : World) (b : Nat) (m : List UInt8) (s : ByteArray) (hL : Laid w) (hb : 2 ≤ b) (h : IsHash w b m) (hs : m.length + s.size < 1152921504606846976) :
    Calls Tryz.prog 141 #[.pointer (some ⟨b, 0, none⟩), .string s] w (AddPost b m s.data.toList w) := by
  have HT := Lib.hid (there_any w b m h)
  have HR := Lib.hid (restLen_any w b m h)
  obtain ⟨buf, h1, h2, h3⟩ := h.blk
  have hbl := h3.lt
  have hc := hash_count h3 h1
  have hf := h3.frozen 73
  have hw : IntKind.u64.wrap ((m.length : Int) + (s.size : Int)) = ((m.length + s.size : Nat) : Int) := by have := u64_nat (x := m.length + s.size) (by omega); simpa using this
  have HB := Lib.hid (hash_counted h3 h1 ((m.length : Int) + (s.size : Int)) (m.length + s.size) (by omega))
  have hrl := restOf_length m
  have H1 := Lib.hid h1; have H2 := Lib.hid h2
  have HL := Lib.hid hL
  clear h1 h2 h3 h hL
  obtain ⟨r, hr⟩ : ∃ r, r = m.length % 64 := ⟨_, rfl⟩
  have hr64 : r < 64 := by omega
  have HRR := Lib.hid hr
  rw [← hr] at HR hrl H2
  have HRL := Lib.hid hrl
  clear hr hrl
  by_cases h0 : r = 0
  · subst h0
    go_enter Tryz.func141, Tryz.ntmps141
    go_wp2_with (first
      | (go_at_call 164; refine (HT.out).mono ?_; rintro e w1 ⟨rfl, rfl⟩)
      | (go_at_call 165; refine (HR.out).mono ?_; rintro e w1 ⟨rfl, rfl⟩))
    have hn : restOf m = [] := List.length_eq_zero_iff.1 HRL.out
    obtain ⟨L, hLd⟩ : ∃ L, L = restOf m ++ s.data.toList := ⟨_, rfl⟩
    have hLl : L.length = 0 + s.size := by rw [hLd, List.length_append, HRL.out, size_list]
    have HLl := Lib.hid hLl
    have hLs : L.drop 0 = s.data.toList := by rw [hLd, hn]; simp
    have HLs := Lib.hid hLs
    obtain ⟨N, hN⟩ : ∃ N, N = (0 + s.size) / 64 := ⟨_, rfl⟩
    have HN := Lib.hid hN
    have HLd := Lib.hid hLd
    clear hn hLd hLl hLs hN
    have HB2 := Lib.hid (show Below b w (w.setCell ⟨b, 73, none⟩ (.int .u64 ((m.length : Int) + (s.size : Int)))) from (Below.refl b w).setCell (Nat.le_refl _) _)
    go_loopw [1] (fun p wr => ∃ (k : Nat) (q : ByteArray) (buf2 : List UInt8), k ≤ N ∧ p = .string q ∧ q.data.toList = L.drop (64 * k) ∧ buf2.length = 64 ∧ Blk wr b 219 (hashCells (folds k L (stOf m)) buf2 (m.length + s.size)) ∧ Below b w wr) (fun p _ => strLen p)
    case atStart => exact ⟨0, s, buf, Nat.zero_le _, rfl, by rw [HLs.out], H1.out, HB.out, HB2.out⟩
    case round =>
      clear HB2
      obtain ⟨k, q, buf2, hk, rfl, hq, hb2, hB, hbel⟩ := hrel
      have hqs : q.size = 0 + s.size - 64 * k := by rw [← size_list, hq, List.length_drop, HLl.out]
      have HQ := Lib.hid hq; have HBk := Lib.hid hB; have HB64 := Lib.hid hb2
      have hsucc : folds (k + 1) L (stOf m) = stp ((L.drop (64 * k)).take 64) (folds k L (stOf m)) := by rw [folds_add, folds_succ, folds_zero]
      have HSu := Lib.hid hsucc
      have hfo := Lib.hid (folds_ok k L (stOf_ok m))
      clear hq hB hsucc hb2
      by_cases hlt : k < N
      · have h64 : 64 ≤ q.size := by have := HN.out; omega
        have HQS := Lib.hid hqs; clear hqs
        have hes : (q.extract 0 64).size = 64 := by rw [ByteArray.size_extract]; omega
        have hed : (q.extract 0 64).data.toList = (L.drop (64 * k)).take 64 := by rw [take64, HQ.out]
        have C := take_any (folds k L (stOf m)) hfo.out (q.extract 0 64) hes b 1 219 [.bool true] (hashPost buf2 (m.length + s.size)) wr.drew (HL.out.below (show Below b w wr.drew from hbel.drew) hb) rfl HBk.out
        rw [hed, ← HSu.out] at C
        have HC := Lib.hid C; clear C hes hed
        have hb3 : Below b w wr.drew := hbel.drew
        go_wp2_with fail
        go_still_tail 5, (by kernel_rfl)
        change wpList _ _ _ _ _ wr.drew
        generalize wr.drew = w4 at hb3 HC ⊢
        go_wp2_with (go_at_call 166; refine (HC.out).mono ?_; rintro e w2 ⟨rfl, h2, hB2⟩)
        go_roundw
        case rel => exact ⟨k + 1, _, buf2, hlt, rfl, by rw [Lib.extract_data, HQ.out, List.drop_drop, List.take_of_length_le (by rw [List.length_drop, HLl.out]; have := HQS.out; omega)]; congr 1, HB64.out, hB2, hb3.trans h2⟩
        case measure => simp only [strLen]; rw [ByteArray.size_extract]; omega
      · obtain rfl : k = N := by omega
        have hq64 : q.size < 64 := by have := HN.out; omega
        have hcp := fun ty => hash_copied HBk.out HB64.out ty q 0 64 q.size (by omega) (by omega)
        simp only [Nat.add_zero, Nat.sub_zero] at hcp
        have hlay := hash_row HBk.out (hashCells (folds k L (stOf m)) (laidIn buf2 q.data.toList 0 q.size) (m.length + s.size))
        have HCP := Lib.hid hcp; have HLY := Lib.hid hlay
        clear hcp hlay
        have HQS := Lib.hid hqs; clear hqs
        go_wp2_with (refine Lib.wpList_copy_run _ rfl (.tmp 60) (.tmp 61) 43 9 rfl _ _ rfl rfl (HCP.out _) ?_)
        go_end0
        refine ⟨rfl, ?_, below_setRow hbel (Nat.le_refl _) _⟩
        have e1 : q.size = q.data.toList.length := (size_list q).symm
        refine hash_done (q := q.data.toList) (by rw [size_list]; exact hs) k (by rw [HN.out, size_list, HRR.out]) (by rw [HQ.out, HLd.out]) (laidIn_length HB64.out (by omega) (by omega)) (laid_take e1) ?_
        rw [size_list, ← HLd.out]
        exact HLY.out
  · obtain ⟨L, hLd⟩ : ∃ L, L = restOf m ++ s.data.toList := ⟨_, rfl⟩
    have hLl : L.length = r + s.size := by rw [hLd, List.length_append, HRL.out, size_list]
    have HLl := Lib.hid hLl
    have HLd := Lib.hid hLd
    have hr0 : (0 : Int) < (r : Int) := by omega
    have hr1 : (r : Int) ≤ 64 := by omega
    have hr2 : r ≤ 64 := by omega
    have hr3 : decide (0 < r) = true := by simp; omega
    have HB2 := Lib.hid (show Below b w (w.setCell ⟨b, 73, none⟩ (.int .u64 ((m.length : Int) + (s.size : Int)))) from (Below.refl b w).setCell (Nat.le_refl _) _)
    by_cases hB : r + s.size < 64
    · have hcp := fun ty => hash_copied HB.out H1.out ty s r (64 - r) s.size (by omega) (by omega)
      have hlay := hash_row HB.out (hashCells (stOf m) (laidIn buf s.data.toList r s.size) (m.length + s.size))
      have hq : (laidIn buf s.data.toList r s.size).take L.length = L := by
        have := laid_rest (buf := buf) (l := s.data.toList) (i := r) (k := s.size) (size_list s).symm (by rw [H1.out]; omega)
        rw [hLl, this, H2.out, hLd]
      have HCP := Lib.hid hcp; have HLY := Lib.hid hlay; have HQ := Lib.hid hq
      clear hcp hlay hq hLl hLd
      go_enter Tryz.func141, Tryz.ntmps141
      go_wp2_with (first
        | (go_at_call 164; refine (HT.out).mono ?_; rintro e w1 ⟨rfl, rfl⟩)
        | (go_at_call 165; refine (HR.out).mono ?_; rintro e w1 ⟨rfl, rfl⟩)
        | (refine Lib.wpList_copy_run _ rfl (.tmp 27) (.tmp 28) 43 9 rfl _ _ rfl rfl (HCP.out _) ?_))
      (try simp only [Exit.inBlock, Exit.then])
      refine bodyPost_ret (results_none rfl _ _ _) rfl ⟨rfl, ?_, below_setRow HB2.out (Nat.le_refl _) _⟩
      refine hash_done (q := L) (by rw [size_list]; exact hs) 0 (by rw [size_list, ← HRR.out]; omega) (by rw [HLd.out]; simp) (laidIn_length H1.out (by rw [size_list]; omega) (by omega)) HQ.out ?_
      rw [size_list, folds_zero]
      exact HLY.out
    · have hcp := fun ty => hash_copied HB.out H1.out ty s r (64 - r) (64 - r) (by omega) (by omega)
      have hlay := hash_row HB.out (hashCells (stOf m) (laidIn buf s.data.toList r (64 - r)) (m.length + s.size))
      have hb2 : (laidIn buf s.data.toList r (64 - r)).length = 64 := laidIn_length H1.out (by rw [size_list]; omega) (by omega)
      have hbL : laidIn buf s.data.toList r (64 - r) = L.take 64 := by
        rw [hLd, ← H2.out]
        unfold laidIn
        rw [List.drop_eq_nil_of_le (by rw [H1.out]; omega), List.append_nil, List.take_append, List.take_of_length_le (l := buf.take r) (by simp; omega), List.length_take, H1.out, Nat.min_eq_left hr2]
      obtain ⟨buf2, hbuf2⟩ : ∃ x, x = laidIn buf s.data.toList r (64 - r) := ⟨_, rfl⟩
      rw [← hbuf2] at hcp hlay hb2 hbL
      have htext := keep64 hlay.drew hb2
      have hed : (⟨buf2.toArray⟩ : ByteArray).data.toList = (L.drop (64 * 0)).take 64 := by rw [Nat.mul_zero, List.drop_zero, ← hbL]
      have hsucc : folds (0 + 1) L (stOf m) = stp ((L.drop (64 * 0)).take 64) (folds 0 L (stOf m)) := by rw [folds_add, folds_succ, folds_zero]
      have hbelC := below_setRow HB2.out (Nat.le_refl b) (hashCells (stOf m) buf2 (m.length + s.size)).toArray
      have C := take_any (stOf m) (stOf_ok m) ⟨buf2.toArray⟩ (by rw [txt_size]; exact hb2) b 1 219 [.bool true] (hashPost buf2 (m.length + s.size)) _ (HL.out.below hbelC.drew hb) rfl hlay
      rw [hed, ← (folds_zero L (stOf m)), ← hsucc] at C
      have e64 : (restOf m).drop 64 = [] := List.drop_eq_nil_of_le (by rw [HRL.out]; omega)
      have hq0 : (s.extract (64 - r) s.size).data.toList = L.drop (64 * 1) := by
        rw [Lib.extract_data, hLd, Nat.mul_one, List.drop_append, e64, List.nil_append, HRL.out, List.take_of_length_le (by rw [List.length_drop, size_list]; omega)]
      clear e64
      obtain ⟨N, hN⟩ : ∃ N, N = (r + s.size) / 64 := ⟨_, rfl⟩
      have hN1 : 1 ≤ N := by omega
      have HN := Lib.hid hN
      have HCP := Lib.hid hcp; have HTX := Lib.hid htext; have HC0 := Lib.hid C; have HQ0 := Lib.hid hq0; have HB2L := Lib.hid hb2
      have HBC := Lib.hid hbelC
      clear hcp htext C hq0 hb2 hbL hbuf2 hed hsucc hlay hLl hLd hN hbelC
      have hrs : (64 : Int) ≤ (r : Int) + (s.size : Int) := by omega
      go_enter Tryz.func141, Tryz.ntmps141
      go_wp2_with (first
        | (go_at_call 164; refine (HT.out).mono ?_; rintro e w1 ⟨rfl, rfl⟩)
        | (go_at_call 165; refine (HR.out).mono ?_; rintro e w1 ⟨rfl, rfl⟩)
        | (refine Lib.wpList_copy_run _ rfl (.tmp 27) (.tmp 28) 43 9 rfl _ _ rfl rfl (HCP.out _) ?_))
      have t1 := HTX.out
      have hb3 := HBC.out.drew
      go_region_held3 (fun u => (convert 43 9 (.slice (some ⟨b, 9, none⟩) 64 64)).run Tryz.prog u = .ok (.string ⟨buf2.toArray⟩) u) (first | exact t1 | exact keep64 (by assumption) HB2L.out | go_keep) (first
        | (go_at_call 166; refine (HC0.out).mono ?_; rintro e w2 ⟨rfl, h2, hB3⟩))
      have hB3' : Blk w2 b 219 (hashCells (folds (0 + 1) L (stOf m)) buf2 (m.length + s.size)) := hB3
      have HB2 := Lib.hid (hb3.trans h2)
      have HB9 := Lib.hid hB3'
      clear hB3 hB3' h2 hb3 t1
      go_wp2
      go_loopw [1] (fun p wr => ∃ (k : Nat) (q : ByteArray) (buf2 : List UInt8), k ≤ N ∧ p = .string q ∧ q.data.toList = L.drop (64 * k) ∧ buf2.length = 64 ∧ Blk wr b 219 (hashCells (folds k L (stOf m)) buf2 (m.length + s.size)) ∧ Below b w wr) (fun p _ => strLen p)
      case atStart => exact ⟨1, _, buf2, hN1, rfl, HQ0.out, HB2L.out, HB9.out, HB2.out⟩
      case round =>
        clear HB2
        obtain ⟨k, q, buf2, hk, rfl, hq, hb2, hB, hbel⟩ := hrel
        have hqs : q.size = r + s.size - 64 * k := by rw [← size_list, hq, List.length_drop, HLl.out]
        have HQ := Lib.hid hq; have HBk := Lib.hid hB; have HB64 := Lib.hid hb2
        have hsucc : folds (k + 1) L (stOf m) = stp ((L.drop (64 * k)).take 64) (folds k L (stOf m)) := by rw [folds_add, folds_succ, folds_zero]
        have HSu := Lib.hid hsucc
        have hfo := Lib.hid (folds_ok k L (stOf_ok m))
        clear hq hB hsucc hb2
        by_cases hlt : k < N
        · have h64 : 64 ≤ q.size := by have := HN.out; omega
          have HQS := Lib.hid hqs; clear hqs
          have hes : (q.extract 0 64).size = 64 := by rw [ByteArray.size_extract]; omega
          have hed : (q.extract 0 64).data.toList = (L.drop (64 * k)).take 64 := by rw [take64, HQ.out]
          have C := take_any (folds k L (stOf m)) hfo.out (q.extract 0 64) hes b 1 219 [.bool true] (hashPost buf2 (m.length + s.size)) wr.drew (HL.out.below (show Below b w wr.drew from hbel.drew) hb) rfl HBk.out
          rw [hed, ← HSu.out] at C
          have HC := Lib.hid C; clear C hes hed
          have hb3 : Below b w wr.drew := hbel.drew
          go_wp2_with fail
          go_still_tail 5, (by kernel_rfl)
          change wpList _ _ _ _ _ wr.drew
          generalize wr.drew = w4 at hb3 HC ⊢
          go_wp2_with (go_at_call 166; refine (HC.out).mono ?_; rintro e w2 ⟨rfl, h2, hB2⟩)
          go_roundw
          case rel => exact ⟨k + 1, _, buf2, hlt, rfl, by rw [Lib.extract_data, HQ.out, List.drop_drop, List.take_of_length_le (by rw [List.length_drop, HLl.out]; have := HQS.out; omega)]; congr 1, HB64.out, hB2, hb3.trans h2⟩
          case measure => simp only [strLen]; rw [ByteArray.size_extract]; omega
        · obtain rfl : k = N := by omega
          have hq64 : q.size < 64 := by have := HN.out; omega
          have hcp := fun ty => hash_copied HBk.out HB64.out ty q 0 64 q.size (by omega) (by omega)
          simp only [Nat.add_zero, Nat.sub_zero] at hcp
          have hlay := hash_row HBk.out (hashCells (folds k L (stOf m)) (laidIn buf2 q.data.toList 0 q.size) (m.length + s.size))
          have HCP := Lib.hid hcp; have HLY := Lib.hid hlay
          clear hcp hlay
          have HQS := Lib.hid hqs; clear hqs
          go_wp2_with (refine Lib.wpList_copy_run _ rfl (.tmp 60) (.tmp 61) 43 9 rfl _ _ rfl rfl (HCP.out _) ?_)
          go_end0
          refine ⟨rfl, ?_, below_setRow hbel (Nat.le_refl _) _⟩
          have e1 : q.size = q.data.toList.length := (size_list q).symm
          refine hash_done (q := q.data.toList) (by rw [size_list]; exact hs) k (by rw [HN.out, size_list, HRR.out]) (by rw [HQ.out, HLd.out]) (laidIn_length HB64.out (by omega) (by omega)) (laid_take e1) ?_
          rw [size_list, ← HLd.out]
          exact HLY.out
end Go.Proofs.YtobhbppogeghnaaGreatDoor
end

section
namespace Go.Proofs.YtobhbppogeghnaaGreatDoor
open Go.RowKit

/-- All texts, one behind the other. -/
def joinL (l : List ByteArray) : List UInt8 := l.flatMap fun s => s.data.toList
theorem joinL_succ (l : List ByteArray) (k : Nat) (h : k < l.length) : joinL (l.take (k + 1)) = joinL (l.take k) ++ l[k].data.toList := by
  unfold joinL
  rw [List.take_succ_eq_append_getElem h, List.flatMap_append]
  simp
theorem joinL_le (l : List ByteArray) (k : Nat) : (joinL (l.take k)).length ≤ (joinL l).length := by
  conv => rhs; rw [← List.take_append_drop k l]
  unfold joinL
  rw [List.flatMap_append, List.length_append]
  omega
set_option maxRecDepth 100000 in
set_option maxHeartbeats 1000000 in
theorem Of_any (w : World) (a : Addr) (c : Nat) (l : List ByteArray) (hL : Laid w) (hT : Texts w a l) (hn : l.length ≤ 140737488355328) (hs : (joinL l).length < 1152921504606846976) :
    Calls Tryz.prog 142 #[.slice (some a) l.length c] w fun e w' => e = .returned (.string ⟨(shaL (joinL l)).toArray⟩) ∧ Ext w w' := by
  have hsz := hL.size
  have HL := Lib.hid hL; have HX := Lib.hid hT; have HS := Lib.hid hs
  clear hL hT hs
  go_enter Tryz.func142, Tryz.ntmps142
  go_wp2_with (go_at_call 140; refine (New_any w HL.out).mono ?_; rintro e w1 ⟨rfl, hH, h1⟩)
  have HH := Lib.hid hH; have HE := Lib.hid h1
  clear hH h1
  go_loopw [9] (fun i wr => ∃ k : Nat, k ≤ l.length ∧ i = .int .i64 k ∧ IsHash wr w.heap.size (joinL (l.take k)) ∧ Ext w wr) (fun i _ => l.length - (intOf i).toNat)
  case atStart => exact ⟨0, Nat.zero_le _, rfl, HH.out, HE.out⟩
  case round =>
    obtain ⟨k, hk, rfl, hH, hext⟩ := hrel
    have HH2 := Lib.hid hH; have HE2 := Lib.hid hext
    clear hH hext
    by_cases hlt : k < l.length
    · have hc := ((HX.out.ext HE2.out) k l[k] (List.getElem?_eq_getElem hlt)).2
      have hgl := ((HX.out.ext HE2.out) k l[k] (List.getElem?_eq_getElem hlt)).1
      have hle := joinL_le l (k + 1)
      rw [joinL_succ l k hlt, List.length_append, size_list] at hle
      have hlt2 : (k : Int) < (l.length : Int) := by omega
      have HC := Lib.hid (fun u (hL2 : Laid u) (hh : IsHash u w.heap.size (joinL (l.take k))) => Add_any u w.heap.size (joinL (l.take k)) l[k] hL2 hsz hh (by have := HS.out; omega))
      have HJ := Lib.hid (joinL_succ l k hlt)
      clear hle
      generalize l[k] = s at *
      go_wp2_with (go_at_call 141; refine (HC.out _ (HL.out.ext HE2.out) HH2.out).mono ?_; rintro e w2 ⟨rfl, h2, h3⟩)
      go_roundw
      case rel => exact ⟨k + 1, hlt, by go_num, by rw [HJ.out]; exact h2, HE2.out.trans3 h3⟩
      case measure => simp [intOf]; omega
    · obtain rfl : k = l.length := by omega
      have HF := HH2.out
      rw [List.take_length] at HF
      have HF2 := Lib.hid HF; clear HF
      go_wp2_with (go_at_call 143; refine (Sum_any _ w.heap.size _ (HL.out.ext HE2.out) HF2.out).mono ?_; rintro e w2 ⟨rfl, h2⟩)
      go_ret
      exact ⟨rfl, HE2.out.trans h2⟩
theorem texts_one (w : World) (s : ByteArray) (t : TypeId) : Texts (w.alloc (.cells #[.string s] t)) ⟨w.heap.size, 0, none⟩ [s] := by
  refine fun i u hu => ⟨by simp, ?_⟩
  rw [Addr.add_mid]
  rw [cell_of_row _ _ _ _ _ _ (heap_alloc_new w _)]
  cases i with
  | zero => simp at hu; subst hu; rfl
  | succ n => simp at hu
theorem joinL_one (s : ByteArray) : joinL [s] = s.data.toList := by simp [joinL]
/-- Of one text, handed in a new row. -/
theorem Of_one (w : World) (s : ByteArray) (t : TypeId) (hL : Laid w) (hs : s.size ≤ 1099511627776) :
    Calls Tryz.prog 142 #[.slice (some ⟨w.heap.size, 0, none⟩) 1 1] (w.alloc (.cells #[.string s] t)) fun e w' => e = .returned (.string ⟨(shaL s.data.toList).toArray⟩) ∧ Ext w w' := by
  have h := Of_any (w.alloc (.cells #[.string s] t)) ⟨w.heap.size, 0, none⟩ 1 [s] (hL.ext ((Ext.refl w).alloc _)) (texts_one w s t) (by simp) (by rw [joinL_one, size_list]; omega)
  rw [joinL_one] at h
  exact h.mono fun e w' he => ⟨he.1, ((Ext.refl w).alloc _).trans he.2⟩
end Go.Proofs.YtobhbppogeghnaaGreatDoor
end

section
namespace Go.Proofs.YtobhbppogeghnaaGreatDoor
open Go.RowKit

/-- The first k texts, one behind the other. -/
def J (l : List ByteArray) (k : Nat) : ByteArray := ⟨(joinL (l.take k)).toArray⟩
end Go.Proofs.YtobhbppogeghnaaGreatDoor
end

section
namespace Go.Proofs.YtobhbppogeghnaaGreatDoor
open Go.RowKit

theorem repeatL_one (c : UInt8) (n : Nat) : Lib.repeatL [c] n = List.replicate n c := by
  induction n with
  | zero => rfl
  | succ n ih => rw [Lib.repeatL, ih, List.replicate_succ]; rfl
theorem repeat1_any (c : UInt8) (x : Int) (n : Nat) (hx : x = (n : Int)) (hn : n ≤ 64) (w : World) :
    Calls Tryz.prog 163 #[.string ⟨#[c]⟩, .int .i64 x] w fun e w' => e = .returned (.string ⟨(List.replicate n c).toArray⟩) ∧ Ext w w' := by
  subst hx
  have h := Tryz.strings_Repeat ⟨#[c]⟩ n w (by omega) (by show 1 * n ≤ _; omega)
  have e : (⟨#[c]⟩ : ByteArray).data.toList = [c] := rfl
  rw [e, repeatL_one] at h
  exact h
theorem block_text (K : ByteArray) (k : List UInt8) (h : K.data.toList = keyL k) : K ++ ⟨(List.replicate (64 - K.size) 0).toArray⟩ = ⟨(blockL k).toArray⟩ := by
  have e : K = ⟨(keyL k).toArray⟩ := by rw [← h]
  have e2 : K.size = (keyL k).length := by rw [← h, size_list]
  rw [e2]
  conv => lhs; lhs; rw [e]
  exact str_append _ _
set_option maxRecDepth 100000 in
theorem blockKey_any (key : ByteArray) (w : World) (hL : Laid w) (hk : key.size ≤ 1099511627776) :
    Calls Tryz.prog 138 #[.string key] w fun e w' => e = .returned (.string ⟨(blockL key.data.toList).toArray⟩) ∧ Ext w w' := by
  by_cases hlong : 64 < key.size
  · have hK : (⟨(shaL key.data.toList).toArray⟩ : ByteArray).data.toList = keyL key.data.toList := by unfold keyL; rw [if_pos (by rw [size_list]; exact hlong)]
    have hKs : (⟨(shaL key.data.toList).toArray⟩ : ByteArray).size = 32 := by rw [txt_size, shaL_length]
    have HS := Lib.hid (fun t => Of_one w key t hL hk)
    have HB := Lib.hid (block_text _ _ hK)
    clear hK hL
    generalize (⟨(shaL key.data.toList).toArray⟩ : ByteArray) = K at *
    go_enter Tryz.func138, Tryz.ntmps138
    go_wp2_with (first
      | (go_at_call 142; refine (HS.out _).mono ?_; rintro e w1 ⟨rfl, h1⟩)
      | (go_at_call 163; refine (repeat1_any 0 _ (64 - K.size) (by omega) (by omega) _).mono ?_; rintro e w2 ⟨rfl, h2⟩))
    go_ret
    exact ⟨by rw [← HB.out, hKs]; rfl, h1.trans h2⟩
  · have hK : key.data.toList = keyL key.data.toList := by unfold keyL; rw [if_neg (by rw [size_list]; exact hlong)]
    have HB := Lib.hid (block_text _ _ hK)
    clear hK hL
    go_enter Tryz.func138, Tryz.ntmps138
    go_wp2_with (go_at_call 163; refine (repeat1_any 0 _ (64 - key.size) (by omega) (by omega) _).mono ?_; rintro e w2 ⟨rfl, h2⟩)
    go_ret
    exact ⟨by rw [← HB.out]; rfl, h2⟩
theorem mix_text2 (k : List UInt8) (c : UInt8) : xorL (⟨(blockL k).toArray⟩ : ByteArray).data.toList (⟨(List.replicate 64 c).toArray⟩ : ByteArray).data.toList = mixL k c := by simp [mixL]
theorem xor_mix (k : List UInt8) (c : UInt8) (w : World) : Calls Tryz.prog 108 #[.string ⟨(blockL k).toArray⟩, .string ⟨(List.replicate 64 c).toArray⟩] w fun e w' => e = .returned (.tuple #[.string ⟨(mixL k c).toArray⟩, .bool true]) ∧ Ext w w' := by
  have h := xor_yes ⟨(blockL k).toArray⟩ ⟨(List.replicate 64 c).toArray⟩ (by rw [txt_size, txt_size, blockL_length, List.length_replicate]) (by rw [txt_size, blockL_length]; decide) w
  rw [mix_text2] at h
  exact h
theorem mixed_any (k : List UInt8) (c : UInt8) (w : World) :
    Calls Tryz.prog 139 #[.string ⟨(blockL k).toArray⟩, .string ⟨#[c]⟩] w fun e w' => e = .returned (.string ⟨(mixL k c).toArray⟩) ∧ Ext w w' := by
  have HX := Lib.hid (xor_mix k c)
  generalize (⟨(blockL k).toArray⟩ : ByteArray) = B at *
  go_enter Tryz.func139, Tryz.ntmps139
  go_wp2_with (first
    | (go_at_call 163; refine (repeat1_any c _ 64 rfl (by decide) _).mono ?_; rintro e w1 ⟨rfl, h1⟩)
    | (go_at_call 108; refine (HX.out _).mono ?_; rintro e w2 ⟨rfl, h2⟩))
  go_ret
  exact ⟨rfl, h1.trans h2⟩
theorem keys_info : (Tryz.prog.info? 161).map (·.size) = some 2 := by kernel_rfl
set_option maxRecDepth 100000 in
theorem keysOf_any (key : ByteArray) (w : World) (hL : Laid w) (hk : key.size ≤ 1099511627776) :
    Calls Tryz.prog 115 #[.string key] w fun e w' => e = .returned (.agg #[.string ⟨(mixL key.data.toList 54).toArray⟩, .string ⟨(mixL key.data.toList 92).toArray⟩]) ∧ Ext w w' := by
  have HB := Lib.hid (fun u (h : Ext w u) => blockKey_any key u (hL.ext h) hk)
  have H1 := Lib.hid (mixed_any key.data.toList 54)
  have H2 := Lib.hid (mixed_any key.data.toList 92)
  have H0 := Lib.hid (Blk.new w [.string ⟨#[]⟩, .string ⟨#[]⟩] 161)
  clear hL
  go_enter Tryz.func115, Tryz.ntmps115
  go_wp2_with (first
    | (go_at_call 138; refine (HB.out _ ((Ext.refl w).alloc _)).mono ?_; rintro e w1 ⟨rfl, h1⟩)
    | (go_at_call 139; ((with_reducible refine (H1.out _).mono ?_); rintro e w2 ⟨rfl, h2⟩))
    | (go_at_call 139; ((with_reducible refine (H2.out _).mono ?_); rintro e w3 ⟨rfl, h3⟩; have hb3 := ((H0.out.ext h1).ext h2).ext h3; have c0 := hb3.cell 0 _ rfl; have c1 := hb3.cell 1 _ rfl; have f0 := hb3.frozen 0; have f1 := hb3.frozen 1; have HB3 := Lib.hid hb3; clear hb3)))
  exact bodyPost_ret (results_cell_row rfl _ _ w.heap.size 161 #[.string ⟨(mixL key.data.toList 54).toArray⟩, .string ⟨(mixL key.data.toList 92).toArray⟩] (0, 0) _ rfl ((HB3.out.set_ 0 _).set_ 1 _) Tryz.underlying161 rfl keys_info) rfl ⟨rfl, ((((((Ext.refl w).alloc _).trans h1).trans h2).trans h3).setCell (p := ⟨w.heap.size, 0, none⟩) (Nat.le_refl _) _).setCell (p := ⟨w.heap.size, 1, none⟩) (Nat.le_refl _) _⟩
end Go.Proofs.YtobhbppogeghnaaGreatDoor
end
