/- Plain words: bytes of a text copied into what a Hash keeps. Contracts: a Hash is made, bytes come, how many, by the program. -/
import Derived.Test.YtcjdnifckngcfaaGreatDoorM10
import Derived.Deep.RegionHeld3
import Derived.StillTailTactics
section
namespace Go.Proofs.YtcjdnifckngcfaaGreatDoor
open Go.RowKit

section
variable {w : World} {b : Nat} {st : St} {buf : List UInt8} {n : Nat}
theorem hash_length (st : St) (buf : List UInt8) (n : Nat) (hb : buf.length = 64) : (hashCells st buf n).length = 74 := by simp [hashCells, mid, hashPost, St.list, hb]
/-- The count told anew. -/
theorem hash_counted (h : Blk w b 219 (hashCells st buf n)) (hb : buf.length = 64) (x : Int) (n' : Nat) (hx : x = (n' : Int)) : Blk (w.setCell ⟨b, 73, none⟩ (.int .u64 x)) b 219 (hashCells st buf n') := by
  have := h.set_ 73 (.int .u64 x)
  subst hx
  have e : (hashCells st buf n).set 73 (.int .u64 (n' : Int)) = hashCells st buf n' := by
    unfold hashCells mid hashPost
    rw [List.set_append_right _ _ (by simp), List.set_append_right _ _ (by simp [St.list]), List.set_append_right _ _ (by simp [St.list, hb])]
    simp [St.list, hb]
  rw [e] at this
  exact this
/-- Bytes k of l laid from place i on. -/
def laidIn (buf l : List UInt8) (i k : Nat) : List UInt8 := buf.take i ++ l.take k ++ buf.drop (i + k)
theorem laidIn_length {buf l : List UInt8} {i k : Nat} (hb : buf.length = 64) (hl : k ≤ l.length) (hi : i + k ≤ 64) : (laidIn buf l i k).length = 64 := by simp [laidIn, hb]; omega
theorem hash_laid (st : St) (buf l : List UInt8) (n i k : Nat) (hb : buf.length = 64) (hi : i + k ≤ 64) :
    (hashCells st buf n).take (9 + i) ++ (l.take k).map cellOf ++ (hashCells st buf n).drop (9 + i + k) = hashCells st (laidIn buf l i k) n := by
  have e : hashCells st buf n = (Value.bool true :: st.list.map cell32) ++ (buf.map cellOf ++ [.int .u64 (n : Int)]) := by simp [hashCells, mid, hashPost]
  have e2 : hashCells st (laidIn buf l i k) n = (Value.bool true :: st.list.map cell32) ++ ((laidIn buf l i k).map cellOf ++ [.int .u64 (n : Int)]) := by simp [hashCells, mid, hashPost]
  have hl : (Value.bool true :: st.list.map cell32).length = 9 := by simp [St.list]
  rw [e, e2]
  generalize (Value.bool true :: st.list.map cell32) = H at *
  have e3 : 9 + i = H.length + i := by omega
  have e4 : H.length + i + k = H.length + (i + k) := by omega
  rw [e3, List.take_length_add_append, e4, List.drop_length_add_append, List.take_append_of_le_length (by simp; omega), List.drop_append_of_le_length (by simp; omega)]
  simp [laidIn, List.map_append, List.map_take, List.map_drop]
theorem hash_copied (h : Blk w b 219 (hashCells st buf n)) (hb : buf.length = 64) (ty : TypeId) (s : ByteArray) (i dCap k : Nat) (hi : i ≤ 64) (hk : k = min s.size (64 - i)) :
    (Builtin.copy_ #[43, 9] ty #[.slice (some ⟨b, 9 + i, none⟩) (64 - i) dCap, .string s]).run Tryz.prog w = .ok (goInt k) (w.setRow b (hashCells st (laidIn buf s.data.toList i k) n).toArray) := by
  rw [run_copy_text w ty b (9 + i) (64 - i) dCap s _ _ h (by rw [hash_length _ _ _ hb]; omega) k hk, hash_laid st buf s.data.toList n i k hb (by omega)]
theorem hash_row (h : Blk w b 219 (hashCells st buf n)) (cs : List Value) : Blk (w.setRow b cs.toArray) b 219 cs := setRow_heap _ _ _ _ _ _ h
end
end Go.Proofs.YtcjdnifckngcfaaGreatDoor
end

section
namespace Go.Proofs.YtcjdnifckngcfaaGreatDoor
open Go.RowKit

theorem laid_first {w : World} (h : Laid w) :
    w.cell? ⟨0, 0, none⟩ = some (.int .u32 (init.a : Nat)) ∧ w.cell? ⟨0, 1, none⟩ = some (.int .u32 (init.b : Nat)) ∧ w.cell? ⟨0, 2, none⟩ = some (.int .u32 (init.c : Nat)) ∧ w.cell? ⟨0, 3, none⟩ = some (.int .u32 (init.d : Nat)) ∧
    w.cell? ⟨0, 4, none⟩ = some (.int .u32 (init.e : Nat)) ∧ w.cell? ⟨0, 5, none⟩ = some (.int .u32 (init.f : Nat)) ∧ w.cell? ⟨0, 6, none⟩ = some (.int .u32 (init.g : Nat)) ∧ w.cell? ⟨0, 7, none⟩ = some (.int .u32 (init.h : Nat)) :=
  ⟨h.first 0 (by omega), h.first 1 (by omega), h.first 2 (by omega), h.first 3 (by omega), h.first 4 (by omega), h.first 5 (by omega), h.first 6 (by omega), h.first 7 (by omega)⟩
theorem stOf_nil : stOf [] = init := by unfold stOf; rw [show ([] : List UInt8).length / 64 = 0 from rfl, folds_zero]
theorem new_hash (w : World) (cs : Array Value) (hc : cs = (hashCells init (List.replicate 64 0) 0).toArray) : IsHash (w.alloc (.cells cs 219)) w.heap.size [] :=
  ⟨by decide, List.replicate 64 0, by simp, by simp [restOf], by rw [stOf_nil, hc]; exact Blk.new w _ _⟩
set_option maxRecDepth 100000 in
theorem New_any (w : World) (hL : Laid w) :
    Calls Tryz.prog 140 #[] w fun e w' => e = .returned (.pointer (some ⟨w.heap.size, 0, none⟩)) ∧ IsHash w' w.heap.size [] ∧ Ext w w' := by
  obtain ⟨k0, k1, k2, k3, k4, k5, k6, k7⟩ := laid_first hL
  clear hL
  go_enter Tryz.func140, Tryz.ntmps140
  go_wp2_with (refine wpList_build rfl 219 _ rfl (by kernel_rfl) ?_)
  go_ret
  exact ⟨rfl, new_hash w _ (by kernel_rfl), (Ext.refl w).alloc _⟩
theorem Sum_nil (w : World) : Calls Tryz.prog 143 #[.pointer none] w fun e w' => e = .returned (.string ⟨#[]⟩) ∧ w = w' := by
  go_enter Tryz.func143, Tryz.ntmps143
  go_wp2_with (go_at_call 164; refine (there_no _).mono ?_; rintro e w1 ⟨rfl, rfl⟩)
  go_ret
  exact ⟨rfl, rfl⟩
theorem Add_nil (s : ByteArray) (w : World) : Calls Tryz.prog 141 #[.pointer none, .string s] w fun e w' => e = .returned (.tuple #[]) ∧ w = w' := by
  go_enter Tryz.func141, Tryz.ntmps141
  go_wp2_with (go_at_call 164; refine (there_no _).mono ?_; rintro e w1 ⟨rfl, rfl⟩)
  (try simp only [Exit.inBlock, Exit.then])
  refine bodyPost_ret (results_none rfl _ _ _) rfl ?_
  exact ⟨rfl, rfl⟩
/-- Behind whole blocks and what is left of the text. -/
theorem hash_done {w : World} {b : Nat} {m s : List UInt8} {buf2 q : List UInt8} (hs : m.length + s.length < 1152921504606846976) (N : Nat) (hN : N = (m.length % 64 + s.length) / 64) (hq : q = (restOf m ++ s).drop (64 * N)) (hb : buf2.length = 64) (hbq : buf2.take q.length = q)
    (h : Blk w b 219 (hashCells (folds N (restOf m ++ s) (stOf m)) buf2 (m.length + s.length))) : IsHash w b (m ++ s) := by
  have hl : q.length = (m ++ s).length % 64 := by rw [hq, List.length_drop, List.length_append, restOf_length, List.length_append, hN]; omega
  refine ⟨by rw [List.length_append]; exact hs, buf2, hb, ?_, ?_⟩
  · rw [← hl, hbq, hq, restOf_append, hN]
  · rw [stOf_append, ← hN, List.length_append]; exact h
theorem laid_take {buf l : List UInt8} {k : Nat} (hk : k = l.length) : (laidIn buf l 0 k).take l.length = l := by
  subst hk
  simp [laidIn]
theorem laid_rest {buf l : List UInt8} {i k : Nat} (hk : k = l.length) (hb : i ≤ buf.length) : (laidIn buf l i k).take (i + k) = buf.take i ++ l := by
  subst hk
  unfold laidIn
  rw [List.take_append_of_le_length (by simp; omega), List.take_of_length_le (by simp; omega)]
  simp
theorem keep64 {w : World} {b : Nat} {st : St} {buf : List UInt8} {n : Nat} (h : Blk w b 219 (hashCells st buf n)) (hb : buf.length = 64) : (convert 43 9 (.slice (some ⟨b, 9, none⟩) 64 64)).run Tryz.prog w = .ok (.string ⟨buf.toArray⟩) w := by
  have := hash_text h 64 64 (Nat.le_of_eq hb.symm)
  rwa [List.take_of_length_le (Nat.le_of_eq hb)] at this
def AddPost (b : Nat) (m s : List UInt8) (w : World) (e : Ending) (w' : World) : Prop := e = .returned (.tuple #[]) ∧ IsHash w' b (m ++ s) ∧ Below b w w'
set_option maxRecDepth 100000 in
set_option maxHeartbeats 1000000 in
theorem Add_any (w : World) (b : Nat) (m : List UInt8) (s : ByteArray) (hL : Laid w) (hb : 2 ≤ b) (h : IsHash w b m) (hs : m.length + s.size < 1152921504606846976) :
    Calls Tryz.prog 141 #[.pointer (some ⟨b, 0, none⟩), .string s] w (AddPost b m s.data.toList w) := by
  have HT := Lib.hid (there_any w b m h)
  have HR := Lib.hid (restLen_any w b m h)
  obtain ⟨buf, h1, h2, h3⟩ := h.blk
  have hbl := h3.lt
  have hc := hash_count h3 h1
  have hf := h3.frozen 73
  have hw : IntKind.u64.wrap ((m.length : Int) + (s.size : Int)) = ((m.length + s.size : Nat) : Int) := by have := u64_nat (x := m.length + s.size) (by omega); simpa using this
  have HB := Lib.hid (hash_counted h3 h1 ((m.length : Int) + (s.size : Int)) (m.length + s.size) (by omega))
  have hrl := restOf_length m
  have H1 := Lib.hid h1; have H2 := Lib.hid h2
  have HL := Lib.hid hL
  clear h1 h2 h3 h hL
  obtain ⟨r, hr⟩ : ∃ r, r = m.length % 64 := ⟨_, rfl⟩
  have hr64 : r < 64 := by omega
  have HRR := Lib.hid hr
  rw [← hr] at HR hrl H2
  have HRL := Lib.hid hrl
  clear hr hrl
  by_cases h0 : r = 0
  · subst h0
    go_enter Tryz.func141, Tryz.ntmps141
    go_wp2_with (first
      | (go_at_call 164; refine (HT.out).mono ?_; rintro e w1 ⟨rfl, rfl⟩)
      | (go_at_call 165; refine (HR.out).mono ?_; rintro e w1 ⟨rfl, rfl⟩))
    have hn : restOf m = [] := List.length_eq_zero_iff.1 HRL.out
    obtain ⟨L, hLd⟩ : ∃ L, L = restOf m ++ s.data.toList := ⟨_, rfl⟩
    have hLl : L.length = 0 + s.size := by rw [hLd, List.length_append, HRL.out, size_list]
    have HLl := Lib.hid hLl
    have hLs : L.drop 0 = s.data.toList := by rw [hLd, hn]; simp
    have HLs := Lib.hid hLs
    obtain ⟨N, hN⟩ : ∃ N, N = (0 + s.size) / 64 := ⟨_, rfl⟩
    have HN := Lib.hid hN
    have HLd := Lib.hid hLd
    clear hn hLd hLl hLs hN
    have HB2 := Lib.hid (show Below b w (w.setCell ⟨b, 73, none⟩ (.int .u64 ((m.length : Int) + (s.size : Int)))) from (Below.refl b w).setCell (Nat.le_refl _) _)
    go_loopw [1] (fun p wr => ∃ (k : Nat) (q : ByteArray) (buf2 : List UInt8), k ≤ N ∧ p = .string q ∧ q.data.toList = L.drop (64 * k) ∧ buf2.length = 64 ∧ Blk wr b 219 (hashCells (folds k L (stOf m)) buf2 (m.length + s.size)) ∧ Below b w wr) (fun p _ => strLen p)
    case atStart => exact ⟨0, s, buf, Nat.zero_le _, rfl, by rw [HLs.out], H1.out, HB.out, HB2.out⟩
    case round =>
      clear HB2
      obtain ⟨k, q, buf2, hk, rfl, hq, hb2, hB, hbel⟩ := hrel
      have hqs : q.size = 0 + s.size - 64 * k := by rw [← size_list, hq, List.length_drop, HLl.out]
      have HQ := Lib.hid hq; have HBk := Lib.hid hB; have HB64 := Lib.hid hb2
      have hsucc : folds (k + 1) L (stOf m) = stp ((L.drop (64 * k)).take 64) (folds k L (stOf m)) := by rw [folds_add, folds_succ, folds_zero]
      have HSu := Lib.hid hsucc
      have hfo := Lib.hid (folds_ok k L (stOf_ok m))
      clear hq hB hsucc hb2
      by_cases hlt : k < N
      · have h64 : 64 ≤ q.size := by have := HN.out; omega
        have HQS := Lib.hid hqs; clear hqs
        have hes : (q.extract 0 64).size = 64 := by rw [ByteArray.size_extract]; omega
        have hed : (q.extract 0 64).data.toList = (L.drop (64 * k)).take 64 := by rw [take64, HQ.out]
        have C := take_any (folds k L (stOf m)) hfo.out (q.extract 0 64) hes b 1 219 [.bool true] (hashPost buf2 (m.length + s.size)) wr.drew (HL.out.below (show Below b w wr.drew from hbel.drew) hb) rfl HBk.out
        rw [hed, ← HSu.out] at C
        have HC := Lib.hid C; clear C hes hed
        have hb3 : Below b w wr.drew := hbel.drew
        go_wp2_with fail
        go_still_tail 5, (by kernel_rfl)
        change wpList _ _ _ _ _ wr.drew
        generalize wr.drew = w4 at hb3 HC ⊢
        go_wp2_with (go_at_call 166; refine (HC.out).mono ?_; rintro e w2 ⟨rfl, h2, hB2⟩)
        go_roundw
        case rel => exact ⟨k + 1, _, buf2, hlt, rfl, by rw [Lib.extract_data, HQ.out, List.drop_drop, List.take_of_length_le (by rw [List.length_drop, HLl.out]; have := HQS.out; omega)]; congr 1, HB64.out, hB2, hb3.trans h2⟩
        case measure => simp only [strLen]; rw [ByteArray.size_extract]; omega
      · obtain rfl : k = N := by omega
        have hq64 : q.size < 64 := by have := HN.out; omega
        have hcp := fun ty => hash_copied HBk.out HB64.out ty q 0 64 q.size (by omega) (by omega)
        simp only [Nat.add_zero, Nat.sub_zero] at hcp
        have hlay := hash_row HBk.out (hashCells (folds k L (stOf m)) (laidIn buf2 q.data.toList 0 q.size) (m.length + s.size))
        have HCP := Lib.hid hcp; have HLY := Lib.hid hlay
        clear hcp hlay
        have HQS := Lib.hid hqs; clear hqs
        go_wp2_with (refine Lib.wpList_copy_run _ rfl (.tmp 60) (.tmp 61) 43 9 rfl _ _ rfl rfl (HCP.out _) ?_)
        go_end0
        refine ⟨rfl, ?_, below_setRow hbel (Nat.le_refl _) _⟩
        have e1 : q.size = q.data.toList.length := (size_list q).symm
        refine hash_done (q := q.data.toList) (by rw [size_list]; exact hs) k (by rw [HN.out, size_list, HRR.out]) (by rw [HQ.out, HLd.out]) (laidIn_length HB64.out (by omega) (by omega)) (laid_take e1) ?_
        rw [size_list, ← HLd.out]
        exact HLY.out
  · obtain ⟨L, hLd⟩ : ∃ L, L = restOf m ++ s.data.toList := ⟨_, rfl⟩
    have hLl : L.length = r + s.size := by rw [hLd, List.length_append, HRL.out, size_list]
    have HLl := Lib.hid hLl
    have HLd := Lib.hid hLd
    have hr0 : (0 : Int) < (r : Int) := by omega
    have hr1 : (r : Int) ≤ 64 := by omega
    have hr2 : r ≤ 64 := by omega
    have hr3 : decide (0 < r) = true := by simp; omega
    have HB2 := Lib.hid (show Below b w (w.setCell ⟨b, 73, none⟩ (.int .u64 ((m.length : Int) + (s.size : Int)))) from (Below.refl b w).setCell (Nat.le_refl _) _)
    by_cases hB : r + s.size < 64
    · have hcp := fun ty => hash_copied HB.out H1.out ty s r (64 - r) s.size (by omega) (by omega)
      have hlay := hash_row HB.out (hashCells (stOf m) (laidIn buf s.data.toList r s.size) (m.length + s.size))
      have hq : (laidIn buf s.data.toList r s.size).take L.length = L := by
        have := laid_rest (buf := buf) (l := s.data.toList) (i := r) (k := s.size) (size_list s).symm (by rw [H1.out]; omega)
        rw [hLl, this, H2.out, hLd]
      have HCP := Lib.hid hcp; have HLY := Lib.hid hlay; have HQ := Lib.hid hq
      clear hcp hlay hq hLl hLd
      go_enter Tryz.func141, Tryz.ntmps141
      go_wp2_with (first
        | (go_at_call 164; refine (HT.out).mono ?_; rintro e w1 ⟨rfl, rfl⟩)
        | (go_at_call 165; refine (HR.out).mono ?_; rintro e w1 ⟨rfl, rfl⟩)
        | (refine Lib.wpList_copy_run _ rfl (.tmp 27) (.tmp 28) 43 9 rfl _ _ rfl rfl (HCP.out _) ?_))
      (try simp only [Exit.inBlock, Exit.then])
      refine bodyPost_ret (results_none rfl _ _ _) rfl ⟨rfl, ?_, below_setRow HB2.out (Nat.le_refl _) _⟩
      refine hash_done (q := L) (by rw [size_list]; exact hs) 0 (by rw [size_list, ← HRR.out]; omega) (by rw [HLd.out]; simp) (laidIn_length H1.out (by rw [size_list]; omega) (by omega)) HQ.out ?_
      rw [size_list, folds_zero]
      exact HLY.out
    · have hcp := fun ty => hash_copied HB.out H1.out ty s r (64 - r) (64 - r) (by omega) (by omega)
      have hlay := hash_row HB.out (hashCells (stOf m) (laidIn buf s.data.toList r (64 - r)) (m.length + s.size))
      have hb2 : (laidIn buf s.data.toList r (64 - r)).length = 64 := laidIn_length H1.out (by rw [size_list]; omega) (by omega)
      have hbL : laidIn buf s.data.toList r (64 - r) = L.take 64 := by
        rw [hLd, ← H2.out]
        unfold laidIn
        rw [List.drop_eq_nil_of_le (by rw [H1.out]; omega), List.append_nil, List.take_append, List.take_of_length_le (l := buf.take r) (by simp; omega), List.length_take, H1.out, Nat.min_eq_left hr2]
      obtain ⟨buf2, hbuf2⟩ : ∃ x, x = laidIn buf s.data.toList r (64 - r) := ⟨_, rfl⟩
      rw [← hbuf2] at hcp hlay hb2 hbL
      have htext := keep64 hlay.drew hb2
      have hed : (⟨buf2.toArray⟩ : ByteArray).data.toList = (L.drop (64 * 0)).take 64 := by rw [Nat.mul_zero, List.drop_zero, ← hbL]
      have hsucc : folds (0 + 1) L (stOf m) = stp ((L.drop (64 * 0)).take 64) (folds 0 L (stOf m)) := by rw [folds_add, folds_succ, folds_zero]
      have hbelC := below_setRow HB2.out (Nat.le_refl b) (hashCells (stOf m) buf2 (m.length + s.size)).toArray
      have C := take_any (stOf m) (stOf_ok m) ⟨buf2.toArray⟩ (by rw [txt_size]; exact hb2) b 1 219 [.bool true] (hashPost buf2 (m.length + s.size)) _ (HL.out.below hbelC.drew hb) rfl hlay
      rw [hed, ← (folds_zero L (stOf m)), ← hsucc] at C
      have e64 : (restOf m).drop 64 = [] := List.drop_eq_nil_of_le (by rw [HRL.out]; omega)
      have hq0 : (s.extract (64 - r) s.size).data.toList = L.drop (64 * 1) := by
        rw [Lib.extract_data, hLd, Nat.mul_one, List.drop_append, e64, List.nil_append, HRL.out, List.take_of_length_le (by rw [List.length_drop, size_list]; omega)]
      clear e64
      obtain ⟨N, hN⟩ : ∃ N, N = (r + s.size) / 64 := ⟨_, rfl⟩
      have hN1 : 1 ≤ N := by omega
      have HN := Lib.hid hN
      have HCP := Lib.hid hcp; have HTX := Lib.hid htext; have HC0 := Lib.hid C; have HQ0 := Lib.hid hq0; have HB2L := Lib.hid hb2
      have HBC := Lib.hid hbelC
      clear hcp htext C hq0 hb2 hbL hbuf2 hed hsucc hlay hLl hLd hN hbelC
      have hrs : (64 : Int) ≤ (r : Int) + (s.size : Int) := by omega
      go_enter Tryz.func141, Tryz.ntmps141
      go_wp2_with (first
        | (go_at_call 164; refine (HT.out).mono ?_; rintro e w1 ⟨rfl, rfl⟩)
        | (go_at_call 165; refine (HR.out).mono ?_; rintro e w1 ⟨rfl, rfl⟩)
        | (refine Lib.wpList_copy_run _ rfl (.tmp 27) (.tmp 28) 43 9 rfl _ _ rfl rfl (HCP.out _) ?_))
      have t1 := HTX.out
      have hb3 := HBC.out.drew
      go_region_held3 (fun u => (convert 43 9 (.slice (some ⟨b, 9, none⟩) 64 64)).run Tryz.prog u = .ok (.string ⟨buf2.toArray⟩) u) (first | exact t1 | exact keep64 (by assumption) HB2L.out | go_keep) (first
        | (go_at_call 166; refine (HC0.out).mono ?_; rintro e w2 ⟨rfl, h2, hB3⟩))
      have hB3' : Blk w2 b 219 (hashCells (folds (0 + 1) L (stOf m)) buf2 (m.length + s.size)) := hB3
      have HB2 := Lib.hid (hb3.trans h2)
      have HB9 := Lib.hid hB3'
      clear hB3 hB3' h2 hb3 t1
      go_wp2
      go_loopw [1] (fun p wr => ∃ (k : Nat) (q : ByteArray) (buf2 : List UInt8), k ≤ N ∧ p = .string q ∧ q.data.toList = L.drop (64 * k) ∧ buf2.length = 64 ∧ Blk wr b 219 (hashCells (folds k L (stOf m)) buf2 (m.length + s.size)) ∧ Below b w wr) (fun p _ => strLen p)
      case atStart => exact ⟨1, _, buf2, hN1, rfl, HQ0.out, HB2L.out, HB9.out, HB2.out⟩
      case round =>
        clear HB2
        obtain ⟨k, q, buf2, hk, rfl, hq, hb2, hB, hbel⟩ := hrel
        have hqs : q.size = r + s.size - 64 * k := by rw [← size_list, hq, List.length_drop, HLl.out]
        have HQ := Lib.hid hq; have HBk := Lib.hid hB; have HB64 := Lib.hid hb2
        have hsucc : folds (k + 1) L (stOf m) = stp ((L.drop (64 * k)).take 64) (folds k L (stOf m)) := by rw [folds_add, folds_succ, folds_zero]
        have HSu := Lib.hid hsucc
        have hfo := Lib.hid (folds_ok k L (stOf_ok m))
        clear hq hB hsucc hb2
        by_cases hlt : k < N
        · have h64 : 64 ≤ q.size := by have := HN.out; omega
          have HQS := Lib.hid hqs; clear hqs
          have hes : (q.extract 0 64).size = 64 := by rw [ByteArray.size_extract]; omega
          have hed : (q.extract 0 64).data.toList = (L.drop (64 * k)).take 64 := by rw [take64, HQ.out]
          have C := take_any (folds k L (stOf m)) hfo.out (q.extract 0 64) hes b 1 219 [.bool true] (hashPost buf2 (m.length + s.size)) wr.drew (HL.out.below (show Below b w wr.drew from hbel.drew) hb) rfl HBk.out
          rw [hed, ← HSu.out] at C
          have HC := Lib.hid C; clear C hes hed
          have hb3 : Below b w wr.drew := hbel.drew
          go_wp2_with fail
          go_still_tail 5, (by kernel_rfl)
          change wpList _ _ _ _ _ wr.drew
          generalize wr.drew = w4 at hb3 HC ⊢
          go_wp2_with (go_at_call 166; refine (HC.out).mono ?_; rintro e w2 ⟨rfl, h2, hB2⟩)
          go_roundw
          case rel => exact ⟨k + 1, _, buf2, hlt, rfl, by rw [Lib.extract_data, HQ.out, List.drop_drop, List.take_of_length_le (by rw [List.length_drop, HLl.out]; have := HQS.out; omega)]; congr 1, HB64.out, hB2, hb3.trans h2⟩
          case measure => simp only [strLen]; rw [ByteArray.size_extract]; omega
        · obtain rfl : k = N := by omega
          have hq64 : q.size < 64 := by have := HN.out; omega
          have hcp := fun ty => hash_copied HBk.out HB64.out ty q 0 64 q.size (by omega) (by omega)
          simp only [Nat.add_zero, Nat.sub_zero] at hcp
          have hlay := hash_row HBk.out (hashCells (folds k L (stOf m)) (laidIn buf2 q.data.toList 0 q.size) (m.length + s.size))
          have HCP := Lib.hid hcp; have HLY := Lib.hid hlay
          clear hcp hlay
          have HQS := Lib.hid hqs; clear hqs
          go_wp2_with (refine Lib.wpList_copy_run _ rfl (.tmp 60) (.tmp 61) 43 9 rfl _ _ rfl rfl (HCP.out _) ?_)
          go_end0
          refine ⟨rfl, ?_, below_setRow hbel (Nat.le_refl _) _⟩
          have e1 : q.size = q.data.toList.length := (size_list q).symm
          refine hash_done (q := q.data.toList) (by rw [size_list]; exact hs) k (by rw [HN.out, size_list, HRR.out]) (by rw [HQ.out, HLd.out]) (laidIn_length HB64.out (by omega) (by omega)) (laid_take e1) ?_
          rw [size_list, ← HLd.out]
          exact HLY.out
end Go.Proofs.YtcjdnifckngcfaaGreatDoor
end
