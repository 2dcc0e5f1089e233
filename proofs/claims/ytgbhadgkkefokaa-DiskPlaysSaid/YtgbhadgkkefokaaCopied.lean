/- Contract: files, copied. -/
import Derived.Test.YtgbhadgkkefokaaRoom
import Derived.Test.YtgbhadgkkefokaaApp
import Derived.Laws.Tables
namespace Go.Proofs.Ytgbhadgkkefokaa
open Go.RowKit

theorem zero_runF {P : Program} {t : TypeId} {z : Value} (h : (P.info? t).bind (·.zero) = some z) (w : World) : (zeroValue t).run P w = .ok z w := by
  cases hq : P.info? t with
  | none => simp [hq] at h
  | some i =>
    have hz : i.zero = some z := by simpa [hq] using h
    simp [zeroValue, typeInfo, hq, hz]
def zf : List Value := List.replicate 16 (.slice none 0 0)
def zfc : Array Value := zf.toArray
theorem zf_length : zf.length = 16 := rfl
theorem zeroF : (Try.prog.info? 53).bind (·.zero) = some (.agg zfc) := by kernel_rfl
theorem sizeZ : (Try.prog.info? 53).map (·.size) = some zfc.size := by kernel_rfl
theorem blk_zf (w : World) : Blk (w.alloc (.cells zfc 53)) w.heap.size 53 zf := heap_alloc_new w _
attribute [irreducible] zfc zf
/-- Slices of 16 files. -/
def FilesAt (w : World) (κ : Foot) (N : Fs) (p : Nat → Option Addr) (c : Nat → Nat) : Prop := ∀ i, i < 16 → Sl w κ (4 + i) 1 5 (p i) (N i).size (c i) (byteCells (N i))
theorem FilesAt.ext {w w' : World} {κ : Foot} {N : Fs} {p : Nat → Option Addr} {c : Nat → Nat} (h : FilesAt w κ N p c) (hx : Ext w w') : FilesAt w' κ N p c := fun i hi => (h i hi).ext hx
set_option maxRecDepth 100000 in
set_option maxHeartbeats 2000000 in
theorem copied_any (w : World) (κ : Foot) (N : Fs) (p : Nat → Option Addr) (c : Nat → Nat) (h : FilesAt w κ N p c) (hN : ∀ i, (N i).size ≤ 4194304) (κ0 : Foot) :
    Calls Try.prog 35 #[.agg (sls N p c).toArray] w fun e w' => ∃ p' c', e = .returned (.agg (sls N p' c').toArray) ∧ ∃ κ', FilesAt w' κ' N p' c' ∧ Fr κ0 (fun _ => False) w w' κ' := by
  have hz := zero_runF zeroF
  have hr0 : Blk ((w.alloc (.cells (sls N p c).toArray 53)).alloc (.cells zfc 53)) w.heap.size 53 (sls N p c) := (Blk.new w _ _).alloc _
  have hr1 : Blk ((w.alloc (.cells (sls N p c).toArray 53)).alloc (.cells zfc 53)) (w.heap.size + 1) 53 zf := by
    have := blk_zf (w.alloc (.cells (sls N p c).toArray 53))
    simpa using this
  have HF0 : Hid (Fr κ0 (fun _ => False) w ((w.alloc (.cells (sls N p c).toArray 53)).alloc (.cells zfc 53)) κ0) := Lib.hid (((Fr.refl κ0 _ w).alloc _).alloc _)
  have HR0 := Lib.hid hr0; have HR1 := Lib.hid hr1
  have H := Lib.hid h; have HN := Lib.hid hN
  have HI := Lib.hid (fun i hi u => index_sls N p c i hi u)
  have HSz := Lib.hid (sizedA N p c)
  have HFirst := Lib.hid (⟨p, c, rfl, fun _ _ => ⟨rfl, rfl⟩⟩ : ∃ p' c', sls N p c = sls N p' c' ∧ ∀ i, 0 ≤ i → p' i = p i ∧ c' i = c i)
  clear hr0 hr1 h hN
  obtain ⟨T, hT⟩ : ∃ T, sls N p c = T := ⟨_, rfl⟩
  rw [hT] at HR0 HR1 HF0 HI HSz HFirst ⊢
  clear hT
  go_enter Try.func35, Try.ntmps35
  go_wp2_with (refine wpList_load_row rfl 53 (.tmp 1) rfl w.heap.size rfl 53 _ (0, 0) _ HR0.out Try.underlying53 rfl HSz.out ?_)
  go_loopw [3, 4, 6] (fun _ _ iv wr => ∃ j : Nat, j ≤ 16 ∧ iv = .int .i64 (j : Int) ∧ Blk wr (w.heap.size + 1) 53 zf ∧ ∃ p' c' κ', Blk wr w.heap.size 53 (sls N p' c') ∧ (∀ i, j ≤ i → p' i = p i ∧ c' i = c i) ∧ (∀ i, i < j → Sl wr κ' (4 + i) 1 5 (p' i) (N i).size (c' i) (byteCells (N i))) ∧ Fr κ0 (fun _ => False) w wr κ') (fun _ _ iv _ => 16 - (intOf iv).toNat)
  case atStart =>
    obtain ⟨p', c', e, hpc⟩ := HFirst.out
    exact ⟨0, Nat.zero_le _, rfl, HR1.out, p', c', κ0, by rw [← e]; exact HR0.out, hpc, fun i hi => by omega, HF0.out⟩
  case round =>
    obtain ⟨j, hj, rfl, hb1, p', c', κ', hb0, hpc, hsl, hfr⟩ := hrel
    by_cases hlt : j < 16
    · have hi := fun u => HI.out j hlt u
      have HB0 := Lib.hid hb0; have HB1 := Lib.hid hb1; have HPC := Lib.hid hpc; have HSl := Lib.hid hsl; have HF := Lib.hid hfr
      have HC := Lib.hid (fun u (hu : Ext w u) => cloneB_any u κ (4 + j) (p j) (c j) (N j) ((H.out j hlt).ext hu) (HN.out j) κ' (4 + j))
      have hji : (j : Int) < 16 := by omega
      have hj0 : (0 : Int) ≤ (j : Int) := by omega
      have HX := Lib.hid hfr.toExt
      clear hb0 hb1 hpc hsl hfr
      obtain ⟨nj, hnj⟩ : ∃ nj, (N j).size = nj := ⟨_, rfl⟩
      obtain ⟨vj, hvj⟩ : ∃ vj, byteCells (N j) = vj := ⟨_, rfl⟩
      rw [hnj, hvj] at HC
      rw [hnj] at hi
      have HNJ := Lib.hid hnj
      have HVJ := Lib.hid hvj
      clear hnj hvj
      go_wp2_with (go_at_call 44; refine (HC.out _ HX.out).mono ?_; rintro e w1 ⟨q, k, rfl, κ1, s1, f1⟩; have HS1 := Lib.hid s1; have HF1 := Lib.hid f1; have HB2 := Lib.hid (HB0.out.ext f1.toExt); have HB3 := Lib.hid (HB1.out.ext f1.toExt); have cj := HB2.out.cell j _ (sls_at N p' c' j hlt); have fj := HB2.out.frozen j; clear s1 f1)
      go_roundw
      case rel =>
        refine ⟨j + 1, by omega, by go_num, HB3.out.other (by omega) _ _, (fun i => if i = j then q else p' i), (fun i => if i = j then k else c' i), κ1, ?_, ?_, ?_, ?_⟩
        · have := HB2.out.set_ j (.slice q nj k)
          rw [← HNJ.out, sls_set N p' c' j hlt (N j) q k] at this
          have e : upd N j (N j) = N := by funext i; unfold upd; split <;> simp_all
          rw [e] at this
          rw [← HNJ.out]
          exact this
        · intro i hi
          have := HPC.out i (by omega)
          have hne : i ≠ j := by omega
          simp only [hne, if_false]
          exact this
        · intro i hi
          have hs : ∀ g, g ≠ w.heap.size → (w1.setCell ⟨w.heap.size, j, none⟩ (.slice q nj k)).heap[g]? = w1.heap[g]? := fun g hg => Below.heap_setCell _ _ _ _ hg
          by_cases e : i = j
          · subst e
            simp only [if_true]
            have := HS1.out
            rw [← HNJ.out, ← HVJ.out] at this
            rw [← HNJ.out] at hs ⊢
            exact this.parted HB2.out (by decide) hs
          · simp only [e, if_false]
            exact ((HSl.out i (by omega)).fr HF1.out (fun x => x)).parted HB2.out (by decide) hs
        · exact (HF.out.trans HF1.out).own (Nat.le_refl _) _
      case measure => simp [intOf]; omega
    · obtain rfl : j = 16 := by omega
      have e16 : ((16 : Nat) : Int) = 16 := rfl
      rw [e16]
      clear e16
      have HB0 := Lib.hid hb0; have HB1 := Lib.hid hb1; have HSl := Lib.hid hsl; have HF := Lib.hid hfr
      have HS2 := Lib.hid (sizedA N p' c')
      have HA2 := Lib.hid (sls_all N p' c')
      clear hb0 hb1 hsl hfr hpc
      have hle : zf.toArray.size = (sls N p' c').toArray.size := by rw [List.size_toArray, List.size_toArray, sls_length, zf_length]
      go_wp2_with (first
        | (refine wpList_load_row rfl 53 (.tmp 1) rfl w.heap.size rfl 53 _ (0, 0) _ HB0.out Try.underlying53 rfl HS2.out ?_)
        | (refine wpList_store_row rfl 53 (.tmp 2) (.tmp 15) rfl (w.heap.size + 1) _ rfl rfl 53 _ HB1.out HS2.out hle HA2.out ?_))
      have hr := (setRow_heap _ _ _ (sls N p' c').toArray _ _ HB1.out)
      refine bodyPost_ret (results_cell_row rfl _ _ (w.heap.size + 1) 53 _ (0, 0) _ rfl hr Try.underlying53 rfl HS2.out) rfl ?_
      refine ⟨p', c', rfl, κ', fun i hi => (HSl.out i hi).parted HB1.out (by decide) (fun g hg => setRow_other _ _ _ _ hg), HF.out.ownRow (Nat.le_succ _) _⟩
end Go.Proofs.Ytgbhadgkkefokaa
