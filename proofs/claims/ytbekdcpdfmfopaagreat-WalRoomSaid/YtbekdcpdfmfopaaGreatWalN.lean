/- Contracts: what each file has, how many bytes together; nothing cleared; a log made. -/
import Derived.Test.YtbekdcpdfmfopaaGreatM40
namespace Go.Proofs.YtbekdcpdfmfopaaGreat
open Go.RowKit

/-- The files of a disk, in a row. -/
def filesD (d : DS) : List ByteArray := (List.range d.m).map d.now
def someF (d : DS) (j : Nat) : List Value := (List.range d.m).map fun i => Value.string (if i < j then d.now i else ⟨#[]⟩)
theorem someF_zero (d : DS) : someF d 0 = List.replicate d.m (.string ⟨#[]⟩) := by
  unfold someF
  apply List.ext_getElem
  · simp
  · intro i h1 h2; simp
theorem someF_all (d : DS) : someF d d.m = (filesD d).map Value.string := by
  unfold someF filesD
  rw [List.map_map]
  refine List.map_congr_left fun i hi => ?_
  rw [if_pos (List.mem_range.1 hi)]
  rfl
theorem someF_set (d : DS) (j : Nat) (hj : j < d.m) : (someF d j).set j (.string (d.now j)) = someF d (j + 1) := by
  unfold someF
  apply List.ext_getElem?
  intro i
  rw [List.getElem?_set]
  by_cases h : j = i
  · subst h; simp [hj]
  · rw [if_neg h]
    rcases Nat.lt_or_ge i d.m with hi | hi
    · simp [hi, show (i < j + 1) = (i < j) from by simp; omega]
    · simp [Nat.not_lt.2 hi]
theorem someF_at (d : DS) (j i : Nat) (hi : i < d.m) : ∃ v, (someF d j)[i]? = some v := ⟨_, by unfold someF; simp [hi]; rfl⟩
theorem filesD_length (d : DS) : (filesD d).length = d.m := by simp [filesD]
theorem filesD_at (d : DS) (i : Nat) (hi : i < d.m) : (filesD d)[i]? = some (d.now i) := by simp [filesD, hi]
theorem make_textsN (n : Nat) (hn : n ≤ 1000000) : ∀ u : World, (Instr.makeSlice 33 (.int .i64 (n : Int)) (.int .i64 (n : Int))).run Tryz.prog u =
      .ok (.slice (some ⟨u.heap.size, 0, none⟩) n n) (u.alloc (.cells (madeCells #[.string ⟨#[]⟩] n) 9)) := fun u => by
  obtain ⟨i0, hi, hz0, hz1, hz2⟩ := info_parts infoS
  have h := run_make (P := Tryz.prog) u 33 9 i0 (.string ⟨#[]⟩) Tryz.underlying33 hi hz0 .i64 .i64 (n : Int) (n : Int) (by omega) (by omega) (by rw [hz2]; omega) (by omega)
  simpa [hz1, Value.cells] using h
set_option maxRecDepth 100000 in
theorem read_any (w : World) (bd : Nat) (μ : Foot) (d : DS) (h : IsD w bd μ d) (hf : d.fuse ≠ 0) : Calls Tryz.prog 42 #[.pointer (some ⟨bd, 0, none⟩)] w fun e w' => ∃ q, e = .returned (.tuple #[.slice (some q) d.m d.m, .int .i64 0]) ∧ TextsP w' (some q) (filesD d) ∧ Ext w w' := by
  have HF := Lib.hid (Files_any w bd μ d h)
  have HR := Lib.hid (fun u (hu : Ext w u) (i : Nat) (hi : i < d.m) => by
    have := Read_any u bd μ d (h.ext hu) (i : Int)
    rw [show d.read (i : Int) = (d.now i, 0) from by
      unfold DS.read
      rw [if_neg hf, if_neg (by unfold DS.isF; omega)]
      rfl] at this
    exact this)
  have hm16 := h.ok.m16
  have hmk := make_textsN d.m (by omega)
  have hB : Blk (w.alloc (.cells (madeCells #[.string ⟨#[]⟩] d.m) 9)) w.heap.size 9 (someF d 0) := by
    have e : madeCells #[.string ⟨#[]⟩] d.m = (someF d 0).toArray := by
      apply Array.toList_inj.1
      rw [toList_madeCells_one, someF_zero]
    rw [e]
    exact Blk.new _ _ _
  have HB := Lib.hid hB
  have HX0 := Lib.hid ((Ext.refl w).alloc (.cells (madeCells #[.string ⟨#[]⟩] d.m) 9))
  clear h hB
  generalize madeCells #[.string ⟨#[]⟩] d.m = MC at *
  go_enter Tryz.func42, Tryz.ntmps42
  go_wp2_with (go_at_call 65; refine (HF.out).mono ?_; rintro e w1 ⟨rfl, rfl⟩)
  go_loopw [13] (fun iv wr => ∃ j : Nat, j ≤ d.m ∧ iv = .int .i64 (j : Int) ∧ Ext w wr ∧ Blk wr w.heap.size 9 (someF d j)) (fun iv _ => d.m - (intOf iv).toNat)
  case atStart => exact ⟨0, Nat.zero_le _, rfl, HX0.out, HB.out⟩
  case round =>
    obtain ⟨j, hj, rfl, hx, hb⟩ := hrel
    have HX := Lib.hid hx; have HBj := Lib.hid hb
    clear hx hb
    by_cases hlt : j < d.m
    · obtain ⟨v, hv⟩ := someF_at d j j hlt
      have cj := HBj.out.cell j v hv
      have fj := HBj.out.frozen j
      have HS := Lib.hid (someF_set d j hlt)
      clear hv
      go_wp2_with (go_at_call 55; refine (HR.out _ HX.out j hlt).mono ?_; rintro e w1 ⟨rfl, rfl⟩)
      go_roundw
      case rel => exact ⟨j + 1, by omega, by go_num, HX.out.setCell (p := ⟨w.heap.size, j, none⟩) (Nat.le_refl _) _, by rw [← HS.out]; exact HBj.out.set_ _ _⟩
      case measure => simp [intOf]; omega
    · obtain rfl : j = d.m := by omega
      have HT : Hid (TextsP wr (some ⟨w.heap.size, 0, none⟩) (filesD d)) := Lib.hid (by
        have h1 := HBj.out.vals
        rw [someF_all] at h1
        exact h1.texts)
      go_wp2
      go_ret2
      exact ⟨_, rfl, HT.out, HX.out⟩
/-- How many bytes texts have together. -/
def sumT (l : List ByteArray) : Nat := (l.map ByteArray.size).sum
theorem sumT_take (l : List ByteArray) (j : Nat) (x : ByteArray) (h : l[j]? = some x) : sumT (l.take (j + 1)) = sumT (l.take j) + x.size := by
  unfold sumT
  rw [List.take_add_one, h]
  simp
theorem sumT_le (l : List ByteArray) (B : Nat) (h : ∀ x ∈ l, x.size ≤ B) : sumT l ≤ l.length * B := by
  induction l with
  | nil => simp [sumT]
  | cons x r ih =>
    have h1 := h x (by simp)
    have h2 := ih (fun y hy => h y (by simp [hy]))
    unfold sumT at h2 ⊢
    simp only [List.map_cons, List.sum_cons, List.length_cons]
    rw [Nat.add_mul]
    omega
theorem wsum_any (w : World) (p : Option Addr) (c : Nat) (l : List ByteArray) (h : TextsP w p l) (hl : l.length ≤ 1000) (hs : ∀ x ∈ l, x.size ≤ 4194304) : Calls Tryz.prog 43 #[.slice p l.length c] w fun e w' => e = .returned (.int .i64 (sumT l : Int)) ∧ w = w' := by
  have HS := Lib.hid (fun j => sumT_le (l.take j) 4194304 (fun x hx => hs x (List.take_subset j l hx)))
  have HT := Lib.hid h
  clear h hs
  go_enter Tryz.func43, Tryz.ntmps43
  go_wp2
  go_loopw [3, 8] (fun nv iv wr => ∃ j : Nat, j ≤ l.length ∧ iv = .int .i64 (j : Int) ∧ nv = .int .i64 ((sumT (l.take j) : Nat) : Int) ∧ w = wr) (fun _ iv _ => l.length - (intOf iv).toNat)
  case atStart => exact ⟨0, Nat.zero_le _, rfl, by simp [sumT], rfl⟩
  case round =>
    obtain ⟨j, hj, rfl, rfl, rfl⟩ := hrel
    by_cases hlt : j < l.length
    · obtain ⟨x, hx⟩ : ∃ x, l[j]? = some x := ⟨_, List.getElem?_eq_getElem hlt⟩
      obtain ⟨a, e, _, hc⟩ := HT.out j x hx
      subst e
      have hs1 := HS.out (j + 1)
      have HE := Lib.hid (sumT_take l j x hx)
      rw [HE.out] at hs1
      have hlj : (l.take (j + 1)).length ≤ 1000 := by rw [List.length_take]; omega
      have hs2 : (l.take (j + 1)).length * 4194304 ≤ 1000 * 4194304 := Nat.mul_le_mul_right _ hlj
      obtain ⟨z, hz⟩ : ∃ z : Nat, z = sumT (l.take j) + x.size := ⟨_, rfl⟩
      have hw : IntKind.i64.wrap (((sumT (l.take j) : Nat) : Int) + (x.size : Int)) = (z : Int) := by rw [IntWalk.i64_in _ ⟨by omega, by omega⟩]; omega
      have HZ := Lib.hid hz
      clear hx hs1 hs2 hlj hz
      go_wp2
      go_roundw
      case rel => exact ⟨j + 1, by omega, by go_num, by rw [HE.out, ← HZ.out], trivial⟩
      case measure => simp [intOf]; omega
    · obtain rfl : j = l.length := by omega
      go_wp2
      go_ret
      exact ⟨by rw [List.take_length]; rfl, rfl⟩
theorem synced_nil (w : World) (b : Nat) : Calls Tryz.prog 67 #[.pointer (some ⟨b, 0, none⟩), .slice none 0 0] w fun e w' => e = .returned (.slice none 0 0) ∧ w = w' := by
  go_enter Tryz.func67, Tryz.ntmps67
  go_wp2
  go_ret
  exact ⟨rfl, rfl⟩
theorem clearing_free (w : World) (b : Nat) (p : Option Addr) (c : Nat) (l : List ByteArray) (h : TextsP w p l) (hl : l.length ≤ 1000) (hs : ∀ x ∈ l, x = ⟨#[]⟩) : Calls Tryz.prog 44 #[.pointer (some ⟨b, 0, none⟩), .slice p l.length c] w fun e w' => e = .returned (.slice none 0 0) ∧ w = w' := by
  have HT := Lib.hid h; have HS := Lib.hid hs
  clear h hs
  go_enter Tryz.func44, Tryz.ntmps44
  go_wp2
  go_loopw [5, 10] (fun rv iv wr => ∃ j : Nat, j ≤ l.length ∧ iv = .int .i64 (j : Int) ∧ rv = .slice none 0 0 ∧ w = wr) (fun _ iv _ => l.length - (intOf iv).toNat)
  case atStart => exact ⟨0, Nat.zero_le _, rfl, rfl, rfl⟩
  case round =>
    obtain ⟨j, hj, rfl, rfl, rfl⟩ := hrel
    by_cases hlt : j < l.length
    · obtain ⟨x, hx⟩ : ∃ x, l[j]? = some x := ⟨_, List.getElem?_eq_getElem hlt⟩
      obtain ⟨a, e, _, hc⟩ := HT.out j x hx
      subst e
      obtain rfl := HS.out x (List.mem_of_getElem? hx)
      clear hx
      go_wp2
      go_roundw
      case rel => exact ⟨j + 1, by omega, by go_num, by simp⟩
      case measure => simp [intOf]; omega
    · obtain rfl : j = l.length := by omega
      go_wp2_with (go_at_call 67; refine (synced_nil _ _).mono ?_; rintro e w1 ⟨rfl, rfl⟩)
      go_ret
      exact ⟨rfl, rfl⟩
theorem burnt_len (d : DS) : d.burnt.L = d.L := by unfold DS.burnt; split <;> rfl
theorem write_len (d : DS) (f : Int) (t : ByteArray) : (d.write f t).1.L.length ≤ d.L.length + 1 := by
  unfold DS.write
  split
  · simp
  · split
    · rw [burnt_len]; omega
    · split
      · rw [burnt_len]; omega
      · simp
theorem cutF_len (d : DS) (f n : Int) : (d.cutF f n).1.L.length ≤ d.L.length + 1 := by
  unfold DS.cutF
  split
  · simp
  · split
    · rw [burnt_len]; omega
    · split
      · rw [burnt_len]; omega
      · simp
/-- A new log: nothing in it yet. -/
def newS (nf sz ck : Nat) : WS := ⟨nf, sz, ck, 0, 0, 0, [], 0, 0⟩
theorem LS.made {w : World} {bd : Nat} {μ : Foot} {d : DS} (h : IsD w bd μ d) (nf sz ck : Nat) : LS (w.alloc (.cells (wcells bd (newS nf sz ck) (.slice none 0 0)).toArray 61)) w.heap.size bd (setK (fun _ => 0) w.heap.size 2) μ (newS nf sz ck) d ∧
    Fr2 (fun _ => 0) μ w (w.alloc (.cells (wcells bd (newS nf sz ck) (.slice none 0 0)).toArray 61)) (setK (fun _ => 0) w.heap.size 2) μ := by
  have hx := (Ext.refl w).alloc (.cells (wcells bd (newS nf sz ck) (.slice none 0 0)).toArray 61)
  have hk : ∀ g, setK (fun _ => 0) w.heap.size 2 g ≠ 0 → g = w.heap.size := fun g hg => by
    by_cases e : g = w.heap.size
    · exact e
    · rw [setK_other _ _ e] at hg; exact absurd rfl hg
  refine ⟨⟨⟨⟨none, 0, Blk.new w _ _, Sl.nil _ _ _ _ _⟩, setK_same _ _ _, fun g hg => by rw [hk g hg]; simp⟩, h.alloc _, fun g hg => ?_, fun g => ?_⟩, ⟨rfl, rfl, rfl, hx.size, fun g hg _ _ => hx.block g hg, fun g hg => setK_other _ _ (by omega), fun _ _ => rfl⟩⟩
  · have := hk g hg
    exact Classical.byContradiction fun q => by have := h.ins g q; omega
  · by_cases e : g = w.heap.size
    · rw [e, setK_same]; decide
    · rw [setK_other _ _ e]; decide
set_option maxRecDepth 100000 in
set_option maxHeartbeats 4000000 in
theorem make_free (nf sz ck : Nat) (h1 : 2 ≤ nf ∧ nf ≤ 16) (h2 : 64 ≤ sz ∧ sz ≤ 4194304) (h3 : 32 ≤ ck ∧ ck ≤ 4194304) (text H : ByteArray) (ht : text.size ≤ 8192) (hH : chkF (ck : Int) 1 1 text = (H, 0)) (hHs : H.size ≤ 1048576)
    (w : World) (bd : Nat) (μ : Foot) (d : DS) (h : IsD w bd μ d) (hm : d.m = nf) (hf : d.fuse ≠ 0) (hfree : ∀ x ∈ filesD d, x = ⟨#[]⟩) (hroom : (H.size : Int) ≤ d.left) (hL : d.L.length ≤ 1000) (s9 : WS) (d9 : DS) (hdo : doF [.wr 0 H, .sync] (newS nf sz ck) d = (s9, d9, 0)) :
    Calls Tryz.prog 19 #[.pointer (some ⟨bd, 0, none⟩), cfV nf sz ck, .string text] w fun e w' => ∃ b κ' μ', e = .returned (.tuple #[.pointer (some ⟨b, 0, none⟩), .int .i64 0]) ∧ LS w' b bd κ' μ' { s9 with g := 1, f := 1, n := 1, P := [(0, H.size)] } d9 ∧ Fr2 (fun _ => 0) μ w w' κ' μ' := by
  have HFi := Lib.hid (fun u (hu : Ext w u) => fits_any (nf : Int) (sz : Int) (ck : Int) (by omega) (by omega) (by omega) u bd μ d (h.ext hu))
  rw [if_pos (by rw [hm])] at HFi
  have HCh := Lib.hid (fun u => chk_any (nf : Int) (sz : Int) (ck : Int) 1 1 text (by decide) (by decide) ht u)
  rw [hH] at HCh
  have HRd := Lib.hid (fun u (hu : Ext w u) => read_any u bd μ d (h.ext hu) hf)
  have HRm := Lib.hid (fun u (hu : Ext w u) => Room_any u bd μ d (h.ext hu))
  have hfl := filesD_length d
  have hm16 := h.ok.m16
  have hs0 : sumT (filesD d) = 0 := by
    have := sumT_le (filesD d) 0 (fun x hx => by rw [hfree x hx]; exact Nat.le_refl _)
    omega
  have HSm := Lib.hid (fun u p c (hp : TextsP u p (filesD d)) => wsum_any u p c (filesD d) hp (by omega) (fun x hx => by rw [hfree x hx]; decide))
  rw [hs0] at HSm
  have HCl := Lib.hid (fun u b p c (hp : TextsP u p (filesD d)) => clearing_free u b p c (filesD d) hp (by omega) hfree)
  rw [hfl] at HSm HCl
  have HIs := Lib.hid (fun u (hu : Ext w u) => h.ext hu)
  have hlin := h.ok.left_in
  have hw0 : wrap64 d.left = d.left := wrap64_in _ ⟨by omega, by omega⟩
  have hr3 : decide (wrap64 d.left < (H.size : Int)) = false := by rw [hw0, decide_eq_false_iff_not]; omega
  have hr2 : decide (d.left < (H.size : Int)) = false := by rw [decide_eq_false_iff_not]; omega
  have hx1 : Ext w (w.alloc (.cells #[.int .i64 (nf : Int), .int .i64 (sz : Int), .int .i64 (ck : Int)] 46)) := (Ext.refl w).alloc _
  have hb : Blk (w.alloc (.cells #[.int .i64 (nf : Int), .int .i64 (sz : Int), .int .i64 (ck : Int)] 46)) w.heap.size 46 [.int .i64 (nf : Int), .int .i64 (sz : Int), .int .i64 (ck : Int)] := Blk.new w _ _
  have HX1 := Lib.hid hx1; have HB := Lib.hid hb
  have c0 := hb.cell 0 _ rfl
  have c1 := hb.cell 1 _ rfl
  have c2 := hb.cell 2 _ rfl
  rw [show ((1 : Nat) : Int) = 1 from rfl] at HCh
  have HL := Lib.hid hL; have HDo := Lib.hid hdo; have HHs := Lib.hid hHs
  clear h h1 h2 h3 hm hf hfree hfl hm16 hs0 hlin hx1 hb hL hdo hHs ht hH hroom
  unfold cfV at HFi HCh ⊢
  go_enter Tryz.func19, Tryz.ntmps19
  go_upto_region 13 with (first
    | (go_at_call 41; refine (HFi.out _ HX1.out).mono ?_; rintro e w1 ⟨rfl, x1⟩; have b1 := HB.out.ext x1; have k0 := b1.cell 0 _ rfl; have k1 := b1.cell 1 _ rfl; have k2 := b1.cell 2 _ rfl; have X1 := Lib.hid x1; have B1 := Lib.hid b1; clear x1 b1)
    | (go_at_call 31; refine (HCh.out _).mono ?_; rintro e w2 ⟨rfl, x2⟩; have b2 := B1.out.ext x2; have m0 := b2.cell 0 _ rfl; have m1 := b2.cell 1 _ rfl; have m2 := b2.cell 2 _ rfl; have X2 := Lib.hid x2; have B2 := Lib.hid b2; clear x2 b2)
    | (go_at_call 42; refine (HRd.out _ ((HX1.out.trans X1.out).trans X2.out)).mono ?_; rintro e w3 ⟨q, rfl, ht3, x3⟩; have b3 := B2.out.ext x3; have n0 := b3.cell 0 _ rfl; have n1 := b3.cell 1 _ rfl; have n2 := b3.cell 2 _ rfl; have X3 := Lib.hid x3; have HT3 := Lib.hid ht3; clear x3 b3 ht3)
    | (go_at_call 18; refine (HRm.out _ (((HX1.out.trans X1.out).trans X2.out).trans X3.out)).mono ?_; rintro e w4 ⟨rfl, rfl⟩)
    | (go_at_call 43; refine (HSm.out _ _ _ HT3.out).mono ?_; rintro e w5 ⟨rfl, rfl⟩))
  obtain ⟨hls, hfr⟩ := LS.made (HIs.out w3 (((HX1.out.trans X1.out).trans X2.out).trans X3.out)) nf sz ck
  have e6 : (wcells bd (newS nf sz ck) (.slice none 0 0)).toArray = #[.pointer (some ⟨bd, 0, none⟩), .int .i64 (nf : Int), .int .i64 (sz : Int), .int .i64 (ck : Int), .int .u64 0, .int .u64 0, .int .u64 0, .slice none 0 0, .int .i64 0, .int .i64 0] := rfl
  rw [e6] at hls hfr
  have HT6 := Lib.hid (HT3.out.ext ((Ext.refl w3).alloc (.cells #[.pointer (some ⟨bd, 0, none⟩), .int .i64 (nf : Int), .int .i64 (sz : Int), .int .i64 (ck : Int), .int .u64 0, .int .u64 0, .int .u64 0, .slice none 0 0, .int .i64 0, .int .i64 0] 61)))
  have HLS := Lib.hid hls; have HFR := Lib.hid hfr
  clear hls hfr e6 c0 c1 c2 k0 k1 k2 m0 m1 m2 n0 n1 n2
  obtain ⟨b, hbE⟩ : ∃ b, b = w3.heap.size := ⟨_, rfl⟩
  rw [← hbE] at HLS HFR ⊢
  clear hbE
  generalize setK (fun _ => 0) b 2 = κ6 at *
  generalize w3.alloc (.cells #[.pointer (some ⟨bd, 0, none⟩), .int .i64 (nf : Int), .int .i64 (sz : Int), .int .i64 (ck : Int), .int .u64 0, .int .u64 0, .int .u64 0, .slice none 0 0, .int .i64 0, .int .i64 0] 61) = W6 at *
  go_wp2_with (first
    | (go_at_call 44; refine (HCl.out _ _ _ _ HT6.out).mono ?_; rintro e w7 ⟨rfl, rfl⟩)
    | (go_at_call 33; refine (mkwr_lr _ b bd κ6 μ _ _ HLS.out.lr 0 H).mono ?_; rintro e w7 ⟨v, rfl, hv7, ho7, x7⟩; have HV7 := Lib.hid hv7; have X7 := Lib.hid x7; obtain ⟨vx, vy, vz, rfl, _⟩ := hv7; clear x7 ho7)
    | (refine append_calls rfl (.tmp 54) (.tmp 60) rfl ((HLS.out.ext X7.out).lr.ext ((Ext.refl _).alloc _)) (C := []) rfl rfl (RowS.nil _ _ _ _ _) w7.heap.size 2 [.func (.func 56) #[] #[.pointer (some ⟨vx, 0, none⟩), .pointer (some ⟨vy, 0, none⟩), .pointer (some ⟨vz, 0, none⟩)], .func (.func 30) #[.pointer (some ⟨bd, 0, none⟩)] #[]] [.wr 0 H, .sync] rfl rfl rfl (Blk.new _ _ _) (by intro u hu; simp at hu; rcases hu with rfl | rfl <;> rfl) (by
        intro i u c hu hc
        have h0 : i < 2 := (List.getElem?_eq_some_iff.1 hc).1
        rcases (show i = 0 ∨ i = 1 by omega) with rfl | rfl
        · simp at hu hc; subst hu hc; exact HV7.out.ext ((Ext.refl _).alloc _)
        · simp at hu hc; subst hc; exact hu.symm) (by decide) ?_; intro p9 c9 w9 κ9 hr9 hl9 hf9; have HR9 := Lib.hid hr9; have HL9 := Lib.hid hl9; have HF9 := Lib.hid hf9; clear hr9 hl9 hf9))
  have hdone := LR.done (HLS.out.ext (X7.out.alloc _)) HF9.out HL9.out
  have HK := Lib.hid hdone.2
  have HD := Lib.hid (do_any' _ b bd _ μ _ _ hdone.1 p9 c9 _ (HR9.out.done HL9.out) (by simp) ⟨HHs.out, Nat.le_trans HL.out (by decide), fun _ => ⟨trivial, by have := write_len d 0 H; have := HL.out; show (d.write 0 H).1.L.length ≤ 1000000; omega, fun _ => trivial⟩⟩ _ _ _ HDo.out)
  clear hdone
  go_wp2_with (first
    | (go_at_call 29; refine (HD.out).mono ?_; rintro e w10 ⟨rfl, hp⟩; obtain ⟨κ10, μ10, hl10, hf10⟩ := hp; have HF10 := Lib.hid hf10; have HBg := Lib.hid (begin_any _ b bd κ10 μ10 _ _ hl10 1 1 0 H.size); rw [show ((1 : Nat) : Int) = 1 from rfl, show ((0 : Nat) : Int) = 0 from rfl] at HBg; clear hl10 hf10)
    | (go_at_call 35; refine (HBg.out).mono ?_; rintro e w11 ⟨rfl, hp⟩; obtain ⟨κ11, μ11, hl11, hf11⟩ := hp; have HL11 := Lib.hid hl11; have HF11 := Lib.hid hf11; clear hl11 hf11))
  go_ret2
  have f0 : Fr2 (fun _ => 0) μ w w3 (fun _ => 0) μ := (((HX1.out.trans X1.out).trans X2.out).trans X3.out).fr2 _ _
  exact ⟨b, κ11, μ11, rfl, HL11.out, f0.trans (HFR.out.trans (((X7.out.alloc _).fr2 κ6 μ).trans (HK.out.trans (HF10.out.trans HF11.out))))⟩
end Go.Proofs.YtbekdcpdfmfopaaGreat
