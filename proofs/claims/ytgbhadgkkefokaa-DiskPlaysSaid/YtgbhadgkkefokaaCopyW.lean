/- Contract: Copy. -/
import Derived.Test.YtgbhadgkkefokaaWrite
import Derived.Test.YtgbhadgkkefokaaCrash
import Derived.Deep.RegionHeld3
namespace Go.Proofs.Ytgbhadgkkefokaa
open Go.RowKit

/-- What of a disk's blocks its copy has in common with it: those of closures alone. -/
def shared (κ : Foot) : Foot := fun g => if κ g = 1 then 1 else 0
theorem shared_one {κ : Foot} {g : Nat} (h : κ g = 1) : shared κ g = 1 := by simp [shared, h]
theorem shared_ne {κ : Foot} {g : Nat} (h : shared κ g ≠ 0) : κ g = 1 := by
  unfold shared at h
  by_cases e : κ g = 1
  · exact e
  · rw [if_neg e] at h; exact absurd rfl h
theorem rcells_put_sure {m room : Nat} {fuse : Int} {A B T : List Value} {lv : Value} (hA : A.length = 16) (hB : B.length = 16) (hT : T.length = 16) : (rcells m room fuse A B lv).take 19 ++ (T ++ (rcells m room fuse A B lv).drop (19 + T.length)) = rcells m room fuse A T lv := by
  unfold rcells
  rw [hT]
  simp [List.drop_append, hA, hB]
theorem shared_le (κ : Foot) (g : Nat) : shared κ g ≤ 1 := by unfold shared; split <;> omega
def mergeK (n : Nat) (a b : Foot) : Foot := fun g => if g < n then a g else b g
theorem mergeK_lt {n : Nat} (a b : Foot) {g : Nat} (h : g < n) : mergeK n a b g = a g := by simp [mergeK, h]
theorem mergeK_ge {n : Nat} (a b : Foot) {g : Nat} (h : n ≤ g) : mergeK n a b g = b g := by simp [mergeK, Nat.not_lt.2 h]
theorem Fr.merge {κ0 κ1 κ2 : Foot} {w1 w2 : World} (f : Fr κ0 (fun _ => False) w1 w2 κ2) (h0 : ∀ g, κ0 g ≠ 0 → g < w1.heap.size) : Fr κ1 (fun _ => False) w1 w2 (mergeK w1.heap.size κ1 κ2) :=
  ⟨f.os, f.tape, f.output, f.size, f.other, fun g hg => mergeK_lt _ _ hg, fun _ g hg => by
    rcases Nat.lt_or_ge g w1.heap.size with h | h
    · exact Nat.lt_of_lt_of_le h f.size
    · rw [mergeK_ge _ _ h] at hg; exact f.ins h0 g hg⟩
theorem FilesAt.fresh {κ0 κ2 : Foot} {w1 w2 : World} {N : Fs} {p : Nat → Option Addr} {c : Nat → Nat} (h : FilesAt w2 κ2 N p c) (f : Fr κ0 (fun _ => False) w1 w2 κ2) (h0 : ∀ g, κ0 g ≤ 2) (i : Nat) (hi : i < 16) (hc : 0 < c i) (g : Nat) (hg : p i = some ⟨g, 0, none⟩) : w1.heap.size ≤ g ∧ g < w2.heap.size := by
  obtain ⟨g', cur, h1, h2, h3, _⟩ := (h i hi).2.2.2 hc
  rw [hg] at h1
  cases h1
  refine ⟨?_, heap_lt h3⟩
  rcases Nat.lt_or_ge g w1.heap.size with q | q
  · have := f.foot g q; have := h0 g; omega
  · exact q
theorem FilesAt.merge {κ0 κ1 κ2 : Foot} {w1 w2 : World} {N : Fs} {p : Nat → Option Addr} {c : Nat → Nat} (h : FilesAt w2 κ2 N p c) (f : Fr κ0 (fun _ => False) w1 w2 κ2) (h0 : ∀ g, κ0 g ≤ 2) : FilesAt w2 (mergeK w1.heap.size κ1 κ2) N p c := fun i hi =>
  (h i hi).same (fun _ _ _ => rfl) (fun g _ e => by
    rcases Nat.lt_or_ge g w1.heap.size with q | q
    · have := f.foot g q; have := h0 g; omega
    · rw [mergeK_ge _ _ q]; exact e)
def zd : Array Value := (rcells 0 0 0 (sls noFs noP noC) (sls noFs noP noC) (.slice none 0 0)).toArray
theorem zeroD : (Try.prog.info? 56).bind (·.zero) = some (.agg zd) := by kernel_rfl
theorem sizeD (A B : List Value) (hA : A.length = 16) (hB : B.length = 16) (m room : Nat) (fuse : Int) (lv : Value) : (Try.prog.info? 56).map (·.size) = some (rcells m room fuse A B lv).toArray.size := by
  rw [List.size_toArray, rcells_length hA hB]
  kernel_rfl
theorem zd_size : zd.size = 36 := by rfl
attribute [irreducible] zd
theorem rcells_one {m room : Nat} {fuse : Int} {A B : List Value} {lv : Value} (hA : ∀ v ∈ A, v.oneCell' = true) (hB : ∀ v ∈ B, v.oneCell' = true) (hl : lv.oneCell' = true) : (rcells m room fuse A B lv).toArray.all (·.oneCell') = true := by
  apply all_oneCell_toArray
  intro v hv
  unfold rcells at hv
  rcases List.mem_append.1 hv with h | h
  · simp at h; rcases h with rfl | rfl | rfl <;> rfl
  · rcases List.mem_append.1 h with h | h
    · exact hA v h
    · rcases List.mem_append.1 h with h | h
      · exact hB v h
      · simp at h; subst h; exact hl
set_option maxRecDepth 100000 in
set_option maxHeartbeats 4000000 in
theorem Copy_any (w : World) (b : Nat) (κ : Foot) (d : DS) (h : IsD w b κ d) (hL : d.L.length ≤ 1000000) :
    Calls Try.prog 16 #[.pointer (some ⟨b, 0, none⟩)] w fun e w' => ∃ c, e = .returned (.pointer (some ⟨c, 0, none⟩)) ∧ ∃ κ', IsD w' c κ' d ∧ Fr (shared κ) (fun _ => False) w w' κ' ∧ c = w.heap.size := by
  obtain ⟨pn, qs, cn, ks, lp, lc, r, l⟩ := h.lay
  obtain ⟨c0, c1, c2, f2, _⟩ := h.cells
  have HT := Lib.hid (there_yes w b d.m h.ok.m1 c0)
  have HR := Lib.hid r
  have HRA : Hid (∀ u, Ext w u → u.rangeAt b 3 (sls d.now pn cn)) := Lib.hid fun u hu => (r.keep (w' := u) (fun g hg _ => hu.block g hg) hu.size).nowR
  have HRB : Hid (∀ u, Ext w u → u.rangeAt b 19 (sls d.S qs ks)) := Lib.hid fun u hu => (r.keep (w' := u) (fun g hg _ => hu.block g hg) hu.size).sureR
  have HCA := Lib.hid (fun u (hu : Ext w u) κ0 => copied_any u κ d.now pn cn (fun i hi => (r.slot i hi).1.ext hu) h.ok.now_size κ0)
  have HCB := Lib.hid (fun u (hu : Ext w u) κ0 => copied_any u κ d.S qs ks (fun i hi => (r.slot i hi).2.1.ext hu) h.ok.sizes κ0)
  have HZ := zero_runF zeroD
  have HSA := Lib.hid (sizedF d.now pn cn)
  have HSB := Lib.hid (sizedF d.S qs ks)
  have HBk := Lib.hid r.blk
  have HSD := Lib.hid (sizeD (sls d.now pn cn) (sls d.S qs ks) (sls_length _ _ _) (sls_length _ _ _) d.m d.room d.fuse (.slice lp d.L.length lc))
  have HO := Lib.hid (rcells_one (m := d.m) (room := d.room) (fuse := d.fuse) (lv := .slice lp d.L.length lc) (sls_one d.now pn cn) (sls_one d.S qs ks) rfl)
  have hle : zd.size = (rcells d.m d.room d.fuse (sls d.now pn cn) (sls d.S qs ks) (.slice lp d.L.length lc)).toArray.size := by rw [zd_size, List.size_toArray, rcells_length (sls_length _ _ _) (sls_length _ _ _)]
  have hbz : (w.alloc (.cells zd 56)).heap[w.heap.size]? = some (.cells zd 56 (0, 0)) := heap_alloc_new w _
  have HBz := Lib.hid hbz
  have c35 := (r.cells).2.2.2
  have hbw := r.blk.lt
  have hins := r.ins
  obtain ⟨fv, l1, l2, l3⟩ := l
  have HCl := Lib.hid (fun u (hu : Ext w u) κ0 => cloneC_any u κ 3 lp d.L.length lc fv (l1.ext hu) l3 hL κ0 3)
  have HLc := Lib.hid (And.intro l2 l3)
  have HOk := Lib.hid h.ok
  have hκ2 : ∀ g, setK (shared κ) w.heap.size 2 g ≤ 2 := fun g => by
    by_cases e : g = w.heap.size
    · subst e; rw [setK_same]; exact Nat.le_refl _
    · rw [setK_other _ _ e]; have := shared_le κ g; omega
  have HK2 := Lib.hid hκ2
  have HIns : Hid (∀ n, w.heap.size < n → ∀ g, setK (shared κ) w.heap.size 2 g ≠ 0 → g < n) := Lib.hid (fun n hn g hg => by
    by_cases e : g = w.heap.size
    · omega
    · rw [setK_other _ _ e] at hg
      have h1 := shared_ne hg
      have := hins g (by omega)
      omega)
  clear hκ2 hins l1 l2 l3 hL
  clear hbz h r
  generalize hT : sls d.now pn cn = TA at *
  generalize hT2 : sls d.S qs ks = TB at *
  generalize hC : (rcells d.m d.room d.fuse TA TB (.slice lp d.L.length lc)).toArray = C at *
  go_enter Try.func16, Try.ntmps16
  go_wp2_with (first
    | (go_at_call 34; refine (HT.out).mono ?_; rintro e w1 ⟨rfl, rfl⟩)
    | (refine wpList_load_row rfl 56 (.tmp 8) rfl b rfl 56 C (0, 0) _ (by rw [← hC]; exact HBk.out) Try.underlying56 rfl HSD.out ?_)
    | (refine wpList_store_row rfl 56 (.tmp 3) (.tmp 9) rfl w.heap.size C rfl rfl 56 _ HBz.out HSD.out hle HO.out ?_))
  have hb0 : Blk ((w.alloc (.cells zd 56)).setRow w.heap.size C) w.heap.size 56 (rcells d.m d.room d.fuse TA TB (.slice lp d.L.length lc)) := by
    rw [← hC]; exact setRow_heap _ _ _ _ _ _ HBz.out
  have hx0 : Ext w ((w.alloc (.cells zd 56)).setRow w.heap.size C) := ((Ext.refl w).alloc _).setRow (Nat.le_refl _) _
  have hsz0 : ((w.alloc (.cells zd 56)).setRow w.heap.size C).heap.size = w.heap.size + 1 := by simp
  generalize (w.alloc (.cells zd 56)).setRow w.heap.size C = U0 at *
  have hg0 : Fr (shared κ) (fun _ => False) w U0 (setK (shared κ) w.heap.size 2) := (hx0.fr _ _).claim _ _ (Nat.le_refl _) (by omega)
  have HB0 := Lib.hid hb0; have HX0 := Lib.hid hx0; have HG0 := Lib.hid hg0
  have x0 : Ext w U0.drew := hx0.drew
  have hU := Try.underlying53
  have hSA := HSA.out
  have hSB := HSB.out
  have hlenA : TA.length = 16 := by rw [← hT]; exact sls_length _ _ _
  have hlenB : TB.length = 16 := by rw [← hT2]; exact sls_length _ _ _
  have HLA := Lib.hid hlenA; have HLB := Lib.hid hlenB
  have HTA := Lib.hid hT; have HTB := Lib.hid hT2
  clear hb0 hx0 hg0 hsz0 hT hT2 hC hle hlenA hlenB
  refine wp_region_held_drew (S := fun u => Ext w u) (by kernel_rfl) x0 (fun _ => ?_)
  refine wpAnyH_take (i := 0) (v := ?_) rfl (by kernel_rfl) (by kernel_rfl) (by kernel_rfl) (fun _ _ _ h => h) (Or.inl ⟨by rfl, ?_⟩) x0 ?_
  rotate_left
  · intro u hSu; go_simp; with_reducible rfl
  dsimp only [Act.put]
  refine wpAnyH_take (i := 1) (v := ?_) rfl (by kernel_rfl) (by kernel_rfl) (by kernel_rfl) (fun _ _ _ h => h) (Or.inl ⟨by rfl, ?_⟩) x0 ?_
  rotate_left
  · intro u hSu; go_simp; with_reducible rfl
  dsimp only [Act.put]
  refine wpAnyH_take (i := 2) (v := ?_) rfl (by kernel_rfl) (by kernel_rfl) (by kernel_rfl) (fun _ _ _ h => h) (Or.inl ⟨by rfl, ?_⟩) x0 ?_
  rotate_left
  · intro u hSu; go_simp; with_reducible rfl
  dsimp only [Act.put]
  refine wpAnyH_take (i := 3) rfl (by kernel_rfl) (by kernel_rfl) (by kernel_rfl) (fun _ _ _ h => h) (yieldsIf_load_mid (by rfl) _ _ rfl b 3 rfl TA _ (fun u hu => HRA.out u hu) Try.underlying53 rfl HSA.out) x0 ?_
  dsimp only [Act.put]
  refine wpAnyH_take (i := 5) (v := ?_) rfl (by kernel_rfl) (by kernel_rfl) (by kernel_rfl) (fun _ _ _ h => h) (Or.inl ⟨by rfl, ?_⟩) x0 ?_
  rotate_left
  · intro u hSu; go_simp; with_reducible rfl
  dsimp only [Act.put]
  refine wpAnyH_take (i := 6) (v := ?_) rfl (by kernel_rfl) (by kernel_rfl) (by kernel_rfl) (fun _ _ _ h => h) (Or.inl ⟨by rfl, ?_⟩) x0 ?_
  rotate_left
  · intro u hSu; go_simp; with_reducible rfl
  dsimp only [Act.put]
  refine wpAnyH_take (i := 7) (v := ?_) rfl (by kernel_rfl) (by kernel_rfl) (by kernel_rfl) (fun _ _ _ h => h) (Or.inl ⟨by rfl, ?_⟩) x0 ?_
  rotate_left
  · intro u hSu; go_simp; with_reducible rfl
  dsimp only [Act.put]
  refine wpAnyH_take (i := 8) rfl (by kernel_rfl) (by kernel_rfl) (by kernel_rfl) (fun _ _ _ h => h) (yieldsIf_load_mid (by rfl) _ _ rfl b 19 rfl TB _ (fun u hu => HRB.out u hu) Try.underlying53 rfl HSB.out) x0 ?_
  dsimp only [Act.put]
  refine wpAnyH_ready (rs := [4]) (by kernel_rfl) (by simp) ?_
  refine AllReadyH.cons rfl (fun K hK => ?_) AllReadyH.nil
  go_simp
  go_at_call 35
  refine (HCA.out _ x0 (setK (shared κ) w.heap.size 2)).mono ?_
  rintro e w1 ⟨p1, k1, rfl, κ1, hF1, g1⟩
  have x1 : Ext w w1 := x0.trans g1.toExt
  have HF1 := Lib.hid hF1; have HG1 := Lib.hid g1
  obtain ⟨T1, hT1⟩ : ∃ T1, sls d.now p1 k1 = T1 := ⟨_, rfl⟩
  rw [hT1]
  have HT1 := Lib.hid hT1
  clear hT1 hF1 g1
  refine hK.out _ _ x1 (fun _ => ?_)
  clear hK K
  refine wpAnyH_ready (rs := [9]) (by kernel_rfl) (by simp) ?_
  refine AllReadyH.cons rfl (fun K hK => ?_) AllReadyH.nil
  go_simp
  go_at_call 35
  refine (HCB.out _ x1 (setK (shared κ) w.heap.size 2)).mono ?_
  rintro e w2 ⟨p2, k2, rfl, κ2, hF2, g2⟩
  have x2 : Ext w w2 := x1.trans g2.toExt
  have HF2 := Lib.hid hF2; have HG2 := Lib.hid g2
  obtain ⟨T2, hT2⟩ : ∃ T2, sls d.S p2 k2 = T2 := ⟨_, rfl⟩
  rw [hT2]
  have HT2 := Lib.hid hT2
  clear hT2 hF2 g2
  refine hK.out _ _ x2 (fun _ => ?_)
  clear hK K
  have hB2 := (HB0.out.drew.ext HG1.out.toExt).ext HG2.out.toExt
  have hl1 : T1.length = 16 := by rw [← HT1.out]; exact sls_length _ _ _
  have hl2 : T2.length = 16 := by rw [← HT2.out]; exact sls_length _ _ _
  have th3 : w2.there w.heap.size 3 T1.toArray.size := hB2.there 3 _ (by rw [List.size_toArray, hl1, rcells_length HLA.out HLB.out]; decide)
  have hB3 := hB2.setCells T1 3 _ (by rw [hl1, rcells_length HLA.out HLB.out]; decide)
  rw [rcells_put_now HLA.out hl1] at hB3
  have th19 : (w2.setCells w.heap.size 3 T1).there w.heap.size 19 T2.toArray.size := hB3.there 19 _ (by rw [List.size_toArray, hl2, rcells_length hl1 HLB.out]; decide)
  have hB4 := hB3.setCells T2 19 _ (by rw [hl2, rcells_length hl1 HLB.out]; decide)
  rw [rcells_put_sure hl1 HLB.out hl2] at hB4
  have hs1 : (Try.prog.info? 53).map (·.size) = some T1.toArray.size := by rw [← HT1.out]; exact sizedA _ _ _
  have hs2 : (Try.prog.info? 53).map (·.size) = some T2.toArray.size := by rw [← HT2.out]; exact sizedA _ _ _
  have ho1 : ∀ v ∈ T1, v.oneCell' = true := by rw [← HT1.out]; exact sls_one _ _ _
  have ho2 : ∀ v ∈ T2, v.oneCell' = true := by rw [← HT2.out]; exact sls_one _ _ _
  have x3 : Ext w (w2.setCells w.heap.size 3 T1) := x2.setCells (Nat.le_refl _) _ _
  have x4 : Ext w ((w2.setCells w.heap.size 3 T1).setCells w.heap.size 19 T2) := x3.setCells (Nat.le_refl _) _ _
  refine wpAnyH_take (i := 10) (v := ?_) rfl (by kernel_rfl) (by kernel_rfl) (by kernel_rfl) (fun _ _ _ h => h) (Or.inl ⟨by rfl, ?_⟩) x2 ?_
  rotate_left
  · intro u hSu; go_simp; with_reducible rfl
  refine wpAnyH_ready (rs := [11]) (by kernel_rfl) (by simp) ?_
  refine AllReadyH.cons rfl (fun K hK => ?_) AllReadyH.nil
  rw [if_pos (by rfl)]
  refine wp_store_mid _ _ _ rfl w.heap.size 3 T1.toArray rfl rfl th3 hs1 (all_oneCell_toArray ho1) ?_
  rw [List.toList_toArray]
  refine hK.out _ _ x3 (fun _ => ?_)
  clear hK K
  refine wpAnyH_take (i := 12) (v := ?_) rfl (by kernel_rfl) (by kernel_rfl) (by kernel_rfl) (fun _ _ _ h => h) (Or.inl ⟨by rfl, ?_⟩) x3 ?_
  rotate_left
  · intro u hSu; go_simp; with_reducible rfl
  refine wpAnyH_ready (rs := [13]) (by kernel_rfl) (by simp) ?_
  refine AllReadyH.cons rfl (fun K hK => ?_) AllReadyH.nil
  rw [if_pos (by rfl)]
  refine wp_store_mid _ _ _ rfl w.heap.size 19 T2.toArray rfl rfl th19 hs2 (all_oneCell_toArray ho2) ?_
  rw [List.toList_toArray]
  refine hK.out _ _ x4 (fun _ => ?_)
  clear hK K
  refine wpAnyH_done (by kernel_rfl) ?_ _
  have hxe : Ext w2 ((w2.setCells w.heap.size 3 T1).setCells w.heap.size 19 T2) → True := fun _ => trivial
  clear hxe
  have hoth : ∀ g, g ≠ w.heap.size → ((w2.setCells w.heap.size 3 T1).setCells w.heap.size 19 T2).heap[g]? = w2.heap[g]? := fun g hg => (setCells_other _ hg T2 19 _).trans (setCells_other _ hg T1 3 _)
  have hf4 : Fr (mergeK w1.heap.size κ1 κ2) (· = 2) w2 ((w2.setCells w.heap.size 3 T1).setCells w.heap.size 19 T2) (mergeK w1.heap.size κ1 κ2) → True := fun _ => trivial
  clear hf4
  have hs4 : ((w2.setCells w.heap.size 3 T1).setCells w.heap.size 19 T2).heap.size = w2.heap.size := by rw [setCells_drew, setCells_drew]
  have hos4 : ((w2.setCells w.heap.size 3 T1).setCells w.heap.size 19 T2).os = w2.os ∧ ((w2.setCells w.heap.size 3 T1).setCells w.heap.size 19 T2).tape = w2.tape ∧ ((w2.setCells w.heap.size 3 T1).setCells w.heap.size 19 T2).output = w2.output := by
    have a1 := setCells_fr (κ := fun _ => 0) (P := fun _ => True) (b := w.heap.size) trivial T1 3 w2
    have a2 := setCells_fr (κ := fun _ => 0) (P := fun _ => True) (b := w.heap.size) trivial T2 19 (w2.setCells w.heap.size 3 T1)
    exact ⟨a2.os.trans a1.os, a2.tape.trans a1.tape, a2.output.trans a1.output⟩
  have HOth := Lib.hid (And.intro hoth (And.intro hs4 hos4))
  have HB4 := Lib.hid hB4
  have HX4 := Lib.hid x4
  have HX1 := Lib.hid x1
  have c35' : ((w2.setCells w.heap.size 3 T1).setCells w.heap.size 19 T2).cell? ⟨b, 35, none⟩ = some (.slice lp d.L.length lc) := (x4.below.cell (p := ⟨b, 35, none⟩) hbw).trans c35
  clear hoth hs4 hos4 hB4 hB3 hB2 th3 th19 hs1 hs2 ho1 ho2 x3 x2 x1 x0 x4 hSA hSB hU
  revert HOth HB4 HX4 c35'
  generalize (w2.setCells w.heap.size 3 T1).setCells w.heap.size 19 T2 = U4
  intro HOth HB4 HX4 c35'
  go_wp2_with (go_at_call 36; refine (HCl.out _ HX4.out (mergeK w1.heap.size κ1 κ2)).mono ?_; rintro e w5 ⟨q5, k5, rfl, κ5, s5, g5⟩; have HS5 := Lib.hid s5; have HG5 := Lib.hid g5; have HB5 := Lib.hid (HB4.out.ext g5.toExt); have cc5 := HB5.out.cell 35 _ (rcells_loose hl1 hl2); have ff5 := HB5.out.frozen 35; clear s5 g5)
  go_ret
  have hlt0 : w.heap.size < U0.heap.size := HB0.out.lt
  have hlt1 : w.heap.size < w1.heap.size := Nat.lt_of_lt_of_le hlt0 HG1.out.size
  have hlt2 : w.heap.size < w2.heap.size := Nat.lt_of_lt_of_le hlt1 HG2.out.size
  have hlt4 : w.heap.size < U4.heap.size := by rw [HOth.out.2.1]; exact hlt2
  have ho : ∀ g, g ≠ w.heap.size → (w5.setCell ⟨w.heap.size, 35, none⟩ (.slice q5 d.L.length k5)).heap[g]? = w5.heap[g]? := fun g hg => Below.heap_setCell _ _ _ _ hg
  have hB2 := (HB0.out.drew.ext HG1.out.toExt).ext HG2.out.toExt
  have g2m := HG2.out.merge (κ1 := κ1) (HIns.out _ hlt1)
  have hxw : Ext w (w5.setCell ⟨w.heap.size, 35, none⟩ (.slice q5 d.L.length k5)) := (HX4.out.trans HG5.out.toExt).setCell (Nat.le_refl _) _
  have hfoot : ∀ g, g < w.heap.size → κ5 g = shared κ g := fun g hg => by
    rw [HG5.out.foot g (by omega), mergeK_lt _ _ (by omega), HG1.out.foot g (by show g < U0.heap.size; omega), setK_other _ _ (by omega)]
  have hins1 : ∀ g, mergeK w1.heap.size κ1 κ2 g ≠ 0 → g < U4.heap.size := by
    rw [HOth.out.2.1]
    exact g2m.ins (HG1.out.ins (HIns.out _ hlt0))
  have hins5 : ∀ g, κ5 g ≠ 0 → g < (w5.setCell ⟨w.heap.size, 35, none⟩ (.slice q5 d.L.length k5)).heap.size := fun g hg => by
    have := HG5.out.ins hins1 g hg
    simpa [World.setCell] using this
  have hfiles : ∀ N p c, FilesAt w2 (mergeK w1.heap.size κ1 κ2) N p c → FilesAt (w5.setCell ⟨w.heap.size, 35, none⟩ (.slice q5 d.L.length k5)) κ5 N p c := fun N p c hF i hi =>
    (((hF i hi).parted hB2 (by decide) HOth.out.1).fr HG5.out (fun x => x)).parted HB5.out (by decide) ho
  have hf1 := hfiles _ _ _ (fun i hi => (HF1.out i hi).fr g2m (fun x => x))
  have hf2 := hfiles _ _ _ (HF2.out.merge HG2.out HK2.out)
  refine ⟨w.heap.size, rfl, κ5, ⟨⟨p1, p2, k1, k2, q5, k5, ⟨?_, fun i hi => ⟨hf1 i hi, hf2 i hi, fun g hp hq => ?_⟩, ?_, hins5⟩, ?_⟩, HOk.out⟩, ⟨hxw.os, hxw.tape, hxw.output, hxw.size, fun g hg _ => hxw.block g hg, hfoot, fun _ => hins5⟩, rfl⟩
  · have := HB5.out.set_ 35 (.slice q5 d.L.length k5)
    rw [rcells_set_loose hl1 hl2] at this
    rw [HT1.out, HT2.out]
    exact this
  · by_cases e1 : k1 i = 0
    · left
      have := (HF1.out i hi).2.1
      omega
    · by_cases e2 : k2 i = 0
      · right
        have := (HF2.out i hi).2.1
        omega
      · exfalso
        have h1 := (HF2.out.fresh HG2.out HK2.out i hi (by omega) g hq).1
        obtain ⟨g', cur, q1, q2, q3, _⟩ := (HF1.out i hi).2.2.2 (by omega)
        rw [hp] at q1
        cases q1
        have := heap_lt q3
        omega
  · rw [HG5.out.foot _ hlt4, mergeK_lt _ _ hlt1, HG1.out.foot _ hlt0, setK_same]
  · refine ⟨fv, HS5.out.parted HB5.out (by decide) ho, fun j c hj => ?_, HLc.out.2⟩
    obtain ⟨v, hv, hch⟩ := HLc.out.1 j c hj
    exact ⟨v, hv, hch.same (fun g hg _ => hxw.block g hg) (fun g hg e => (hfoot g hg).trans (shared_one e))⟩
end Go.Proofs.Ytgbhadgkkefokaa
