/- Contracts: a change is done and kept as loose; what is there is there for good; Write, Cut, Sync. -/
import Derived.Test.YtbekdcpdfmfopaaGreatActCut
namespace Go.Proofs.YtbekdcpdfmfopaaGreat
open Go.RowKit

theorem Raw.settle {w : World} {b : Nat} {κ : Foot} {m room : Nat} {fuse : Int} {N S : Fs} {pn qs : Nat → Option Addr} {cn ks : Nat → Nat} {lv : Value} (r : Raw w b κ m room fuse N S pn qs cn ks lv) :
    Raw ((w.setCells b 19 (sls N pn cn)).setCell ⟨b, 35, none⟩ (.slice none 0 0)) b κ m room fuse N N pn pn cn cn (.slice none 0 0) ∧ Fr κ (· = 2) w ((w.setCells b 19 (sls N pn cn)).setCell ⟨b, 35, none⟩ (.slice none 0 0)) κ := by
  have hf : Fr κ (· = 2) w ((w.setCells b 19 (sls N pn cn)).setCell ⟨b, 35, none⟩ (.slice none 0 0)) κ := (setCells_fr (P := (· = 2)) r.disk (sls N pn cn) 19 w).setCell r.disk _
  have hl : 19 + (sls N pn cn).length ≤ (rcells m room fuse (sls N pn cn) (sls S qs ks) lv).length := by rw [sls_length, rcells_length (sls_length _ _ _) (sls_length _ _ _)]; decide
  have h1 := r.blk.setCells (sls N pn cn) 19 _ hl
  have e : (rcells m room fuse (sls N pn cn) (sls S qs ks) lv).take 19 ++ (sls N pn cn ++ (rcells m room fuse (sls N pn cn) (sls S qs ks) lv).drop (19 + (sls N pn cn).length)) = rcells m room fuse (sls N pn cn) (sls N pn cn) lv := by
    have ha := sls_length N pn cn
    have hb := sls_length S qs ks
    generalize sls N pn cn = A at *
    generalize sls S qs ks = B at *
    unfold rcells
    rw [ha]
    simp [List.drop_append, ha, hb]
  rw [e] at h1
  have h2 := h1.set_ 35 (.slice none 0 0)
  rw [rcells_set_loose (sls_length _ _ _) (sls_length _ _ _)] at h2
  have hs : ∀ i, i < 16 → Sl ((w.setCells b 19 (sls N pn cn)).setCell ⟨b, 35, none⟩ (.slice none 0 0)) κ (4 + i) 1 5 (pn i) (N i).size (cn i) (byteCells (N i)) := fun i hi => (r.slot i hi).1.fr hf (by omega)
  exact ⟨⟨h2, fun i hi => ⟨hs i hi, hs i hi, Al.same _ _ _ _⟩, r.disk, hf.ins r.ins⟩, hf⟩
theorem settle_any (w : World) (b : Nat) (κ : Foot) (m room : Nat) (fuse : Int) (N S : Fs) (pn qs : Nat → Option Addr) (cn ks : Nat → Nat) (lv : Value) (r : Raw w b κ m room fuse N S pn qs cn ks lv) :
    Calls Tryz.prog 49 #[.pointer (some ⟨b, 0, none⟩)] w fun e w' => e = .returned (.tuple #[]) ∧ Raw w' b κ m room fuse N N pn pn cn cn (.slice none 0 0) ∧ Fr κ (· = 2) w w' κ := by
  have HS := Lib.hid r.settle
  have HR := Lib.hid r.nowR
  have HZ := Lib.hid (sizedF N pn cn)
  have HA := Lib.hid (sizedA N pn cn)
  have HO := Lib.hid (sls_all N pn cn)
  have HL := Lib.hid (sls_length N pn cn)
  have HT : Hid (w.there b 19 (sls N pn cn).toArray.size) := Lib.hid (r.blk.there 19 _ (by rw [List.size_toArray, sls_length, rcells_length (sls_length _ _ _) (sls_length _ _ _)]; decide))
  have hl : 19 + (sls N pn cn).length ≤ (rcells m room fuse (sls N pn cn) (sls S qs ks) lv).length := by rw [sls_length, rcells_length (sls_length _ _ _) (sls_length _ _ _)]; decide
  have hb1 := r.blk.setCells (sls N pn cn) 19 _ hl
  have c35 : ∃ g, (w.setCells b 19 (sls N pn cn)).cell? ⟨b, 35, none⟩ = some g := by
    have hlen : 35 < ((rcells m room fuse (sls N pn cn) (sls S qs ks) lv).take 19 ++ (sls N pn cn ++ (rcells m room fuse (sls N pn cn) (sls S qs ks) lv).drop (19 + (sls N pn cn).length))).length := by
      simp only [List.length_append, List.length_take, List.length_drop, sls_length, rcells_length (sls_length N pn cn) (sls_length S qs ks)]; decide
    exact ⟨_, hb1.cell 35 _ (List.getElem?_eq_getElem hlen)⟩
  obtain ⟨g35, c35⟩ := c35
  have f35 := hb1.frozen 35
  clear r hb1 hl
  generalize sls N pn cn = T at *
  go_enter Tryz.func49, Tryz.ntmps49
  go_wp2_with (first
    | (refine wpList_load_mid rfl 82 (.tmp 5) rfl b 3 rfl T _ HR.out Tryz.underlying82 rfl HZ.out ?_)
    | (refine wpList_store_mid rfl 82 (.tmp 8) (.tmp 6) rfl b 19 T.toArray rfl rfl HT.out HA.out HO.out ?_; rw [List.toList_toArray]))
  go_end0
  exact ⟨rfl, HS.out⟩
theorem Sl.ofBlk {w : World} {κ : Foot} {k z : Nat} {T : TypeId} {g n : Nat} {vs : List Value} (h : Blk w g T vs) (hn : vs.length = n * z) (hk : κ g = k) : Sl w κ k z T (some ⟨g, 0, none⟩) n n vs :=
  ⟨hn, Nat.le_refl _, .inr ⟨g, rfl⟩, fun _ => ⟨g, vs.toArray, rfl, hk, h, by simp [hn], fun j u hj => by simpa using hj⟩⟩
theorem Raw.setLoose {w w1 : World} {b : Nat} {κ κ1 : Foot} {m room : Nat} {fuse : Int} {N S : Fs} {pn qs : Nat → Option Addr} {cn ks : Nat → Nat} {lv : Value} (r : Raw w b κ m room fuse N S pn qs cn ks lv) (f : Fr κ (· = 3) w w1 κ1) (v : Value) :
    Raw (w1.setCell ⟨b, 35, none⟩ v) b κ1 m room fuse N S pn qs cn ks v ∧ Fr κ (2 ≤ ·) w (w1.setCell ⟨b, 35, none⟩ v) κ1 := by
  have hb1 := f.blk r.blk (by rw [r.disk]; decide)
  have hk : κ1 b = 2 := (f.foot b r.blk.lt).trans r.disk
  have hf : Fr κ (2 ≤ ·) w (w1.setCell ⟨b, 35, none⟩ v) κ1 := (f.mono (P' := (2 ≤ ·)) (fun k e => by subst e; decide)).setCell (by show 2 ≤ κ1 b; rw [hk]; exact Nat.le_refl _) _
  have h2 := hb1.set_ 35 v
  rw [rcells_set_loose (sls_length _ _ _) (sls_length _ _ _)] at h2
  have ho : ∀ g, g ≠ b → (w1.setCell ⟨b, 35, none⟩ v).heap[g]? = w1.heap[g]? := fun g hg => Below.heap_setCell _ _ _ _ hg
  exact ⟨⟨h2, fun i hi => ⟨((r.slot i hi).1.fr f (by omega)).parted hb1 (by decide) ho, ((r.slot i hi).2.1.fr f (by omega)).parted hb1 (by decide) ho, (r.slot i hi).2.2⟩, hk, hf.ins r.ins⟩, hf⟩
/-- What the closure does, where the whole of it is done. -/
theorem does_any (w : World) (b : Nat) (κ : Foot) (m room : Nat) (fuse : Int) (N S : Fs) (pn qs : Nat → Option Addr) (cn ks : Nat → Nat) (lv : Value) (r : Raw w b κ m room fuse N S pn qs cn ks lv) (hm : m ≤ 16) (f : Nat) (s : ByteArray) (hc : Chg.ok m N (.wr f s)) (a e : Nat)
    (ha : Blk w a 9 [.string s]) (he : Blk w e 3 [.int .i64 (f : Int)]) (hka : κ a = 1) (hke : κ e = 1) :
    Calls Tryz.prog 98 #[.pointer (some ⟨b, 3, none⟩), .int .i64 (-1), .pointer (some ⟨a, 0, none⟩), .pointer (some ⟨e, 0, none⟩)] w fun e w' => e = .returned (.tuple #[]) ∧ ∃ pn' cn' κ', Raw w' b κ' m room fuse (Chg.does N (.wr f s)) S pn' qs cn' ks lv ∧ Fr κ (fun j => j = 2 ∨ 4 ≤ j) w w' κ' := by
  have := act_wr w b κ m room fuse N S pn qs cn ks lv r f (by have := hc.1; omega) s a e ha he hka hke (-1) s.size (.inl ⟨rfl, rfl⟩) hc.2
  rw [extract_all] at this
  exact this
set_option maxRecDepth 100000 in
set_option maxHeartbeats 2000000 in
theorem do_any (w : World) (b : Nat) (κ : Foot) (d : DS) (h : IsD w b κ d) (c : Chg) (v : Value) (hv : IsChg w κ v c) (hc : c.ok d.m d.now) (hL : d.L.length ≤ 1000000) :
    Calls Tryz.prog 79 #[.pointer (some ⟨b, 0, none⟩), v] w fun e w' => e = .returned (.tuple #[]) ∧ Post w b κ w' { d with L := d.L ++ [c] } := by
  obtain ⟨pn, qs, cn, ks, lp, lc, r, l⟩ := h.lay
  have HOk : Hid ({ d with L := d.L ++ [c] } : DS).Ok := Lib.hid ⟨h.ok.m1, h.ok.m16, h.ok.room, h.ok.fuse0, h.ok.fuse1, h.ok.sizes, h.ok.none, oks_snoc h.ok.oks hc⟩
  have hm := h.ok.m16
  have HN : Hid (({ d with L := d.L ++ [c] } : DS).now = c.does d.now) := Lib.hid (runs_snoc _ _ _)
  have HC := Lib.hid hv
  have HStep : Hid (∀ w1, (∃ pn' cn' κ', Raw w1 b κ' d.m d.room d.fuse (c.does d.now) d.S pn' qs cn' ks (.slice lp d.L.length lc) ∧ Fr κ (fun j => j = 2 ∨ 4 ≤ j) w w1 κ') → ∃ pn' cn' κ', Hid (Raw w1 b κ' d.m d.room d.fuse (c.does d.now) d.S pn' qs cn' ks (.slice lp d.L.length lc)) ∧ Hid (Fr κ (fun j => j = 2 ∨ 4 ≤ j) w w1 κ') ∧ Hid (IsChg w1 κ' v c) ∧ ∃ fv, Hid (Sl w1 κ' 3 1 98 lp d.L.length lc fv) ∧ Hid ((∀ (j : Nat) (c : Chg), d.L[j]? = some c → ∃ v, fv[j]? = some v ∧ IsChg w1 κ' v c) ∧ ∀ u ∈ fv, u.oneCell' = true)) := Lib.hid (by
    rintro w1 ⟨pn', cn', κ', h1, h2⟩
    obtain ⟨fv, l1, l2⟩ := l.fr h2 (by omega) (by omega)
    exact ⟨pn', cn', κ', h1, h2, hv.same (fun g hg e => h2.other g hg (by omega)) (fun g hg e => (h2.foot g hg).trans e), fv, l1, l2⟩)
  have h63 : d.L.length + 1 ≤ 1000000000 := by omega
  clear hL
  cases c with
  | wr f s =>
    obtain ⟨a, e, rfl, ka, ke, ba, be⟩ := hv
    have HA := Lib.hid (does_any w b κ d.m d.room d.fuse d.now d.S pn qs cn ks _ r hm f s hc a e ba be ka ke)
    clear r l ba be h hc
    go_enter Tryz.func79, Tryz.ntmps79
    go_wp2_with (first
      | (go_at_call 98; refine (HA.out).mono ?_; rintro e w1 ⟨rfl, hw1⟩; obtain ⟨pn1, cn1, κ1, HR1, HF1, HC1, fv, HL1, HL2⟩ := HStep.out w1 hw1; have d35 := (HR1.out.cells).2.2.2; clear hw1)
      | (refine wpList_append_sl rfl (.tmp 13) (.tmp 15) 83 83 rfl Tryz.underlying83 infoC rfl (by decide) rfl (HL1.out.ext ((Ext.refl _).alloc _)) HL2.out.2 _ rfl 1 [Value.func (.func 98) #[] #[.pointer (some ⟨a, 0, none⟩), .pointer (some ⟨e, 0, none⟩)]] ((Sl.ofBlk (κ := fun _ => 0) (z := 1) (Blk.new _ [Value.func (.func 98) #[] #[.pointer (some ⟨a, 0, none⟩), .pointer (some ⟨e, 0, none⟩)]] 98) rfl rfl).src Tryz.underlying83 (by intro u hu; simp at hu; subst hu; rfl)) h63 ?_; intro p2 c2 w3 κ3 s3 f3 _ _ _; have f4 := (Fr.alloc (Fr.refl κ1 (· = 3) w1) (.cells #[Value.func (.func 98) #[] #[.pointer (some ⟨a, 0, none⟩), .pointer (some ⟨e, 0, none⟩)]] 98)).trans f3; have q3 := HR1.out.setLoose f4 (.slice p2 (d.L.length + 1) c2); have HQ := Lib.hid q3; have HS3 := Lib.hid s3; have HF4 := Lib.hid f4; have hb3 := f4.blk HR1.out.blk (by rw [HR1.out.disk]; decide); have c35 := hb3.cell 35 _ (rcells_loose (sls_length _ _ _) (sls_length _ _ _)); have fz35 := hb3.frozen 35; have HB3 := Lib.hid hb3; clear s3 f3 f4 q3 hb3))
    go_end0
    refine ⟨rfl, κ3, ⟨⟨pn1, qs, cn1, ks, p2, c2, ?_, ?_⟩, HOk.out⟩, (HF1.out.mono (P' := (2 ≤ ·)) (fun k e => by show 2 ≤ k; omega)).trans HQ.out.2⟩
    · rw [HN.out]
      have := HQ.out.1
      rw [List.length_append]
      exact this
    · have ho : ∀ g, g ≠ b → (w3.setCell ⟨b, 35, none⟩ (.slice p2 (d.L.length + 1) c2)).heap[g]? = w3.heap[g]? := fun g hg => Below.heap_setCell _ _ _ _ hg
      refine ⟨fv ++ [Value.func (.func 98) #[] #[.pointer (some ⟨a, 0, none⟩), .pointer (some ⟨e, 0, none⟩)]], ?_, fun j c hj => ?_, ?_⟩
      · rw [List.length_append]
        exact HS3.out.parted HB3.out (by decide) ho
      · have hkeep : ∀ u cc, IsChg w1 κ1 u cc → IsChg (w3.setCell ⟨b, 35, none⟩ (.slice p2 (d.L.length + 1) c2)) κ3 u cc := fun u cc hu =>
          hu.same (fun g hg e => HQ.out.2.other g hg (by rw [e]; decide)) (fun g hg e => (HQ.out.2.foot g hg).trans e)
        have hfl : fv.length = d.L.length := by have := HL1.out.1; omega
        rcases Nat.lt_trichotomy j d.L.length with hlt | rfl | hgt
        · rw [List.getElem?_append_left hlt] at hj
          obtain ⟨u, hu, huc⟩ := HL2.out.1 j c hj
          exact ⟨u, by rw [List.getElem?_append_left (by omega)]; exact hu, hkeep _ _ huc⟩
        · rw [List.getElem?_append_right (Nat.le_refl _)] at hj
          simp at hj
          subst hj
          exact ⟨_, by rw [List.getElem?_append_right (by omega)]; simp [hfl], hkeep _ _ HC1.out⟩
        · rw [List.getElem?_eq_none (by simp; omega)] at hj
          cases hj
      · intro u hu
        rcases List.mem_append.1 hu with h1 | h1
        · exact HL2.out.2 u h1
        · simp at h1
          subst h1
          rfl
  | cut f n =>
    obtain ⟨a, e, rfl, ka, ke, ba, be⟩ := hv
    have HA := Lib.hid (act_cut w b κ d.m d.room d.fuse d.now d.S pn qs cn ks _ r f (by have := hc.1; omega) n hc.2 a e ba be ka ke)
    clear r l ba be h hc
    go_enter Tryz.func79, Tryz.ntmps79
    go_wp2_with (first
      | (go_at_call 111; refine (HA.out).mono ?_; rintro e w1 ⟨rfl, hw1⟩; obtain ⟨pn1, cn1, κ1, HR1, HF1, HC1, fv, HL1, HL2⟩ := HStep.out w1 hw1; have d35 := (HR1.out.cells).2.2.2; clear hw1)
      | (refine wpList_append_sl rfl (.tmp 13) (.tmp 15) 83 83 rfl Tryz.underlying83 infoC rfl (by decide) rfl (HL1.out.ext ((Ext.refl _).alloc _)) HL2.out.2 _ rfl 1 [Value.func (.func 111) #[] #[.pointer (some ⟨a, 0, none⟩), .pointer (some ⟨e, 0, none⟩)]] ((Sl.ofBlk (κ := fun _ => 0) (z := 1) (Blk.new _ [Value.func (.func 111) #[] #[.pointer (some ⟨a, 0, none⟩), .pointer (some ⟨e, 0, none⟩)]] 98) rfl rfl).src Tryz.underlying83 (by intro u hu; simp at hu; subst hu; rfl)) h63 ?_; intro p2 c2 w3 κ3 s3 f3 _ _ _; have f4 := (Fr.alloc (Fr.refl κ1 (· = 3) w1) (.cells #[Value.func (.func 111) #[] #[.pointer (some ⟨a, 0, none⟩), .pointer (some ⟨e, 0, none⟩)]] 98)).trans f3; have q3 := HR1.out.setLoose f4 (.slice p2 (d.L.length + 1) c2); have HQ := Lib.hid q3; have HS3 := Lib.hid s3; have HF4 := Lib.hid f4; have hb3 := f4.blk HR1.out.blk (by rw [HR1.out.disk]; decide); have c35 := hb3.cell 35 _ (rcells_loose (sls_length _ _ _) (sls_length _ _ _)); have fz35 := hb3.frozen 35; have HB3 := Lib.hid hb3; clear s3 f3 f4 q3 hb3))
    go_end0
    refine ⟨rfl, κ3, ⟨⟨pn1, qs, cn1, ks, p2, c2, ?_, ?_⟩, HOk.out⟩, (HF1.out.mono (P' := (2 ≤ ·)) (fun k e => by show 2 ≤ k; omega)).trans HQ.out.2⟩
    · rw [HN.out]
      have := HQ.out.1
      rw [List.length_append]
      exact this
    · have ho : ∀ g, g ≠ b → (w3.setCell ⟨b, 35, none⟩ (.slice p2 (d.L.length + 1) c2)).heap[g]? = w3.heap[g]? := fun g hg => Below.heap_setCell _ _ _ _ hg
      refine ⟨fv ++ [Value.func (.func 111) #[] #[.pointer (some ⟨a, 0, none⟩), .pointer (some ⟨e, 0, none⟩)]], ?_, fun j c hj => ?_, ?_⟩
      · rw [List.length_append]
        exact HS3.out.parted HB3.out (by decide) ho
      · have hkeep : ∀ u cc, IsChg w1 κ1 u cc → IsChg (w3.setCell ⟨b, 35, none⟩ (.slice p2 (d.L.length + 1) c2)) κ3 u cc := fun u cc hu =>
          hu.same (fun g hg e => HQ.out.2.other g hg (by rw [e]; decide)) (fun g hg e => (HQ.out.2.foot g hg).trans e)
        have hfl : fv.length = d.L.length := by have := HL1.out.1; omega
        rcases Nat.lt_trichotomy j d.L.length with hlt | rfl | hgt
        · rw [List.getElem?_append_left hlt] at hj
          obtain ⟨u, hu, huc⟩ := HL2.out.1 j c hj
          exact ⟨u, by rw [List.getElem?_append_left (by omega)]; exact hu, hkeep _ _ huc⟩
        · rw [List.getElem?_append_right (Nat.le_refl _)] at hj
          simp at hj
          subst hj
          exact ⟨_, by rw [List.getElem?_append_right (by omega)]; simp [hfl], hkeep _ _ HC1.out⟩
        · rw [List.getElem?_eq_none (by simp; omega)] at hj
          cases hj
      · intro u hu
        rcases List.mem_append.1 hu with h1 | h1
        · exact HL2.out.2 u h1
        · simp at h1
          subst h1
          rfl
end Go.Proofs.YtbekdcpdfmfopaaGreat
