/- Contract: Spoil. -/
import Derived.Test.YtgbhadgkkefokaaWrite
import Derived.Laws.BitsAllLaws
namespace Go.Proofs.Ytgbhadgkkefokaa
open Go.RowKit

theorem byte_xor (x b : Nat) (hx : x < 256) (hb : b < 256) : bits BinOp.xor IntKind.u8 (x : Int) (b : Int) = ((x ^^^ b : Nat) : Int) := u8_xor_nat _ _ hx hb
theorem xorAt_cells (s : ByteArray) (i b : Nat) (hb : b < 256) (x : UInt8) (hx : s.data.toList[i]? = some x) : byteCells (xorAt s i b) = (byteCells s).set i (.int .u8 ((x.toNat ^^^ b : Nat) : Int)) := by
  unfold byteCells xorAt
  have e : (s.data.toList.getD i 0) = x := by simp [List.getD, hx]
  rw [e]
  show List.map _ (s.data.toList.set i _) = _
  rw [List.map_set]
  congr 1
  simp [Nat.mod_eq_of_lt hb]
theorem Sl.setOne {w : World} {κ : Foot} {k : Nat} {T : TypeId} {g n c : Nat} {vs : List Value} (h : Sl w κ k 1 T (some ⟨g, 0, none⟩) n c vs) (i : Nat) (v : Value) : Sl (w.setCell ⟨g, i, none⟩ v) κ k 1 T (some ⟨g, 0, none⟩) n c (vs.set i v) := by
  refine ⟨by rw [List.length_set]; exact h.1, h.2.1, h.2.2.1, fun hc => ?_⟩
  obtain ⟨g2, cur, h1, h2, h3, h4, h5⟩ := h.2.2.2 hc
  cases h1
  refine ⟨g, cur.setIfInBounds i v, rfl, h2, by simp [World.setCell, Array.getElem?_modify, h3], by simpa using h4, fun j u hj => ?_⟩
  rw [Array.getElem?_setIfInBounds]
  rw [List.getElem?_set] at hj
  by_cases e : i = j
  · subst e
    have hl : i < vs.length := by
      rcases Nat.lt_or_ge i vs.length with q | q
      · exact q
      · rw [if_pos rfl, if_neg (by omega)] at hj; cases hj
    rw [if_pos rfl, if_pos hl] at hj
    have : i < cur.size := by have := h.1; have := h.2.1; omega
    rw [if_pos rfl, if_pos this]
    exact hj
  · rw [if_neg e] at hj
    rw [if_neg e]
    exact h5 j u hj
/-- The disk's block, of which the files count alone. -/
structure Raw0 (w : World) (b : Nat) (κ : Foot) (m room : Nat) (fuse : Int) (N : Fs) (pn : Nat → Option Addr) (cn : Nat → Nat) (B : List Value) (lv : Value) : Prop where
  len : B.length = 16
  blk : Blk w b 56 (rcells m room fuse (sls N pn cn) B lv)
  slot : ∀ i, i < 16 → Sl w κ (4 + i) 1 5 (pn i) (N i).size (cn i) (byteCells (N i))
  disk : κ b = 2
  ins : ∀ g, κ g ≠ 0 → g < w.heap.size
theorem Raw0.settle {w : World} {b : Nat} {κ : Foot} {m room : Nat} {fuse : Int} {N : Fs} {pn : Nat → Option Addr} {cn : Nat → Nat} {B : List Value} {lv : Value} (r : Raw0 w b κ m room fuse N pn cn B lv) :
    Raw ((w.setCells b 19 (sls N pn cn)).setCell ⟨b, 35, none⟩ (.slice none 0 0)) b κ m room fuse N N pn pn cn cn (.slice none 0 0) ∧ Fr κ (· = 2) w ((w.setCells b 19 (sls N pn cn)).setCell ⟨b, 35, none⟩ (.slice none 0 0)) κ := by
  have hf : Fr κ (· = 2) w ((w.setCells b 19 (sls N pn cn)).setCell ⟨b, 35, none⟩ (.slice none 0 0)) κ := (setCells_fr (P := (· = 2)) r.disk (sls N pn cn) 19 w).setCell r.disk _
  have hl : 19 + (sls N pn cn).length ≤ (rcells m room fuse (sls N pn cn) B lv).length := by rw [sls_length, rcells_length (sls_length _ _ _) r.len]; decide
  have h1 := r.blk.setCells (sls N pn cn) 19 _ hl
  have e : (rcells m room fuse (sls N pn cn) B lv).take 19 ++ (sls N pn cn ++ (rcells m room fuse (sls N pn cn) B lv).drop (19 + (sls N pn cn).length)) = rcells m room fuse (sls N pn cn) (sls N pn cn) lv := by
    have ha := sls_length N pn cn
    have hb := r.len
    generalize sls N pn cn = A at *
    unfold rcells
    rw [ha]
    simp [List.drop_append, ha, hb]
  rw [e] at h1
  have h2 := h1.set_ 35 (.slice none 0 0)
  rw [rcells_set_loose (sls_length _ _ _) (sls_length _ _ _)] at h2
  have hs : ∀ i, i < 16 → Sl ((w.setCells b 19 (sls N pn cn)).setCell ⟨b, 35, none⟩ (.slice none 0 0)) κ (4 + i) 1 5 (pn i) (N i).size (cn i) (byteCells (N i)) := fun i hi => (r.slot i hi).fr hf (by omega)
  exact ⟨⟨h2, fun i hi => ⟨hs i hi, hs i hi, Al.same _ _ _ _⟩, r.disk, hf.ins r.ins⟩, hf⟩
theorem settle0_any (w : World) (b : Nat) (κ : Foot) (m room : Nat) (fuse : Int) (N : Fs) (pn : Nat → Option Addr) (cn : Nat → Nat) (B : List Value) (lv : Value) (r : Raw0 w b κ m room fuse N pn cn B lv) :
    Calls Try.prog 41 #[.pointer (some ⟨b, 0, none⟩)] w fun e w' => e = .returned (.tuple #[]) ∧ Raw w' b κ m room fuse N N pn pn cn cn (.slice none 0 0) ∧ Fr κ (· = 2) w w' κ := by
  have HS := Lib.hid r.settle
  have HR : Hid (w.rangeAt b 3 (sls N pn cn)) := Lib.hid (r.blk.range 3 _ fun j v hv => by
    have hj : j < (sls N pn cn).length := (List.getElem?_eq_some_iff.1 hv).1
    rw [rcells_now (sls_length _ _ _) j (by simpa [sls_length] using hj)]; exact hv)
  have HZ := Lib.hid (sizedF N pn cn)
  have HA := Lib.hid (sizedA N pn cn)
  have HO := Lib.hid (sls_all N pn cn)
  have HL := Lib.hid (sls_length N pn cn)
  have HT : Hid (w.there b 19 (sls N pn cn).toArray.size) := Lib.hid (r.blk.there 19 _ (by rw [List.size_toArray, sls_length, rcells_length (sls_length _ _ _) r.len]; decide))
  have hl : 19 + (sls N pn cn).length ≤ (rcells m room fuse (sls N pn cn) B lv).length := by rw [sls_length, rcells_length (sls_length _ _ _) r.len]; decide
  have hb1 := r.blk.setCells (sls N pn cn) 19 _ hl
  have c35 : ∃ g, (w.setCells b 19 (sls N pn cn)).cell? ⟨b, 35, none⟩ = some g := by
    have hlen : 35 < ((rcells m room fuse (sls N pn cn) B lv).take 19 ++ (sls N pn cn ++ (rcells m room fuse (sls N pn cn) B lv).drop (19 + (sls N pn cn).length))).length := by
      simp only [List.length_append, List.length_take, List.length_drop, sls_length, rcells_length (sls_length N pn cn) r.len]; decide
    exact ⟨_, hb1.cell 35 _ (List.getElem?_eq_getElem hlen)⟩
  obtain ⟨g35, c35⟩ := c35
  have f35 := hb1.frozen 35
  clear r hb1 hl
  generalize sls N pn cn = T at *
  go_enter Try.func41, Try.ntmps41
  go_wp2_with (first
    | (refine wpList_load_mid rfl 53 (.tmp 5) rfl b 3 rfl T _ HR.out Try.underlying53 rfl HZ.out ?_)
    | (refine wpList_store_mid rfl 53 (.tmp 8) (.tmp 6) rfl b 19 T.toArray rfl rfl HT.out HA.out HO.out ?_; rw [List.toList_toArray]))
  go_end0
  exact ⟨rfl, HS.out⟩
theorem sls_size {N N' : Fs} {p : Nat → Option Addr} {c : Nat → Nat} (h : ∀ i, (N i).size = (N' i).size) : sls N p c = sls N' p c := by
  unfold sls
  apply List.map_congr_left
  intro i _
  rw [h i]
theorem Raw.spoil {w : World} {b : Nat} {κ : Foot} {m room : Nat} {fuse : Int} {N S : Fs} {pn qs : Nat → Option Addr} {cn ks : Nat → Nat} {lv : Value} (r : Raw w b κ m room fuse N S pn qs cn ks lv) (f : Nat) (hf : f < 16) (i by_ : Nat) (hb : by_ < 256) (x : UInt8) (hx : (N f).data.toList[i]? = some x) (g : Nat) (hg : pn f = some ⟨g, 0, none⟩) (hgk : κ g = 4 + f) :
    Raw0 (w.setCell ⟨g, i, none⟩ (.int .u8 ((x.toNat ^^^ by_ : Nat) : Int))) b κ m room fuse (upd N f (xorAt (N f) i by_)) pn cn (sls S qs ks) lv ∧ Fr κ (· = 4 + f) w (w.setCell ⟨g, i, none⟩ (.int .u8 ((x.toNat ^^^ by_ : Nat) : Int))) κ := by
  have hfr : Fr κ (· = 4 + f) w (w.setCell ⟨g, i, none⟩ (.int .u8 ((x.toNat ^^^ by_ : Nat) : Int))) κ := setCell_fr _ _ _ _ hgk _
  refine ⟨⟨sls_length _ _ _, ?_, fun k hk => ?_, r.disk, hfr.ins r.ins⟩, hfr⟩
  · have := hfr.blk r.blk (by rw [r.disk]; omega)
    rw [sls_size (N := N) (N' := upd N f (xorAt (N f) i by_)) (fun k => by
      by_cases e : k = f
      · subst e; rw [upd_same, xorAt_size]
      · rw [upd_other _ _ _ e])] at this
    exact this
  · by_cases e : k = f
    · subst e
      rw [upd_same, xorAt_size, xorAt_cells _ _ _ hb x hx, hg]
      have := (r.slot k hk).1
      rw [hg] at this
      exact this.setOne i _
    · rw [upd_other _ _ _ e]
      exact (r.slot k hk).1.fr hfr (by omega)
set_option maxRecDepth 100000 in
set_option maxHeartbeats 2000000 in
theorem Spoil_any (w : World) (b : Nat) (κ : Foot) (d : DS) (h : IsD w b κ d) (f n : Int) (by_ : Nat) (hb : by_ < 256) :
    Calls Try.prog 33 #[.pointer (some ⟨b, 0, none⟩), .int .i64 f, .int .i64 n, .int .u8 (by_ : Int)] w fun e w' => e = .returned (.int .i64 (d.spoil f n by_).2) ∧ Post w b κ w' (d.spoil f n by_).1 := by
  obtain ⟨pn, qs, cn, ks, lp, lc, r, l⟩ := h.lay
  obtain ⟨c0, c1, c2, f2, _⟩ := h.cells
  have c35 := (r.cells).2.2.2
  have HT := Lib.hid (there_yes w b d.m h.ok.m1 c0)
  have HH := Lib.hid (has_any w b d.m c0 f)
  have HD := Lib.hid h
  have hok := h.ok.spoil f n by_
  have hm16 := h.ok.m16
  unfold DS.spoil at hok ⊢
  by_cases hm : d.isF f
  · rw [if_neg (fun q => q hm)] at hok ⊢
    rw [decide_eq_true (show 0 ≤ f ∧ f < (d.m : Int) from hm)] at HH
    obtain ⟨i, rfl⟩ : ∃ i : Nat, f = (i : Int) := ⟨f.toNat, by have := hm.1; omega⟩
    have hi : i < 16 := by have := hm.2; omega
    have hi2 : (i : Int) < 16 := by omega
    have hi0 : (0 : Int) ≤ (i : Int) := by omega
    rw [Int.toNat_natCast] at hok ⊢
    have ci := r.now i hi
    by_cases hn0 : n < 0
    · rw [if_pos (.inl hn0)]
      clear hok hm h r l
      go_enter Try.func33, Try.ntmps33
      go_wp2_with (first
        | (go_at_call 34; refine (HT.out).mono ?_; rintro e w1 ⟨rfl, rfl⟩)
        | (go_at_call 38; refine (HH.out).mono ?_; rintro e w1 ⟨rfl, rfl⟩))
      go_ret
      exact ⟨rfl, κ, HD.out, Fr.refl _ _ _⟩
    · by_cases hn1 : ((d.now i).size : Int) ≤ n
      · rw [if_pos (.inr hn1)]
        clear hok hm h r l
        generalize (d.now i).size = z at *
        go_enter Try.func33, Try.ntmps33
        go_wp2_with (first
          | (go_at_call 34; refine (HT.out).mono ?_; rintro e w1 ⟨rfl, rfl⟩)
          | (go_at_call 38; refine (HH.out).mono ?_; rintro e w1 ⟨rfl, rfl⟩))
        go_ret
        exact ⟨rfl, κ, HD.out, Fr.refl _ _ _⟩
      · rw [if_neg (by omega)] at hok ⊢
        by_cases hL : 0 < d.L.length
        · rw [if_pos hL]
          have hL' : (0 : Int) < (d.L.length : Int) := by omega
          clear hok hm h r l
          generalize (d.now i).size = z at *
          go_enter Try.func33, Try.ntmps33
          go_wp2_with (first
            | (go_at_call 34; refine (HT.out).mono ?_; rintro e w1 ⟨rfl, rfl⟩)
            | (go_at_call 38; refine (HH.out).mono ?_; rintro e w1 ⟨rfl, rfl⟩))
          go_ret
          exact ⟨rfl, κ, HD.out, Fr.refl _ _ _⟩
        · rw [if_neg hL] at hok ⊢
          have hLn : d.L = [] := List.length_eq_zero_iff.1 (by omega)
          have hL0 : d.L.length = 0 := by omega
          obtain ⟨j, rfl⟩ : ∃ j : Nat, n = (j : Int) := ⟨n.toNat, by omega⟩
          rw [Int.toNat_natCast] at hok ⊢
          have hjl : j < (d.now i).data.toList.length := by rw [size_list]; omega
          obtain ⟨x, hx⟩ : ∃ x, (d.now i).data.toList[j]? = some x := ⟨_, List.getElem?_eq_getElem hjl⟩
          obtain ⟨g, hg, hgl, hgk, hgc, hgf⟩ := (r.slot i hi).1.cell (j := j) (u := .int .u8 (x.toNat : Int)) (by simp [byteCells, hx])
          have HSp := Lib.hid (r.spoil i hi j by_ hb x hx g hg hgk)
          have hnow : d.now = d.S := by unfold DS.now; rw [hLn]; rfl
          rw [hg] at ci
          have hz := byte_xor x.toNat by_ x.toNat_lt hb
          obtain ⟨z, hzz⟩ : ∃ z : Nat, x.toNat ^^^ by_ = z := ⟨_, rfl⟩
          rw [hzz] at hz HSp
          have hj0 : (0 : Int) ≤ (j : Int) := by omega
          have hjz : (j : Int) < ((d.now i).size : Int) := by omega
          have HNow := Lib.hid hnow
          have HOk := Lib.hid hok
          have HL := Lib.hid hLn
          rw [hL0] at c35
          clear hok hm h r l hx hjl hzz hnow hLn hL hn0 hn1
          generalize hs : (d.now i).size = sz at *
          clear hs
          generalize x.toNat = xn at *
          generalize d.L.length = ll at *
          subst hL0
          go_enter Try.func33, Try.ntmps33
          go_wp2_with (first
            | (go_at_call 34; refine (HT.out).mono ?_; rintro e w1 ⟨rfl, rfl⟩)
            | (go_at_call 38; refine (HH.out).mono ?_; rintro e w1 ⟨rfl, rfl⟩)
            | (go_at_call 41; refine (settle0_any _ b κ _ _ _ _ _ _ _ _ HSp.out.1).mono ?_; rintro e w2 ⟨rfl, r2, g2⟩; have HR2 := Lib.hid r2; have HG2 := Lib.hid g2; clear r2 g2))
          go_ret
          refine ⟨rfl, κ, ⟨⟨pn, pn, cn, cn, none, 0, ?_, ?_⟩, HOk.out⟩, (HSp.out.2.mono (P' := (2 ≤ ·)) (fun k e => by show 2 ≤ k; omega)).trans (HG2.out.mono (fun k e => by show 2 ≤ k; omega))⟩
          · have := HR2.out
            rw [HNow.out] at this
            have e2 : ({ d with S := upd d.S i (xorAt (d.S i) j by_) } : DS).now = upd d.S i (xorAt (d.S i) j by_) := by
              show runs _ d.L = _
              rw [HL.out]; rfl
            rw [e2]
            show Raw _ _ _ _ _ _ _ _ _ _ _ _ (.slice none d.L.length 0)
            rw [HL.out]
            exact this
          · show Loose _ _ d.L _ _
            rw [HL.out]
            exact Loose.nil _ _
  · rw [if_pos hm]
    rw [decide_eq_false (show ¬ (0 ≤ f ∧ f < (d.m : Int)) from hm)] at HH
    clear hok hm h r l
    go_enter Try.func33, Try.ntmps33
    go_wp2_with (first
      | (go_at_call 34; refine (HT.out).mono ?_; rintro e w1 ⟨rfl, rfl⟩)
      | (go_at_call 38; refine (HH.out).mono ?_; rintro e w1 ⟨rfl, rfl⟩))
    go_ret
    exact ⟨rfl, κ, HD.out, Fr.refl _ _ _⟩
end Go.Proofs.Ytgbhadgkkefokaa
