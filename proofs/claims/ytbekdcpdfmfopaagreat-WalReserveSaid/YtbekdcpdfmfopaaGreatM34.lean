/- Contracts: a log's calls of the disk, called. Contract: how many bytes a piece has. Contract: a record's frame, by the program. A drawn region as Wv's, whose store waits for the first e operations, and for those that only move behind them. -/
import Derived.Test.YtbekdcpdfmfopaaGreatM33
import Derived.Deep.DeepCutAuto
import Derived.Test.YtbekdcpdfmfopaaGreatFScan
import Derived.Test.YtbekdcpdfmfopaaGreatM18
import Derived.Test.YtbekdcpdfmfopaaGreatWz
section
namespace Go.Proofs.YtbekdcpdfmfopaaGreat
open Go.RowKit

section
variable (w : World) (b bd : Nat) (κ μ : Foot) (s : WS) (d : DS) (h : LS w b bd κ μ s d)
include h
set_option maxRecDepth 100000 in
theorem wr_call (f : Int) (t : ByteArray) (ht : t.size ≤ 1048576) (hL : d.L.length ≤ 1000000) (x y z : Nat) (hx : Blk w x 27 [.pointer (some ⟨b, 0, none⟩)]) (hy : Blk w y 3 [.int .i64 f]) (hz : Blk w z 9 [.string t]) :
    Calls Tryz.prog 56 #[.pointer (some ⟨x, 0, none⟩), .pointer (some ⟨y, 0, none⟩), .pointer (some ⟨z, 0, none⟩)] w fun e w' => e = .returned (.int .i64 (d.write f t).2) ∧ LPost w b bd κ μ w' s (d.write f t).1 := by
  have c0 := hx.cell 0 _ rfl
  have c1 := hy.cell 0 _ rfl
  have c2 := hz.cell 0 _ rfl
  have k0 := h.wal.cells.1
  have HW := Lib.hid (Write_any w.drew bd μ d (h.disk.ext (Ext.refl w).drew) f t ht hL)
  have HP := Lib.hid (fun w' (p : Post w.drew bd μ w' (d.write f t).1) => LPost.after ((Ext.refl w).drew.fr2 κ μ) ((h.ext (Ext.refl w).drew).post p))
  clear h hx hy hz
  go_enter Tryz.func56, Tryz.ntmps56
  go_upto_region 1 with (fail)
  go_still_tail 6, (by kernel_rfl)
  change wpList _ _ _ _ _ w.drew
  generalize w.drew = wd at *
  go_wp2_with (go_at_call 57; refine (HW.out).mono ?_; rintro e w1 ⟨rfl, hp⟩; have HP1 := Lib.hid (HP.out _ hp); clear hp)
  go_ret
  exact ⟨rfl, HP1.out⟩
set_option maxRecDepth 100000 in
theorem cut_call (f n : Int) (hL : d.L.length ≤ 1000000) (x y z : Nat) (hx : Blk w x 27 [.pointer (some ⟨b, 0, none⟩)]) (hy : Blk w y 3 [.int .i64 f]) (hz : Blk w z 3 [.int .i64 n]) :
    Calls Tryz.prog 81 #[.pointer (some ⟨x, 0, none⟩), .pointer (some ⟨y, 0, none⟩), .pointer (some ⟨z, 0, none⟩)] w fun e w' => e = .returned (.int .i64 (d.cutF f n).2) ∧ LPost w b bd κ μ w' s (d.cutF f n).1 := by
  have c0 := hx.cell 0 _ rfl
  have c1 := hy.cell 0 _ rfl
  have c2 := hz.cell 0 _ rfl
  have k0 := h.wal.cells.1
  have HW := Lib.hid (Cut_any w.drew bd μ d (h.disk.ext (Ext.refl w).drew) f n hL)
  have HP := Lib.hid (fun w' (p : Post w.drew bd μ w' (d.cutF f n).1) => LPost.after ((Ext.refl w).drew.fr2 κ μ) ((h.ext (Ext.refl w).drew).post p))
  clear h hx hy hz
  go_enter Tryz.func81, Tryz.ntmps81
  go_upto_region 1 with (fail)
  go_still_tail 6, (by kernel_rfl)
  change wpList _ _ _ _ _ w.drew
  generalize w.drew = wd at *
  go_wp2_with (go_at_call 82; refine (HW.out).mono ?_; rintro e w1 ⟨rfl, hp⟩; have HP1 := Lib.hid (HP.out _ hp); clear hp)
  go_ret
  exact ⟨rfl, HP1.out⟩
theorem sync_call : Calls Tryz.prog 30 #[.pointer (some ⟨bd, 0, none⟩)] w fun e w' => e = .returned (.int .i64 d.sync.2) ∧ LPost w b bd κ μ w' s d.sync.1 := by
  refine (Sync_any w bd μ d h.disk).mono ?_
  rintro e w1 ⟨rfl, hp⟩
  exact ⟨rfl, h.post hp⟩
set_option maxRecDepth 100000 in
theorem emp_call (i f : Nat) (q : Nat × Nat) (hq : s.P[i]? = some q) (hqf : q.1 = f) (_hi : s.P.length ≤ 1000000) (hL : d.L.length ≤ 1000000) (v : Value) (hv : IsC w b bd κ μ v (.emp i f)) :
    ∃ x y z, v = .func (.func 59) #[] #[.pointer (some ⟨x, 0, none⟩), .pointer (some ⟨y, 0, none⟩), .pointer (some ⟨z, 0, none⟩)] ∧
    Calls Tryz.prog 59 #[.pointer (some ⟨x, 0, none⟩), .pointer (some ⟨y, 0, none⟩), .pointer (some ⟨z, 0, none⟩)] w fun e w' => e = .returned (.int .i64 (WC.run s d (.emp i f)).2.2) ∧ LPost w b bd κ μ w' (WC.run s d (.emp i f)).1 (WC.run s d (.emp i f)).2.1 := by
  obtain ⟨x, y, z, v2, x2, y2, z2, h1, h2, h3, h4, h5, h6, h7, rfl, g2, g3, g4, g5, g6, g7⟩ := hv
  refine ⟨x, y, z, h1, ?_⟩
  have HC := Lib.hid (cut_call w b bd κ μ s d h f 0 hL x2 y2 z2 g5 g6 g7)
  have c0 := h5.cell 0 _ rfl
  have HFy := Lib.hid (fun w' κ' μ' (g : Fr2 κ μ w w' κ' μ') => (h3.blk g h6).cell 0 _ rfl)
  have HFz := Lib.hid (fun w' κ' μ' (g : Fr2 κ μ w w' κ' μ') => (h4.blk g h7).cell 0 _ rfl)
  have hil : i < s.P.length := (List.getElem?_eq_some_iff.1 hq).1
  have HQ := Lib.hid hq
  unfold WC.run
  dsimp only
  obtain ⟨e1, he1⟩ : ∃ e, e = (d.cutF f 0).2 := ⟨_, rfl⟩
  obtain ⟨d1, hd1⟩ : ∃ e, e = (d.cutF f 0).1 := ⟨_, rfl⟩
  rw [← he1, ← hd1] at HC ⊢
  clear he1 hd1 h h1 h2 h3 h4 h5 h6 h7 g2 g3 g4 g5 g6 g7 hq
  by_cases he : e1 = 0
  · subst he
    rw [if_pos rfl]
    go_enter Tryz.func59, Tryz.ntmps59
    go_upto_region 3 with (go_at_call 81; refine (HC.out).mono ?_; rintro e w1 ⟨rfl, hp⟩; obtain ⟨κ1, μ1, hls, hfr⟩ := hp; have HLS := Lib.hid hls; have HFR := Lib.hid hfr; have cy := HFy.out _ _ _ hfr; have cz := HFz.out _ _ _ hfr; clear hls hfr)
    obtain ⟨a, c, c7, hcells, hfz, hset⟩ := (HLS.out.ext (Ext.refl w1).drew).part HQ.out
    have c7' : w1.cell? ⟨b, 7, none⟩ = some (.slice (some a) s.P.length c) := c7
    have hci := (hcells i q HQ.out).2
    have HSet := Lib.hid (LPost.after (HFR.out.trans ((Ext.refl w1).drew.fr2 _ _)) (hset 0))
    rw [hqf] at HSet
    clear hcells hset c0
    go_still_tail 7, (by kernel_rfl)
    change wpList _ _ _ _ _ w1.drew
    clear c7' cy cz
    generalize w1.drew = wd at *
    go_wp2
    go_ret
    exact ⟨rfl, HSet.out⟩
  · rw [if_neg he]
    have hne : (e1 == 0) = false := by rw [beq_eq_false_iff_ne]; exact he
    go_enter Tryz.func59, Tryz.ntmps59
    go_wp2_with (go_at_call 81; refine (HC.out).mono ?_; rintro e w1 ⟨rfl, hp⟩; have HP := Lib.hid hp; clear hp)
    go_ret
    exact ⟨rfl, HP.out⟩
end
end Go.Proofs.YtbekdcpdfmfopaaGreat
end

section
namespace Go.Proofs.YtbekdcpdfmfopaaGreat
open Go.RowKit

set_option maxRecDepth 100000 in
theorem psize_any (h : ByteArray) (n : Nat) (t : ByteArray) (hh : h.size ≤ 1000000) (ht : t.size ≤ 1000000) (w : World) :
    Calls Tryz.prog 62 #[.agg #[.string h, .int .u64 (n : Int), .string t]] w fun e w' => e = .returned (.int .i64 ((h.size + (16 + t.size) : Nat) : Int)) ∧ Ext w w' := by
  have hx1 : Ext w (w.alloc (.cells #[.string h, .int .u64 (n : Int), .string t] 113)) := (Ext.refl w).alloc _
  have hb : Blk (w.alloc (.cells #[.string h, .int .u64 (n : Int), .string t] 113)) w.heap.size 113 [.string h, .int .u64 (n : Int), .string t] := Blk.new w _ _
  have HSz := Lib.hid (fun u => Size_any t ht u)
  have c0 := hb.cell 0 _ rfl
  have c1 := hb.cell 1 _ rfl
  have c2 := hb.cell 2 _ rfl
  have HX := Lib.hid (fun n => hx1.drewN n)
  have HX0 := Lib.hid (hx1.drew)
  have hw : IntKind.i64.wrap ((h.size : Int) + ((16 + t.size : Nat) : Int)) = ((h.size + (16 + t.size) : Nat) : Int) := by rw [IntWalk.i64_in _ ⟨by omega, by omega⟩]; omega
  clear hb hx1
  go_enter Tryz.func62, Tryz.ntmps62
  go_upto_region 1 with (fail)
  generalize hW1 : w.alloc (.cells #[.string h, .int .u64 (n : Int), .string t] 113) = W1 at *
  go_quiet ((go_at_call 84; exact Calls.quiet_of_same ((HSz.out _).mono fun _ _ h => ⟨h.1, h.2.symm⟩)))
  go_wp2
  go_ret
  exact ⟨by go_num, HX.out _⟩
end Go.Proofs.YtbekdcpdfmfopaaGreat
end

section
namespace Go.Proofs.YtbekdcpdfmfopaaGreat
open Go.RowKit

theorem frame_text2P (r : Rec) : (⟨(headS r.t.size r.n r.t.data.toList).toArray⟩ : ByteArray) ++ r.t = frameT r := by
  unfold frameT frameL
  rw [← str_append]
set_option maxRecDepth 100000 in
set_option maxHeartbeats 2000000 in
theorem Encode_any (r : Rec) (hr : r.n < 18446744073709551616) (hs : r.t.size ≤ 1000000) (w : World) :
    Calls Tryz.prog 75 #[recV r] w fun e w' => e = .returned (.tuple #[.string (encF r).1, .int .i64 ((encF r).2 : Int)]) ∧ Ext w w' := by
  have HHd := Lib.hid (fun u => headOf_any r hr (Nat.le_trans hs (by decide)) u)
  obtain ⟨n, t⟩ := r
  dsimp only at hr hs HHd ⊢
  unfold recV at HHd ⊢
  dsimp only at HHd ⊢
  have hb : Blk (w.alloc (.cells #[.int .u64 (n : Int), .string t] 111)) w.heap.size 111 [.int .u64 (n : Int), .string t] := Blk.new w _ _
  have hx : Ext w (w.alloc (.cells #[.int .u64 (n : Int), .string t] 111)) := (Ext.refl w).alloc _
  have c0 := hb.cell 0 _ rfl
  have c1 := hb.cell 1 _ rfl
  by_cases h : 65536 < t.size
  · have he : encF ⟨n, t⟩ = (⟨#[]⟩, 5) := by unfold encF; rw [if_pos h]
    rw [he]
    clear hb HHd
    go_enter Tryz.func75, Tryz.ntmps75
    go_wp2
    go_ret2
    exact ⟨rfl, hx⟩
  · have he : encF ⟨n, t⟩ = (frameT ⟨n, t⟩, 0) := by unfold encF; rw [if_neg h]
    rw [he]
    have hz := zero_runF zeroH
    have HX := Lib.hid hx; have HB := Lib.hid hb
    have hl16 := headS_length t.size n t.data.toList
    have hT4 := frame_text2P ⟨n, t⟩
    dsimp only at hT4
    obtain ⟨F, hF⟩ : ∃ F, F = frameT ⟨n, t⟩ := ⟨_, rfl⟩
    rw [← hF] at hT4 ⊢
    have ht1 : ¬ 9223372036854775807 < (⟨(headS t.size n t.data.toList).toArray⟩ : ByteArray).size + t.size := by rw [txt_size, hl16]; omega
    have HZ3 : Hid ((⟨(headS t.size n t.data.toList).toArray⟩ : ByteArray) = ⟨(headS t.size n t.data.toList).toArray⟩) := Lib.hid rfl
    unfold headV at HHd
    generalize headS t.size n t.data.toList = l at *
    clear hb hx he hF
    go_enter Tryz.func75, Tryz.ntmps75
    go_wp2_with (first
      | (go_at_call 94; (with_reducible refine (HHd.out _).mono ?_); rintro e w1 ⟨rfl, x1⟩; have X1 := Lib.hid (HX.out.trans x1); have hb1 := HB.out.ext x1; have HB1 := Lib.hid hb1; clear c0 c1 x1 hb1)
      | (refine wpList_store_row rfl 150 (.tmp 4) (.tmp 10) rfl w1.heap.size _ rfl rfl 150 _ (Row.zH w1 150) (sizedH hl16) (by simp [hl16]) (cells8_one _) ?_))
    have hr0 : Row ((w1.alloc (.cells zH 150)).setRow w1.heap.size (l.map cellOf).toArray) w1.heap.size 150 l := setRow_heap _ _ _ _ _ _ (Row.zH w1 150)
    have HB2 : Hid (Blk ((w1.alloc (.cells zH 150)).setRow w1.heap.size (l.map cellOf).toArray) w.heap.size 111 [.int .u64 (n : Int), .string t]) := Lib.hid (HB1.out.ext (((Ext.refl w1).alloc _).setRow (Nat.le_refl _) _))
    have HX2 := Lib.hid ((X1.out.alloc (.cells zH 150)).setRow (g := w1.heap.size) X1.out.size (l.map cellOf).toArray)
    generalize ((w1.alloc (.cells zH 150)).setRow w1.heap.size (l.map cellOf).toArray) = W2 at *
    have ht := fun q => (hr0.drewN q).text_to 16 16 (by omega)
    rw [List.take_of_length_le (by omega)] at ht
    have c1 := HB2.out.cell 1 _ rfl
    have HRw := Lib.hid hr0
    clear hr0 HHd HZ3
    generalize (⟨l.toArray⟩ : ByteArray) = T at *
    simp only [Act.put]
    go_quiet (fail)
    go_wp2
    go_ret2
    exact ⟨rfl, HX2.out.drewN _⟩
end Go.Proofs.YtbekdcpdfmfopaaGreat
end

section
namespace Go.Proofs.YtbekdcpdfmfopaaGreat
open Go.RowKit

/-- As Wv; the store waits for the first e. -/
structure Wv (e : Nat) (A0 : Array Value) (n N s0 m x : Nat) (base : List (Nat × Value)) (F : Nat → Value → Prop) (I : Bool → Bool → Bool → Value → World → Prop) (L : Array Bool) (a : Act) (w : World) : Prop where
  size : L.size = n
  defers : a.defers = []
  tmps : a.tmps.size = N
  base : ∀ p, p ∈ base → a.tmps.getD p.1 undef = p.2
  keep : ∀ t, t < s0 ∨ s0 + (n - 1) ≤ t → a.tmps.getD t undef = A0.getD t undef
  facts : ∀ j, j < n - 1 → j ≠ x → L.getD j true = true → F j (a.tmps.getD (s0 + j) undef)
  all : L.getD (n - 1) true = true → ∀ j, j < e → L.getD j true = true
  inv : I (L.getD m true) (L.getD x true) (L.getD (n - 1) true) (a.tmps.getD (s0 + x) undef) w
section
variable {e : Nat} {A0 : Array Value} {n N s0 m x : Nat} {base : List (Nat × Value)} {F : Nat → Value → Prop} {I : Bool → Bool → Bool → Value → World → Prop} {L : Array Bool} {a : Act} {w w' : World}
/-- Ahead of the store. -/
theorem Wv.not (h : Wv e A0 n N s0 m x base F I L a w) {i : Nat} (hi : i < e) (hl : L.getD i true = false) : L.getD (n - 1) true = false := by
  rcases hb : L.getD (n - 1) true with _ | _
  · rfl
  · rw [h.all hb i hi] at hl; cases hl
/-- An operation that only reads, or makes the block. -/
theorem Wv.put' (h : Wv e A0 n N s0 m x base F I L a w) (hN : s0 + n ≤ N + 1) (hb : ∀ p, p ∈ base → p.1 < s0) (i t : Nat) (hi : i < n - 1) (hx : i ≠ x) (ht : t = s0 + i) (v : Value) (hv : F i v)
    (hI : I ((L.setIfInBounds i true).getD m true) (L.getD x true) (L.getD (n - 1) true) (a.tmps.getD (s0 + x) undef) w') : Wv e A0 n N s0 m x base F I (L.setIfInBounds i true) (a.put (some t) v) w' := by
  subst ht
  refine ⟨by rw [Array.size_setIfInBounds]; exact h.size, h.defers, by simp only [Act.put]; rw [Array.size_setIfInBounds]; exact h.tmps, fun p hp => ?_, fun t ht => ?_, fun j hj hjx hl2 => ?_, fun hl2 j hj => ?_, ?_⟩
  · simp only [Act.put]
    rw [slot_other (by have := hb p hp; omega)]
    exact h.base p hp
  · simp only [Act.put]
    rw [slot_other (by omega)]
    exact h.keep t ht
  · simp only [Act.put]
    by_cases hji : j = i
    · subst hji
      rw [slot_same (by rw [h.tmps]; omega)]
      exact hv
    · rw [slot_other (by omega)]
      rw [bit_other L (Ne.symm hji)] at hl2
      exact h.facts j hj hjx hl2
  · rw [bit_other L (by omega)] at hl2
    exact bit_keep L i j (h.all hl2 j hj)
  · simp only [Act.put]
    rw [show (L.setIfInBounds i true).getD x true = L.getD x true from bit_other L hx, show (L.setIfInBounds i true).getD (n - 1) true = L.getD (n - 1) true from bit_other L (by omega), slot_other (by omega)]
    exact hI
theorem Wv.put (h : Wv e A0 n N s0 m x base F I L a w) (hN : s0 + n ≤ N + 1) (hb : ∀ p, p ∈ base → p.1 < s0) (i t : Nat) (hi : i < n - 1) (hx : i ≠ x) (hm : i ≠ m) (ht : t = s0 + i) (v : Value) (hv : F i v) : Wv e A0 n N s0 m x base F I (L.setIfInBounds i true) (a.put (some t) v) w :=
  h.put' hN hb i t hi hx ht v hv (by rw [bit_other L hm]; exact h.inv)
theorem Wv.make (h : Wv e A0 n N s0 m x base F I L a w) (hN : s0 + n ≤ N + 1) (hb : ∀ p, p ∈ base → p.1 < s0) (t : Nat) (hm : m < e) (hme : m < n - 1) (hx : m ≠ x) (ht : t = s0 + m) (hl : L.getD m true = false) (v : Value) (hv : F m v)
    (hI : I true (L.getD x true) false (a.tmps.getD (s0 + x) undef) w') : Wv e A0 n N s0 m x base F I (L.setIfInBounds m true) (a.put (some t) v) w' :=
  h.put' hN hb m t hme hx ht v hv (by rw [bit_same L m (by rw [h.size]; omega), h.not hm hl]; exact hI)
/-- The operation by a law. -/
theorem Wv.law (h : Wv e A0 n N s0 m x base F I L a w) (hN : s0 + n ≤ N + 1) (hb : ∀ p, p ∈ base → p.1 < s0) (t : Nat) (hx : x < e) (hxe : x < n - 1) (hm : m ≠ x) (ht : t = s0 + x) (hl : L.getD x true = false) (v : Value) (hv : I (L.getD m true) true false v w') : Wv e A0 n N s0 m x base F I (L.setIfInBounds x true) (a.put (some t) v) w' := by
  subst ht
  have hn := h.not hx hl
  refine ⟨by rw [Array.size_setIfInBounds]; exact h.size, h.defers, by simp only [Act.put]; rw [Array.size_setIfInBounds]; exact h.tmps, fun p hp => ?_, fun t ht => ?_, fun j hj hjx hl2 => ?_, fun hl2 j hj => ?_, ?_⟩
  · simp only [Act.put]
    rw [slot_other (by have := hb p hp; omega)]
    exact h.base p hp
  · simp only [Act.put]
    rw [slot_other (by omega)]
    exact h.keep t ht
  · simp only [Act.put]
    rw [slot_other (by omega)]
    rw [bit_other L (Ne.symm hjx)] at hl2
    exact h.facts j hj hjx hl2
  · rw [bit_other L (by omega), hn] at hl2
    cases hl2
  · simp only [Act.put]
    rw [bit_same L x (by rw [h.size]; omega), show (L.setIfInBounds x true).getD (n - 1) true = L.getD (n - 1) true from bit_other L (by omega), show (L.setIfInBounds x true).getD m true = L.getD m true from bit_other L (Ne.symm hm), slot_same (by rw [h.tmps]; omega), hn]
    exact hv
/-- The store. -/
theorem Wv.store (h : Wv e A0 n N s0 m x base F I L a w) (hx : x < e) (hm : m < e) (he : e ≤ n - 1) (ha : ∀ j, j < e → L.getD j true = true) (hv : I true true true (a.tmps.getD (s0 + x) undef) w') (v : Value) : Wv e A0 n N s0 m x base F I (L.setIfInBounds (n - 1) true) (a.put none v) w' := by
  have ee : a.put none v = a := rfl
  rw [ee]
  refine ⟨by rw [Array.size_setIfInBounds]; exact h.size, h.defers, h.tmps, h.base, h.keep, fun j hj hjx hl => ?_, fun _ j hj => ?_, ?_⟩
  · rw [bit_other L (by omega)] at hl
    exact h.facts j hj hjx hl
  · rw [bit_other L (by omega)]
    exact ha j hj
  · rw [show (L.setIfInBounds (n - 1) true).getD m true = L.getD m true from bit_other L (by omega), show (L.setIfInBounds (n - 1) true).getD x true = L.getD x true from bit_other L (by omega), bit_same L (n - 1) (by rw [h.size]; omega), ha m hm, ha x hx]
    exact hv
theorem Wv.at (h : Wv e A0 n N s0 m x base F I L a w) (j t : Nat) (hj : j < n - 1) (hx : j ≠ x) (ht : t = s0 + j) (hl : L.getD j false = true) : F j (a.tmps[t]?.getD undef) := by
  subst ht
  have := h.facts j hj hx (bit_of hl)
  rwa [Array.getD_eq_getD_getElem?] at this
theorem Wv.ahead (h : Wv e A0 n N s0 m x base F I L a w) (p : Nat × Value) (hp : p ∈ base) : a.tmps[p.1]?.getD undef = p.2 := by
  have := h.base p hp
  rwa [Array.getD_eq_getD_getElem?] at this
theorem Wv.start (ha : a.defers = []) (hN : a.tmps.size = N) (hb : ∀ p, p ∈ base → a.tmps.getD p.1 undef = p.2) (hx : x < n - 1) (hm : m < n - 1) (hI : ∀ v, I false false false v w) : Wv e a.tmps n N s0 m x base F I (Array.replicate n false) a w := by
  have hz : ∀ j, j < n → (Array.replicate n false).getD j true = false := fun j hj => by simp [Array.getD, hj]
  refine ⟨by simp, ha, hN, hb, fun _ _ => rfl, fun j hj _ hl => ?_, fun hl => ?_, ?_⟩
  · rw [hz j (by omega)] at hl; cases hl
  · rw [hz (n - 1) (by omega)] at hl; cases hl
  · rw [hz x (by omega), hz m (by omega), hz (n - 1) (by omega)]
    exact hI _
end
/-- The frame behind the region. -/
theorem Wv.frame {e : Nat} {A0 : Array Value} {n N s0 m x : Nat} {base : List (Nat × Value)} {F : Nat → Value → Prop} {I : Bool → Bool → Bool → Value → World → Prop} {L : Array Bool} {X : Array Value} {w : World}
    (h : Wv e A0 n N s0 m x base F I L { tmps := X, defers := [] } w) (hA : A0.size = N) (hN : s0 + n ≤ N + 1) (hn : 0 < n) (l : List Value) (hl : l.length = n - 1) (hv : ∀ j v, l[j]? = some v → X.getD (s0 + j) undef = v) : X = putAll A0 s0 l := by
  have hsz : X.size = N := h.tmps
  refine frame_eq (by rw [putAll_size, hA, hsz]) fun t => ?_
  by_cases ht : t < s0 ∨ s0 + (n - 1) ≤ t
  · rw [putAll_out l A0 s0 t (by omega)]
    exact h.keep t ht
  · obtain ⟨j, rfl⟩ : ∃ j, t = s0 + j := ⟨t - s0, by omega⟩
    obtain ⟨v, hjv⟩ : ∃ v, l[j]? = some v := ⟨_, List.getElem?_eq_getElem (by omega)⟩
    rw [putAll_in l A0 s0 j v hjv (by omega), hv j v hjv]
end Go.Proofs.YtbekdcpdfmfopaaGreat
end
