/- Contracts: whether a log is there, whether it goes; its last file, its bytes, its room; what it tells. Contracts: how many bytes a log's files have; its room. A log's calls of the disk, as closures: what they are, what each answers and leaves. -/
import Derived.Test.YtbekdcpdfmfopaaGreatM32
import Derived.Test.YtbekdcpdfmfopaaGreatM28
import Derived.BigQuiet
import Derived.Deep.DeepCutAuto
import Derived.StillTailTactics
import Derived.Outline
import Derived.Deep.RegionHeld3
section
namespace Go.Proofs.YtbekdcpdfmfopaaGreat
open Go.RowKit

theorem wrap64_in (n : Int) (h : -9223372036854775808 ≤ n ∧ n ≤ 9223372036854775807) : wrap64 n = n := by unfold wrap64; omega
theorem part_info : (Tryz.prog.info? 75).map (·.size) = some 2 := by kernel_rfl
theorem wthere_nil (w : World) : Calls Tryz.prog 26 #[.pointer none] w fun e w' => e = .returned (.bool false) ∧ w = w' := by
  go_enter Tryz.func26, Tryz.ntmps26
  go_wp2
  go_ret
  exact ⟨rfl, rfl⟩
theorem wgoes_nil (w : World) : Calls Tryz.prog 25 #[.pointer none] w fun e w' => e = .returned (.int .i64 1) ∧ w = w' := by
  go_enter Tryz.func25, Tryz.ntmps25
  go_wp2_with (go_at_call 26; refine (wthere_nil _).mono ?_; rintro e w1 ⟨rfl, rfl⟩)
  go_ret
  exact ⟨rfl, rfl⟩
theorem wDown_nil (w : World) : Calls Tryz.prog 15 #[.pointer none] w fun e w' => e = .returned (.int .i64 1) ∧ w = w' := by
  go_enter Tryz.func15, Tryz.ntmps15
  go_wp2_with (go_at_call 26; refine (wthere_nil _).mono ?_; rintro e w1 ⟨rfl, rfl⟩)
  go_ret
  exact ⟨rfl, rfl⟩
theorem wFirst_nil (w : World) : Calls Tryz.prog 17 #[.pointer none] w fun e w' => e = .returned (.int .u64 0) ∧ w = w' := by
  go_enter Tryz.func17, Tryz.ntmps17
  go_wp2_with (go_at_call 26; refine (wthere_nil _).mono ?_; rintro e w1 ⟨rfl, rfl⟩)
  go_ret
  exact ⟨rfl, rfl⟩
theorem wNext_nil (w : World) : Calls Tryz.prog 16 #[.pointer none] w fun e w' => e = .returned (.int .u64 0) ∧ w = w' := by
  go_enter Tryz.func16, Tryz.ntmps16
  go_wp2_with (go_at_call 26; refine (wthere_nil _).mono ?_; rintro e w1 ⟨rfl, rfl⟩)
  go_ret
  exact ⟨rfl, rfl⟩
theorem wRoom_nil (w : World) : Calls Tryz.prog 10 #[.pointer none] w fun e w' => e = .returned (.int .i64 0) ∧ w = w' := by
  go_enter Tryz.func10, Tryz.ntmps10
  go_wp2_with (go_at_call 26; refine (wthere_nil _).mono ?_; rintro e w1 ⟨rfl, rfl⟩)
  go_ret
  exact ⟨rfl, rfl⟩
theorem wReserved_nil (w : World) : Calls Tryz.prog 14 #[.pointer none] w fun e w' => e = .returned (.int .i64 0) ∧ w = w' := by
  go_enter Tryz.func14, Tryz.ntmps14
  go_wp2_with (go_at_call 26; refine (wthere_nil _).mono ?_; rintro e w1 ⟨rfl, rfl⟩)
  go_ret
  exact ⟨rfl, rfl⟩
theorem wSync_nil (w : World) : Calls Tryz.prog 11 #[.pointer none] w fun e w' => e = .returned (.int .i64 1) ∧ w = w' := by
  go_enter Tryz.func11, Tryz.ntmps11
  go_wp2_with (go_at_call 25; refine (wgoes_nil _).mono ?_; rintro e w1 ⟨rfl, rfl⟩)
  go_ret
  exact ⟨rfl, rfl⟩
theorem wReserve_nil (w : World) (n : Value) : Calls Tryz.prog 9 #[.pointer none, n] w fun e w' => e = .returned (.int .i64 1) ∧ w = w' := by
  go_enter Tryz.func9, Tryz.ntmps9
  go_wp2_with (go_at_call 25; refine (wgoes_nil _).mono ?_; rintro e w1 ⟨rfl, rfl⟩)
  go_ret
  exact ⟨rfl, rfl⟩
set_option maxRecDepth 100000 in
theorem wCheckpoint_nil (w : World) (t : Value) : Calls Tryz.prog 12 #[.pointer none, t] w fun e w' => e = .returned (.int .i64 1) ∧ Ext w w' := by
  have HX := Lib.hid (Ext.refl w)
  go_enter Tryz.func12, Tryz.ntmps12
  go_wp2_with (go_at_call 25; refine (wgoes_nil _).mono ?_; rintro e w1 ⟨rfl, rfl⟩)
  go_ret
  exact ⟨rfl, HX.out⟩
set_option maxRecDepth 100000 in
theorem wAppend_nil (w : World) (n l : Value) : Calls Tryz.prog 13 #[.pointer none, n, l] w fun e w' => e = .returned (.tuple #[.int .u64 0, .int .i64 1]) ∧ Ext w w' := by
  have HX := Lib.hid (Ext.refl w)
  go_enter Tryz.func13, Tryz.ntmps13
  go_wp2_with (go_at_call 25; refine (wgoes_nil _).mono ?_; rintro e w1 ⟨rfl, rfl⟩)
  go_ret2
  exact ⟨rfl, HX.out⟩
section
variable (w : World) (b bd : Nat) (κ : Foot) (s : WS) (h : IsW w b bd κ s)
include h
theorem wthere_any : Calls Tryz.prog 26 #[.pointer (some ⟨b, 0, none⟩)] w fun e w' => e = .returned (.bool true) ∧ w = w' := by
  have c0 := h.cells.1
  clear h
  go_enter Tryz.func26, Tryz.ntmps26
  go_wp2
  go_ret
  exact ⟨rfl, rfl⟩
theorem wgoes_any : Calls Tryz.prog 25 #[.pointer (some ⟨b, 0, none⟩)] w fun e w' => e = .returned (.int .i64 (if s.e = 0 then 0 else 121)) ∧ w = w' := by
  obtain ⟨_, _, _, _, _, _, _, _, c9⟩ := h.cells
  have HT := Lib.hid (wthere_any w b bd κ s h)
  clear h
  by_cases he : s.e = 0
  · rw [if_pos he]
    rw [he] at c9
    go_enter Tryz.func25, Tryz.ntmps25
    go_wp2_with (go_at_call 26; refine (HT.out).mono ?_; rintro e w1 ⟨rfl, rfl⟩)
    go_ret
    exact ⟨rfl, rfl⟩
  · rw [if_neg he]
    have he' : (s.e == 0) = false := by rw [beq_eq_false_iff_ne]; exact he
    go_enter Tryz.func25, Tryz.ntmps25
    go_wp2_with (go_at_call 26; refine (HT.out).mono ?_; rintro e w1 ⟨rfl, rfl⟩)
    go_ret
    exact ⟨rfl, rfl⟩
theorem wFirst_any : Calls Tryz.prog 17 #[.pointer (some ⟨b, 0, none⟩)] w fun e w' => e = .returned (.int .u64 (s.f : Int)) ∧ w = w' := by
  obtain ⟨_, _, _, _, _, c5, _, _, _⟩ := h.cells
  have HT := Lib.hid (wthere_any w b bd κ s h)
  clear h
  go_enter Tryz.func17, Tryz.ntmps17
  go_wp2_with (go_at_call 26; refine (HT.out).mono ?_; rintro e w1 ⟨rfl, rfl⟩)
  go_ret
  exact ⟨rfl, rfl⟩
theorem wNext_any : Calls Tryz.prog 16 #[.pointer (some ⟨b, 0, none⟩)] w fun e w' => e = .returned (.int .u64 (s.n : Int)) ∧ w = w' := by
  obtain ⟨_, _, _, _, _, _, c6, _, _⟩ := h.cells
  have HT := Lib.hid (wthere_any w b bd κ s h)
  clear h
  go_enter Tryz.func16, Tryz.ntmps16
  go_wp2_with (go_at_call 26; refine (HT.out).mono ?_; rintro e w1 ⟨rfl, rfl⟩)
  go_ret
  exact ⟨rfl, rfl⟩
theorem wspace_any (k : s.Ok) (x y : Int) (hx : 0 ≤ x ∧ x ≤ 1125899906842624) (hy : -1125899906842624 ≤ y ∧ y ≤ 1125899906842624) : Calls Tryz.prog 27 #[.pointer (some ⟨b, 0, none⟩), .int .i64 x, .int .i64 y] w fun e w' => e = .returned (.int .i64 (s.space x y)) ∧ Ext w w' := by
  obtain ⟨_, c1, c2, c3, _, _, _, _, _⟩ := h.cells
  have HX := Lib.hid (fun n => (Ext.refl w).drewN n)
  clear h
  have hnf := k.nf
  have hsz := k.sz
  have hck := k.ck
  have w1 : wrap64 ((s.nf : Int) - 1) = (s.nf : Int) - 1 := wrap64_in _ ⟨by omega, by omega⟩
  have hm0 : 0 ≤ ((s.nf : Int) - 1) * (s.sz : Int) := Int.mul_nonneg (by omega) (by omega)
  have hm1 : ((s.nf : Int) - 1) * (s.sz : Int) ≤ 15 * 4194304 := Int.mul_le_mul (by omega) (by omega) (by omega) (by omega)
  have w2 : wrap64 (((s.nf : Int) - 1) * (s.sz : Int)) = ((s.nf : Int) - 1) * (s.sz : Int) := wrap64_in _ ⟨by omega, by omega⟩
  have w3 : wrap64 (((s.nf : Int) - 1) * (s.sz : Int) - x) = ((s.nf : Int) - 1) * (s.sz : Int) - x := wrap64_in _ ⟨by omega, by omega⟩
  have w4 : wrap64 (y - (s.ck : Int)) = y - (s.ck : Int) := wrap64_in _ ⟨by omega, by omega⟩
  have HE : Hid (min (wrap64 (wrap64 (wrap64 ((s.nf : Int) - 1) * (s.sz : Int)) - x)) (wrap64 (y - (s.ck : Int))) = s.space x y) := Lib.hid (by rw [w1, w2, w3, w4]; rfl)
  clear hm0 hm1 hnf hsz hck k hx hy w1 w2 w3 w4
  go_enter Tryz.func27, Tryz.ntmps27
  go_upto_region 1 with (fail)
  go_quiet (fail)
  go_wp2
  go_ret
  exact ⟨by rw [← HE.out]; rfl, HX.out _⟩
set_option maxRecDepth 100000 in
theorem wlast_any (k : s.Ok) (q : Nat × Nat) (hq : s.P[s.P.length - 1]? = some q) : Calls Tryz.prog 63 #[.pointer (some ⟨b, 0, none⟩)] w fun e w' => e = .returned (.agg #[.int .i64 (q.1 : Int), .int .i64 (q.2 : Int)]) ∧ Ext w w' := by
  have hP := k.P
  have hl : s.P.length - 1 < s.P.length := (List.getElem?_eq_some_iff.1 hq).1
  have hx1 : Ext w (w.alloc (.cells #[.int .i64 0, .int .i64 0] 75)) := (Ext.refl w).alloc _
  have hb := Blk.new w [.int .i64 0, .int .i64 0] 75
  obtain ⟨p, c, c7, h2⟩ := (h.ext hx1).parts
  obtain ⟨g, e, _, _, k0, _⟩ := h2.cell (pcells_at _ _ _ hq).1
  obtain ⟨g', e', _, _, k1, _⟩ := h2.cell (pcells_at _ _ _ hq).2
  subst e
  cases e'
  obtain ⟨n, hn⟩ : ∃ n, n = s.P.length - 1 := ⟨_, rfl⟩
  have hw : IntKind.i64.wrap ((s.P.length : Int) - 1) = (n : Int) := by rw [IntWalk.i64_in _ ⟨by omega, by omega⟩]; omega
  rw [← hn] at k0 k1
  have hnl : n < s.P.length := by omega
  have HX := Lib.hid hx1
  clear h h2 hq k hP hl hx1 hn
  go_enter Tryz.func63, Tryz.ntmps63
  go_upto_region 1 with (fail)
  generalize w.alloc (.cells #[.int .i64 0, .int .i64 0] 75) = W1 at *
  go_still_tail 12, (by kernel_rfl)
  change wpList _ _ _ _ _ W1.drew
  have hb2 : Blk W1.drew w.heap.size 75 [.int .i64 0, .int .i64 0] := hb
  have d0 := hb2.cell 0 _ rfl
  have d1 := hb2.cell 1 _ rfl
  have f0 := hb2.frozen 0
  have f1 := hb2.frozen 1
  have HB2 := Lib.hid hb2
  have HX2 := Lib.hid (HX.out.drew)
  clear hb hb2
  generalize W1.drew = W at *
  go_wp2
  exact bodyPost_ret (results_cell_row rfl _ _ w.heap.size 75 #[.int .i64 (q.1 : Int), .int .i64 (q.2 : Int)] (0, 0) _ rfl ((HB2.out.set_ 0 _).set_ 1 _) Tryz.underlying75 rfl part_info) rfl ⟨rfl, (HX2.out.setCell (p := ⟨w.heap.size, 0, none⟩) (Nat.le_refl _) _).setCell (p := ⟨w.heap.size, 1, none⟩) (Nat.le_refl _) _⟩
end
end Go.Proofs.YtbekdcpdfmfopaaGreat
end

section
namespace Go.Proofs.YtbekdcpdfmfopaaGreat
open Go.RowKit

theorem sumP_mem (P : List (Nat × Nat)) (h : ∀ p ∈ P, p.1 ≤ 16 ∧ p.2 ≤ 1099511627776) (hl : P.length ≤ 64) (j : Nat) : sumP (P.take j) ≤ 70368744177664 := by
  have h1 := sumP_le (P.take j) (fun p hp => h p (List.take_subset j P hp))
  have h2 : (P.take j).length ≤ 64 := by rw [List.length_take]; omega
  omega
section
variable (w : World) (b bd : Nat) (κ : Foot) (s : WS) (h : IsW w b bd κ s)
include h
set_option maxRecDepth 100000 in
theorem wbytes_any (k : s.Ok) : Calls Tryz.prog 28 #[.pointer (some ⟨b, 0, none⟩)] w fun e w' => e = .returned (.int .i64 (sumP s.P : Int)) ∧ Ext w w' := by
  obtain ⟨p, c, c7, h2⟩ := h.parts
  have hP := k.P
  have HS := Lib.hid (fun j => sumP_mem s.P k.b k.P j)
  have HC := Lib.hid (fun (u : World) (hx : Ext w u) j q (hq : s.P[j]? = some q) => (⟨(h2.ext hx).cell (pcells_at _ _ _ hq).1, (h2.ext hx).cell (pcells_at _ _ _ hq).2⟩ : _ ∧ _))
  have HX := Lib.hid (Ext.refl w)
  clear h h2 k
  go_enter Tryz.func28, Tryz.ntmps28
  go_wp2
  go_loopw [3, 11] (fun nv iv wr => ∃ j : Nat, j ≤ s.P.length ∧ iv = .int .i64 (j : Int) ∧ nv = .int .i64 ((sumP (s.P.take j) : Nat) : Int) ∧ Ext w wr) (fun _ iv _ => s.P.length - (intOf iv).toNat)
  case atStart => exact ⟨0, Nat.zero_le _, rfl, by simp [sumP], HX.out⟩
  case round =>
    obtain ⟨j, hj, rfl, rfl, hx⟩ := hrel
    by_cases hlt : j < s.P.length
    · obtain ⟨q, hq⟩ : ∃ q, s.P[j]? = some q := ⟨_, List.getElem?_eq_getElem hlt⟩
      obtain ⟨⟨g, e, _, _, k0, _⟩, ⟨g', e', _, _, k1, _⟩⟩ := HC.out wr hx j q hq
      subst e
      cases e'
      have hs1 := HS.out (j + 1)
      have HE := Lib.hid (sumP_take s.P j q hq)
      rw [HE.out] at hs1
      obtain ⟨z, hz⟩ : ∃ z : Nat, z = sumP (s.P.take j) + q.2 := ⟨_, rfl⟩
      have hw : IntKind.i64.wrap (((sumP (s.P.take j) : Nat) : Int) + (q.2 : Int)) = (z : Int) := by rw [IntWalk.i64_in _ ⟨by omega, by omega⟩]; omega
      have HX1 := Lib.hid hx
      have HZ := Lib.hid hz
      clear hx hq hs1 hz
      go_wp2
      go_roundw
      case rel => exact ⟨j + 1, by omega, by go_num, by rw [HE.out, ← HZ.out], HX1.out.alloc _⟩
      case measure => simp [intOf]; omega
    · obtain rfl : j = s.P.length := by omega
      have HX1 := Lib.hid hx
      clear hx
      go_wp2
      go_ret
      exact ⟨by rw [List.take_length]; rfl, HX1.out⟩
end
theorem DS.Ok.left_in {d : DS} (h : d.Ok) : -1000000000 ≤ d.left ∧ d.left ≤ 4194304 := by
  have h1 := h.room
  have h2 := szs_le d.now h.now_size d.m
  have h3 := h.m16
  unfold DS.left
  omega
theorem WS.Ok.space_in {s : WS} (k : s.Ok) (x y : Int) (hx : 0 ≤ x ∧ x ≤ 1125899906842624) (hy : -1125899906842624 ≤ y ∧ y ≤ 1125899906842624) : -2251799813685248 ≤ s.space x y ∧ s.space x y ≤ 2251799813685248 := by
  have hnf := k.nf
  have hsz := k.sz
  have hck := k.ck
  have hm0 : 0 ≤ ((s.nf : Int) - 1) * (s.sz : Int) := Int.mul_nonneg (by omega) (by omega)
  have hm1 : ((s.nf : Int) - 1) * (s.sz : Int) ≤ 15 * 4194304 := Int.mul_le_mul (by omega) (by omega) (by omega) (by omega)
  unfold WS.space
  omega
set_option maxRecDepth 100000 in
set_option maxHeartbeats 2000000 in
theorem wRoom_any (w : World) (b bd : Nat) (κ μ : Foot) (s : WS) (d : DS) (h : LS w b bd κ μ s d) (k : s.Ok) : Calls Tryz.prog 10 #[.pointer (some ⟨b, 0, none⟩)] w fun e w' => e = .returned (.int .i64 (s.room d)) ∧ Ext w w' := by
  obtain ⟨c0, _, _, _, _, _, _, c8, _⟩ := h.wal.cells
  have HT := Lib.hid (wthere_any w b bd κ s h.wal)
  have hsum := sumP_mem s.P k.b k.P s.P.length
  rw [List.take_length] at hsum
  have hleft := h.disk.ok.left_in
  have hr := k.r
  have hsp := k.space_in (sumP s.P : Int) d.left ⟨by omega, by omega⟩ ⟨by omega, by omega⟩
  have HB := Lib.hid (fun u (hx : Ext w u) => wbytes_any u b bd κ s (h.wal.ext hx) k)
  have HR := Lib.hid (fun u (hx : Ext w u) => Room_any u bd μ d (h.disk.ext hx))
  have HS := Lib.hid (fun u (hx : Ext w u) => wspace_any u b bd κ s (h.wal.ext hx) k (sumP s.P : Int) d.left ⟨by omega, by omega⟩ ⟨by omega, by omega⟩)
  have HP := Lib.hid (fun u (hx : Ext w u) => (⟨(h.wal.ext hx).cells.1, (h.wal.ext hx).cells.2.2.2.2.2.2.2.1, hx⟩ : u.cell? ⟨b, 0, none⟩ = some (.pointer (some ⟨bd, 0, none⟩)) ∧ u.cell? ⟨b, 8, none⟩ = some (.int .i64 s.r) ∧ Ext w u))
  have HE : Hid (max (IntKind.i64.wrap (s.space (sumP s.P : Int) d.left - s.r)) 0 = s.room d) := Lib.hid (by rw [IntWalk.i64_in _ ⟨by omega, by omega⟩]; rfl)
  have x0 : Ext w w.drew := (Ext.refl w).drew
  have hS := HP.out _ x0
  clear h k hsum hleft hr hsp
  generalize s.space (sumP s.P : Int) d.left = sp at *
  generalize s.room d = rm at *
  generalize d.left = lf at *
  generalize sumP s.P = sm at *
  go_enter Tryz.func10, Tryz.ntmps10
  go_upto_region 3 with (go_at_call 26; refine (HT.out).mono ?_; rintro e w1 ⟨rfl, rfl⟩)
  go_region_held3 (fun u => u.cell? ⟨b, 0, none⟩ = some (.pointer (some ⟨bd, 0, none⟩)) ∧ u.cell? ⟨b, 8, none⟩ = some (.int .i64 s.r) ∧ Ext w u) (first | exact hS | exact hS1 | exact hS2 | assumption | go_keep) (first
    | (go_at_call 28; refine (HB.out _ (by assumption)).mono ?_; rintro e w1 ⟨rfl, x1⟩; have y1 := Ext.trans (a := w) (by assumption) x1; have hS1 := HP.out _ y1)
    | (go_at_call 18; refine (HR.out _ (by assumption)).mono ?_; rintro e w2 ⟨rfl, rfl⟩)
    | (go_at_call 27; refine (HS.out _ (by assumption)).mono ?_; rintro e w2 ⟨rfl, x2⟩; have y2 := Ext.trans (a := w) (by assumption) x2; have hS2 := HP.out _ y2))
  all_goals
    go_wp2
    go_ret
    exact ⟨by rw [← HE.out]; rfl, by assumption⟩
end Go.Proofs.YtbekdcpdfmfopaaGreat
end

section
namespace Go.Proofs.YtbekdcpdfmfopaaGreat
open Go.RowKit

/-- A block that is neither the log's nor the disk's. -/
def Free (κ μ : Foot) (w : World) (g : Nat) : Prop := g < w.heap.size ∧ κ g = 0 ∧ μ g = 0
theorem Free.fr {κ μ κ' μ' : Foot} {w w' : World} {g : Nat} (h : Free κ μ w g) (f : Fr2 κ μ w w' κ' μ') : Free κ' μ' w' g := ⟨Nat.lt_of_lt_of_le h.1 f.size, (f.footw g h.1).trans h.2.1, (f.footd g h.1).trans h.2.2⟩
theorem Free.blk {κ μ κ' μ' : Foot} {w w' : World} {g : Nat} {T : TypeId} {cs : List Value} (h : Free κ μ w g) (f : Fr2 κ μ w w' κ' μ') (hb : Blk w g T cs) : Blk w' g T cs := (f.other g h.1 (by rw [h.2.1]; decide) (by rw [h.2.2]; decide)).trans hb
theorem Free.new {w : World} {b bd : Nat} {κ μ : Foot} {s : WS} {d : DS} {g : Nat} {w' : World} (h : LS w b bd κ μ s d) (h1 : w.heap.size ≤ g) (h2 : g < w'.heap.size) : Free κ μ w' g := ⟨h2, Classical.byContradiction fun e => by have := h.wal.ins g e; omega, Classical.byContradiction fun e => by have := h.disk.ins g e; omega⟩
/-- A call of the disk, as a closure of the log in block b. -/
def IsC (w : World) (b bd : Nat) (κ μ : Foot) (v : Value) : WC → Prop
  | .wr f s => ∃ x y z, v = .func (.func 56) #[] #[.pointer (some ⟨x, 0, none⟩), .pointer (some ⟨y, 0, none⟩), .pointer (some ⟨z, 0, none⟩)] ∧ Free κ μ w x ∧ Free κ μ w y ∧ Free κ μ w z ∧ Blk w x 27 [.pointer (some ⟨b, 0, none⟩)] ∧ Blk w y 3 [.int .i64 f] ∧ Blk w z 9 [.string s]
  | .cut f n => ∃ x y z, v = .func (.func 81) #[] #[.pointer (some ⟨x, 0, none⟩), .pointer (some ⟨y, 0, none⟩), .pointer (some ⟨z, 0, none⟩)] ∧ Free κ μ w x ∧ Free κ μ w y ∧ Free κ μ w z ∧ Blk w x 27 [.pointer (some ⟨b, 0, none⟩)] ∧ Blk w y 3 [.int .i64 f] ∧ Blk w z 3 [.int .i64 n]
  | .sync => v = .func (.func 30) #[.pointer (some ⟨bd, 0, none⟩)] #[]
  | .emp i f => ∃ x y z v2 x2 y2 z2, v = .func (.func 59) #[] #[.pointer (some ⟨x, 0, none⟩), .pointer (some ⟨y, 0, none⟩), .pointer (some ⟨z, 0, none⟩)] ∧ Free κ μ w x ∧ Free κ μ w y ∧ Free κ μ w z ∧ Blk w x 69 [v2] ∧ Blk w y 27 [.pointer (some ⟨b, 0, none⟩)] ∧ Blk w z 3 [.int .i64 (i : Int)] ∧
      v2 = .func (.func 81) #[] #[.pointer (some ⟨x2, 0, none⟩), .pointer (some ⟨y2, 0, none⟩), .pointer (some ⟨z2, 0, none⟩)] ∧ Free κ μ w x2 ∧ Free κ μ w y2 ∧ Free κ μ w z2 ∧ Blk w x2 27 [.pointer (some ⟨b, 0, none⟩)] ∧ Blk w y2 3 [.int .i64 (f : Int)] ∧ Blk w z2 3 [.int .i64 0]
  | .add f h n t => ∃ x y z, v = .func (.func 85) #[] #[.pointer (some ⟨x, 0, none⟩), .pointer (some ⟨y, 0, none⟩), .pointer (some ⟨z, 0, none⟩)] ∧ Free κ μ w x ∧ Free κ μ w y ∧ Free κ μ w z ∧ Blk w x 113 [.string h, .int .u64 (n : Int), .string t] ∧ Blk w y 27 [.pointer (some ⟨b, 0, none⟩)] ∧ Blk w z 3 [.int .i64 (f : Int)]
theorem IsC.fr {w w' : World} {b bd : Nat} {κ μ κ' μ' : Foot} {v : Value} {c : WC} (h : IsC w b bd κ μ v c) (f : Fr2 κ μ w w' κ' μ') : IsC w' b bd κ' μ' v c := by
  cases c with
  | wr f' s =>
    obtain ⟨x, y, z, h1, h2, h3, h4, h5, h6, h7⟩ := h
    exact ⟨x, y, z, h1, h2.fr f, h3.fr f, h4.fr f, h2.blk f h5, h3.blk f h6, h4.blk f h7⟩
  | cut f' n =>
    obtain ⟨x, y, z, h1, h2, h3, h4, h5, h6, h7⟩ := h
    exact ⟨x, y, z, h1, h2.fr f, h3.fr f, h4.fr f, h2.blk f h5, h3.blk f h6, h4.blk f h7⟩
  | sync => exact h
  | emp i f' =>
    obtain ⟨x, y, z, v2, x2, y2, z2, h1, h2, h3, h4, h5, h6, h7, g1, g2, g3, g4, g5, g6, g7⟩ := h
    exact ⟨x, y, z, v2, x2, y2, z2, h1, h2.fr f, h3.fr f, h4.fr f, h2.blk f h5, h3.blk f h6, h4.blk f h7, g1, g2.fr f, g3.fr f, g4.fr f, g2.blk f g5, g3.blk f g6, g4.blk f g7⟩
  | add f' h' n t =>
    obtain ⟨x, y, z, h1, h2, h3, h4, h5, h6, h7⟩ := h
    exact ⟨x, y, z, h1, h2.fr f, h3.fr f, h4.fr f, h2.blk f h5, h3.blk f h6, h4.blk f h7⟩
section
variable (w : World) (b bd : Nat) (κ μ : Foot) (s : WS) (d : DS) (h : LS w b bd κ μ s d)
include h
/-- writing(file, s): the closure. -/
theorem mkwr_any (f : Int) (t : ByteArray) : Calls Tryz.prog 33 #[.pointer (some ⟨b, 0, none⟩), .int .i64 f, .string t] w fun e w' => ∃ v, e = .returned v ∧ IsC w' b bd κ μ v (.wr f t) ∧ v.oneCell' = true ∧ Ext w w' := by
  have HF := Lib.hid (fun g (w' : World) h1 h2 => Free.new (w' := w') (g := g) h h1 h2)
  have B0 := Lib.hid (((Blk.new w [.pointer (some ⟨b, 0, none⟩)] 27).alloc (.cells #[.int .i64 f] 3)).alloc (.cells #[.string t] 9))
  have B1 := Lib.hid ((Blk.new (w.alloc (.cells #[.pointer (some ⟨b, 0, none⟩)] 27)) [.int .i64 f] 3).alloc (.cells #[.string t] 9))
  have B2 := Lib.hid (Blk.new ((w.alloc (.cells #[.pointer (some ⟨b, 0, none⟩)] 27)).alloc (.cells #[.int .i64 f] 3)) [.string t] 9)
  have HX := Lib.hid ((((Ext.refl w).alloc (.cells #[.pointer (some ⟨b, 0, none⟩)] 27)).alloc (.cells #[.int .i64 f] 3)).alloc (.cells #[.string t] 9))
  clear h
  go_enter Tryz.func33, Tryz.ntmps33
  go_wp2
  go_ret
  exact ⟨_, rfl, ⟨w.heap.size, w.heap.size + 1, w.heap.size + 2, rfl, HF.out _ _ (by omega) (by simp <;> omega), HF.out _ _ (by omega) (by simp <;> omega), HF.out _ _ (by omega) (by simp <;> omega), B0.out, by simpa using B1.out, by simpa using B2.out⟩, rfl, HX.out⟩
theorem mkcut_any (f n : Int) : Calls Tryz.prog 58 #[.pointer (some ⟨b, 0, none⟩), .int .i64 f, .int .i64 n] w fun e w' => ∃ v, e = .returned v ∧ IsC w' b bd κ μ v (.cut f n) ∧ v.oneCell' = true ∧ Ext w w' := by
  have HF := Lib.hid (fun g (w' : World) h1 h2 => Free.new (w' := w') (g := g) h h1 h2)
  have B0 := Lib.hid (((Blk.new w [.pointer (some ⟨b, 0, none⟩)] 27).alloc (.cells #[.int .i64 f] 3)).alloc (.cells #[.int .i64 n] 3))
  have B1 := Lib.hid ((Blk.new (w.alloc (.cells #[.pointer (some ⟨b, 0, none⟩)] 27)) [.int .i64 f] 3).alloc (.cells #[.int .i64 n] 3))
  have B2 := Lib.hid (Blk.new ((w.alloc (.cells #[.pointer (some ⟨b, 0, none⟩)] 27)).alloc (.cells #[.int .i64 f] 3)) [.int .i64 n] 3)
  have HX := Lib.hid ((((Ext.refl w).alloc (.cells #[.pointer (some ⟨b, 0, none⟩)] 27)).alloc (.cells #[.int .i64 f] 3)).alloc (.cells #[.int .i64 n] 3))
  clear h
  go_enter Tryz.func58, Tryz.ntmps58
  go_wp2
  go_ret
  exact ⟨_, rfl, ⟨w.heap.size, w.heap.size + 1, w.heap.size + 2, rfl, HF.out _ _ (by omega) (by simp <;> omega), HF.out _ _ (by omega) (by simp <;> omega), HF.out _ _ (by omega) (by simp <;> omega), B0.out, by simpa using B1.out, by simpa using B2.out⟩, rfl, HX.out⟩
end
end Go.Proofs.YtbekdcpdfmfopaaGreat
end
