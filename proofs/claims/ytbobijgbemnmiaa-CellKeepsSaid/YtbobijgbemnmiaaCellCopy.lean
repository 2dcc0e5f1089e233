/- Contracts: copies of a cell: the law's copied, slices.Clone, the program's clone. -/
import Derived.Test.YtbobijgbemnmiaaCellRead
namespace Go.Proofs.Ytbobijgbemnmiaa
open Go.RowKit

section
variable {w w' : World} {B : Nat} {p : Option Addr} {c : Nat} {L : List Ver}
theorem IsV.setCell (h : IsV w B p c L) {a : Addr} (ha : a.block < B) (u : Value) : IsV (w.setCell a u) B p c L :=
  ⟨h.sl.same (fun g _ hg => Below.heap_setCell _ _ _ _ (by have := h.low g (kp_one hg); omega)) (fun _ _ q => q), h.low⟩
/-- A new slice of versions. -/
theorem isV_new {p' : Option Addr} {c' n : Nat} {κ' : Foot} (hn : L.length = n) (s : Sl w' κ' 1 3 35 p' n c' (vsCells L)) (e : p' = none ∨ p' = some ⟨B, 0, none⟩) : IsV w' B p' c' L := by
  subst hn
  refine ⟨s.kp, fun g hg => ?_⟩
  rcases e with e | e
  · rw [e] at hg; cases hg
  · rw [e] at hg; cases hg; exact Nat.le_refl _
end
theorem size2 (w : World) (o o' : Obj) : ((w.alloc o).alloc o').heap.size = w.heap.size + 2 := by simp
set_option maxRecDepth 100000 in
set_option maxHeartbeats 2000000 in
/-- The law's copied. -/
theorem copied_any (w : World) (m : Nat) (p : Option Addr) (c : Nat) (L : List Ver) (h : VersP w p L) (hl : L.length ≤ 1000000) :
    Calls Try.prog 11 #[.agg #[.int .u64 (m : Int), .slice p L.length c]] w fun e w' => ∃ q c', e = .returned (.agg #[.int .u64 (m : Int), .slice q L.length c']) ∧ IsV w' w.heap.size q c' L ∧ Ext w w' := by
  obtain ⟨k, hk⟩ : ∃ k, L.length = k := ⟨_, rfl⟩
  have HX0 := Lib.hid (((Ext.refl w).alloc (.cells #[.int .u64 (m : Int), .slice p k c] 25)).alloc (.cells #[.int .u64 0, .slice none 0 0] 25))
  have HB1 := Lib.hid ((Blk.new w [.int .u64 (m : Int), .slice p k c] 25).alloc (.cells #[.int .u64 0, .slice none 0 0] 25))
  have HB2 := Lib.hid (Blk.new1V w (.cells #[.int .u64 (m : Int), .slice p k c] 25) [.int .u64 0, .slice none 0 0] 25)
  have HS := Lib.hid ((h.ext HX0.out).src c)
  have HZ := Lib.hid (size2 w (.cells #[.int .u64 (m : Int), .slice p k c] 25) (.cells #[.int .u64 0, .slice none 0 0] 25))
  have HK := Lib.hid hk
  rw [hk] at hl HS ⊢
  have hl2 : 0 + k ≤ 1000000000 := by omega
  generalize hcs : vsCells L = cs at *
  have HC := Lib.hid hcs
  clear h hk hcs
  go_enter Try.func11, Try.ntmps11
  go_wp2_with (refine wpList_append_sl rfl (.const (.slice none 0 0)) (.tmp 4) 23 23 rfl Try.underlying23 infoV rfl (by decide) rfl (Sl.nil _ (kp none) 1 3 _) (fun u hu => by cases hu) _ rfl k cs HS.out hl2 ?_; intro p1 c1 w1 κ1 s1 f1 e1 x1 o1; rw [Nat.zero_add, List.nil_append] at s1; have HSl := Lib.hid s1; have HE := Lib.hid e1; have HX1 := Lib.hid (x1 rfl); have HB3 := Lib.hid (HB1.out.ext HX1.out); have HB4 := Lib.hid (HB2.out.ext HX1.out); have b0 := HB3.out.cell 0 _ rfl; have b1 := HB3.out.cell 1 _ rfl; have z1 := HB3.out.frozen 1; have d0 := HB4.out.cell 0 _ rfl; have d1 := HB4.out.cell 1 _ rfl; have y0 := HB4.out.frozen 0; have y1 := HB4.out.frozen 1; clear s1 f1 e1 x1 o1; rw [Nat.zero_add])
  have HV : IsV w1 (w.heap.size + 2) p1 c1 L := isV_new HK.out (by rw [HC.out]; exact HSl.out) (by have := HE.out; rwa [HZ.out] at this)
  have HW := ((HV.setCell (a := ⟨w.heap.size, 1, none⟩) (by show w.heap.size < _; omega) (.slice p1 k c1)).setCell (a := ⟨w.heap.size + 1, 0, none⟩) (by show w.heap.size + 1 < _; omega) (.int .u64 (m : Int))).setCell (a := ⟨w.heap.size + 1, 1, none⟩) (by show w.heap.size + 1 < _; omega) (.slice p1 k c1)
  exact bodyPost_ret (results_cell_row rfl _ _ (w.heap.size + 1) 25 #[.int .u64 (m : Int), .slice p1 k c1] (0, 0) _ rfl (((HB4.out.other (by omega) _ _).set_ 0 _).set_ 1 _) Try.underlying25 rfl cell_info) rfl ⟨p1, c1, rfl, HW.base (by omega), (((HX0.out.trans HX1.out).setCell (p := ⟨w.heap.size, 1, none⟩) (Nat.le_refl _) _).setCell (p := ⟨w.heap.size + 1, 0, none⟩) (Nat.le_succ _) _).setCell (p := ⟨w.heap.size + 1, 1, none⟩) (Nat.le_succ _) _⟩
theorem nilV (p : Option Addr) (n c : Nat) (w : World) : (binOp .eql 23 (.slice p n c) (.slice none 0 0)).run Try.prog w = .ok (.bool p.isNone) w := by
  have h2 : ∀ d, (Op.equalIn (d + 1) 23 (.slice p n c) (.slice none 0 0)).run Try.prog w = .ok p.isNone w := fun d => by
    cases p <;> simp [Op.equalIn, run_underlying Try.underlying23]
  have h : (Op.equal 23 (.slice p n c) (.slice none 0 0)).run Try.prog w = .ok p.isNone w := h2 9999
  simp [binOp, h]
theorem VersP.none_nil {w : World} {L : List Ver} (h : VersP w none L) : L = [] := by
  cases L with
  | nil => rfl
  | cons v r => obtain ⟨a, e, _⟩ := h 0 v rfl; cases e
set_option maxRecDepth 100000 in
set_option maxHeartbeats 2000000 in
/-- slices.Clone of versions. -/
theorem cloneV_any (w : World) (p : Option Addr) (c : Nat) (L : List Ver) (h : VersP w p L) (hl : L.length ≤ 1000000) :
    Calls Try.prog 39 #[.slice p L.length c] w fun e w' => ∃ q c', e = .returned (.slice q L.length c') ∧ IsV w' w.heap.size q c' L ∧ Ext w w' := by
  have hnil := fun p n c u => nilV p n c u
  cases p with
  | none =>
    obtain rfl := h.none_nil
    clear h
    go_enter Try.func39, Try.ntmps39
    go_wp2
    go_ret
    exact ⟨none, 0, rfl, IsV.nil _ _, Ext.refl _⟩
  | some a =>
    have HX0 := Lib.hid ((Ext.refl w).alloc (.cells #[] 35))
    have HS := Lib.hid ((h.ext HX0.out).src c)
    obtain ⟨k, hk⟩ : ∃ k, L.length = k := ⟨_, rfl⟩
    have HK := Lib.hid hk
    rw [hk] at hl HS ⊢
    have hl2 : 0 + k ≤ 1000000000 := by omega
    generalize hcs : vsCells L = cs at *
    have HC := Lib.hid hcs
    clear h hk hcs
    go_enter Try.func39, Try.ntmps39
    go_wp2_with (refine wpList_append_sl rfl (.tmp 5) (.tmp 6) 23 23 rfl Try.underlying23 infoV rfl (by decide) rfl (Sl.empty _ (kp none) 1 3 _ w.heap.size) (fun u hu => by cases hu) _ rfl k cs HS.out hl2 ?_; intro p1 c1 w1 κ1 s1 f1 e1 x1 o1; rw [Nat.zero_add, List.nil_append] at s1; have HSl := Lib.hid s1; have HE := Lib.hid e1; have HX1 := Lib.hid (x1 rfl); clear s1 f1 e1 x1 o1; rw [Nat.zero_add])
    go_ret
    refine ⟨p1, c1, rfl, ?_, HX0.out.trans HX1.out⟩
    refine ⟨?_, fun g hg => ?_⟩
    · have s := HSl.out.kp
      rw [← HC.out, ← HK.out] at s
      exact s
    · rcases HE.out with e | e
      · rw [e] at hg; cases hg; exact Nat.le_refl _
      · rw [e] at hg; cases hg; simp
set_option maxRecDepth 100000 in
set_option maxHeartbeats 2000000 in
/-- The program's clone. -/
theorem clone_any (w : World) (m : Nat) (p : Option Addr) (c : Nat) (L : List Ver) (h : VersP w p L) (hl : L.length ≤ 1000000) :
    Calls Try.prog 33 #[.agg #[.int .u64 (m : Int), .slice p L.length c]] w fun e w' => ∃ q c', e = .returned (.agg #[.int .u64 (m : Int), .slice q L.length c']) ∧ IsV w' w.heap.size q c' L ∧ Ext w w' := by
  have HX0 := Lib.hid (((Ext.refl w).alloc (.cells #[.int .u64 (m : Int), .slice p L.length c] 25)).alloc (.cells #[.int .u64 0, .slice none 0 0] 25))
  have HB1 := Lib.hid ((Blk.new w [.int .u64 (m : Int), .slice p L.length c] 25).alloc (.cells #[.int .u64 0, .slice none 0 0] 25))
  have HB2 := Lib.hid (Blk.new1V w (.cells #[.int .u64 (m : Int), .slice p L.length c] 25) [.int .u64 0, .slice none 0 0] 25)
  have HZ := Lib.hid (size2 w (.cells #[.int .u64 (m : Int), .slice p L.length c] 25) (.cells #[.int .u64 0, .slice none 0 0] 25))
  have HC := Lib.hid (cloneV_any _ p c L (h.ext HX0.out) hl)
  obtain ⟨k, hk⟩ : ∃ k, L.length = k := ⟨_, rfl⟩
  rw [hk] at HX0 HB1 HB2 HZ HC ⊢
  clear h hk hl
  go_enter Try.func33, Try.ntmps33
  go_wp2_with (go_at_call 39; refine HC.out.mono ?_; rintro e w1 ⟨p1, c1, rfl, v1, x1⟩; have HV := Lib.hid v1; have HX1 := Lib.hid x1; have HB3 := Lib.hid (HB1.out.ext HX1.out); have HB4 := Lib.hid (HB2.out.ext HX1.out); have b0 := HB3.out.cell 0 _ rfl; have b1 := HB3.out.cell 1 _ rfl; have z1 := HB3.out.frozen 1; have d0 := HB4.out.cell 0 _ rfl; have d1 := HB4.out.cell 1 _ rfl; have y0 := HB4.out.frozen 0; have y1 := HB4.out.frozen 1; clear v1 x1)
  have HV2 := HV.out
  rw [HZ.out] at HV2
  have HW := ((HV2.setCell (a := ⟨w.heap.size, 1, none⟩) (by show w.heap.size < _; omega) (.slice p1 k c1)).setCell (a := ⟨w.heap.size + 1, 0, none⟩) (by show w.heap.size + 1 < _; omega) (.int .u64 (m : Int))).setCell (a := ⟨w.heap.size + 1, 1, none⟩) (by show w.heap.size + 1 < _; omega) (.slice p1 k c1)
  exact bodyPost_ret (results_cell_row rfl _ _ (w.heap.size + 1) 25 #[.int .u64 (m : Int), .slice p1 k c1] (0, 0) _ rfl (((HB4.out.other (by omega) _ _).set_ 0 _).set_ 1 _) Try.underlying25 rfl cell_info) rfl ⟨p1, c1, rfl, HW.base (by omega), (((HX0.out.trans HX1.out).setCell (p := ⟨w.heap.size, 1, none⟩) (Nat.le_refl _) _).setCell (p := ⟨w.heap.size + 1, 0, none⟩) (Nat.le_succ _) _).setCell (p := ⟨w.heap.size + 1, 1, none⟩) (Nat.le_succ _) _⟩
end Go.Proofs.Ytbobijgbemnmiaa
