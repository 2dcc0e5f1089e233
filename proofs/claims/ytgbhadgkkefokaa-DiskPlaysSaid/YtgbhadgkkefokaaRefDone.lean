/- Contracts: a call done on a copy of the texts; the files, by the document's answer. -/
import Derived.Test.YtgbhadgkkefokaaRefD
import Derived.Test.YtgbhadgkkefokaaDo
import Derived.Test.YtgbhadgkkefokaaActs
import Derived.Test.YtgbhadgkkefokaaSpoil
import Derived.StillTailTactics
import Derived.BigRegion
namespace Go.Proofs.Ytgbhadgkkefokaa
open Go.RowKit
theorem four_cells {w : World} {g : Nat} {T : TypeId} {a b c d : Value} (h : Blk w g T [a, b, c, d]) : w.cell? ⟨g, 0, none⟩ = some a ∧ w.cell? ⟨g, 1, none⟩ = some b ∧ w.cell? ⟨g, 2, none⟩ = some c ∧ w.cell? ⟨g, 3, none⟩ = some d :=
  ⟨h.cell 0 _ rfl, h.cell 1 _ rfl, h.cell 2 _ rfl, h.cell 3 _ rfl⟩
set_option maxRecDepth 100000 in
set_option maxHeartbeats 4000000 in
theorem done_cut (w : World) (κ : Foot) (k1 : Nat) (p : Option Addr) (m c : Nat) (N : Fs) (h : Sl w κ k1 1 9 p m c (txs N m)) (hm : m ≤ 16) (f : Nat) (hf : f < m) (n : Nat) (hn : n ≤ (N f).size) (s : ByteArray) (bytes : Int) (κ0 : Foot) :
    Calls Try.prog 30 #[.slice p m c, .agg #[.int .i64 (f : Int), .bool true, .int .i64 (n : Int), .string s], .int .i64 bytes] w fun e w' => ∃ q c', e = .returned (.slice q m c') ∧ ∃ κ', Sl w' κ' 3 1 9 q m c' (txs (upd N f ((N f).extract 0 n)) m) ∧ Fr κ0 (fun _ => False) w w' κ' := by
  have hx1 : Ext w ((w.alloc (.cells #[.int .i64 (f : Int), .bool true, .int .i64 (n : Int), .string s] 63)).alloc (.cells #[] 9)) := ((Ext.refl w).alloc _).alloc _
  have hb0 : Blk ((w.alloc (.cells #[.int .i64 (f : Int), .bool true, .int .i64 (n : Int), .string s] 63)).alloc (.cells #[] 9)) w.heap.size 63 [.int .i64 (f : Int), .bool true, .int .i64 (n : Int), .string s] := (Blk.new w _ _).alloc _
  have HS := Lib.hid ((h.ext hx1).src (P := Try.prog) (tx := 57) Try.underlying57 (txs_one _ _))
  have HX1 := Lib.hid hx1
  have HB0 := Lib.hid hb0
  have hsz : 0 + m ≤ 1000000000 := by omega
  have HAt := Lib.hid (txs_at N m f hf)
  have HSet := Lib.hid (txs_set N m f ((N f).extract 0 n))
  have hsl := fun u => slice_to (N f) n hn u
  have hf0 : (0 : Int) ≤ (f : Int) := by omega
  have hfm : (f : Int) < (m : Int) := by omega
  clear h hx1 hb0 hn
  generalize (N f).extract 0 n = X at *
  generalize N f = F at *
  go_enter Try.func30, Try.ntmps30
  go_wp2_with (refine wpList_append_sl rfl (.tmp 8) (.tmp 9) 57 57 rfl Try.underlying57 infoT rfl (by decide) rfl (Sl.empty _ κ0 3 1 _ (w.heap.size + 1)) (fun u hu => by cases hu) _ rfl m (txs N m) HS.out hsz ?_; intro p1 c1 w1 κ1 s1 f1 e1 x1 o1; rw [Nat.zero_add, List.nil_append] at s1; rw [Nat.zero_add]; have HX2 := Lib.hid (x1 rfl); obtain ⟨g, rfl, hgl, hgk, hgc, hgf⟩ := s1.cell HAt.out; have HSl := Lib.hid s1; have HF := Lib.hid f1; have HE1 := Lib.hid e1; obtain ⟨a0, a1, a2, a3⟩ := four_cells (HB0.out.ext (x1 rfl)); clear s1 f1 x1 o1 e1)
  go_region
  go_wp2
  go_ret
  have hge : w.heap.size ≤ g := by
    rcases HE1.out with e | e
    · cases e; exact Nat.le_succ _
    · have e2 := congrArg (fun a : Option Addr => (a.map Addr.block).getD 0) e
      simp at e2
      omega
  refine ⟨_, _, rfl, κ1, ?_, ?_⟩
  · have := (HSl.out.ext (Ext.refl w1).drew).setOne f (.string X)
    rw [HSet.out] at this
    exact this
  · exact (((HX1.out.fr κ0 (fun _ => False)).trans ⟨HF.out.os, HF.out.tape, HF.out.output, HF.out.size, fun g hg _ => HX2.out.block g hg, HF.out.foot, HF.out.ins⟩).drew).own hge _
set_option maxRecDepth 100000 in
set_option maxHeartbeats 4000000 in
theorem done_wr (w : World) (κ : Foot) (k1 : Nat) (p : Option Addr) (m c : Nat) (N : Fs) (h : Sl w κ k1 1 9 p m c (txs N m)) (hm : m ≤ 16) (f : Nat) (hf : f < m) (n : Int) (s : ByteArray) (bytes : Int) (k : Nat) (hk : (k : Int) = min (max bytes 0) (s.size : Int)) (hN : (N f).size + s.size ≤ 4194304) (κ0 : Foot) :
    Calls Try.prog 30 #[.slice p m c, .agg #[.int .i64 (f : Int), .bool false, .int .i64 n, .string s], .int .i64 bytes] w fun e w' => ∃ q c', e = .returned (.slice q m c') ∧ ∃ κ', Sl w' κ' 3 1 9 q m c' (txs (upd N f (N f ++ s.extract 0 k)) m) ∧ Fr κ0 (fun _ => False) w w' κ' := by
  have hx1 : Ext w ((w.alloc (.cells #[.int .i64 (f : Int), .bool false, .int .i64 n, .string s] 63)).alloc (.cells #[] 9)) := ((Ext.refl w).alloc _).alloc _
  have hb0 : Blk ((w.alloc (.cells #[.int .i64 (f : Int), .bool false, .int .i64 n, .string s] 63)).alloc (.cells #[] 9)) w.heap.size 63 [.int .i64 (f : Int), .bool false, .int .i64 n, .string s] := (Blk.new w _ _).alloc _
  have HS := Lib.hid ((h.ext hx1).src (P := Try.prog) (tx := 57) Try.underlying57 (txs_one _ _))
  have HX1 := Lib.hid hx1
  have HB0 := Lib.hid hb0
  have hsz : 0 + m ≤ 1000000000 := by omega
  have HAt := Lib.hid (txs_at N m f hf)
  have HSet := Lib.hid (txs_set N m f (N f ++ s.extract 0 k))
  have hks : k ≤ s.size := by omega
  have hbig : ¬ 9223372036854775807 < (N f).size + (s.extract 0 k).size := by rw [size_extract _ _ hks]; omega
  have hsl := fun u => slice_to s k hks u
  obtain ⟨z, hz⟩ : ∃ z, max bytes 0 = z := ⟨_, rfl⟩
  have hmx := fun ts t u => run_max2 ts t bytes 0 z hz.symm u
  rw [hz] at hk
  have hmn := fun ts t u => run_min2 ts t z (s.size : Int) (k : Int) hk u
  have hf0 : (0 : Int) ≤ (f : Int) := by omega
  have hfm : (f : Int) < (m : Int) := by omega
  clear h hx1 hb0 hk hz hks hN
  generalize s.extract 0 k = Y at *
  generalize N f = F at *
  go_enter Try.func30, Try.ntmps30
  go_wp2_with (refine wpList_append_sl rfl (.tmp 8) (.tmp 9) 57 57 rfl Try.underlying57 infoT rfl (by decide) rfl (Sl.empty _ κ0 3 1 _ (w.heap.size + 1)) (fun u hu => by cases hu) _ rfl m (txs N m) HS.out hsz ?_; intro p1 c1 w1 κ1 s1 f1 e1 x1 o1; rw [Nat.zero_add, List.nil_append] at s1; rw [Nat.zero_add]; have HX2 := Lib.hid (x1 rfl); obtain ⟨g, rfl, hgl, hgk, hgc, hgf⟩ := s1.cell HAt.out; have HSl := Lib.hid s1; have HF := Lib.hid f1; have HE1 := Lib.hid e1; obtain ⟨a0, a1, a2, a3⟩ := four_cells (HB0.out.ext (x1 rfl)); clear s1 f1 x1 o1 e1)
  go_region
  go_wp2
  go_ret
  have hge : w.heap.size ≤ g := by
    rcases HE1.out with e | e
    · cases e; exact Nat.le_succ _
    · have e2 := congrArg (fun a : Option Addr => (a.map Addr.block).getD 0) e
      simp at e2
      omega
  refine ⟨_, _, rfl, κ1, ?_, ?_⟩
  · have := (HSl.out.ext (Ext.refl w1).drew).setOne f (.string (F ++ Y))
    rw [HSet.out] at this
    exact this
  · exact (((HX1.out.fr κ0 (fun _ => False)).trans ⟨HF.out.os, HF.out.tape, HF.out.output, HF.out.size, fun g hg _ => HX2.out.block g hg, HF.out.foot, HF.out.ins⟩).drew).own hge _
end Go.Proofs.Ytgbhadgkkefokaa
