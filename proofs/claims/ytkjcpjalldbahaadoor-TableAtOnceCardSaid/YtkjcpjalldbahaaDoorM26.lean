/- Contracts: a table, by the program: whether it is there, whether it has a path, its cell, sizes, rows that may be, copies. -/
import Derived.Test.YtkjcpjalldbahaaDoorM17
import Derived.Test.YtkjcpjalldbahaaDoorM09
import Derived.Test.YtkjcpjalldbahaaDoorM21
import Derived.Test.YtkjcpjalldbahaaDoorM22
import Derived.Test.YtkjcpjalldbahaaDoorM25
import Derived.WalkSpells
import Derived.Carry
import Derived.Deep.DeepCutAuto
section
namespace Go.Proofs.YtkjcpjalldbahaaDoor
open Go.RowKit Go.ChangeMaps Go.MapKept

theorem results_oneT {tmps : Array Value} {fn : Func} {p : Tmp} {ty : TypeId} (h : fn.results = #[.cell p ty]) (w : World) (g : Nat) (cs : Array Value)
    (hp : tmps.getD p undef = .pointer (some ⟨g, 0, none⟩)) (hl : (loadVar ty ⟨g, 0, none⟩).run Tryd.prog w = .ok (.agg cs) w) : (results fn tmps).run Tryd.prog w = .ok (.agg cs) w := by
  have hp' : tmps[p]?.getD undef = .pointer (some ⟨g, 0, none⟩) := by simpa using hp
  simp [results, h, hp', asAddr, hl]
theorem tnew_any (w : World) (qp qb : Int) (lo : Nat) :
    Calls Tryd.prog 7 #[.agg #[.int .i64 qp, .int .i64 qb]] w fun e w' => ∃ t b, e = .returned (.pointer (some ⟨t, 0, none⟩)) ∧ IsT w' lo t b qp qb [] ∧ Ext w w' ∧ w.heap.size ≤ t ∧ w.heap.size ≤ b := by
  have hmm := @run_makeMap Tryd.prog
  go_enter Tryd.func7, Tryd.ntmps7
  go_wp2
  go_ret
  refine ⟨w.heap.size + 2, w.heap.size + 1, rfl, ⟨?_, ?_, GoodR.nil⟩, (((Ext.refl w).alloc _).alloc _).alloc _, by omega, by omega⟩
  · exact Blk.new2V w _ _ [.int .i64 qp, .int .i64 qb, .map (some (w.heap.size + 1)), .int .i64 0] _
  · have := (IsM.made (w.alloc (.cells #[.int .i64 qp, .int .i64 qb] 31)) lo).ext ((Ext.refl _).alloc (.cells #[.int .i64 qp, .int .i64 qb, .map (some (w.heap.size + 1)), .int .i64 0] 63))
    simpa using this
theorem tthere_yes (w : World) (t b : Nat) (h : w.cell? ⟨t, 2, none⟩ = some (.map (some b))) :
    Calls Tryd.prog 20 #[.pointer (some ⟨t, 0, none⟩)] w fun e w' => e = .returned (.bool true) ∧ w = w' := by
  have hnn := run_neq_map_nil (P := Tryd.prog) w 61 9 54 (some b) Tryd.underlying61
  simp only [Option.isNone_some, Bool.not_false] at hnn
  go_enter Tryd.func20, Tryd.ntmps20
  go_wp2
  go_ret
  exact ⟨rfl, rfl⟩
theorem tthere_no (w : World) :
    Calls Tryd.prog 20 #[.pointer none] w fun e w' => e = .returned (.bool false) ∧ w = w' := by
  go_enter Tryd.func20, Tryd.ntmps20
  go_wp2
  go_ret
  exact ⟨rfl, rfl⟩
section
variable {w : World} {lo t b : Nat} {qp qb : Int} {R : List RowP}
theorem IsT.cell (h : IsT w lo t b qp qb R) : w.cell? ⟨t, 2, none⟩ = some (.map (some b)) := h.blk.cell 2 _ rfl
end
theorem thas_any (w : World) (lo t b : Nat) (qp qb : Int) (R : List RowP) (h : IsT w lo t b qp qb R) (p : ByteArray) (hp : p.size ≤ 140737488355328) :
    Calls Tryd.prog 26 #[.pointer (some ⟨t, 0, none⟩), .string p] w fun e w' => e = .returned (.bool (hasR R p)) ∧ Ext w w' := by
  have hc := h.cell
  obtain ⟨a, c, hv, hl, hrun⟩ := h.map.look p hp
  have hr := hrun w (Ext.refl w) true
  simp only [if_true] at hr
  generalize hasR R p = hb at *
  generalize (cellR R p).1 = m at *
  generalize (cellR R p).2.length = n at *
  clear hrun hl hv h
  go_enter Tryd.func26, Tryd.ntmps26
  go_wp2
  go_ret
  exact ⟨rfl, (Ext.refl w).alloc _⟩
set_option maxRecDepth 100000 in
set_option maxHeartbeats 2000000 in
theorem tsize_any (w : World) (s : ByteArray) (hs : s.size ≤ 1000000) (m : Nat) (p : Option Addr) (c : Nat) (L : List Ver) (h : VersP w p L) (hl : L.length ≤ 1000000) (hz : sizeL L ≤ 1000000000) :
    Calls Tryd.prog 34 #[.string s, .agg #[.int .u64 (m : Int), .slice p L.length c]] w fun e w' => e = .returned (.int .i64 (szR ⟨s, m, L⟩ : Int)) ∧ Ext w w' := by
  have HX0 := Lib.hid ((Ext.refl w).alloc (.cells #[.int .u64 (m : Int), .slice p L.length c] 54))
  have HS := Lib.hid (size_any _ m p c L (h.ext HX0.out) (by omega) (by omega))
  obtain ⟨z, hzz⟩ : ∃ z, szR ⟨s, m, L⟩ = z := ⟨_, rfl⟩
  have hw : IntKind.i64.wrap ((s.size : Int) + (sizeL L : Int)) = (z : Int) := by rw [← hzz, IntWalk.i64_in _ ⟨by omega, by omega⟩]; rfl
  rw [hzz]
  generalize sizeL L = q at *
  generalize L.length = n at *
  clear hzz h
  go_enter Tryd.func34, Tryd.ntmps34
  go_wp2_with (go_at_call 48; refine HS.out.mono ?_; rintro e w1 ⟨rfl, x1⟩)
  go_ret
  exact ⟨rfl, HX0.out.trans x1⟩
set_option maxRecDepth 100000 in
set_option maxHeartbeats 2000000 in
theorem isRow_any (w : World) (s : ByteArray) (hs : s.size ≤ 140737488351232) (m : Nat) (p : Option Addr) (c : Nat) (L : List Ver) (h : VersP w p L) (hl : L.length ≤ 1000000) :
    Calls Tryd.prog 25 #[.agg #[.string s, .int .u64 (m : Int), .slice p L.length c]] w fun e w' => e = .returned (.bool (okR ⟨s, m, L⟩)) ∧ Ext w w' := by
  have HX0 := Lib.hid ((Ext.refl w).alloc (.cells #[.string s, .int .u64 (m : Int), .slice p L.length c] 56))
  have HB0 := Lib.hid (Blk.new w [.string s, .int .u64 (m : Int), .slice p L.length c] 56)
  have HP := Lib.hid (fun u => May_any s hs u)
  have HM := Lib.hid (fun u (x : Ext w u) => may_any u m p c L (h.ext x) (by omega))
  have hO : okR ⟨s, m, L⟩ = (mayB s.data.toList && mayL m L && decide ((0 : Int) < (L.length : Int))) := by
    unfold okR
    congr 1
    rw [decide_eq_decide]
    dsimp only
    omega
  rw [hO]
  generalize mayB s.data.toList = A at *
  generalize mayL m L = B at *
  generalize L.length = n at *
  clear h hO hs hl
  go_enter Tryd.func25, Tryd.ntmps25
  cases A
  · go_wp2_with (go_at_call 38; refine (HP.out _).mono ?_; rintro e w1 ⟨rfl, x1⟩)
    go_ret
    exact ⟨rfl, HX0.out.trans x1⟩
  · cases B
    all_goals
      go_wp2_with (first | (go_at_call 38; refine (HP.out _).mono ?_; rintro e w1 ⟨rfl, x1⟩; have HX1 := Lib.hid (HX0.out.trans x1); have B1 := Lib.hid (HB0.out.ext x1); have a1 := B1.out.cell 1 _ rfl; have a2 := B1.out.cell 2 _ rfl; clear x1) | (go_at_call 39; refine (HM.out _ HX1.out).mono ?_; rintro e w2 ⟨rfl, x2⟩; have HX2 := Lib.hid (HX1.out.trans x2); have B2 := Lib.hid (B1.out.ext x2); have a2 := B2.out.cell 2 _ rfl; clear x2))
      go_ret
      exact ⟨by simp, HX2.out⟩
end Go.Proofs.YtkjcpjalldbahaaDoor
end
