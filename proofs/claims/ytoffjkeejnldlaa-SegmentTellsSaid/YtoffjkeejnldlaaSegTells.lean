/- The walk of SegmentTells. Whatever the input is, the statement's Go function SegmentTells returns true, and each argument reads afterwards as it read before. It holds for every input of its parameters' types that the form of the row reads (each text and each slice of at most 2^47 - 4096 bytes), without any further condition. -/
import Derived.Test.YtoffjkeejnldlaaSegBase
import Derived.Test.YtoffjkeejnldlaaSegMid
import Derived.Test.YtoffjkeejnldlaaScanN
import Derived.RegionTactic
import Derived.Test.YtoffjkeejnldlaaRows
import Derived.WalkKit
import Derived.ProofKit
import Derived.OpenShut
import Derived.ShutString
import Derived.ChangeOld
import Derived.Below
import Derived.SizedLaws
section
namespace Go.Proofs.Ytoffjkeejnldlaa
open Go.RowKit

theorem takeWhile_le {α : Type} (p : α → Bool) : ∀ l : List α, (l.takeWhile p).length ≤ l.length
  | [] => Nat.le_refl _
  | a :: r => by
    have := takeWhile_le p r
    rw [List.takeWhile_cons]
    split
    · simp; omega
    · simp
theorem parseF_len (s : ByteArray) : (parseF s).1.r.length ≤ s.size := by
  unfold parseF
  split
  · split
    · exact Nat.zero_le _
    · unfold segP
      dsimp only
      rw [txtR_length]
      refine Nat.le_trans (takeWhile_le _ _) (Nat.le_trans (scanF_length _ _) ?_)
      rw [ByteArray.size_extract]; omega
  · exact Nat.zero_le _
set_option maxRecDepth 100000 in
set_option maxHeartbeats 16000000 in
theorem SegmentTells_walk (x : Seg) (p : Option Addr) (c : Nat) (s : ByteArray) (W : World) (hr : TextsP W p x.r) (ok : x.Ok) (hz : s.size ≤ 140737488351232) :
    Calls Try.prog 3 #[segV x (.slice p x.r.length c), .string s] W fun e W' => e = .returned (.bool true) ∧ Ext W W' := by
  obtain ⟨W1, hW1⟩ : ∃ W1, W.alloc (.cells #[.int .u8 (x.k : Int), .int .u64 (x.g : Int), .int .u64 (x.f : Int), .string x.t, .slice p x.r.length c, .int .i64 x.u, .bool x.w] 25) = W1 := ⟨_, rfl⟩
  have hb : Blk W1 W.heap.size 25 [.int .u8 (x.k : Int), .int .u64 (x.g : Int), .int .u64 (x.f : Int), .string x.t, .slice p x.r.length c, .int .i64 x.u, .bool x.w] := by rw [← hW1]; exact Blk.new W _ _
  have hx1 : Ext W W1 := by rw [← hW1]; exact (Ext.refl W).alloc _
  have HB := Lib.hid hb; have HX1 := Lib.hid hx1
  have HR := Lib.hid (fun u (hu : Ext W1 u) => hr.ext (hx1.trans hu))
  have HHv := Lib.hid (heavy_any x p c W1 (hr.ext hx1) ok.t ok.r ok.n)
  unfold segV at HHv
  have c0 := hb.cell 0 _ rfl
  have c1 := hb.cell 1 _ rfl
  have c2 := hb.cell 2 _ rfl
  have c3 := hb.cell 3 _ rfl
  have c4 := hb.cell 4 _ rfl
  have c5 := hb.cell 5 _ rfl
  have c6 := hb.cell 6 _ rfl
  clear hb hx1
  unfold segV
  by_cases hs8 : s.size ≤ 8192
  · have n2 : decide ((8192 : Int) < (s.size : Int)) = false := by rw [decide_eq_false_iff_not]; omega
    go_enter Try.func3, Try.ntmps3
    go_upto_if 23 with (go_at_call 7; refine (HHv.out).mono ?_; rintro e w1 ⟨b, rfl, x1, hlt⟩; have X1 := Lib.hid x1; have HLt := Lib.hid hlt; have hb1 := HB.out.ext x1; clear c0 c1 c2 c3 c4 c5 c6; have c0 := hb1.cell 0 _ rfl; have c1 := hb1.cell 1 _ rfl; have c2 := hb1.cell 2 _ rfl; have c3 := hb1.cell 3 _ rfl; have c4 := hb1.cell 4 _ rfl; have c5 := hb1.cell 5 _ rfl; have c6 := hb1.cell 6 _ rfl; clear x1 hlt hb1; cases b)
    · have hl := HLt.out (by trivial)
      have HCs := Lib.hid (fun u (hu : Ext W1 u) => HB.out.ext hu)
      have HHd := Lib.hid (fun u => Head_any x.k x.g x.f x.t ok.k ok.g ok.f hl.t u)
      have HHr := Lib.hid (fun u => rHead_any x.k x.g x.f x.t ok.k ok.g ok.f hl.t u)
      have HBy := Lib.hid (fun u (hu : Ext W1 u) => Bytes_any x ok hl p c u (HR.out u hu))
      have HBr := Lib.hid (fun u (hu : Ext W1 u) => rBytes_any11 x ok hl p c u (HR.out u hu))
      have HPa := Lib.hid (fun u => Parse_any s (by omega) u)
      have HPr := Lib.hid (fun u => rParse_any s (by omega) u)
      have HNx := Lib.hid (fun u => Next_any x p c ok.n u)
      have HNr := Lib.hid (fun u => rNext_any x p c ok.n u)
      have HYl : Hid ((parseF s).1.r.length ≤ 1000000) := Lib.hid (by have := parseF_len s; omega)
      unfold segV at HBy HBr HNx HNr
      clear hl HLt hr ok hz hW1
      generalize headF x.k x.g x.f x.t = hd at *
      generalize bytesF x = bt at *
      generalize hps : parseF s = ps at *
      clear hps
      obtain ⟨h1, h2⟩ := hd
      obtain ⟨b1, b2⟩ := bt
      obtain ⟨y, ye⟩ := ps
      unfold segV at HPa HPr
      dsimp only at HHd HHr HBy HBr HPa HPr HYl
      go_upto_region 9 with (first
        | (go_at_call 9; refine (HHd.out _).mono ?_; rintro e w2 ⟨rfl, x2⟩; have X2 := Lib.hid (X1.out.trans x2); have hb2 := HCs.out _ X2.out; clear c0 c1 c2 c3 c4 c5 c6; have c0 := hb2.cell 0 _ rfl; have c1 := hb2.cell 1 _ rfl; have c2 := hb2.cell 2 _ rfl; have c3 := hb2.cell 3 _ rfl; have c4 := hb2.cell 4 _ rfl; have c5 := hb2.cell 5 _ rfl; have c6 := hb2.cell 6 _ rfl; clear x2 hb2)
        | (go_at_call 10; refine (HHr.out _).mono ?_; rintro e w3 ⟨rfl, x3⟩; have X3 := Lib.hid (X2.out.trans x3); have hb3 := HCs.out _ X3.out; clear c0 c1 c2 c3 c4 c5 c6; have c0 := hb3.cell 0 _ rfl; have c1 := hb3.cell 1 _ rfl; have c2 := hb3.cell 2 _ rfl; have c3 := hb3.cell 3 _ rfl; have c4 := hb3.cell 4 _ rfl; have c5 := hb3.cell 5 _ rfl; have c6 := hb3.cell 6 _ rfl; clear x3 hb3)
        | (go_at_call 11; refine (HBy.out _ X3.out).mono ?_; rintro e w4 ⟨rfl, x4⟩; have X4 := Lib.hid (X3.out.trans x4); have hb4 := HCs.out _ X4.out; clear c0 c1 c2 c3 c4 c5 c6; have c0 := hb4.cell 0 _ rfl; have c1 := hb4.cell 1 _ rfl; have c2 := hb4.cell 2 _ rfl; have c3 := hb4.cell 3 _ rfl; have c4 := hb4.cell 4 _ rfl; have c5 := hb4.cell 5 _ rfl; have c6 := hb4.cell 6 _ rfl; clear x4 hb4)
        | (go_at_call 12; refine (HBr.out _ X4.out).mono ?_; rintro e w5 ⟨rfl, x5⟩; have X5 := Lib.hid (X4.out.trans x5); clear c0 c1 c2 c3 c4 c5 c6; clear x5)
        | (go_at_call 13; refine (HPa.out _).mono ?_; rintro e w6 ⟨q6, k6, rfl, x6, t6⟩; have x6' := x6.alloc (.cells #[.int .u8 (y.k : Int), .int .u64 (y.g : Int), .int .u64 (y.f : Int), .string y.t, .slice q6 y.r.length k6, .int .i64 y.u, .bool y.w] 25); have X6 := Lib.hid (X5.out.trans x6'); have B6 := Lib.hid (Blk.new w6 [.int .u8 (y.k : Int), .int .u64 (y.g : Int), .int .u64 (y.f : Int), .string y.t, .slice q6 y.r.length k6, .int .i64 y.u, .bool y.w] 25); have T6 := Lib.hid (t6.ext ((Ext.refl w6).alloc (.cells #[.int .u8 (y.k : Int), .int .u64 (y.g : Int), .int .u64 (y.f : Int), .string y.t, .slice q6 y.r.length k6, .int .i64 y.u, .bool y.w] 25))); clear x6 x6' t6)
        | (go_at_call 14; refine (HPr.out _).mono ?_; rintro e w7 ⟨q7, k7, rfl, x7, t7⟩; have x7' := x7.alloc (.cells #[.int .u8 (y.k : Int), .int .u64 (y.g : Int), .int .u64 (y.f : Int), .string y.t, .slice q7 y.r.length k7, .int .i64 y.u, .bool y.w] 25); have X7 := Lib.hid (X6.out.trans x7'); have B7 := Lib.hid (Blk.new w7 [.int .u8 (y.k : Int), .int .u64 (y.g : Int), .int .u64 (y.f : Int), .string y.t, .slice q7 y.r.length k7, .int .i64 y.u, .bool y.w] 25); have B6' := Lib.hid (B6.out.ext x7'); have T6' := Lib.hid (T6.out.ext x7'); have T7 := Lib.hid (t7.ext ((Ext.refl w7).alloc (.cells #[.int .u8 (y.k : Int), .int .u64 (y.g : Int), .int .u64 (y.f : Int), .string y.t, .slice q7 y.r.length k7, .int .i64 y.u, .bool y.w] 25))); clear x7 x7' t7))
      obtain ⟨b6, hb6⟩ : ∃ b, b = w6.heap.size := ⟨_, rfl⟩
      obtain ⟨b7, hb7⟩ : ∃ b, b = w7.heap.size := ⟨_, rfl⟩
      obtain ⟨b0, hb0⟩ : ∃ b, b = W.heap.size := ⟨_, rfl⟩
      rw [← hb6] at B6 B6' ⊢
      rw [← hb7] at B7 ⊢
      rw [← hb0] at HCs HB ⊢
      clear hb6 hb7 hb0 HBy HBr HR HHd HHr HPa HPr
      generalize hW8 : (w7.alloc (.cells #[.int .u8 (y.k : Int), .int .u64 (y.g : Int), .int .u64 (y.f : Int), .string y.t, .slice q7 y.r.length k7, .int .i64 y.u, .bool y.w] 25)) = W8 at *
      clear hW8
      have HP := Lib.hid (fun u (hu : Ext W8 u) => (⟨(B6'.out.ext hu).cell 0 _ rfl, (B6'.out.ext hu).cell 1 _ rfl, (B6'.out.ext hu).cell 2 _ rfl, (B6'.out.ext hu).cell 3 _ rfl, (B6'.out.ext hu).cell 4 _ rfl, (B6'.out.ext hu).cell 5 _ rfl, (B6'.out.ext hu).cell 6 _ rfl, (B7.out.ext hu).cell 0 _ rfl, (B7.out.ext hu).cell 1 _ rfl, (B7.out.ext hu).cell 2 _ rfl, (B7.out.ext hu).cell 3 _ rfl, (B7.out.ext hu).cell 4 _ rfl, (B7.out.ext hu).cell 5 _ rfl, (B7.out.ext hu).cell 6 _ rfl, (HCs.out _ (X7.out.trans hu)).cell 0 _ rfl, (HCs.out _ (X7.out.trans hu)).cell 1 _ rfl, (HCs.out _ (X7.out.trans hu)).cell 2 _ rfl, (HCs.out _ (X7.out.trans hu)).cell 3 _ rfl, (HCs.out _ (X7.out.trans hu)).cell 4 _ rfl, (HCs.out _ (X7.out.trans hu)).cell 5 _ rfl, (HCs.out _ (X7.out.trans hu)).cell 6 _ rfl, hu⟩ : u.cell? ⟨b6, 0, none⟩ = some (.int .u8 (y.k : Int)) ∧ u.cell? ⟨b6, 1, none⟩ = some (.int .u64 (y.g : Int)) ∧ u.cell? ⟨b6, 2, none⟩ = some (.int .u64 (y.f : Int)) ∧ u.cell? ⟨b6, 3, none⟩ = some (.string y.t) ∧ u.cell? ⟨b6, 4, none⟩ = some (.slice q6 y.r.length k6) ∧ u.cell? ⟨b6, 5, none⟩ = some (.int .i64 y.u) ∧ u.cell? ⟨b6, 6, none⟩ = some (.bool y.w) ∧ u.cell? ⟨b7, 0, none⟩ = some (.int .u8 (y.k : Int)) ∧ u.cell? ⟨b7, 1, none⟩ = some (.int .u64 (y.g : Int)) ∧ u.cell? ⟨b7, 2, none⟩ = some (.int .u64 (y.f : Int)) ∧ u.cell? ⟨b7, 3, none⟩ = some (.string y.t) ∧ u.cell? ⟨b7, 4, none⟩ = some (.slice q7 y.r.length k7) ∧ u.cell? ⟨b7, 5, none⟩ = some (.int .i64 y.u) ∧ u.cell? ⟨b7, 6, none⟩ = some (.bool y.w) ∧ u.cell? ⟨b0, 0, none⟩ = some (.int .u8 (x.k : Int)) ∧ u.cell? ⟨b0, 1, none⟩ = some (.int .u64 (x.g : Int)) ∧ u.cell? ⟨b0, 2, none⟩ = some (.int .u64 (x.f : Int)) ∧ u.cell? ⟨b0, 3, none⟩ = some (.string x.t) ∧ u.cell? ⟨b0, 4, none⟩ = some (.slice p x.r.length c) ∧ u.cell? ⟨b0, 5, none⟩ = some (.int .i64 x.u) ∧ u.cell? ⟨b0, 6, none⟩ = some (.bool x.w) ∧ Ext W8 u))
      have HSm := Lib.hid (fun u (hu : Ext W8 u) => rSameS_any y y q6 q7 k6 k7 u (T6'.out.ext hu) (T7.out.ext hu) HYl.out HYl.out)
      have HNx' := Lib.hid HNx.out
      simp only [segV, decide_true] at HSm
      have y0 : Ext W8 W8.drew := (Ext.refl W8).drew
      have hS := HP.out _ y0
      have X7' := Lib.hid (HX1.out.trans X7.out)
      clear T6 T6' T7 B6 B6' B7 HCs HYl HNx' X1 X2 X3 X4 X5 X6 X7 HB
      go_region_held3 (fun u => u.cell? ⟨b6, 0, none⟩ = some (.int .u8 (y.k : Int)) ∧ u.cell? ⟨b6, 1, none⟩ = some (.int .u64 (y.g : Int)) ∧ u.cell? ⟨b6, 2, none⟩ = some (.int .u64 (y.f : Int)) ∧ u.cell? ⟨b6, 3, none⟩ = some (.string y.t) ∧ u.cell? ⟨b6, 4, none⟩ = some (.slice q6 y.r.length k6) ∧ u.cell? ⟨b6, 5, none⟩ = some (.int .i64 y.u) ∧ u.cell? ⟨b6, 6, none⟩ = some (.bool y.w) ∧ u.cell? ⟨b7, 0, none⟩ = some (.int .u8 (y.k : Int)) ∧ u.cell? ⟨b7, 1, none⟩ = some (.int .u64 (y.g : Int)) ∧ u.cell? ⟨b7, 2, none⟩ = some (.int .u64 (y.f : Int)) ∧ u.cell? ⟨b7, 3, none⟩ = some (.string y.t) ∧ u.cell? ⟨b7, 4, none⟩ = some (.slice q7 y.r.length k7) ∧ u.cell? ⟨b7, 5, none⟩ = some (.int .i64 y.u) ∧ u.cell? ⟨b7, 6, none⟩ = some (.bool y.w) ∧ u.cell? ⟨b0, 0, none⟩ = some (.int .u8 (x.k : Int)) ∧ u.cell? ⟨b0, 1, none⟩ = some (.int .u64 (x.g : Int)) ∧ u.cell? ⟨b0, 2, none⟩ = some (.int .u64 (x.f : Int)) ∧ u.cell? ⟨b0, 3, none⟩ = some (.string x.t) ∧ u.cell? ⟨b0, 4, none⟩ = some (.slice p x.r.length c) ∧ u.cell? ⟨b0, 5, none⟩ = some (.int .i64 x.u) ∧ u.cell? ⟨b0, 6, none⟩ = some (.bool x.w) ∧ Ext W8 u) (first | exact hS | exact hS7 | exact hS8 | exact hS9 | exact hS10 | assumption | go_keep) (first
        | (go_at_call 15; refine (HSm.out _ (by assumption)).mono ?_; rintro e w9 ⟨rfl, x9⟩; have y7 := Ext.trans (a := W8) (by assumption) x9; have hS7 := HP.out _ y7)
        | (go_at_call 16; refine (HNx.out _).mono ?_; rintro e w10 ⟨rfl, x10⟩; have y8 := Ext.trans (a := W8) (by assumption) x10; have hS8 := HP.out _ y8)
        | (go_at_call 17; refine (HNr.out _).mono ?_; rintro e w11 ⟨rfl, x11⟩; have y9 := Ext.trans (a := W8) (by assumption) x11; have hS9 := HP.out _ y9)
        | (go_at_call 8; refine (alive_any _).mono ?_; rintro e w12 ⟨rfl, x12⟩; have y10 := Ext.trans (a := W8) (by assumption) x12; have hS10 := HP.out _ y10))
      go_wp2
      go_ret
      exact ⟨rfl, X7'.out.trans y10⟩
    · clear c0 c1 c2 c3 c4 c5 c6
      go_wp2_with (go_at_call 8; refine (alive_any _).mono ?_; rintro e w2 ⟨rfl, x2⟩; have X2 := Lib.hid x2; clear x2)
      go_ret
      exact ⟨rfl, (HX1.out.trans X1.out).trans X2.out⟩
  · have n2 : decide ((8192 : Int) < (s.size : Int)) = true := by rw [decide_eq_true_iff]; omega
    go_enter Try.func3, Try.ntmps3
    go_upto_if 23 with (go_at_call 7; refine (HHv.out).mono ?_; rintro e w1 ⟨b, rfl, x1, _⟩; have X1 := Lib.hid x1; clear x1 c0 c1 c2 c3 c4 c5 c6; cases b)
    all_goals
      go_wp2_with (go_at_call 8; refine (alive_any _).mono ?_; rintro e w2 ⟨rfl, x2⟩; have X2 := Lib.hid x2; clear x2)
      go_ret
      exact ⟨rfl, (HX1.out.trans X1.out).trans X2.out⟩
end Go.Proofs.Ytoffjkeejnldlaa
end

section
namespace Go.Proofs.Ytoffjkeejnldlaa.segmentTells
open Go.ChangeShapes Go.WideShapes Go.ChangeAt Go.RowKit
open Go.ChangeMaps (open_string shut_string)
set_option linter.unusedVariables false

theorem own : ownKnob Try.prog.godebug = none := by kernel_rfl

set_option maxRecDepth 100000 in
theorem lifted (os : Os) (started : os.Started) (H : Type) (enc : TypeId × Value → H) :
    ReturnsInHanded {} Try.checked os 3 .any (Rows.segmentTellsSpec.pre6 enc Try.prog Try.f3 Rows.segmentTellsRow.domain false) (Rows.segmentTellsSpec.post enc Try.prog Try.f3 false true false false) := by
  refine returnsInHanded_of_change_sized (C := Try.checked) own started (by kernel_rfl) Try.func3
    (ChangeSpec.witness6 (enc := enc) (C := Try.checked) false ⟨#[], #[.agg #[.int .u8 0, .int .u64 0, .int .u64 0, .string ByteArray.empty, .slice none 0 0, .int .i64 0, .bool false], .string ByteArray.empty], []⟩ 8 (by kernel_rfl) (by kernel_rfl) (by kernel_rfl) (by kernel_rfl)) ?_
  intro W base args ds gs before hval0 hW hcnd hsz0 _
  have hval : ∀ (j : Nat) t v, Try.f3.params[j]? = some t → args[j]? = some v → Value.okWide Try.prog W .any base t v := hval0
  have hsz : (DataW.weightsEach Try.prog (Try.f3.params.toList ++ Rows.segmentTellsSpec.plain.varTypes Try.prog) (ds ++ gs)).all (· ≤ reachBytes) = true := hsz0
  have hW' := hW
  obtain ⟨p, q, hA0, hV, rfl, hfz, hnd⟩ := hW
  have hA : DataW.TrodAll enc Try.prog W 0 (fun _ => true) true Try.f3.params.toList args.toList ds p := hA0
  rw [Try.params3] at hA hval hsz
  obtain ⟨v0, vs0, d0, ds0, p0, q0, hargs, rfl, rfl, h0, r0⟩ := trodAll_cons hA
  obtain ⟨v1, vs1, d1, ds1, p1, q1, rfl, rfl, rfl, h1, r1⟩ := trodAll_cons r0
  obtain ⟨rfl, rfl, rfl⟩ := trodAll_nil r1
  obtain rfl : args = #[v0, v1] := by cases args; simp_all
  obtain ⟨rfl, rfl⟩ := trodVars_none hV
  clear hA0 hval0
  simp only [List.append_nil] at hW'
  have hlt0 : ∀ x ∈ p0, x.block < W.heap.size := fun x hx => hW'.lt x (by simp [hx])
  have k0 := h0
  have w0 := hval 0 25 v0 rfl rfl
  obtain ⟨s0, c0, a0, rfl, f0, y0⟩ := open_seg_p w0 k0 hlt0 hsz (j := 0) rfl rfl
  obtain ⟨a1, rfl, rfl, rfl, w1⟩ := open_string Try.underlying9 (hval 1 9 v1 rfl rfl) h1
  have z1 : a1.size ≤ 140737488351232 := by
    have := sized_string hsz (j := 1) (t := 9) rfl rfl
    rwa [size_list] at this
  refine (SegmentTells_walk a0 s0 c0 a1 W f0 y0 z1).mono fun e W' ⟨he, hb⟩ => ?_
  subst he
  exact ⟨_, rfl, _, _, _, [], _, [], hW', trodAll_mk1 (shut_bool Try.underlying4 _), (trodAll_cons_mk (Below.trod laidOut (by kernel_rfl) (of_decide_eq_true (by kernel_rfl)) k0 hb.below hlt0) (trodAll_cons_mk (shut_string Try.underlying9 w1) trodAll_mk0)), rfl, hb.below.frame _, fun h => by cases h⟩

theorem over : Rows.segmentTellsRow.holds Try.pinned (OpenSpec.ofChange Rows.segmentTellsSpec) :=
  OpenClaim.holds_of_wide 3 Try.f3 rfl rfl rfl rfl rfl rfl rfl ⟨rfl, rfl, rfl, rfl, rfl⟩ rfl rfl rfl rfl rfl (by kernel_rfl) Try.func3 (by kernel_rfl)
    (of_decide_eq_true (by kernel_rfl)) (by unfold Func.isWrapper; first | (rw [if_pos (by decide +kernel)]; kernel_rfl) | (rw [if_neg (by decide +kernel)]; exact ⟨rfl, rfl⟩))
    (fun os started H enc _ => lifted os started H enc)

theorem proved : Rows.SegmentTellsSaid := over
end Go.Proofs.Ytoffjkeejnldlaa.segmentTells
end
