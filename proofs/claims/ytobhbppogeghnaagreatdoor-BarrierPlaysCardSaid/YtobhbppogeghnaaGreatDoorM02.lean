/- Contracts: a block stirred into the state, by the program. From the rows' condition on the program's tables to what the contracts ask of the world; a world that meets it. Plain: slices of texts that came in. Plain: make([]byte, n). Plain: slices of bytes that grow by append. Plain: slices of texts that grow by append. Plain: slices of texts, nil or not, under one word. Texts in a row among a law's arguments, opened: what its walk asks of them. A law's arguments: the generic part: fields of structs, texts in a row, lists of what there is at each place. -/
import Derived.Test.YtobhbppogeghnaaGreatDoorM01
import Derived.Deep.QuietTactic
import Derived.BigQuiet
import Derived.Deep.DeepCutAuto
import Derived.Deep.RegionWith
import Derived.RegionTactic
import Derived.Test.YtobhbppogeghnaaGreatDoorRows
import Derived.ProofKit
import Derived.JoinedOf
import Derived.LaidLaws
import Derived.LaidHandle
import Derived.MakeChecks
import Derived.Stop.LaidErr
import Derived.Stop.Joined
import Derived.Lib.LaidTab
import Derived.Test.YtobhbppogeghnaaGreatDoorM00
import Derived.Test.YtobhbppogeghnaaGreatDoorProg
import Derived.WalkSpells
import Derived.OwnWalk
import Derived.Laws.BitsAllLaws
import Derived.ChangeAlike
import Derived.BigRegion
import Derived.Deep.RegionLaw
import Derived.SizedLaws
import Derived.SliceStrings
import Derived.ChangeSlices
import Derived.Carry
import Derived.Deep.Slices
import Derived.Deep.Fields
import Derived.ChangeArms
import Derived.Lib.SmallJoins
section
namespace Go.Proofs.YtobhbppogeghnaaGreatDoor
open Go.RowKit

/-- The program's tables are as its text lays them. -/
structure Laid (w : World) : Prop where
  k : ∀ i, i < 64 → w.cell? ⟨1, i, none⟩ = some (.int .u32 (Kc.getD i 0 : Nat))
  first : ∀ i, i < 8 → w.cell? ⟨0, i, none⟩ = some (.int .u32 (init.list.getD i 0 : Nat))
  size : 2 ≤ w.heap.size
theorem Laid.below {B : Nat} {w w' : World} (h : Laid w) (hb : Below B w w') (hB : 2 ≤ B) : Laid w' :=
  ⟨fun i hi => by rw [hb.cell (p := ⟨1, i, none⟩) (show (1 : Nat) < B by omega)]; exact h.k i hi,
   fun i hi => by rw [hb.cell (p := ⟨0, i, none⟩) (show (0 : Nat) < B by omega)]; exact h.first i hi, Nat.le_trans h.size hb.size⟩
theorem Laid.ext {w w' : World} (h : Laid w) (hb : Ext w w') : Laid w' := h.below hb h.size

/-- Numbers between other cells. -/
def mid (pre : List Value) (l : List Nat) (post : List Value) : List Value := pre ++ (l.map cell32 ++ post)
theorem mid_at {pre : List Value} {l : List Nat} {post : List Value} {off : Nat} (ho : pre.length = off) (i : Nat) (hi : i < l.length) : (mid pre l post)[off + i]? = some (.int .u32 (l.getD i 0 : Nat)) := by
  unfold mid
  rw [List.getElem?_append_right (by omega), ho, Nat.add_sub_cancel_left, List.getElem?_append_left (by simpa using hi)]
  simp [List.getElem?_eq_getElem hi, cell32]
theorem mid_set {pre : List Value} {l : List Nat} {post : List Value} {off : Nat} (ho : pre.length = off) (i : Nat) (hi : i < l.length) (x : Int) (y : Nat) (e : x = (y : Int)) : (mid pre l post).set (off + i) (.int .u32 x) = mid pre (l.set i y) post := by
  subst e
  unfold mid
  rw [List.set_append_right _ _ (by omega), ho, Nat.add_sub_cancel_left, List.set_append_left _ _ (by simpa using hi), List.map_set]
  rfl

theorem mid8 {w : World} {b off : Nat} {T : TypeId} {pre post : List Value} {st : St} (h : Blk w b T (mid pre st.list post)) (ho : pre.length = off) :
    w.cell? ⟨b, off, none⟩ = some (.int .u32 (st.a : Nat)) ∧ w.cell? ⟨b, off + 1, none⟩ = some (.int .u32 (st.b : Nat)) ∧ w.cell? ⟨b, off + 2, none⟩ = some (.int .u32 (st.c : Nat)) ∧ w.cell? ⟨b, off + 3, none⟩ = some (.int .u32 (st.d : Nat)) ∧
    w.cell? ⟨b, off + 4, none⟩ = some (.int .u32 (st.e : Nat)) ∧ w.cell? ⟨b, off + 5, none⟩ = some (.int .u32 (st.f : Nat)) ∧ w.cell? ⟨b, off + 6, none⟩ = some (.int .u32 (st.g : Nat)) ∧ w.cell? ⟨b, off + 7, none⟩ = some (.int .u32 (st.h : Nat)) :=
  ⟨h.cell _ _ (mid_at ho 0 (by simp [St.list])), h.cell _ _ (mid_at ho 1 (by simp [St.list])), h.cell _ _ (mid_at ho 2 (by simp [St.list])), h.cell _ _ (mid_at ho 3 (by simp [St.list])), h.cell _ _ (mid_at ho 4 (by simp [St.list])), h.cell _ _ (mid_at ho 5 (by simp [St.list])), h.cell _ _ (mid_at ho 6 (by simp [St.list])), h.cell _ _ (mid_at ho 7 (by simp [St.list]))⟩

/-- The first n of the new ones, the others as they were. -/
def mix (old new : List Nat) (n : Nat) : List Nat := new.take n ++ old.drop n
theorem mix_length {old new : List Nat} (h1 : old.length = 8) (h2 : new.length = 8) (n : Nat) (hn : n ≤ 8) : (mix old new n).length = 8 := by simp [mix, h1, h2]; omega
theorem mix_old {old new : List Nat} (h2 : new.length = 8) (n : Nat) (hn : n < 8) : (mix old new n).getD n 0 = old.getD n 0 := by
  unfold mix
  rw [List.getD_eq_getElem?_getD, List.getD_eq_getElem?_getD, List.getElem?_append_right (by simp [h2]; omega), List.length_take, h2, Nat.min_eq_left (by omega), Nat.sub_self, List.getElem?_drop, Nat.add_zero]
theorem mix_set {old new : List Nat} (h1 : old.length = 8) (h2 : new.length = 8) (n : Nat) (hn : n < 8) : (mix old new n).set n (new.getD n 0) = mix old new (n + 1) := by
  unfold mix
  rw [List.set_append_right _ _ (by simp [h2]; omega), List.length_take, h2, Nat.min_eq_left (by omega), Nat.sub_self, List.drop_eq_getElem_cons (by omega), List.set_cons_zero, List.take_succ_eq_append_getElem (by omega), List.append_assoc]
  congr 2
  rw [List.getD_eq_getElem?_getD, List.getElem?_eq_getElem (by omega)]
  rfl
theorem blk_mix {w : World} {b off : Nat} {T : TypeId} {pre post : List Value} {old new : List Nat} (h1 : old.length = 8) (h2 : new.length = 8) (ho : pre.length = off) (n : Nat) (hn : n < 8)
    (h : Blk w b T (mid pre (mix old new n) post)) (x : Int) (hx : x = (new.getD n 0 : Nat)) : Blk (w.setCell ⟨b, off + n, none⟩ (.int .u32 x)) b T (mid pre (mix old new (n + 1)) post) := by
  have := h.set_ (off + n) (.int .u32 x)
  rw [mid_set ho n (by rw [mix_length h1 h2 n (by omega)]; exact hn) x _ hx, mix_set h1 h2 n hn] at this
  exact this

set_option maxRecDepth 100000 in
set_option maxHeartbeats 1000000 in
theorem take_any (st : St) (ok : st.Ok) (s : ByteArray) (hs : s.size = 64) (b off : Nat) (T : TypeId) (pre post : List Value) (w : World) (hL : Laid w) (ho : pre.length = off) (hB : Blk w b T (mid pre st.list post)) :
    Calls Tryz.prog 166 #[.pointer (some ⟨b, off, none⟩), .string s] w fun e w' => e = .returned (.tuple #[]) ∧ Below b w w' ∧ Blk w' b T (mid pre (stp s.data.toList st).list post) := by
  have CW := fun u => words_any s hs u
  have HW := Lib.hid CW; clear CW
  have Hs := Lib.hid hs; clear hs
  have Ho := Lib.hid ho; clear ho
  have HL := Lib.hid hL; clear hL
  have HB := Lib.hid hB
  have hbl := hB.lt
  clear hB
  have i44 : (Tryz.prog.info? 246).map (·.size) = some (((ws s.data.toList 64).map cell32).toArray).size := by rw [info44]; simp [ws_length]
  have I44 := Lib.hid i44; clear i44
  have hz : ∀ u : World, Row32 (u.alloc (.cells (List.replicate 64 (Value.int .u32 0)).toArray 246)) u.heap.size 246 (List.replicate 64 0) := fun u => by
    have := Row32.new u (List.replicate 64 0) 246
    simpa [cell32] using this
  have HZ := Lib.hid hz; clear hz
  obtain ⟨a, bb, c, d, ee, f, gg, h⟩ := st
  go_enter Tryz.func166, Tryz.ntmps166
  go_upto_region 0 with (fail)
  go_cut [4] (fun p wx => ∃ g, p = .pointer (some ⟨g, 0, none⟩) ∧ Row32 wx g 246 (ws s.data.toList 64) ∧ w.heap.size ≤ g ∧ Ext w wx)
  case first =>
    go_wp2_with (first
      | (go_at_call 197; refine (HW.out _).mono ?_; rintro e w1 ⟨rfl, h1⟩)
      | (refine wpList_store_row rfl 246 (.tmp 4) (.tmp 21) rfl w1.heap.size _ rfl rfl 246 _ (HZ.out w1) I44.out (by simp [ws_length]) (cells32_one _) ?_))
    go_meet
    exact ⟨_, rfl, setRow_heap _ _ _ _ _ _ (HZ.out w1), h1.size, (h1.alloc _).setRow h1.size _⟩
  case rest =>
    obtain ⟨g, rfl, hrow, hg, hext⟩ := hcut
    rename_i wc
    obtain ⟨k0, k1, k2, k3, k4, k5, k6, k7⟩ := mid8 (HB.out.ext hext) Ho.out
    simp only at k0 k1 k2 k3 k4 k5 k6 k7
    have HR := Lib.hid hrow; clear hrow
    go_wp2
    go_quiet (fail)
    go_wp2
    clear k0 k1 k2 k3 k4 k5 k6 k7
    go_loopw [5, 6, 7, 8, 9, 10, 11, 12, 54] (fun va vb vc vd ve vf vg vh i wr => ∃ (t : Nat) (s2 : St), t ≤ 64 ∧ i = .int .i64 t ∧ s2 = rnds (ws s.data.toList 64) ⟨a, bb, c, d, ee, f, gg, h⟩ t ∧ va = .int .u32 (s2.a : Int) ∧ vb = .int .u32 (s2.b : Int) ∧ vc = .int .u32 (s2.c : Int) ∧ vd = .int .u32 (s2.d : Int) ∧ ve = .int .u32 (s2.e : Int) ∧ vf = .int .u32 (s2.f : Int) ∧ vg = .int .u32 (s2.g : Int) ∧ vh = .int .u32 (s2.h : Int) ∧ Ext wc wr) (fun _ _ _ _ _ _ _ _ i _ => 64 - (intOf i).toNat)
    case atStart => exact ⟨0, _, Nat.zero_le _, rfl, rfl, rfl, rfl, rfl, rfl, rfl, rfl, rfl, rfl, (Ext.refl _).drewN _⟩
    case round =>
      obtain ⟨t, ⟨a2, b2, c2, d2, e2, f2, g2, h2⟩, ht, rfl, hs3, rfl, rfl, rfl, rfl, rfl, rfl, rfl, rfl, hext3⟩ := hrel
      have ok2 := rnds_ok ok (ws s.data.toList 64) t
      rw [← hs3] at ok2
      have HS3 := Lib.hid hs3; clear hs3
      obtain ⟨o1, o2, o3, o4, o5, o6, o7, o8⟩ := ok2
      simp only at o1 o2 o3 o4 o5 o6 o7 o8
      have OK2 := Lib.hid (show (St.Ok ⟨a2, b2, c2, d2, e2, f2, g2, h2⟩) from ⟨o1, o2, o3, o4, o5, o6, o7, o8⟩)
      by_cases hlt : t < 64
      · have hk := (HL.out.ext (hext.trans hext3)).k t hlt
        have hw := (HR.out.ext hext3).cell t (by rw [ws_length]; exact hlt)
        have hgw := (HR.out.ext hext3).lt
        obtain ⟨k, ek⟩ : ∃ k, k = Kc.getD t 0 := ⟨_, rfl⟩
        obtain ⟨x, ew⟩ : ∃ x, x = (ws s.data.toList 64).getD t 0 := ⟨_, rfl⟩
        rw [← ek] at hk; rw [← ew] at hw
        have EK := Lib.hid ek; have EW := Lib.hid ew; clear ek ew
        have v1 := sum1_int e2 o5
        have v0 := sum0_int a2 o1
        go_wp2_with (go_at_call 198; ((with_reducible refine (turn_any _ (by assumption) _ _).mono ?_); rintro e w9 ⟨rfl, rfl⟩))
        go_quiet (fail)
        go_wp2_with (go_at_call 198; ((with_reducible refine (turn_any _ (by assumption) _ _).mono ?_); rintro e w9 ⟨rfl, rfl⟩))
        go_roundw
        case rel =>
          refine ⟨t + 1, rnd ⟨a2, b2, c2, d2, e2, f2, g2, h2⟩ k x, by omega, by go_num, ?_, int_eq (rnd_a ⟨a2, b2, c2, d2, e2, f2, g2, h2⟩ OK2.out k x), rfl, rfl, rfl, int_eq (rnd_e ⟨a2, b2, c2, d2, e2, f2, g2, h2⟩ OK2.out k x), rfl, rfl, rfl, hext3.drewN _⟩
          rw [rnds, ← HS3.out, ← EK.out, ← EW.out]
        case measure => simp [intOf]; omega
      · obtain rfl : t = 64 := by omega
        have e64 : ((64 : Nat) : Int) = 64 := rfl
        rw [e64]
        clear e64
        have hB3 := HB.out.below (((hext.below.trans (hext3.below.mono hext.size)).mono (Nat.le_refl _))) hbl
        have hx3 : Ext w wr := hext.trans hext3
        have hp := stp_eq s.data.toList ⟨a, bb, c, d, ee, f, gg, h⟩ _ HS3.out
        have HP := Lib.hid hp; clear hp
        have HB3 := Lib.hid hB3; clear hB3
        have HI := Lib.hid (index8s 215 Tryz.underlying215 a2 b2 c2 d2 e2 f2 g2 h2)
        go_wp2
        go_loopw [128] (fun i wr2 => ∃ n : Nat, n ≤ 8 ∧ i = .int .i64 n ∧ Blk wr2 b T (mid pre (mix (St.list ⟨a, bb, c, d, ee, f, gg, h⟩) (plus ⟨a, bb, c, d, ee, f, gg, h⟩ ⟨a2, b2, c2, d2, e2, f2, g2, h2⟩).list n) post) ∧ Below b w wr2) (fun i _ => 8 - (intOf i).toNat)
        case atStart => exact ⟨0, by omega, rfl, HB3.out, hx3.below.mono (Nat.le_of_lt hbl)⟩
        case round =>
          obtain ⟨n, hn, rfl, hB4, hbel⟩ := hrel
          by_cases hlt8 : n < 8
          · have hc := hB4.cell _ _ (mid_at Ho.out n (by rw [mix_length rfl rfl n hn]; exact hlt8))
            rw [mix_old rfl n hlt8] at hc
            have hfz := hB4.frozen (off + n)
            have step := fun x hx => blk_mix rfl rfl Ho.out n hlt8 hB4 x hx
            have HT := Lib.hid step; clear step
            have HB4 := Lib.hid hB4; clear hB4
            obtain ⟨x0, x1, x2, x3, x4, x5, x6, x7⟩ := HI.out
            rcases (show n = 0 ∨ n = 1 ∨ n = 2 ∨ n = 3 ∨ n = 4 ∨ n = 5 ∨ n = 6 ∨ n = 7 by omega) with rfl | rfl | rfl | rfl | rfl | rfl | rfl | rfl
            all_goals
              simp only [St.list, List.getD_cons_zero, List.getD_cons_succ, Nat.add_zero] at hc hfz
              go_wp2
              go_region
              go_wp2
              go_roundw
              case rel => exact ⟨_, by omega, by go_num, HT.out _ (by simp [St.list, plus]), (hbel.setCell (p := ⟨b, _, none⟩) (Nat.le_refl _) _).drew⟩
              case measure => simp [intOf]
          · obtain rfl : n = 8 := by omega
            have e8 : ((8 : Nat) : Int) = 8 := rfl
            rw [e8]
            clear e8
            go_wp2
            go_end0
            exact ⟨rfl, hbel, by rw [HP.out]; exact hB4⟩
end Go.Proofs.YtobhbppogeghnaaGreatDoor
end

section
namespace Go.Proofs.YtobhbppogeghnaaGreatDoor
open Go.ChangeShapes Go.WideShapes Go.RowKit

noncomputable def laidList : List (String × DataW Unit) := Rows.barrierPlaysRow.laid
theorem own : ownKnob Tryz.prog.godebug = none := by kernel_rfl
def intsOf (l : List Nat) : List Int := l.map fun (n : Nat) => (n : Int)
theorem laid_of_met {W : World} (h : laidMetH Tryz.prog laidList W) : Laid W := by
  have h1 : laidMet Tryz.prog laidList W := by
    rwa [MakeChecks.laidMetH_plain _ _ _ (by kernel_rfl)] at h
  have hk := Lib.tabIs_of_head (k := .u32) (zs := intsOf Kc) (g := 1) (t := 246) (e := 40) (n := 64) (by kernel_rfl) (by kernel_rfl) Tryz.underlying246 Tryz.underlying40 (by kernel_rfl) (by kernel_rfl) (laidMet.tail (show laidMet Tryz.prog (_ :: (_, Lib.tabData .u32 (intsOf Kc)) :: []) W from h1))
  have hf := Lib.tabIs_of_head (k := .u32) (zs := intsOf init.list) (g := 0) (t := 216) (e := 40) (n := 8) (by kernel_rfl) (by kernel_rfl) Tryz.underlying216 Tryz.underlying40 (by kernel_rfl) (by kernel_rfl) (show laidMet Tryz.prog ((_, Lib.tabData .u32 (intsOf init.list)) :: _) W from h1)
  have ck := fun i hi => hk.cell (g := 1) (by kernel_rfl) i hi
  have cf := fun i hi => hf.cell (g := 0) (by kernel_rfl) i hi
  have e : ∀ (l : List Nat) (i : Nat), i < l.length → (intsOf l).getD i 0 = ((l.getD i 0 : Nat) : Int) := by
    intro l i hi
    simp [intsOf, List.getD, List.getElem?_eq_getElem hi]
  refine ⟨fun i hi => ?_, fun i hi => ?_, ?_⟩
  · rw [ck i hi, e Kc i hi]
  · rw [cf i hi, e init.list i hi]
  · have := ck 0 (by decide)
    rcases Nat.lt_or_ge 1 W.heap.size with hlt | hge
    · exact hlt
    · unfold World.cell? at this
      rw [Array.getElem?_eq_none (by simpa using hge)] at this
      cases this
/-- A world that meets the condition: the settled one, the tables laid. -/
noncomputable def laidWorld (os : Os) : World :=
  let w0 := World.holding Tryz.prog os ⟨#[], #[], []⟩
  { w0 with heap := (w0.heap.modify 0 fun
      | .cells _ t frozen => .cells (init.list.map cell32).toArray t frozen
      | o => o).modify 1 fun
      | .cells _ t frozen => .cells (Kc.map cell32).toArray t frozen
      | o => o }
theorem laidWorld_met (os : Os) (args : Array Value) : laidMetH Tryz.prog laidList ((laidWorld os).forCall (fun _ _ => 0) ⟨#[], args, []⟩).memory :=
  laidMetH_of_parts (laidMet_of_run' 8 (by kernel_rfl) (by kernel_rfl)) (by kernel_rfl)
end Go.Proofs.YtobhbppogeghnaaGreatDoor
end

section
namespace Go.Proofs.YtobhbppogeghnaaGreatDoor
open Go.RowKit

/-- The cells from a on are these texts. -/
def Texts (w : World) (a : Addr) (l : List ByteArray) : Prop := ∀ i s, l[i]? = some s → a.block < w.heap.size ∧ w.cell? (a.add i) = some (.string s)
theorem add_block (a : Addr) (i : Nat) : (a.add i).block = a.block := by unfold Addr.add; split <;> rfl
theorem Texts.ext {w w' : World} {a : Addr} {l : List ByteArray} (h : Texts w a l) (hx : Ext w w') : Texts w' a l := fun i s hs =>
  ⟨Nat.lt_of_lt_of_le (h i s hs).1 hx.below.size, by rw [hx.below.cell (p := a.add i) (by rw [add_block]; exact (h i s hs).1)]; exact (h i s hs).2⟩
/-- The value is a row of texts, or nil. -/
def TextsV (w : World) (v : Value) (l : List ByteArray) : Prop := (v = .slice none 0 0 ∧ l = []) ∨ ∃ a c, v = .slice (some a) l.length c ∧ Texts w a l ∧ l.length ≤ 140737488355328
theorem TextsV.ext {w w' : World} {v : Value} {l : List ByteArray} (h : TextsV w v l) (hx : Ext w w') : TextsV w' v l := by
  rcases h with h | ⟨a, c, h1, h2, h3⟩
  · exact .inl h
  · exact .inr ⟨a, c, h1, h2.ext hx, h3⟩
end Go.Proofs.YtobhbppogeghnaaGreatDoor
end

section
namespace Go.Proofs.YtobhbppogeghnaaGreatDoor
open Go.RowKit

theorem info5 : (Tryz.prog.info? 5).map (fun i => (i.zero, i.size, i.bytes)) = some (some (.int .u8 0), 1, 1) := by kernel_rfl

/-- make([]byte, n): a new block of n zeros. -/
theorem make_bytes (n : Nat) (hn : n ≤ 281474976710656) : ∀ u : World, (Instr.makeSlice 43 (.int .i64 (n : Int)) (.int .i64 (n : Int))).run Tryz.prog u =
      .ok (.slice (some ⟨u.heap.size, 0, none⟩) n n) (u.alloc (.cells (madeCells #[.int .u8 0] n) 5)) := fun u => by
  obtain ⟨i0, hi, hz0, hz1, hz2⟩ := info_parts info5
  have h := run_make (P := Tryz.prog) u 43 5 i0 (.int .u8 0) Tryz.underlying43 hi hz0 .i64 .i64 (n : Int) (n : Int) (by omega) (Int.le_refl _) (by rw [hz2]; omega) (by omega)
  simpa [hz1, Value.cells] using h
end Go.Proofs.YtobhbppogeghnaaGreatDoor
end

section
namespace Go.Proofs.YtobhbppogeghnaaGreatDoor
open Go.RowKit

/-- A slice of bytes of the call's own (nil, or in a block from B on) that holds just these. -/
def Buf (w : World) (B : Nat) (v : Value) (l : List UInt8) : Prop := w.ownsRow B 5 1 v l.length (l.map cellOf)
section
variable {w w' : World} {B : Nat} {v : Value} {l : List UInt8}
theorem Buf.nil (w : World) (B : Nat) : Buf w B (.slice none 0 0) [] := World.ownsRow_nil _ _ _ _
theorem Buf.made (w : World) (n : Nat) (hn : n ≤ maxLen) (hB : B ≤ w.heap.size) : Buf (w.alloc (.cells (madeCells #[.int .u8 0] n) 5)) B (.slice (some ⟨w.heap.size, 0, none⟩) 0 n) [] :=
  World.ownsRow_made w _ n hB hn (by simp [size_madeCells])
theorem Buf.alloc (h : Buf w B v l) (o : Obj) : Buf (w.alloc o) B v l := World.ownsRow.alloc h o
theorem Buf.drew (h : Buf w B v l) : Buf w.drew B v l := h
theorem Buf.text {P : Program} (h : Buf w B v l) (src dst : TypeId) (hs : P.underlying src = some (.slice 5)) (he : P.underlying 5 = some (.int .u8)) (hd : P.underlying dst = some .string) :
    (convert src dst v).run P w = .ok (.string ⟨l.toArray⟩) w := by
  unfold Buf at h
  rcases h.2 with ⟨rfl, h0⟩ | ⟨g, cap, cur, rfl, _, hg, hle, _, hsz, ht⟩
  · have : l = [] := List.length_eq_zero_iff.1 h0
    subst this
    exact run_convert_bytes_nil w src _ hs he _ _ dst hd
  · have hcell : ∀ i, i < l.length → w.cell? ⟨g, 0 + i, none⟩ = some (.int .u8 ((l.map fun b => (b.toNat : Int)).getD i 0)) := by
      intro i hi
      rw [cell_of_row w g (0 + i) cur _ (0, 0) hg]
      have e : cur.toList[i]? = (l.map cellOf)[i]? := by
        rw [← ht, List.getElem?_take, if_pos (by omega)]
      rw [Nat.zero_add, ← Array.getElem?_toList, e]
      simp [List.getD, List.getElem?_eq_getElem hi, cellOf]
    rw [run_convert_bytes_arg (P := P) w src _ hs he g 0 l.length cap (l.map fun b => (b.toNat : Int)) (by simp) hcell dst hd]
    have e : strOfNums (l.map fun b => (b.toNat : Int)) = ⟨l.toArray⟩ := by
      unfold strOfNums
      congr 2
      rw [List.map_map]
      conv => rhs; rw [← List.map_id l]
      apply List.map_congr_left
      intro b _
      simp
    rw [e]
end
theorem Row.one (w : World) (t : TypeId) (x : Int) (b : UInt8) (hx : x = (b.toNat : Int)) : Row (w.alloc (.cells #[.int .u8 x] t)) w.heap.size t [b] := by
  subst hx; exact heap_alloc_new w _
theorem Row.two (w : World) (t : TypeId) (x y : Int) (b c : UInt8) (hx : x = (b.toNat : Int)) (hy : y = (c.toNat : Int)) : Row (w.alloc (.cells #[.int .u8 x, .int .u8 y] t)) w.heap.size t [b, c] := by
  subst hx hy; exact heap_alloc_new w _

/-- append(b, ..) of a block of new bytes. -/
theorem append_bytes {w : World} {ops : Array Oper} {rest : List Oper} {o : Oper} {a : Act} {Q : Exit → Act → World → Prop} (hgd : o.guard = none) (s x : Operand)
    (ho : o.op = .call { callee := .builtin .append, args := #[s, x], argTypes := #[43, 43] })
    (B : Nat) (v : Value) (l : List UInt8) (hs : a.eval s = v) (hbuf : Buf w B v l) (g m : Nat) (news : List UInt8) (hx : a.eval x = .slice (some ⟨g, 0, none⟩) m m) (hl : news.length = m) (hrow : Row w g 5 news)
    (hlen : l.length + m ≤ 140737488355328) (hB : B ≤ w.heap.size)
    (h : ∀ v' w', Buf w' B v' (l ++ news) → Below B w w' → wpList Tryz.prog ops Q rest (a.put o.dst v') w') : wpList Tryz.prog ops Q (o :: rest) a w := by
  obtain ⟨i0, hi, hz0, hz1, hz2⟩ := info_parts info5
  refine wpList_append_own w hgd s x 43 ho B 5 i0 (.int .u8 0) 1 1 Tryz.underlying43 hi hz0 hz1 hz2 rfl (by decide) v l.length (l.map cellOf) hs hbuf ⟨g, 0, none⟩ m m (news.map cellOf) hx (by simp [hl]) ?_ ?_ (by unfold maxLen; omega) (by omega) hB ?_
  · intro j u hj
    have e : ((⟨g, 0, none⟩ : Addr).add j) = ⟨g, j, none⟩ := by unfold Addr.add; split <;> simp_all
    rw [e, cell_of_row w g j _ _ (0, 0) hrow]
    simpa using hj
  · intro u hu
    simp only [List.mem_map] at hu
    obtain ⟨b, _, rfl⟩ := hu
    rfl
  · intro v' w' h1 h2 _
    refine h v' w' ?_ (Below.grown (Below.refl _ _) h2 hB fun k hk => (World.ownsRow.lt hbuf k hk).1)
    unfold Buf
    simpa [hl] using h1

end Go.Proofs.YtobhbppogeghnaaGreatDoor
end

section
namespace Go.Proofs.YtobhbppogeghnaaGreatDoor
open Go.RowKit
theorem infoS : (Tryz.prog.info? 9).map (fun i => (i.zero, i.size, i.bytes)) = some (some (.string ⟨#[]⟩), 1, 16) := by kernel_rfl
/-- A slice of texts of the call's own (nil, or in a block from B on) that holds just these. -/
def BufS (w : World) (B : Nat) (v : Value) (l : List ByteArray) : Prop := w.ownsRow B 9 1 v l.length (l.map Value.string)
/-- A slice that reads as these texts. -/
def SSl (w : World) (v : Value) (l : List ByteArray) : Prop := ∃ g c, v = .slice (some ⟨g, 0, none⟩) l.length c ∧ g < w.heap.size ∧ ∀ (i : Nat) (s : ByteArray), l[i]? = some s → w.cell? ⟨g, i, none⟩ = some (.string s)
theorem SSl.ext {w w' : World} {v : Value} {l : List ByteArray} (h : SSl w v l) (hx : Ext w w') : SSl w' v l := by
  obtain ⟨g, c, h1, h2, h3⟩ := h
  exact ⟨g, c, h1, Nat.lt_of_lt_of_le h2 hx.size, fun i b hb => (hx.below.cell (p := ⟨g, i, none⟩) h2).trans (h3 i b hb)⟩
section
variable {w w' : World} {B : Nat} {v : Value} {l : List ByteArray}
theorem BufS.nil (w : World) (B : Nat) : BufS w B (.slice none 0 0) [] := World.ownsRow_nil _ _ _ _
theorem BufS.made (w : World) (n : Nat) (hn : n ≤ maxLen) (hB : B ≤ w.heap.size) : BufS (w.alloc (.cells (madeCells #[.string ⟨#[]⟩] n) 9)) B (.slice (some ⟨w.heap.size, 0, none⟩) 0 n) [] :=
  World.ownsRow_made w _ n hB hn (by simp [size_madeCells])
theorem BufS.ext (h : BufS w B v l) (hx : Ext w w') : BufS w' B v l := by
  refine ⟨h.1, ?_⟩
  rcases h.2 with h0 | ⟨g, cap, cur, e1, e2, e3, e4⟩
  · exact .inl h0
  · exact .inr ⟨g, cap, cur, e1, e2, (hx.below.block g (heap_lt e3)).trans e3, e4⟩
theorem BufS.sl (h : BufS w B v l) (hl : l ≠ []) : SSl w v l := by
  unfold BufS at h
  rcases h.2 with ⟨_, h0⟩ | ⟨g, cap, cur, hv, _, hg, hle, _, hsz, ht⟩
  · exact absurd (List.length_eq_zero_iff.1 h0) hl
  · refine ⟨g, cap, hv, (Array.getElem?_eq_some_iff.1 hg).1, fun i b hb => ?_⟩
    have hi : i < l.length := (List.getElem?_eq_some_iff.1 hb).1
    rw [cell_of_row w g i cur _ (0, 0) hg]
    have e : cur.toList[i]? = (l.map Value.string)[i]? := by
      rw [← ht, List.getElem?_take, if_pos (by omega)]
    rw [← Array.getElem?_toList, e]
    simp [hb]
end
/-- append(l, s) of one text in a new block. -/
theorem append_text {w : World} {ops : Array Oper} {rest : List Oper} {o : Oper} {a : Act} {Q : Exit → Act → World → Prop} (hgd : o.guard = none) (s x : Operand)
    (ho : o.op = .call { callee := .builtin .append, args := #[s, x], argTypes := #[35, 35] })
    (B : Nat) (v : Value) (l : List ByteArray) (hs : a.eval s = v) (hbuf : BufS w B v l) (g : Nat) (new : ByteArray) (hx : a.eval x = .slice (some ⟨g, 0, none⟩) 1 1) (hrow : w.cell? ⟨g, 0, none⟩ = some (.string new))
    (hlen : l.length ≤ 1000000) (hB : B ≤ w.heap.size)
    (h : ∀ v' w', BufS w' B v' (l ++ [new]) → Below B w w' → wpList Tryz.prog ops Q rest (a.put o.dst v') w') : wpList Tryz.prog ops Q (o :: rest) a w := by
  obtain ⟨i0, hi, hz0, hz1, hz2⟩ := info_parts infoS
  refine wpList_append_own w hgd s x 35 ho B 9 i0 (.string ⟨#[]⟩) 1 16 Tryz.underlying35 hi hz0 hz1 hz2 rfl (by decide) v l.length (l.map Value.string) hs hbuf ⟨g, 0, none⟩ 1 1 [.string new] hx rfl ?_ ?_ (by unfold maxLen; omega) (by omega) hB ?_
  · intro j u hj
    match j, hj with
    | 0, hj => simp at hj; subst hj; exact hrow
    | n + 1, hj => simp at hj
  · intro u hu
    simp only [List.mem_singleton] at hu
    subst hu
    rfl
  · intro v' w' h1 h2 _
    refine h v' w' ?_ (Below.grown (Below.refl _ _) h2 hB fun k hk => (World.ownsRow.lt hbuf k hk).1)
    unfold BufS
    simpa using h1
/-- The same, as a step of a region that draws its order. -/
theorem step_append_text {w : World} {ops : Array Oper} {o : Oper} {a : Act} {K : Act → World → Prop} {Q : Exit → Act → World → Prop} {E : Prop} (hg : o.guard = none) (s x : Operand)
    (ho : o.op = .call { callee := .builtin .append, args := #[s, x], argTypes := #[35, 35] })
    (B : Nat) (v : Value) (l : List ByteArray) (hs : a.eval s = v) (hbuf : BufS w B v l) (g : Nat) (new : ByteArray) (hx : a.eval x = .slice (some ⟨g, 0, none⟩) 1 1) (hrow : w.cell? ⟨g, 0, none⟩ = some (.string new))
    (hlen : l.length ≤ 1000000) (hB : B ≤ w.heap.size)
    (h : ∀ v' w', BufS w' B v' (l ++ [new]) → Below B w w' → K (a.put o.dst v') w') : if Region.wanted o (yielded ops a.tmps) = true then Oper.wp Tryz.prog o a w K Q else E := by
  have hw : Region.wanted o (yielded ops a.tmps) = true := by simp [Region.wanted, hg]
  rw [if_pos hw]
  obtain ⟨i0, hi, hz0, hz1, hz2⟩ := info_parts infoS
  refine wp_append_own w s x 35 ho B 9 i0 (.string ⟨#[]⟩) 1 16 Tryz.underlying35 hi hz0 hz1 hz2 rfl (by decide) v l.length (l.map Value.string) hs hbuf ⟨g, 0, none⟩ 1 1 [.string new] hx rfl ?_ ?_ (by unfold maxLen; omega) (by omega) hB ?_
  · intro j u hj
    match j, hj with
    | 0, hj => simp at hj; subst hj; exact hrow
    | n + 1, hj => simp at hj
  · intro u hu
    simp only [List.mem_singleton] at hu
    subst hu
    rfl
  · intro v' w' h1 h2 _
    refine h v' w' ?_ (Below.grown (Below.refl _ _) h2 hB fun k hk => (World.ownsRow.lt hbuf k hk).1)
    unfold BufS
    simpa using h1
/-- make([]string, 0, n). -/
theorem make_texts (n : Nat) (hn : n ≤ 1000000) : ∀ u : World, (Instr.makeSlice 35 (.int .i64 0) (.int .i64 (n : Int))).run Tryz.prog u =
      .ok (.slice (some ⟨u.heap.size, 0, none⟩) 0 n) (u.alloc (.cells (madeCells #[.string ⟨#[]⟩] n) 9)) := fun u => by
  obtain ⟨i0, hi, hz0, hz1, hz2⟩ := info_parts infoS
  have h := run_make (P := Tryz.prog) u 35 9 i0 (.string ⟨#[]⟩) Tryz.underlying35 hi hz0 .i64 .i64 0 (n : Int) (Int.le_refl _) (by omega) (by rw [hz2]; omega) (by omega)
  simpa [hz1, Value.cells] using h
end Go.Proofs.YtobhbppogeghnaaGreatDoor
end

section
namespace Go.Proofs.YtobhbppogeghnaaGreatDoor
open Go.RowKit
/-- The cells from the address on, if there are any, are these texts. -/
def TextsP (w : World) (p : Option Addr) (l : List ByteArray) : Prop := ∀ i s, l[i]? = some s → ∃ a, p = some a ∧ a.block < w.heap.size ∧ w.cell? (a.add i) = some (.string s)
theorem TextsP.ext {w w' : World} {p : Option Addr} {l : List ByteArray} (h : TextsP w p l) (hx : Ext w w') : TextsP w' p l := fun i s hs => by
  obtain ⟨a, h1, h2, h3⟩ := h i s hs
  exact ⟨a, h1, Nat.lt_of_lt_of_le h2 hx.below.size, by rw [hx.below.cell (p := a.add i) (by rw [add_block]; exact h2)]; exact h3⟩
theorem TextsP.below {B : Nat} {w w' : World} {p : Option Addr} {l : List ByteArray} (h : TextsP w p l) (hx : Below B w w') (hb : ∀ a, p = some a → a.block < B) : TextsP w' p l := fun i s hs => by
  obtain ⟨a, h1, h2, h3⟩ := h i s hs
  exact ⟨a, h1, Nat.lt_of_lt_of_le h2 hx.size, by rw [hx.cell (p := a.add i) (by rw [add_block]; exact hb a h1)]; exact h3⟩
theorem TextsP.grown {w w' : World} {b : Nat} {p : Option Addr} {l : List ByteArray} (h : TextsP w p l) (hx : w.grownBy w' (some b)) (hb : ∀ a, p = some a → a.block ≠ b) : TextsP w' p l := fun i s hs => by
  obtain ⟨a, h1, h2, h3⟩ := h i s hs
  have e : w'.heap[(a.add i).block]? = w.heap[(a.add i).block]? := hx.block _ (by rw [add_block]; exact h2) (by rw [add_block]; simpa using hb a h1)
  exact ⟨a, h1, Nat.lt_of_lt_of_le h2 hx.size, by rw [World.cell?_of_block (w := w) e]; exact h3⟩
theorem TextsP.none (w : World) : TextsP w none [] := fun i s hs => by simp at hs
theorem Texts.p {w : World} {a : Addr} {l : List ByteArray} (h : Texts w a l) : TextsP w (some a) l := fun i s hs => ⟨a, rfl, (h i s hs).1, (h i s hs).2⟩
theorem TextsP.alloc {w : World} {p : Option Addr} {l : List ByteArray} (h : TextsP w p l) (o : Obj) : TextsP (w.alloc o) p l := h.ext ((Ext.refl w).alloc o)
theorem TextsP.drew {w : World} {p : Option Addr} {l : List ByteArray} (h : TextsP w p l) : TextsP w.drew p l := h
/-- A slice that was grown by append, as a row of texts: nil, or not. -/
theorem BufS.texts {w : World} {B : Nat} {v : Value} {l : List ByteArray} (h : BufS w B v l) : ∃ p c, v = .slice p l.length c ∧ TextsP w p l ∧ (∀ a, p = some a → B ≤ a.block ∧ a.block < w.heap.size ∧ ∃ cur T fz, w.heap[a.block]? = some (.cells cur T fz)) ∧ (∀ a, p = some a → a = ⟨a.block, 0, .none⟩ ∧ l.length ≤ c) := by
  unfold BufS at h
  rcases h.2 with ⟨hv, h0⟩ | ⟨g, cap, cur, hv, hB, hg, hle, _, hsz, ht⟩
  · have : l = [] := List.length_eq_zero_iff.1 h0
    subst this
    exact ⟨.none, 0, hv, TextsP.none w, by simp, by simp⟩
  · refine ⟨some ⟨g, 0, .none⟩, cap, hv, fun i s hs => ⟨_, rfl, heap_lt hg, ?_⟩, fun a ha => ?_, fun a ha => ?_⟩
    · have hi : i < l.length := (List.getElem?_eq_some_iff.1 hs).1
      have e0 : ((⟨g, 0, .none⟩ : Addr).add i) = ⟨g, i, .none⟩ := by unfold Addr.add; split <;> simp_all
      rw [e0, cell_of_row w g i cur _ (0, 0) hg]
      have e : cur.toList[i]? = (l.map Value.string)[i]? := by
        rw [← ht, List.getElem?_take, if_pos (by omega)]
      rw [← Array.getElem?_toList, e]
      simp [hs]
    · cases ha
      exact ⟨hB, heap_lt hg, cur, _, _, hg⟩
    · cases ha
      exact ⟨rfl, hle⟩
end Go.Proofs.YtobhbppogeghnaaGreatDoor
end

section
namespace Go.Proofs.YtobhbppogeghnaaGreatDoor
open Go.ChangeShapes Go.WideShapes Go.ChangeAt Go.RowKit

theorem laidOut : laidOutB Tryz.prog = true := by kernel_rfl
section
variable {H : Type} {enc : TypeId × Value → H} {W : World} {base : Nat} {v : Value} {d : DataW H} {p : List MemPlace}
end
end Go.Proofs.YtobhbppogeghnaaGreatDoor
end

section
namespace Go.Proofs.YtobhbppogeghnaaGreatDoor
open Go.ChangeShapes Go.WideShapes Go.ChangeAt Go.RowKit
theorem one_at {l : List Value} {j : Nat} {v : Value} (h : (l.drop j).take 1 = [v]) : l[j]? = some v := by
  have h2 : ((l.drop j).take 1)[0]? = some v := by rw [h]; rfl
  rw [List.getElem?_take, if_pos (by decide), List.getElem?_drop] at h2
  simpa using h2
/-- A list of what there is at each place. -/
theorem list_of_all {α : Type} {P : Nat → α → Prop} : ∀ n, (∀ k, k < n → ∃ x, P k x) → ∃ L : List α, L.length = n ∧ ∀ k x, L[k]? = some x → P k x
  | 0, _ => ⟨[], rfl, fun k x h => by simp at h⟩
  | n + 1, h => by
    obtain ⟨L, hl, hp⟩ := list_of_all n (fun k hk => h k (by omega))
    obtain ⟨x, hx⟩ := h n (by omega)
    refine ⟨L ++ [x], by simp [hl], fun k y hy => ?_⟩
    rcases Nat.lt_trichotomy k n with hk | rfl | hk
    · rw [List.getElem?_append_left (by omega)] at hy
      exact hp k y hy
    · rw [List.getElem?_append_right (by omega)] at hy
      simp [hl] at hy
      subst hy
      exact hx
    · rw [List.getElem?_eq_none (by simp; omega)] at hy
      cases hy
section
variable {H : Type} {enc : TypeId × Value → H} {W : World} {base : Nat} {v : Value} {d : DataW H} {p : List MemPlace}
theorem field_at {cs : List Value} {xs : List (DataW H × List MemPlace)} {n j : Nat} {t : TypeId} {k : IntKind} (hl : j < xs.length) (ht : Tryz.prog.underlying t = some (.int k)) (h : DataW.trod enc Tryz.prog W 0 (fun _ => true) true n t ((cs.drop j).take 1) = xs[j]?) : ∃ z, cs[j]? = some (.int k z) ∧ (Lit.int k z).wf = true := by
  rw [List.getElem?_eq_getElem hl] at h
  obtain ⟨z, hz, _, hw⟩ := DataW.trod_int ht h
  exact ⟨z, one_at hz, hw⟩
theorem field_str {cs : List Value} {xs : List (DataW H × List MemPlace)} {n j : Nat} {t : TypeId} (hl : j < xs.length) (ht : Tryz.prog.underlying t = some .string) (h : DataW.trod enc Tryz.prog W 0 (fun _ => true) true n t ((cs.drop j).take 1) = xs[j]?) : ∃ s : ByteArray, cs[j]? = some (.string s) ∧ (xs.map (·.1))[j]? = some (.lit (.string s.data.toList)) := by
  have h0 := h
  rw [List.getElem?_eq_getElem hl] at h
  obtain ⟨s, hz, hx, _⟩ := DataW.trod_string ht h
  refine ⟨s, one_at hz, ?_⟩
  rw [List.getElem?_map, List.getElem?_eq_getElem hl, hx]
  rfl
theorem weightsAll_mem {P : Program} {e : TypeId} {w : Nat} {x : DataW H} : ∀ {l : List (DataW H)}, x ∈ l → w ∈ x.weights P e → w ∈ DataW.weightsAll P e l
  | [], h, _ => by cases h
  | a :: r, h, hw => by
    simp only [DataW.weightsAll, List.mem_append]
    rcases List.mem_cons.1 h with rfl | h
    · exact .inl hw
    · exact .inr (weightsAll_mem h hw)
theorem field_bool {cs : List Value} {xs : List (DataW H × List MemPlace)} {n j : Nat} {t : TypeId} (hl : j < xs.length) (ht : Tryz.prog.underlying t = some .bool) (h : DataW.trod enc Tryz.prog W 0 (fun _ => true) true n t ((cs.drop j).take 1) = xs[j]?) : ∃ z, cs[j]? = some (.bool z) := by
  rw [List.getElem?_eq_getElem hl] at h
  obtain ⟨z, hz, _⟩ := DataW.trod_bool ht h
  exact ⟨z, one_at hz⟩
end
end Go.Proofs.YtobhbppogeghnaaGreatDoor
end
