/- Contracts: a block stirred into the state, by the program. From the rows' condition on the program's tables to what the contracts ask of the world; a world that meets it. Plain: slices of texts that came in. Plain: make([]byte, n). -/
import Derived.Test.YtdnpgmoiapkhnaaDoorM03
import Derived.Deep.QuietTactic
import Derived.BigQuiet
import Derived.Deep.DeepCutAuto
import Derived.Deep.RegionWith
import Derived.RegionTactic
import Derived.Test.YtdnpgmoiapkhnaaDoorRows
import Derived.ProofKit
import Derived.JoinedOf
import Derived.LaidLaws
import Derived.LaidHandle
import Derived.MakeChecks
import Derived.Stop.LaidErr
import Derived.Stop.Joined
import Derived.Lib.LaidTab
import Derived.Test.YtdnpgmoiapkhnaaDoorM01
import Derived.Test.YtdnpgmoiapkhnaaDoorProg
import Derived.Test.YtdnpgmoiapkhnaaDoorM00
import Derived.WalkSpells
section
namespace Go.Proofs.YtdnpgmoiapkhnaaDoor
open Go.RowKit

/-- The program's tables are as its text lays them. -/
structure Laid (w : World) : Prop where
  k : ∀ i, i < 64 → w.cell? ⟨1, i, none⟩ = some (.int .u32 (Kc.getD i 0 : Nat))
  first : ∀ i, i < 8 → w.cell? ⟨0, i, none⟩ = some (.int .u32 (init.list.getD i 0 : Nat))
  size : 2 ≤ w.heap.size
theorem Laid.below {B : Nat} {w w' : World} (h : Laid w) (hb : Below B w w') (hB : 2 ≤ B) : Laid w' :=
  ⟨fun i hi => by rw [hb.cell (p := ⟨1, i, none⟩) (show (1 : Nat) < B by omega)]; exact h.k i hi,
   fun i hi => by rw [hb.cell (p := ⟨0, i, none⟩) (show (0 : Nat) < B by omega)]; exact h.first i hi, Nat.le_trans h.size hb.size⟩
theorem Laid.ext {w w' : World} (h : Laid w) (hb : Ext w w') : Laid w' := h.below hb h.size

/-- Numbers between other cells. -/
def mid (pre : List Value) (l : List Nat) (post : List Value) : List Value := pre ++ (l.map cell32 ++ post)
theorem mid_at {pre : List Value} {l : List Nat} {post : List Value} {off : Nat} (ho : pre.length = off) (i : Nat) (hi : i < l.length) : (mid pre l post)[off + i]? = some (.int .u32 (l.getD i 0 : Nat)) := by
  unfold mid
  rw [List.getElem?_append_right (by omega), ho, Nat.add_sub_cancel_left, List.getElem?_append_left (by simpa using hi)]
  simp [List.getElem?_eq_getElem hi, cell32]
theorem mid_set {pre : List Value} {l : List Nat} {post : List Value} {off : Nat} (ho : pre.length = off) (i : Nat) (hi : i < l.length) (x : Int) (y : Nat) (e : x = (y : Int)) : (mid pre l post).set (off + i) (.int .u32 x) = mid pre (l.set i y) post := by
  subst e
  unfold mid
  rw [List.set_append_right _ _ (by omega), ho, Nat.add_sub_cancel_left, List.set_append_left _ _ (by simpa using hi), List.map_set]
  rfl

theorem mid8 {w : World} {b off : Nat} {T : TypeId} {pre post : List Value} {st : St} (h : Blk w b T (mid pre st.list post)) (ho : pre.length = off) :
    w.cell? ⟨b, off, none⟩ = some (.int .u32 (st.a : Nat)) ∧ w.cell? ⟨b, off + 1, none⟩ = some (.int .u32 (st.b : Nat)) ∧ w.cell? ⟨b, off + 2, none⟩ = some (.int .u32 (st.c : Nat)) ∧ w.cell? ⟨b, off + 3, none⟩ = some (.int .u32 (st.d : Nat)) ∧
    w.cell? ⟨b, off + 4, none⟩ = some (.int .u32 (st.e : Nat)) ∧ w.cell? ⟨b, off + 5, none⟩ = some (.int .u32 (st.f : Nat)) ∧ w.cell? ⟨b, off + 6, none⟩ = some (.int .u32 (st.g : Nat)) ∧ w.cell? ⟨b, off + 7, none⟩ = some (.int .u32 (st.h : Nat)) :=
  ⟨h.cell _ _ (mid_at ho 0 (by simp [St.list])), h.cell _ _ (mid_at ho 1 (by simp [St.list])), h.cell _ _ (mid_at ho 2 (by simp [St.list])), h.cell _ _ (mid_at ho 3 (by simp [St.list])), h.cell _ _ (mid_at ho 4 (by simp [St.list])), h.cell _ _ (mid_at ho 5 (by simp [St.list])), h.cell _ _ (mid_at ho 6 (by simp [St.list])), h.cell _ _ (mid_at ho 7 (by simp [St.list]))⟩

/-- The first n of the new ones, the others as they were. -/
def mix (old new : List Nat) (n : Nat) : List Nat := new.take n ++ old.drop n
theorem mix_length {old new : List Nat} (h1 : old.length = 8) (h2 : new.length = 8) (n : Nat) (hn : n ≤ 8) : (mix old new n).length = 8 := by simp [mix, h1, h2]; omega
theorem mix_old {old new : List Nat} (h2 : new.length = 8) (n : Nat) (hn : n < 8) : (mix old new n).getD n 0 = old.getD n 0 := by
  unfold mix
  rw [List.getD_eq_getElem?_getD, List.getD_eq_getElem?_getD, List.getElem?_append_right (by simp [h2]; omega), List.length_take, h2, Nat.min_eq_left (by omega), Nat.sub_self, List.getElem?_drop, Nat.add_zero]
theorem mix_set {old new : List Nat} (h1 : old.length = 8) (h2 : new.length = 8) (n : Nat) (hn : n < 8) : (mix old new n).set n (new.getD n 0) = mix old new (n + 1) := by
  unfold mix
  rw [List.set_append_right _ _ (by simp [h2]; omega), List.length_take, h2, Nat.min_eq_left (by omega), Nat.sub_self, List.drop_eq_getElem_cons (by omega), List.set_cons_zero, List.take_succ_eq_append_getElem (by omega), List.append_assoc]
  congr 2
  rw [List.getD_eq_getElem?_getD, List.getElem?_eq_getElem (by omega)]
  rfl
theorem blk_mix {w : World} {b off : Nat} {T : TypeId} {pre post : List Value} {old new : List Nat} (h1 : old.length = 8) (h2 : new.length = 8) (ho : pre.length = off) (n : Nat) (hn : n < 8)
    (h : Blk w b T (mid pre (mix old new n) post)) (x : Int) (hx : x = (new.getD n 0 : Nat)) : Blk (w.setCell ⟨b, off + n, none⟩ (.int .u32 x)) b T (mid pre (mix old new (n + 1)) post) := by
  have := h.set_ (off + n) (.int .u32 x)
  rw [mid_set ho n (by rw [mix_length h1 h2 n (by omega)]; exact hn) x _ hx, mix_set h1 h2 n hn] at this
  exact this

set_option maxRecDepth 100000 in
set_option maxHeartbeats 1000000 in
theorem take_any (st : St) (ok : st.Ok) (s : ByteArray) (hs : s.size = 64) (b off : Nat) (T : TypeId) (pre post : List Value) (w : World) (hL : Laid w) (ho : pre.length = off) (hB : Blk w b T (mid pre st.list post)) :
    Calls Tryd.prog 98 #[.pointer (some ⟨b, off, none⟩), .string s] w fun e w' => e = .returned (.tuple #[]) ∧ Below b w w' ∧ Blk w' b T (mid pre (stp s.data.toList st).list post) := by
  have CW := fun u => words_any s hs u
  have HW := Lib.hid CW; clear CW
  have Hs := Lib.hid hs; clear hs
  have Ho := Lib.hid ho; clear ho
  have HL := Lib.hid hL; clear hL
  have HB := Lib.hid hB
  have hbl := hB.lt
  clear hB
  have i44 : (Tryd.prog.info? 180).map (·.size) = some (((ws s.data.toList 64).map cell32).toArray).size := by rw [info44]; simp [ws_length]
  have I44 := Lib.hid i44; clear i44
  have hz : ∀ u : World, Row32 (u.alloc (.cells (List.replicate 64 (Value.int .u32 0)).toArray 180)) u.heap.size 180 (List.replicate 64 0) := fun u => by
    have := Row32.new u (List.replicate 64 0) 180
    simpa [cell32] using this
  have HZ := Lib.hid hz; clear hz
  obtain ⟨a, bb, c, d, ee, f, gg, h⟩ := st
  go_enter Tryd.func98, Tryd.ntmps98
  go_upto_region 0 with (fail)
  go_cut [4] (fun p wx => ∃ g, p = .pointer (some ⟨g, 0, none⟩) ∧ Row32 wx g 180 (ws s.data.toList 64) ∧ w.heap.size ≤ g ∧ Ext w wx)
  case first =>
    go_wp2_with (first
      | (go_at_call 125; refine (HW.out _).mono ?_; rintro e w1 ⟨rfl, h1⟩)
      | (refine wpList_store_row rfl 180 (.tmp 4) (.tmp 21) rfl w1.heap.size _ rfl rfl 180 _ (HZ.out w1) I44.out (by simp [ws_length]) (cells32_one _) ?_))
    go_meet
    exact ⟨_, rfl, setRow_heap _ _ _ _ _ _ (HZ.out w1), h1.size, (h1.alloc _).setRow h1.size _⟩
  case rest =>
    obtain ⟨g, rfl, hrow, hg, hext⟩ := hcut
    rename_i wc
    obtain ⟨k0, k1, k2, k3, k4, k5, k6, k7⟩ := mid8 (HB.out.ext hext) Ho.out
    simp only at k0 k1 k2 k3 k4 k5 k6 k7
    have HR := Lib.hid hrow; clear hrow
    go_wp2
    go_quiet (fail)
    go_wp2
    clear k0 k1 k2 k3 k4 k5 k6 k7
    go_loopw [5, 6, 7, 8, 9, 10, 11, 12, 54] (fun va vb vc vd ve vf vg vh i wr => ∃ (t : Nat) (s2 : St), t ≤ 64 ∧ i = .int .i64 t ∧ s2 = rnds (ws s.data.toList 64) ⟨a, bb, c, d, ee, f, gg, h⟩ t ∧ va = .int .u32 (s2.a : Int) ∧ vb = .int .u32 (s2.b : Int) ∧ vc = .int .u32 (s2.c : Int) ∧ vd = .int .u32 (s2.d : Int) ∧ ve = .int .u32 (s2.e : Int) ∧ vf = .int .u32 (s2.f : Int) ∧ vg = .int .u32 (s2.g : Int) ∧ vh = .int .u32 (s2.h : Int) ∧ Ext wc wr) (fun _ _ _ _ _ _ _ _ i _ => 64 - (intOf i).toNat)
    case atStart => exact ⟨0, _, Nat.zero_le _, rfl, rfl, rfl, rfl, rfl, rfl, rfl, rfl, rfl, rfl, (Ext.refl _).drewN _⟩
    case round =>
      obtain ⟨t, ⟨a2, b2, c2, d2, e2, f2, g2, h2⟩, ht, rfl, hs3, rfl, rfl, rfl, rfl, rfl, rfl, rfl, rfl, hext3⟩ := hrel
      have ok2 := rnds_ok ok (ws s.data.toList 64) t
      rw [← hs3] at ok2
      have HS3 := Lib.hid hs3; clear hs3
      obtain ⟨o1, o2, o3, o4, o5, o6, o7, o8⟩ := ok2
      simp only at o1 o2 o3 o4 o5 o6 o7 o8
      have OK2 := Lib.hid (show (St.Ok ⟨a2, b2, c2, d2, e2, f2, g2, h2⟩) from ⟨o1, o2, o3, o4, o5, o6, o7, o8⟩)
      by_cases hlt : t < 64
      · have hk := (HL.out.ext (hext.trans hext3)).k t hlt
        have hw := (HR.out.ext hext3).cell t (by rw [ws_length]; exact hlt)
        have hgw := (HR.out.ext hext3).lt
        obtain ⟨k, ek⟩ : ∃ k, k = Kc.getD t 0 := ⟨_, rfl⟩
        obtain ⟨x, ew⟩ : ∃ x, x = (ws s.data.toList 64).getD t 0 := ⟨_, rfl⟩
        rw [← ek] at hk; rw [← ew] at hw
        have EK := Lib.hid ek; have EW := Lib.hid ew; clear ek ew
        have v1 := sum1_int e2 o5
        have v0 := sum0_int a2 o1
        go_wp2_with (go_at_call 126; ((with_reducible refine (turn_any _ (by assumption) _ _).mono ?_); rintro e w9 ⟨rfl, rfl⟩))
        go_quiet (fail)
        go_wp2_with (go_at_call 126; ((with_reducible refine (turn_any _ (by assumption) _ _).mono ?_); rintro e w9 ⟨rfl, rfl⟩))
        go_roundw
        case rel =>
          refine ⟨t + 1, rnd ⟨a2, b2, c2, d2, e2, f2, g2, h2⟩ k x, by omega, by go_num, ?_, int_eq (rnd_a ⟨a2, b2, c2, d2, e2, f2, g2, h2⟩ OK2.out k x), rfl, rfl, rfl, int_eq (rnd_e ⟨a2, b2, c2, d2, e2, f2, g2, h2⟩ OK2.out k x), rfl, rfl, rfl, hext3.drewN _⟩
          rw [rnds, ← HS3.out, ← EK.out, ← EW.out]
        case measure => simp [intOf]; omega
      · obtain rfl : t = 64 := by omega
        have e64 : ((64 : Nat) : Int) = 64 := rfl
        rw [e64]
        clear e64
        have hB3 := HB.out.below (((hext.below.trans (hext3.below.mono hext.size)).mono (Nat.le_refl _))) hbl
        have hx3 : Ext w wr := hext.trans hext3
        have hp := stp_eq s.data.toList ⟨a, bb, c, d, ee, f, gg, h⟩ _ HS3.out
        have HP := Lib.hid hp; clear hp
        have HB3 := Lib.hid hB3; clear hB3
        have HI := Lib.hid (index8s 152 Tryd.underlying152 a2 b2 c2 d2 e2 f2 g2 h2)
        go_wp2
        go_loopw [128] (fun i wr2 => ∃ n : Nat, n ≤ 8 ∧ i = .int .i64 n ∧ Blk wr2 b T (mid pre (mix (St.list ⟨a, bb, c, d, ee, f, gg, h⟩) (plus ⟨a, bb, c, d, ee, f, gg, h⟩ ⟨a2, b2, c2, d2, e2, f2, g2, h2⟩).list n) post) ∧ Below b w wr2) (fun i _ => 8 - (intOf i).toNat)
        case atStart => exact ⟨0, by omega, rfl, HB3.out, hx3.below.mono (Nat.le_of_lt hbl)⟩
        case round =>
          obtain ⟨n, hn, rfl, hB4, hbel⟩ := hrel
          by_cases hlt8 : n < 8
          · have hc := hB4.cell _ _ (mid_at Ho.out n (by rw [mix_length rfl rfl n hn]; exact hlt8))
            rw [mix_old rfl n hlt8] at hc
            have hfz := hB4.frozen (off + n)
            have step := fun x hx => blk_mix rfl rfl Ho.out n hlt8 hB4 x hx
            have HT := Lib.hid step; clear step
            have HB4 := Lib.hid hB4; clear hB4
            obtain ⟨x0, x1, x2, x3, x4, x5, x6, x7⟩ := HI.out
            rcases (show n = 0 ∨ n = 1 ∨ n = 2 ∨ n = 3 ∨ n = 4 ∨ n = 5 ∨ n = 6 ∨ n = 7 by omega) with rfl | rfl | rfl | rfl | rfl | rfl | rfl | rfl
            all_goals
              simp only [St.list, List.getD_cons_zero, List.getD_cons_succ, Nat.add_zero] at hc hfz
              go_wp2
              go_region
              go_wp2
              go_roundw
              case rel => exact ⟨_, by omega, by go_num, HT.out _ (by simp [St.list, plus]), (hbel.setCell (p := ⟨b, _, none⟩) (Nat.le_refl _) _).drew⟩
              case measure => simp [intOf]
          · obtain rfl : n = 8 := by omega
            have e8 : ((8 : Nat) : Int) = 8 := rfl
            rw [e8]
            clear e8
            go_wp2
            go_end0
            exact ⟨rfl, hbel, by rw [HP.out]; exact hB4⟩
end Go.Proofs.YtdnpgmoiapkhnaaDoor
end

section
namespace Go.Proofs.YtdnpgmoiapkhnaaDoor
open Go.ChangeShapes Go.WideShapes Go.RowKit

noncomputable def laidList : List (String × DataW Unit) := Rows.keyringReadsRow.laid
theorem own : ownKnob Tryd.prog.godebug = none := by kernel_rfl
def intsOf (l : List Nat) : List Int := l.map fun (n : Nat) => (n : Int)
theorem laid_of_met {W : World} (h : laidMetH Tryd.prog laidList W) : Laid W := by
  have h1 : laidMet Tryd.prog laidList W := by
    rwa [MakeChecks.laidMetH_plain _ _ _ (by kernel_rfl)] at h
  have hk := Lib.tabIs_of_head (k := .u32) (zs := intsOf Kc) (g := 1) (t := 180) (e := 29) (n := 64) (by kernel_rfl) (by kernel_rfl) Tryd.underlying180 Tryd.underlying29 (by kernel_rfl) (by kernel_rfl) (laidMet.tail (show laidMet Tryd.prog (_ :: (_, Lib.tabData .u32 (intsOf Kc)) :: []) W from h1))
  have hf := Lib.tabIs_of_head (k := .u32) (zs := intsOf init.list) (g := 0) (t := 153) (e := 29) (n := 8) (by kernel_rfl) (by kernel_rfl) Tryd.underlying153 Tryd.underlying29 (by kernel_rfl) (by kernel_rfl) (show laidMet Tryd.prog ((_, Lib.tabData .u32 (intsOf init.list)) :: _) W from h1)
  have ck := fun i hi => hk.cell (g := 1) (by kernel_rfl) i hi
  have cf := fun i hi => hf.cell (g := 0) (by kernel_rfl) i hi
  have e : ∀ (l : List Nat) (i : Nat), i < l.length → (intsOf l).getD i 0 = ((l.getD i 0 : Nat) : Int) := by
    intro l i hi
    simp [intsOf, List.getD, List.getElem?_eq_getElem hi]
  refine ⟨fun i hi => ?_, fun i hi => ?_, ?_⟩
  · rw [ck i hi, e Kc i hi]
  · rw [cf i hi, e init.list i hi]
  · have := ck 0 (by decide)
    rcases Nat.lt_or_ge 1 W.heap.size with hlt | hge
    · exact hlt
    · unfold World.cell? at this
      rw [Array.getElem?_eq_none (by simpa using hge)] at this
      cases this
/-- A world that meets the condition: the settled one, the tables laid. -/
noncomputable def laidWorld (os : Os) : World :=
  let w0 := World.holding Tryd.prog os ⟨#[], #[], []⟩
  { w0 with heap := (w0.heap.modify 0 fun
      | .cells _ t frozen => .cells (init.list.map cell32).toArray t frozen
      | o => o).modify 1 fun
      | .cells _ t frozen => .cells (Kc.map cell32).toArray t frozen
      | o => o }
theorem laidWorld_met (os : Os) (args : Array Value) : laidMetH Tryd.prog laidList ((laidWorld os).forCall (fun _ _ => 0) ⟨#[], args, []⟩).memory :=
  laidMetH_of_parts (laidMet_of_run' 8 (by kernel_rfl) (by kernel_rfl)) (by kernel_rfl)
end Go.Proofs.YtdnpgmoiapkhnaaDoor
end

section
namespace Go.Proofs.YtdnpgmoiapkhnaaDoor
open Go.RowKit

/-- The cells from a on are these texts. -/
def Texts (w : World) (a : Addr) (l : List ByteArray) : Prop := ∀ i s, l[i]? = some s → a.block < w.heap.size ∧ w.cell? (a.add i) = some (.string s)
theorem add_block (a : Addr) (i : Nat) : (a.add i).block = a.block := by unfold Addr.add; split <;> rfl
theorem Texts.ext {w w' : World} {a : Addr} {l : List ByteArray} (h : Texts w a l) (hx : Ext w w') : Texts w' a l := fun i s hs =>
  ⟨Nat.lt_of_lt_of_le (h i s hs).1 hx.below.size, by rw [hx.below.cell (p := a.add i) (by rw [add_block]; exact (h i s hs).1)]; exact (h i s hs).2⟩
/-- The value is a row of texts, or nil. -/
def TextsV (w : World) (v : Value) (l : List ByteArray) : Prop := (v = .slice none 0 0 ∧ l = []) ∨ ∃ a c, v = .slice (some a) l.length c ∧ Texts w a l ∧ l.length ≤ 140737488355328
theorem TextsV.ext {w w' : World} {v : Value} {l : List ByteArray} (h : TextsV w v l) (hx : Ext w w') : TextsV w' v l := by
  rcases h with h | ⟨a, c, h1, h2, h3⟩
  · exact .inl h
  · exact .inr ⟨a, c, h1, h2.ext hx, h3⟩
end Go.Proofs.YtdnpgmoiapkhnaaDoor
end

section
namespace Go.Proofs.YtdnpgmoiapkhnaaDoor
open Go.RowKit

theorem info5 : (Tryd.prog.info? 5).map (fun i => (i.zero, i.size, i.bytes)) = some (some (.int .u8 0), 1, 1) := by kernel_rfl

/-- make([]byte, n): a new block of n zeros. -/
theorem make_bytes (n : Nat) (hn : n ≤ 281474976710656) : ∀ u : World, (Instr.makeSlice 35 (.int .i64 (n : Int)) (.int .i64 (n : Int))).run Tryd.prog u =
      .ok (.slice (some ⟨u.heap.size, 0, none⟩) n n) (u.alloc (.cells (madeCells #[.int .u8 0] n) 5)) := fun u => by
  obtain ⟨i0, hi, hz0, hz1, hz2⟩ := info_parts info5
  have h := run_make (P := Tryd.prog) u 35 5 i0 (.int .u8 0) Tryd.underlying35 hi hz0 .i64 .i64 (n : Int) (n : Int) (by omega) (Int.le_refl _) (by rw [hz2]; omega) (by omega)
  simpa [hz1, Value.cells] using h
end Go.Proofs.YtdnpgmoiapkhnaaDoor
end
