/- Contracts: a block stirred into the state, by the program. Contracts: numbers of 32 bits written as bytes, by the program. Contracts: numbers written as bytes, by the program and by the document's answer. A Hash in memory: what it keeps of the bytes that came. Contracts of the library's builder of strings, at this translation. -/
import Derived.Test.YtcjdnifckngcfaaGreatDoorM08
import Derived.Deep.QuietTactic
import Derived.BigQuiet
import Derived.Deep.DeepCutAuto
import Derived.Deep.RegionWith
import Derived.RegionTactic
import Derived.Test.YtcjdnifckngcfaaGreatDoorProg
import Derived.Test.YtcjdnifckngcfaaGreatDoorM06
import Derived.WalkSpells
import Derived.Shelf.Strings.Builder1
import Derived.Shelf.Strings.BuilderF
import Derived.Test.YtcjdnifckngcfaaGreatDoorM02
section
namespace Go.Proofs.YtcjdnifckngcfaaGreatDoor
open Go.RowKit

/-- The program's tables are as its text lays them. -/
structure Laid (w : World) : Prop where
  k : ∀ i, i < 64 → w.cell? ⟨1, i, none⟩ = some (.int .u32 (Kc.getD i 0 : Nat))
  first : ∀ i, i < 8 → w.cell? ⟨0, i, none⟩ = some (.int .u32 (init.list.getD i 0 : Nat))
  size : 2 ≤ w.heap.size
theorem Laid.below {B : Nat} {w w' : World} (h : Laid w) (hb : Below B w w') (hB : 2 ≤ B) : Laid w' :=
  ⟨fun i hi => by rw [hb.cell (p := ⟨1, i, none⟩) (show (1 : Nat) < B by omega)]; exact h.k i hi,
   fun i hi => by rw [hb.cell (p := ⟨0, i, none⟩) (show (0 : Nat) < B by omega)]; exact h.first i hi, Nat.le_trans h.size hb.size⟩
theorem Laid.ext {w w' : World} (h : Laid w) (hb : Ext w w') : Laid w' := h.below hb h.size

/-- Numbers between other cells. -/
def mid (pre : List Value) (l : List Nat) (post : List Value) : List Value := pre ++ (l.map cell32 ++ post)
theorem mid_at {pre : List Value} {l : List Nat} {post : List Value} {off : Nat} (ho : pre.length = off) (i : Nat) (hi : i < l.length) : (mid pre l post)[off + i]? = some (.int .u32 (l.getD i 0 : Nat)) := by
  unfold mid
  rw [List.getElem?_append_right (by omega), ho, Nat.add_sub_cancel_left, List.getElem?_append_left (by simpa using hi)]
  simp [List.getElem?_eq_getElem hi, cell32]
theorem mid_set {pre : List Value} {l : List Nat} {post : List Value} {off : Nat} (ho : pre.length = off) (i : Nat) (hi : i < l.length) (x : Int) (y : Nat) (e : x = (y : Int)) : (mid pre l post).set (off + i) (.int .u32 x) = mid pre (l.set i y) post := by
  subst e
  unfold mid
  rw [List.set_append_right _ _ (by omega), ho, Nat.add_sub_cancel_left, List.set_append_left _ _ (by simpa using hi), List.map_set]
  rfl

theorem mid8 {w : World} {b off : Nat} {T : TypeId} {pre post : List Value} {st : St} (h : Blk w b T (mid pre st.list post)) (ho : pre.length = off) :
    w.cell? ⟨b, off, none⟩ = some (.int .u32 (st.a : Nat)) ∧ w.cell? ⟨b, off + 1, none⟩ = some (.int .u32 (st.b : Nat)) ∧ w.cell? ⟨b, off + 2, none⟩ = some (.int .u32 (st.c : Nat)) ∧ w.cell? ⟨b, off + 3, none⟩ = some (.int .u32 (st.d : Nat)) ∧
    w.cell? ⟨b, off + 4, none⟩ = some (.int .u32 (st.e : Nat)) ∧ w.cell? ⟨b, off + 5, none⟩ = some (.int .u32 (st.f : Nat)) ∧ w.cell? ⟨b, off + 6, none⟩ = some (.int .u32 (st.g : Nat)) ∧ w.cell? ⟨b, off + 7, none⟩ = some (.int .u32 (st.h : Nat)) :=
  ⟨h.cell _ _ (mid_at ho 0 (by simp [St.list])), h.cell _ _ (mid_at ho 1 (by simp [St.list])), h.cell _ _ (mid_at ho 2 (by simp [St.list])), h.cell _ _ (mid_at ho 3 (by simp [St.list])), h.cell _ _ (mid_at ho 4 (by simp [St.list])), h.cell _ _ (mid_at ho 5 (by simp [St.list])), h.cell _ _ (mid_at ho 6 (by simp [St.list])), h.cell _ _ (mid_at ho 7 (by simp [St.list]))⟩

/-- The first n of the new ones, the others as they were. -/
def mix (old new : List Nat) (n : Nat) : List Nat := new.take n ++ old.drop n
theorem mix_length {old new : List Nat} (h1 : old.length = 8) (h2 : new.length = 8) (n : Nat) (hn : n ≤ 8) : (mix old new n).length = 8 := by simp [mix, h1, h2]; omega
theorem mix_old {old new : List Nat} (h2 : new.length = 8) (n : Nat) (hn : n < 8) : (mix old new n).getD n 0 = old.getD n 0 := by
  unfold mix
  rw [List.getD_eq_getElem?_getD, List.getD_eq_getElem?_getD, List.getElem?_append_right (by simp [h2]; omega), List.length_take, h2, Nat.min_eq_left (by omega), Nat.sub_self, List.getElem?_drop, Nat.add_zero]
theorem mix_set {old new : List Nat} (h1 : old.length = 8) (h2 : new.length = 8) (n : Nat) (hn : n < 8) : (mix old new n).set n (new.getD n 0) = mix old new (n + 1) := by
  unfold mix
  rw [List.set_append_right _ _ (by simp [h2]; omega), List.length_take, h2, Nat.min_eq_left (by omega), Nat.sub_self, List.drop_eq_getElem_cons (by omega), List.set_cons_zero, List.take_succ_eq_append_getElem (by omega), List.append_assoc]
  congr 2
  rw [List.getD_eq_getElem?_getD, List.getElem?_eq_getElem (by omega)]
  rfl
theorem blk_mix {w : World} {b off : Nat} {T : TypeId} {pre post : List Value} {old new : List Nat} (h1 : old.length = 8) (h2 : new.length = 8) (ho : pre.length = off) (n : Nat) (hn : n < 8)
    (h : Blk w b T (mid pre (mix old new n) post)) (x : Int) (hx : x = (new.getD n 0 : Nat)) : Blk (w.setCell ⟨b, off + n, none⟩ (.int .u32 x)) b T (mid pre (mix old new (n + 1)) post) := by
  have := h.set_ (off + n) (.int .u32 x)
  rw [mid_set ho n (by rw [mix_length h1 h2 n (by omega)]; exact hn) x _ hx, mix_set h1 h2 n hn] at this
  exact this

set_option maxRecDepth 100000 in
set_option maxHeartbeats 1000000 in
theorem take_any (st : St) (ok : st.Ok) (s : ByteArray) (hs : s.size = 64) (b off : Nat) (T : TypeId) (pre post : List Value) (w : World) (hL : Laid w) (ho : pre.length = off) (hB : Blk w b T (mid pre st.list post)) :
    Calls Tryz.prog 166 #[.pointer (some ⟨b, off, none⟩), .string s] w fun e w' => e = .returned (.tuple #[]) ∧ Below b w w' ∧ Blk w' b T (mid pre (stp s.data.toList st).list post) := by
  have CW := fun u => words_any s hs u
  have HW := Lib.hid CW; clear CW
  have Hs := Lib.hid hs; clear hs
  have Ho := Lib.hid ho; clear ho
  have HL := Lib.hid hL; clear hL
  have HB := Lib.hid hB
  have hbl := hB.lt
  clear hB
  have i44 : (Tryz.prog.info? 246).map (·.size) = some (((ws s.data.toList 64).map cell32).toArray).size := by rw [info44]; simp [ws_length]
  have I44 := Lib.hid i44; clear i44
  have hz : ∀ u : World, Row32 (u.alloc (.cells (List.replicate 64 (Value.int .u32 0)).toArray 246)) u.heap.size 246 (List.replicate 64 0) := fun u => by
    have := Row32.new u (List.replicate 64 0) 246
    simpa [cell32] using this
  have HZ := Lib.hid hz; clear hz
  obtain ⟨a, bb, c, d, ee, f, gg, h⟩ := st
  go_enter Tryz.func166, Tryz.ntmps166
  go_upto_region 0 with (fail)
  go_cut [4] (fun p wx => ∃ g, p = .pointer (some ⟨g, 0, none⟩) ∧ Row32 wx g 246 (ws s.data.toList 64) ∧ w.heap.size ≤ g ∧ Ext w wx)
  case first =>
    go_wp2_with (first
      | (go_at_call 197; refine (HW.out _).mono ?_; rintro e w1 ⟨rfl, h1⟩)
      | (refine wpList_store_row rfl 246 (.tmp 4) (.tmp 21) rfl w1.heap.size _ rfl rfl 246 _ (HZ.out w1) I44.out (by simp [ws_length]) (cells32_one _) ?_))
    go_meet
    exact ⟨_, rfl, setRow_heap _ _ _ _ _ _ (HZ.out w1), h1.size, (h1.alloc _).setRow h1.size _⟩
  case rest =>
    obtain ⟨g, rfl, hrow, hg, hext⟩ := hcut
    rename_i wc
    obtain ⟨k0, k1, k2, k3, k4, k5, k6, k7⟩ := mid8 (HB.out.ext hext) Ho.out
    simp only at k0 k1 k2 k3 k4 k5 k6 k7
    have HR := Lib.hid hrow; clear hrow
    go_wp2
    go_quiet (fail)
    go_wp2
    clear k0 k1 k2 k3 k4 k5 k6 k7
    go_loopw [5, 6, 7, 8, 9, 10, 11, 12, 54] (fun va vb vc vd ve vf vg vh i wr => ∃ (t : Nat) (s2 : St), t ≤ 64 ∧ i = .int .i64 t ∧ s2 = rnds (ws s.data.toList 64) ⟨a, bb, c, d, ee, f, gg, h⟩ t ∧ va = .int .u32 (s2.a : Int) ∧ vb = .int .u32 (s2.b : Int) ∧ vc = .int .u32 (s2.c : Int) ∧ vd = .int .u32 (s2.d : Int) ∧ ve = .int .u32 (s2.e : Int) ∧ vf = .int .u32 (s2.f : Int) ∧ vg = .int .u32 (s2.g : Int) ∧ vh = .int .u32 (s2.h : Int) ∧ Ext wc wr) (fun _ _ _ _ _ _ _ _ i _ => 64 - (intOf i).toNat)
    case atStart => exact ⟨0, _, Nat.zero_le _, rfl, rfl, rfl, rfl, rfl, rfl, rfl, rfl, rfl, rfl, (Ext.refl _).drewN _⟩
    case round =>
      obtain ⟨t, ⟨a2, b2, c2, d2, e2, f2, g2, h2⟩, ht, rfl, hs3, rfl, rfl, rfl, rfl, rfl, rfl, rfl, rfl, hext3⟩ := hrel
      have ok2 := rnds_ok ok (ws s.data.toList 64) t
      rw [← hs3] at ok2
      have HS3 := Lib.hid hs3; clear hs3
      obtain ⟨o1, o2, o3, o4, o5, o6, o7, o8⟩ := ok2
      simp only at o1 o2 o3 o4 o5 o6 o7 o8
      have OK2 := Lib.hid (show (St.Ok ⟨a2, b2, c2, d2, e2, f2, g2, h2⟩) from ⟨o1, o2, o3, o4, o5, o6, o7, o8⟩)
      by_cases hlt : t < 64
      · have hk := (HL.out.ext (hext.trans hext3)).k t hlt
        have hw := (HR.out.ext hext3).cell t (by rw [ws_length]; exact hlt)
        have hgw := (HR.out.ext hext3).lt
        obtain ⟨k, ek⟩ : ∃ k, k = Kc.getD t 0 := ⟨_, rfl⟩
        obtain ⟨x, ew⟩ : ∃ x, x = (ws s.data.toList 64).getD t 0 := ⟨_, rfl⟩
        rw [← ek] at hk; rw [← ew] at hw
        have EK := Lib.hid ek; have EW := Lib.hid ew; clear ek ew
        have v1 := sum1_int e2 o5
        have v0 := sum0_int a2 o1
        go_wp2_with (go_at_call 198; ((with_reducible refine (turn_any _ (by assumption) _ _).mono ?_); rintro e w9 ⟨rfl, rfl⟩))
        go_quiet (fail)
        go_wp2_with (go_at_call 198; ((with_reducible refine (turn_any _ (by assumption) _ _).mono ?_); rintro e w9 ⟨rfl, rfl⟩))
        go_roundw
        case rel =>
          refine ⟨t + 1, rnd ⟨a2, b2, c2, d2, e2, f2, g2, h2⟩ k x, by omega, by go_num, ?_, int_eq (rnd_a ⟨a2, b2, c2, d2, e2, f2, g2, h2⟩ OK2.out k x), rfl, rfl, rfl, int_eq (rnd_e ⟨a2, b2, c2, d2, e2, f2, g2, h2⟩ OK2.out k x), rfl, rfl, rfl, hext3.drewN _⟩
          rw [rnds, ← HS3.out, ← EK.out, ← EW.out]
        case measure => simp [intOf]; omega
      · obtain rfl : t = 64 := by omega
        have e64 : ((64 : Nat) : Int) = 64 := rfl
        rw [e64]
        clear e64
        have hB3 := HB.out.below (((hext.below.trans (hext3.below.mono hext.size)).mono (Nat.le_refl _))) hbl
        have hx3 : Ext w wr := hext.trans hext3
        have hp := stp_eq s.data.toList ⟨a, bb, c, d, ee, f, gg, h⟩ _ HS3.out
        have HP := Lib.hid hp; clear hp
        have HB3 := Lib.hid hB3; clear hB3
        have HI := Lib.hid (index8s 215 Tryz.underlying215 a2 b2 c2 d2 e2 f2 g2 h2)
        go_wp2
        go_loopw [128] (fun i wr2 => ∃ n : Nat, n ≤ 8 ∧ i = .int .i64 n ∧ Blk wr2 b T (mid pre (mix (St.list ⟨a, bb, c, d, ee, f, gg, h⟩) (plus ⟨a, bb, c, d, ee, f, gg, h⟩ ⟨a2, b2, c2, d2, e2, f2, g2, h2⟩).list n) post) ∧ Below b w wr2) (fun i _ => 8 - (intOf i).toNat)
        case atStart => exact ⟨0, by omega, rfl, HB3.out, hx3.below.mono (Nat.le_of_lt hbl)⟩
        case round =>
          obtain ⟨n, hn, rfl, hB4, hbel⟩ := hrel
          by_cases hlt8 : n < 8
          · have hc := hB4.cell _ _ (mid_at Ho.out n (by rw [mix_length rfl rfl n hn]; exact hlt8))
            rw [mix_old rfl n hlt8] at hc
            have hfz := hB4.frozen (off + n)
            have step := fun x hx => blk_mix rfl rfl Ho.out n hlt8 hB4 x hx
            have HT := Lib.hid step; clear step
            have HB4 := Lib.hid hB4; clear hB4
            obtain ⟨x0, x1, x2, x3, x4, x5, x6, x7⟩ := HI.out
            rcases (show n = 0 ∨ n = 1 ∨ n = 2 ∨ n = 3 ∨ n = 4 ∨ n = 5 ∨ n = 6 ∨ n = 7 by omega) with rfl | rfl | rfl | rfl | rfl | rfl | rfl | rfl
            all_goals
              simp only [St.list, List.getD_cons_zero, List.getD_cons_succ, Nat.add_zero] at hc hfz
              go_wp2
              go_region
              go_wp2
              go_roundw
              case rel => exact ⟨_, by omega, by go_num, HT.out _ (by simp [St.list, plus]), (hbel.setCell (p := ⟨b, _, none⟩) (Nat.le_refl _) _).drew⟩
              case measure => simp [intOf]
          · obtain rfl : n = 8 := by omega
            have e8 : ((8 : Nat) : Int) = 8 := rfl
            rw [e8]
            clear e8
            go_wp2
            go_end0
            exact ⟨rfl, hbel, by rw [HP.out]; exact hB4⟩
end Go.Proofs.YtcjdnifckngcfaaGreatDoor
end

section
namespace Go.Proofs.YtcjdnifckngcfaaGreatDoor
open Go.RowKit

theorem put32_any (n : Nat) (k : Nat) (hk : k ≤ 4) (w : World) :
    Calls Tryz.prog 114 #[.int .u32 (n : Int), .int .i64 (k : Int)] w fun e w' => e = .returned (.string ⟨(be k n).toArray⟩) ∧ Ext w w' := by
  have hmk := make_bytes k (by omega)
  go_enter Tryz.func114, Tryz.ntmps114
  go_wp2
  go_loopw [10] (fun i wr => ∃ j : Nat, j ≤ k ∧ i = .int .i64 j ∧ Row wr w.heap.size 5 (List.replicate (k - j) 0 ++ be j n) ∧ Ext w wr) (fun i _ => k - (intOf i).toNat)
  case atStart => exact ⟨0, Nat.zero_le _, rfl, by simpa [be] using Row.made w 5 k, (Ext.refl w).alloc _⟩
  case round =>
    obtain ⟨j, hj, rfl, hrow, hext⟩ := hrel
    by_cases hlt : j < k
    · have hc := put_cell hlt hrow
      have hf := hrow.frozen (k - 1 - j)
      go_wp2
      go_roundw
      case rel => exact ⟨j + 1, by omega, by go_num, put_step hlt hrow, hext.setCell (Nat.le_refl _) _⟩
      case measure => simp [intOf]; omega
    · obtain rfl : j = k := by omega
      have ht := hrow.text (P := Tryz.prog) 43 5 9 Tryz.underlying43 Tryz.underlying5 Tryz.underlying9 j j (by simp [be_length])
      clear hrow
      go_wp2
      go_ret
      exact ⟨by simp, hext⟩

theorem Put32_any (n : Nat) (w : World) :
    Calls Tryz.prog 79 #[.int .u32 (n : Int)] w fun e w' => e = .returned (.string ⟨(be 4 n).toArray⟩) ∧ Ext w w' := by
  go_enter Tryz.func79, Tryz.ntmps79
  go_wp2_with (go_at_call 114; refine (put32_any n 4 (by omega) _).mono ?_; rintro e w1 ⟨rfl, h1⟩)
  go_ret
  exact ⟨rfl, h1⟩
end Go.Proofs.YtcjdnifckngcfaaGreatDoor
end

section
namespace Go.Proofs.YtcjdnifckngcfaaGreatDoor
open Go.RowKit

theorem put64_any (n : Nat) (k : Nat) (hk : k ≤ 8) (w : World) :
    Calls Tryz.prog 144 #[.int .u64 (n : Int), .int .i64 (k : Int)] w fun e w' => e = .returned (.string ⟨(be k n).toArray⟩) ∧ Ext w w' := by
  have hmk := make_bytes k (by omega)
  go_enter Tryz.func144, Tryz.ntmps144
  go_wp2
  go_loopw [10] (fun i wr => ∃ j : Nat, j ≤ k ∧ i = .int .i64 j ∧ Row wr w.heap.size 5 (List.replicate (k - j) 0 ++ be j n) ∧ Ext w wr) (fun i _ => k - (intOf i).toNat)
  case atStart => exact ⟨0, Nat.zero_le _, rfl, by simpa [be] using Row.made w 5 k, (Ext.refl w).alloc _⟩
  case round =>
    obtain ⟨j, hj, rfl, hrow, hext⟩ := hrel
    by_cases hlt : j < k
    · have hc := put_cell hlt hrow
      have hf := hrow.frozen (k - 1 - j)
      go_wp2
      go_roundw
      case rel => exact ⟨j + 1, by omega, by go_num, put_step hlt hrow, hext.setCell (Nat.le_refl _) _⟩
      case measure => simp [intOf]; omega
    · obtain rfl : j = k := by omega
      have ht := hrow.text (P := Tryz.prog) 43 5 9 Tryz.underlying43 Tryz.underlying5 Tryz.underlying9 j j (by simp [be_length])
      clear hrow
      go_wp2
      go_ret
      exact ⟨by simp, hext⟩
theorem Put64_any (n : Nat) (w : World) :
    Calls Tryz.prog 117 #[.int .u64 (n : Int)] w fun e w' => e = .returned (.string ⟨(be 8 n).toArray⟩) ∧ Ext w w' := by
  go_enter Tryz.func117, Tryz.ntmps117
  go_wp2_with (go_at_call 144; refine (put64_any n 8 (by omega) _).mono ?_; rintro e w1 ⟨rfl, h1⟩)
  go_ret
  exact ⟨rfl, h1⟩
end Go.Proofs.YtcjdnifckngcfaaGreatDoor
end

section
namespace Go.Proofs.YtcjdnifckngcfaaGreatDoor
open Go.RowKit

/-- The cells of a Hash. -/
def hashPost (buf : List UInt8) (n : Nat) : List Value := buf.map cellOf ++ [.int .u64 (n : Int)]
def hashCells (st : St) (buf : List UInt8) (n : Nat) : List Value := mid [.bool true] st.list (hashPost buf n)
/-- Block b is a Hash to which m came. -/
structure IsHash (w : World) (b : Nat) (m : List UInt8) : Prop where
  small : m.length < 1152921504606846976
  blk : ∃ buf : List UInt8, buf.length = 64 ∧ buf.take (m.length % 64) = restOf m ∧ Blk w b 219 (hashCells (stOf m) buf m.length)
section
variable {w w' : World} {b : Nat} {m : List UInt8} {st : St} {buf : List UInt8} {n : Nat}
theorem IsHash.lt (h : IsHash w b m) : b < w.heap.size := by obtain ⟨_, _, _, hb⟩ := h.blk; exact hb.lt
theorem IsHash.below {B : Nat} (h : IsHash w b m) (hb : Below B w w') (hB : b < B) : IsHash w' b m := by
  obtain ⟨buf, h1, h2, h3⟩ := h.blk; exact ⟨h.small, buf, h1, h2, h3.below hb hB⟩
theorem IsHash.ext (h : IsHash w b m) (hb : Ext w w') : IsHash w' b m := h.below hb h.lt
theorem IsHash.alloc (h : IsHash w b m) (o : Obj) : IsHash (w.alloc o) b m := h.ext ((Ext.refl w).alloc o)
theorem IsHash.drew (h : IsHash w b m) : IsHash w.drew b m := h.ext (Ext.refl w).drew
theorem hash_made (h : Blk w b 219 (hashCells st buf n)) : w.cell? ⟨b, 0, none⟩ = some (.bool true) := h.cell 0 _ rfl
theorem hash_byte (h : Blk w b 219 (hashCells st buf n)) (i : Nat) (hi : i < buf.length) : w.cell? ⟨b, 9 + i, none⟩ = some (.int .u8 ((buf.map fun c => (c.toNat : Int)).getD i 0)) := by
  apply h.cell
  unfold hashCells mid hashPost
  rw [List.getElem?_append_right (by simp; omega), List.getElem?_append_right (by simp [St.list]; try omega), List.getElem?_append_left (by simp [St.list]; omega)]
  have e : 9 + i - [Value.bool true].length - (st.list.map cell32).length = i := by simp [St.list]; try omega
  rw [e]
  simp [List.getElem?_eq_getElem hi, cellOf]
theorem hash_count (h : Blk w b 219 (hashCells st buf n)) (hb : buf.length = 64) : w.cell? ⟨b, 73, none⟩ = some (.int .u64 (n : Int)) := by
  apply h.cell
  unfold hashCells mid hashPost
  rw [List.getElem?_append_right (by simp), List.getElem?_append_right (by simp [St.list]), List.getElem?_append_right (by simp [St.list, hb])]
  simp [St.list, hb]
/-- The first k bytes of what is kept, as a text. -/
theorem hash_text (h : Blk w b 219 (hashCells st buf n)) (k c : Nat) (hk : k ≤ buf.length) :
    (convert 43 9 (.slice (some ⟨b, 9, none⟩) k c)).run Tryz.prog w = .ok (.string ⟨(buf.take k).toArray⟩) w := by
  have hc := run_convert_bytes_arg (P := Tryz.prog) w 43 5 Tryz.underlying43 Tryz.underlying5 b 9 k c ((buf.take k).map fun c => (c.toNat : Int)) (by simp; omega) (by
    intro i hi
    rw [hash_byte h i (by omega)]
    have hi2 : i < buf.length := by omega
    simp [List.getD, hi, List.getElem?_eq_getElem hi2]) 9 Tryz.underlying9
  rw [hc]
  have e : strOfNums ((buf.take k).map fun c => (c.toNat : Int)) = ⟨(buf.take k).toArray⟩ := by
    unfold strOfNums
    refine congrArg (fun l : List UInt8 => (⟨l.toArray⟩ : ByteArray)) ?_
    rw [List.map_map]
    conv => rhs; rw [← List.map_id (buf.take k)]
    apply List.map_congr_left
    intro b _
    simp
  rw [e]
end
end Go.Proofs.YtcjdnifckngcfaaGreatDoor
end

section
namespace Go.Proofs.YtcjdnifckngcfaaGreatDoor
open Go.RowKit

def renS : Go.Shelf.Ren := ⟨fun | 169 => 111 | n => n, fun | 0 => 0 | 3 => 3 | 5 => 5 | 9 => 9 | 37 => 43 | 70 => 149 | 72 => 151 | 127 => 168 | n => n, fun n => n⟩
theorem laysS : Go.Proofs.Lays.n169 Tryz.prog renS := {
  mixed := by kernel_rfl
  f169 := Tryz.func111.trans (congrArg some (by kernel_rfl))
  t0 := Tryz.underlying0
  a0 := Tryz.isAgg0
  z0 := Tryz.sizeOf0
  v0 := Tryz.zeroValue0
  t3 := Tryz.underlying3
  a3 := Tryz.isAgg3
  z3 := Tryz.sizeOf3
  v3 := Tryz.zeroValue3
  t9 := Tryz.underlying9
  a9 := Tryz.isAgg9
  z9 := Tryz.sizeOf9
  v9 := Tryz.zeroValue9
  t37 := Tryz.underlying43
  a37 := Tryz.isAgg43
  z37 := Tryz.sizeOf43
  v37 := Tryz.zeroValue43
  t70 := Tryz.underlying149
  a70 := Tryz.isAgg149
  z70 := Tryz.sizeOf149
  v70 := Tryz.zeroValue149
  t72 := Tryz.underlying151
  a72 := Tryz.isAgg151
  z72 := Tryz.sizeOf151
  v72 := Tryz.zeroValue151
  t127 := Tryz.underlying168
  a127 := Tryz.isAgg168
  z127 := Tryz.sizeOf168
  v127 := Tryz.zeroValue168 }
theorem extraS : Builder.Extra Tryz.prog renS := {
  sizeBuilder := by kernel_rfl
  liesBuilder := by kernel_rfl
  t5 := Tryz.underlying5
  a5 := Tryz.isAgg5
  z5 := Tryz.sizeOf5
  v5 := Tryz.zeroValue5
  infoByte := by kernel_rfl
  cellsByte := by kernel_rfl
  sizeByte := by kernel_rfl
  neB5 := by decide }
/-- Block b is a builder that holds these bytes. -/
abbrev IsB (w : World) (B b : Nat) (l : List UInt8) : Prop := Lib.IsBuilderF 151 5 B b (Lib.byteCells l) w
theorem IsB.new (w : World) (B : Nat) (hB : B ≤ w.heap.size) : IsB (w.alloc (.cells #[.pointer none, .slice none 0 0] 151)) B w.heap.size [] :=
  .inl ⟨hB, _, heap_alloc_new w _, World.ownsRowF_of (World.ownsRow_nil _ _ _ _), by simp [Value.ownBlock]⟩
theorem IsB.ext {B b : Nat} {l : List UInt8} {w w' : World} (h : IsB w B b l) (hx : Ext w w') : IsB w' B b l := by
  have key : ∀ p, Lib.BuilderAtF 151 5 B b p (Lib.byteCells l) w → Lib.BuilderAtF 151 5 B b p (Lib.byteCells l) w' := by
    rintro p ⟨hB, v, hv, hown, hne⟩
    refine ⟨hB, v, (hx.below.block b (heap_lt hv)).trans hv, ⟨hown.1, ?_⟩, hne⟩
    rcases hown.2 with h0 | ⟨g, cap, cur, fz, e1, e2, e3, e4⟩
    · exact .inl h0
    · exact .inr ⟨g, cap, cur, fz, e1, e2, (hx.below.block g (heap_lt e3)).trans e3, e4⟩
  exact h.imp (key _) (key _)
theorem string_b (B b : Nat) (l : List UInt8) (w : World) (h : IsB w B b l) (hBw : B ≤ w.heap.size) :
    Calls Tryz.prog 111 #[.pointer (some ⟨b, 0, none⟩)] w fun e w' => e = .returned (.string ⟨l.toArray⟩) ∧ Below B w w' :=
  (Any.Builder_String_any_f laysS extraS B b l w h hBw).mono fun _ _ h => ⟨h.1, h.2.2⟩
end Go.Proofs.YtcjdnifckngcfaaGreatDoor
end
