/- Contracts: a share that comes, by the program. Plain: slices of texts that grow by append. -/
import Derived.Test.YtcjdnifckngcfaaGreatDoorM37
import Derived.Deep.RegionLaw
import Derived.Outline
import Derived.Test.YtcjdnifckngcfaaGreatDoorM27
import Derived.Test.YtcjdnifckngcfaaGreatDoorM02
section
namespace Go.Proofs.YtcjdnifckngcfaaGreatDoor
open Go.RowKit
open Go.Maps (Keyed)

theorem zero_share (w : World) : (zeroValue 129).run Tryz.prog w = .ok (.agg #[.int .i64 0, .string ⟨#[]⟩]) w := by kernel_rfl
theorem add_nil (w : World) (s : ByteArray) :
    Calls Tryz.prog 90 #[.pointer none, .string s] w fun e w' => e = .returned (.int .i64 1) ∧ w = w' := by
  go_enter Tryz.func90, Tryz.ntmps90
  go_wp2_with (go_at_call 91; refine (gthere_no _).mono ?_; rintro e w1 ⟨rfl, rfl⟩)
  go_ret
  exact ⟨rfl, rfl⟩
theorem add_form (w : World) (g b n m : Nat) (L : List (Nat × ByteArray)) (s : ByteArray) (h : IsG w g b n m L) (hs : NoShare s) :
    Calls Tryz.prog 90 #[.pointer (some ⟨g, 0, none⟩), .string s] w fun e w' => e = .returned (.int .i64 7) ∧ Ext w w' := by
  have hc := h.cell
  have HN := Lib.hid hs
  clear h hs
  go_enter Tryz.func90, Tryz.ntmps90
  go_wp2_with (first
    | (go_at_call 91; refine (gthere_yes _ g b hc).mono ?_; rintro e w1 ⟨rfl, rfl⟩)
    | (go_at_call 89; refine (share_no s HN.out _).mono ?_; rintro e w1 ⟨rfl, x1⟩))
  go_ret
  exact ⟨rfl, x1⟩
/-- The Gather's cell behind a block more. -/
theorem cell_more {w w1 : World} {g b : Nat} (h : Blk w g 97 [.map (some b)]) (hx : Ext w w1) (o : Obj) : (w1.alloc o).cell? ⟨g, 0, none⟩ = some (.map (some b)) := ((h.ext hx).alloc o).cell 0 _ rfl
set_option maxRecDepth 100000 in
set_option maxHeartbeats 4000000 in
theorem add_other (w : World) (g b n m : Nat) (L : List (Nat × ByteArray)) (s : ByteArray) (i n' : Nat) (h : IsG w g b n m L) (hs : ShareOf s i n') (hL : L ≠ []) (hno : ¬ (n' = n ∧ s.size - 2 = m)) :
    Calls Tryz.prog 90 #[.pointer (some ⟨g, 0, none⟩), .string s] w fun e w' => e = .returned (.int .i64 60) ∧ Ext w w' := by
  have hc := h.cell
  have HB := Lib.hid h.blk; have HM := Lib.hid h.map
  have HR := Lib.hid (fun u => share_yes s i n' hs u)
  have hS : (s.extract 2 s.size).size = s.size - 2 := by simp
  have HLk := Lib.hid (fun (j : Nat) (t : ByteArray) (hx : (j, t) ∈ L) u => like_no n' n (s.extract 2 s.size) t u (fun q => hno ⟨q.1, by have := (h.alike.each _ hx).2.2; simp only at this; omega⟩))
  have HL := Lib.hid hL
  clear h hs hno hL hS
  generalize s.extract 2 s.size = S2 at *
  go_enter Tryz.func90, Tryz.ntmps90
  go_wp2_with (first
    | (go_at_call 91; refine (gthere_yes _ g b hc).mono ?_; rintro e w1 ⟨rfl, rfl⟩)
    | (go_at_call 89; refine (HR.out _).mono ?_; rintro e w1 ⟨rfl, x1⟩; have hc1 := cell_more HB.out x1 (.cells #[.int .i64 (n' : Int), .string S2] 129))
    | (at_range; refine wpList_range_L _ rfl _ 95 rfl 3 129 Tryz.underlying95 b (L.map (shKV n)) rfl ((HM.out.ext x1).alloc _) ?_; intro w0 hrg hx0 hs0))
  go_frame
  have HX0 := Lib.hid ((x1.alloc (.cells #[.int .i64 (n' : Int), .string S2] 129)).trans hx0)
  have HC0 := Lib.hid ((Blk.new w1 [.int .i64 (n' : Int), .string S2] 129).ext hx0)
  have hC : w.heap.size ≤ w1.heap.size := x1.size
  have hCr : w1.heap.size < (w1.alloc (.cells #[.int .i64 (n' : Int), .string S2] 129)).heap.size := by simp
  clear hx0 hs0 hc1 hc x1
  generalize (w1.alloc (.cells #[.int .i64 (n' : Int), .string S2] 129)).heap.size = r at *
  generalize w1.heap.size = C at *
  go_loopw [36] (fun _ wr => ∃ left, RangeL wr Tryz.prog 3 b r (L.map (shKV n)) left ∧ Some_ n L left ∧ left ≠ [] ∧ Blk wr C 129 [.int .i64 (n' : Int), .string S2] ∧ Ext w wr) (fun _ wr => wr.rangeLeft b r)
  case atStart => exact ⟨_, hrg, fun _ hp => hp, fun e => HL.out (List.map_eq_nil_iff.1 e), HC0.out, HX0.out⟩
  case round =>
    obtain ⟨left, hrl, hsub, hne, hbc, hext⟩ := hrel
    have HRl := Lib.hid hrl; have HS := Lib.hid hsub; have HE := Lib.hid hext; have HN := Lib.hid hne; have HBC := Lib.hid hbc
    clear hrl hsub hext hne hbc hrg
    go_wp2_with (at_next; refine wpList_next_share rfl _ rfl b r L _ HS.out rfl HRl.out ?_ ?_)
    · intro h0
      exact absurd h0 HN.out
    · intro j t left' w2 hmem hlen hsub' hrg1 hg1 hs1 hen
      have HK := Lib.hid (fun u => HLk.out j t hmem u)
      have HB2 : Hid (Blk w2 C 129 [.int .i64 (n' : Int), .string S2]) := Lib.hid ((hg1.block C HBC.out.lt (by simp; omega)).trans HBC.out)
      have k0 := HB2.out.cell 0 _ rfl
      have k1 := HB2.out.cell 1 _ rfl
      have k2 := (HB2.out.alloc (.cells #[.int .i64 (n : Int), .string t] 129)).cell 0 _ rfl
      have k3 := (HB2.out.alloc (.cells #[.int .i64 (n : Int), .string t] 129)).cell 1 _ rfl
      have HX2 := Lib.hid ((HE.out.grown hg1 (fun k hk => by cases hk; omega)).alloc (.cells #[.int .i64 (n : Int), .string t] 129))
      clear hmem hlen hsub' hrg1 hg1 hs1
      go_wp2_with (go_at_call 124; refine (HK.out _).mono ?_; rintro e w3 ⟨rfl, x3⟩)
      go_ret
      exact ⟨rfl, HX2.out.trans x3⟩
theorem extG_grown {a b' c : World} {row : Option Nat} (h : Ext a b') (k : b'.grownBy c row) : a.grownBy c row :=
  ⟨k.os.trans h.os, k.tape.trans h.tape, k.output.trans h.output, Nat.le_trans h.size k.size, fun i hi hne => (k.block i (Nat.lt_of_lt_of_le hi h.size) hne).trans (h.block i hi)⟩
set_option maxRecDepth 100000 in
set_option maxHeartbeats 4000000 in
theorem add_have (w : World) (g b n m : Nat) (L : List (Nat × ByteArray)) (s : ByteArray) (i : Nat) (h : IsG w g b n m L) (hs : ShareOf s i n) (hm : s.size - 2 = m) (t0 : ByteArray) (hin : (i, t0) ∈ L) :
    Calls Tryz.prog 90 #[.pointer (some ⟨g, 0, none⟩), .string s] w fun e w' => e = .returned (.int .i64 8) ∧ Ext w w' := by
  have hc := h.cell
  have HB := Lib.hid h.blk; have HM := Lib.hid h.map
  have HR := Lib.hid (fun u => share_yes s i n hs u)
  have hS : (s.extract 2 s.size).size = s.size - 2 := by simp
  have HLk := Lib.hid (fun (j : Nat) (t : ByteArray) (hx : (j, t) ∈ L) u => like_yes n (s.extract 2 s.size) t u (by have := (h.alike.each _ hx).2.2; simp only at this; omega))
  have hi16 : i ≤ 16 := by obtain ⟨_, _, _, q1, _, q2, _⟩ := hs; omega
  have HI := Lib.hid hin
  clear hin
  clear h hs hm hS
  generalize s.extract 2 s.size = S2 at *
  go_enter Tryz.func90, Tryz.ntmps90
  go_wp2_with (first
    | (go_at_call 91; refine (gthere_yes _ g b hc).mono ?_; rintro e w1 ⟨rfl, rfl⟩)
    | (go_at_call 89; refine (HR.out _).mono ?_; rintro e w1 ⟨rfl, x1⟩; have hc1 := cell_more HB.out x1 (.cells #[.int .i64 (n : Int), .string S2] 129))
    | (at_range; refine wpList_range_L _ rfl _ 95 rfl 3 129 Tryz.underlying95 b (L.map (shKV n)) rfl ((HM.out.ext x1).alloc _) ?_; intro w0 hrg hx0 hs0))
  go_frame
  have HX0 := Lib.hid ((x1.alloc (.cells #[.int .i64 (n : Int), .string S2] 129)).trans hx0)
  have HC0 := Lib.hid ((Blk.new w1 [.int .i64 (n : Int), .string S2] 129).ext hx0)
  have hC : w.heap.size ≤ w1.heap.size := x1.size
  have hCr : w1.heap.size < (w1.alloc (.cells #[.int .i64 (n : Int), .string S2] 129)).heap.size := by simp
  clear hx0 hs0 hc1 hc x1
  generalize (w1.alloc (.cells #[.int .i64 (n : Int), .string S2] 129)).heap.size = r at *
  generalize w1.heap.size = C at *
  go_loopw [36] (fun _ wr => ∃ left, RangeL wr Tryz.prog 3 b r (L.map (shKV n)) left ∧ Some_ n L left ∧ Blk wr C 129 [.int .i64 (n : Int), .string S2] ∧ Ext w wr) (fun _ wr => wr.rangeLeft b r)
  case atStart => exact ⟨_, hrg, fun _ hp => hp, HC0.out, HX0.out⟩
  case round =>
    obtain ⟨left, hrl, hsub, hbc, hext⟩ := hrel
    have HRl := Lib.hid hrl; have HS := Lib.hid hsub; have HE := Lib.hid hext; have HBC := Lib.hid hbc
    have hcg := (HB.out.ext hext).cell 0 _ rfl
    have hcg2 := fun o => ((HB.out.ext hext).alloc o).cell 0 _ rfl
    have hlk := hrl.map.look keyI Tryz.underlying95 true (v := .agg #[.int .i64 (n : Int), .string t0]) (key_at i (by omega)) (List.mem_map.2 ⟨_, HI.out, rfl⟩)
    simp only [if_true] at hlk
    clear hrl hsub hext hbc hrg
    go_wp2_with (at_next; refine wpList_next_share rfl _ rfl b r L _ HS.out rfl HRl.out ?_ ?_)
    · intro h0
      clear h0
      go_wp2
      go_ret
      exact ⟨rfl, HE.out.alloc _⟩
    · intro j t left' w2 hmem hlen hsub' hrg1 hg1 hs1 hen
      have HK := Lib.hid (fun u => HLk.out j t hmem u)
      have HB2 : Hid (Blk w2 C 129 [.int .i64 (n : Int), .string S2]) := Lib.hid ((hg1.block C HBC.out.lt (by simp; omega)).trans HBC.out)
      have k0 := HB2.out.cell 0 _ rfl
      have k1 := HB2.out.cell 1 _ rfl
      have k2 := (HB2.out.alloc (.cells #[.int .i64 (n : Int), .string t] 129)).cell 0 _ rfl
      have k3 := (HB2.out.alloc (.cells #[.int .i64 (n : Int), .string t] 129)).cell 1 _ rfl
      have HX2 := Lib.hid ((HE.out.grown hg1 (fun k hk => by cases hk; omega)).alloc (.cells #[.int .i64 (n : Int), .string t] 129))
      have HR1 := Lib.hid hrg1; have HS1 := Lib.hid hsub'; have HL1 := Lib.hid hlen
      clear hmem hlen hsub' hrg1 hg1 hs1 hcg hcg2 hlk
      go_wp2_with (go_at_call 124; refine (HK.out _).mono ?_; rintro e w3 ⟨rfl, x3⟩)
      go_roundw
      case rel => exact ⟨_, (HR1.out.alloc _).ext x3, HS1.out, (HB2.out.alloc _).ext x3, HX2.out.trans x3⟩
      case measure => rw [((HR1.out.alloc _).ext x3).left_eq, HRl.out.left_eq, HL1.out]; omega
set_option maxRecDepth 100000 in
set_option maxHeartbeats 4000000 in
theorem add_ok (w : World) (g b n m : Nat) (L : List (Nat × ByteArray)) (s : ByteArray) (i : Nat) (h : IsG w g b n m L) (hs : ShareOf s i n) (hm : s.size - 2 = m) (hnin : ∀ x ∈ L, x.1 ≠ i) :
    Calls Tryz.prog 90 #[.pointer (some ⟨g, 0, none⟩), .string s] w fun e w' => e = .returned (.int .i64 0) ∧ IsG w' g b n m (L ++ [(i, s.extract 2 s.size)]) ∧ w.grownBy w' (some b) := by
  have hc := h.cell
  have HB := Lib.hid h.blk; have HM := Lib.hid h.map
  have HR := Lib.hid (fun u => share_yes s i n hs u)
  have hS : (s.extract 2 s.size).size = s.size - 2 := by simp
  have HLk := Lib.hid (fun (j : Nat) (t : ByteArray) (hx : (j, t) ∈ L) u => like_yes n (s.extract 2 s.size) t u (by have := (h.alike.each _ hx).2.2; simp only at this; omega))
  have hi16 : i ≤ 16 := by obtain ⟨_, _, _, q1, _, q2, _⟩ := hs; omega
  have HNK : Hid (∀ p ∈ L.map (shKV n), p.1 ≠ .int .i64 (i : Int)) := Lib.hid (fun p hp => by
    obtain ⟨x, hx, rfl⟩ := List.mem_map.1 hp
    intro e
    have e2 : (x.1 : Int) = (i : Int) := by injection e
    exact hnin x hx (by omega))
  have HA : Hid (Alike n m (L ++ [(i, s.extract 2 s.size)])) := Lib.hid (by
    obtain ⟨_, _, _, _, q1, q2, _⟩ := hs
    exact h.alike.snoc q1 q2 (by omega) hnin)
  have HNE := Lib.hid h.ne
  clear hnin
  clear h hs hm hS
  generalize s.extract 2 s.size = S2 at *
  go_enter Tryz.func90, Tryz.ntmps90
  go_wp2_with (first
    | (go_at_call 91; refine (gthere_yes _ g b hc).mono ?_; rintro e w1 ⟨rfl, rfl⟩)
    | (go_at_call 89; refine (HR.out _).mono ?_; rintro e w1 ⟨rfl, x1⟩; have hc1 := cell_more HB.out x1 (.cells #[.int .i64 (n : Int), .string S2] 129))
    | (at_range; refine wpList_range_L _ rfl _ 95 rfl 3 129 Tryz.underlying95 b (L.map (shKV n)) rfl ((HM.out.ext x1).alloc _) ?_; intro w0 hrg hx0 hs0))
  go_frame
  have HX0 := Lib.hid ((x1.alloc (.cells #[.int .i64 (n : Int), .string S2] 129)).trans hx0)
  have HC0 := Lib.hid ((Blk.new w1 [.int .i64 (n : Int), .string S2] 129).ext hx0)
  have hC : w.heap.size ≤ w1.heap.size := x1.size
  have hCr : w1.heap.size < (w1.alloc (.cells #[.int .i64 (n : Int), .string S2] 129)).heap.size := by simp
  clear hx0 hs0 hc1 hc x1
  generalize (w1.alloc (.cells #[.int .i64 (n : Int), .string S2] 129)).heap.size = r at *
  generalize w1.heap.size = C at *
  go_loopw [36] (fun _ wr => ∃ left, RangeL wr Tryz.prog 3 b r (L.map (shKV n)) left ∧ Some_ n L left ∧ Blk wr C 129 [.int .i64 (n : Int), .string S2] ∧ Ext w wr) (fun _ wr => wr.rangeLeft b r)
  case atStart => exact ⟨_, hrg, fun _ hp => hp, HC0.out, HX0.out⟩
  case round =>
    obtain ⟨left, hrl, hsub, hbc, hext⟩ := hrel
    have HRl := Lib.hid hrl; have HS := Lib.hid hsub; have HE := Lib.hid hext; have HBC := Lib.hid hbc
    have hcg := (HB.out.ext hext).cell 0 _ rfl
    have hcg2 := fun o => ((HB.out.ext hext).alloc o).cell 0 _ rfl
    have hlk := hrl.map.look_none keyI Tryz.underlying95 true (zero_share _) (key_at i (by omega)) HNK.out
    simp only [if_true] at hlk
    have k0 := (hbc.alloc (.cells #[.int .i64 0, .string ⟨#[]⟩] 129)).cell 0 _ rfl
    have k1 := (hbc.alloc (.cells #[.int .i64 0, .string ⟨#[]⟩] 129)).cell 1 _ rfl
    clear hrl hsub hext hbc hrg
    go_wp2_with (at_next; refine wpList_next_share rfl _ rfl b r L _ HS.out rfl HRl.out ?_ ?_)
    · intro h0
      clear h0
      have HMr : Hid (MapL (wr.alloc (.cells #[.int .i64 0, .string ⟨#[]⟩] 129)).drew Tryz.prog 3 b (L.map (shKV n))) := Lib.hid (HRl.out.map.alloc _).drew
      have HXr : Hid (Ext w (wr.alloc (.cells #[.int .i64 0, .string ⟨#[]⟩] 129)).drew) := Lib.hid (HE.out.alloc _).drew
      obtain ⟨w4, hrun, hm4, ht4⟩ := HMr.out.put (val := .agg #[.int .i64 (n : Int), .string S2]) keyI Tryz.underlying95 (key_at i (by omega)) HNK.out
      have HM4 := Lib.hid hm4; have HT4 := Lib.hid ht4
      clear hm4 ht4
      go_wp2
      go_region
      all_goals
        go_wp2
        go_ret
        have hg4 := HT4.out.grown
        have hlt := HB.out.lt
        have hbw : Blk w4 g 97 [.map (some b)] := (hg4.block g (Nat.lt_of_lt_of_le hlt HXr.out.size) (by simpa using HNE.out)).trans (HB.out.ext HXr.out)
        exact ⟨rfl, ⟨hbw, by rw [List.map_append]; exact HM4.out, HA.out⟩, extG_grown HXr.out hg4⟩
    · intro j t left' w2 hmem hlen hsub' hrg1 hg1 hs1 hen
      have HK := Lib.hid (fun u => HLk.out j t hmem u)
      have HB2 : Hid (Blk w2 C 129 [.int .i64 (n : Int), .string S2]) := Lib.hid ((hg1.block C HBC.out.lt (by simp; omega)).trans HBC.out)
      have k0 := HB2.out.cell 0 _ rfl
      have k1 := HB2.out.cell 1 _ rfl
      have k2 := (HB2.out.alloc (.cells #[.int .i64 (n : Int), .string t] 129)).cell 0 _ rfl
      have k3 := (HB2.out.alloc (.cells #[.int .i64 (n : Int), .string t] 129)).cell 1 _ rfl
      have HX2 := Lib.hid ((HE.out.grown hg1 (fun k hk => by cases hk; omega)).alloc (.cells #[.int .i64 (n : Int), .string t] 129))
      have HR1 := Lib.hid hrg1; have HS1 := Lib.hid hsub'; have HL1 := Lib.hid hlen
      clear hmem hlen hsub' hrg1 hg1 hs1 hcg hcg2 hlk k0 k1
      go_wp2_with (go_at_call 124; refine (HK.out _).mono ?_; rintro e w3 ⟨rfl, x3⟩)
      go_roundw
      case rel => exact ⟨_, (HR1.out.alloc _).ext x3, HS1.out, (HB2.out.alloc _).ext x3, HX2.out.trans x3⟩
      case measure => rw [((HR1.out.alloc _).ext x3).left_eq, HRl.out.left_eq, HL1.out]; omega
end Go.Proofs.YtcjdnifckngcfaaGreatDoor
end

section
namespace Go.Proofs.YtcjdnifckngcfaaGreatDoor
open Go.RowKit
theorem infoS : (Tryz.prog.info? 9).map (fun i => (i.zero, i.size, i.bytes)) = some (some (.string ⟨#[]⟩), 1, 16) := by kernel_rfl
/-- A slice of texts of the call's own (nil, or in a block from B on) that holds just these. -/
def BufS (w : World) (B : Nat) (v : Value) (l : List ByteArray) : Prop := w.ownsRow B 9 1 v l.length (l.map Value.string)
/-- A slice that reads as these texts. -/
def SSl (w : World) (v : Value) (l : List ByteArray) : Prop := ∃ g c, v = .slice (some ⟨g, 0, none⟩) l.length c ∧ g < w.heap.size ∧ ∀ (i : Nat) (s : ByteArray), l[i]? = some s → w.cell? ⟨g, i, none⟩ = some (.string s)
theorem SSl.ext {w w' : World} {v : Value} {l : List ByteArray} (h : SSl w v l) (hx : Ext w w') : SSl w' v l := by
  obtain ⟨g, c, h1, h2, h3⟩ := h
  exact ⟨g, c, h1, Nat.lt_of_lt_of_le h2 hx.size, fun i b hb => (hx.below.cell (p := ⟨g, i, none⟩) h2).trans (h3 i b hb)⟩
section
variable {w w' : World} {B : Nat} {v : Value} {l : List ByteArray}
theorem BufS.nil (w : World) (B : Nat) : BufS w B (.slice none 0 0) [] := World.ownsRow_nil _ _ _ _
theorem BufS.made (w : World) (n : Nat) (hn : n ≤ maxLen) (hB : B ≤ w.heap.size) : BufS (w.alloc (.cells (madeCells #[.string ⟨#[]⟩] n) 9)) B (.slice (some ⟨w.heap.size, 0, none⟩) 0 n) [] :=
  World.ownsRow_made w _ n hB hn (by simp [size_madeCells])
theorem BufS.ext (h : BufS w B v l) (hx : Ext w w') : BufS w' B v l := by
  refine ⟨h.1, ?_⟩
  rcases h.2 with h0 | ⟨g, cap, cur, e1, e2, e3, e4⟩
  · exact .inl h0
  · exact .inr ⟨g, cap, cur, e1, e2, (hx.below.block g (heap_lt e3)).trans e3, e4⟩
theorem BufS.sl (h : BufS w B v l) (hl : l ≠ []) : SSl w v l := by
  unfold BufS at h
  rcases h.2 with ⟨_, h0⟩ | ⟨g, cap, cur, hv, _, hg, hle, _, hsz, ht⟩
  · exact absurd (List.length_eq_zero_iff.1 h0) hl
  · refine ⟨g, cap, hv, (Array.getElem?_eq_some_iff.1 hg).1, fun i b hb => ?_⟩
    have hi : i < l.length := (List.getElem?_eq_some_iff.1 hb).1
    rw [cell_of_row w g i cur _ (0, 0) hg]
    have e : cur.toList[i]? = (l.map Value.string)[i]? := by
      rw [← ht, List.getElem?_take, if_pos (by omega)]
    rw [← Array.getElem?_toList, e]
    simp [hb]
end
/-- append(l, s) of one text in a new block. -/
theorem append_text {w : World} {ops : Array Oper} {rest : List Oper} {o : Oper} {a : Act} {Q : Exit → Act → World → Prop} (hgd : o.guard = none) (s x : Operand)
    (ho : o.op = .call { callee := .builtin .append, args := #[s, x], argTypes := #[35, 35] })
    (B : Nat) (v : Value) (l : List ByteArray) (hs : a.eval s = v) (hbuf : BufS w B v l) (g : Nat) (new : ByteArray) (hx : a.eval x = .slice (some ⟨g, 0, none⟩) 1 1) (hrow : w.cell? ⟨g, 0, none⟩ = some (.string new))
    (hlen : l.length ≤ 1000000) (hB : B ≤ w.heap.size)
    (h : ∀ v' w', BufS w' B v' (l ++ [new]) → Below B w w' → wpList Tryz.prog ops Q rest (a.put o.dst v') w') : wpList Tryz.prog ops Q (o :: rest) a w := by
  obtain ⟨i0, hi, hz0, hz1, hz2⟩ := info_parts infoS
  refine wpList_append_own w hgd s x 35 ho B 9 i0 (.string ⟨#[]⟩) 1 16 Tryz.underlying35 hi hz0 hz1 hz2 rfl (by decide) v l.length (l.map Value.string) hs hbuf ⟨g, 0, none⟩ 1 1 [.string new] hx rfl ?_ ?_ (by unfold maxLen; omega) (by omega) hB ?_
  · intro j u hj
    match j, hj with
    | 0, hj => simp at hj; subst hj; exact hrow
    | n + 1, hj => simp at hj
  · intro u hu
    simp only [List.mem_singleton] at hu
    subst hu
    rfl
  · intro v' w' h1 h2 _
    refine h v' w' ?_ (Below.grown (Below.refl _ _) h2 hB fun k hk => (World.ownsRow.lt hbuf k hk).1)
    unfold BufS
    simpa using h1
/-- The same, as a step of a region that draws its order. -/
theorem step_append_text {w : World} {ops : Array Oper} {o : Oper} {a : Act} {K : Act → World → Prop} {Q : Exit → Act → World → Prop} {E : Prop} (hg : o.guard = none) (s x : Operand)
    (ho : o.op = .call { callee := .builtin .append, args := #[s, x], argTypes := #[35, 35] })
    (B : Nat) (v : Value) (l : List ByteArray) (hs : a.eval s = v) (hbuf : BufS w B v l) (g : Nat) (new : ByteArray) (hx : a.eval x = .slice (some ⟨g, 0, none⟩) 1 1) (hrow : w.cell? ⟨g, 0, none⟩ = some (.string new))
    (hlen : l.length ≤ 1000000) (hB : B ≤ w.heap.size)
    (h : ∀ v' w', BufS w' B v' (l ++ [new]) → Below B w w' → K (a.put o.dst v') w') : if Region.wanted o (yielded ops a.tmps) = true then Oper.wp Tryz.prog o a w K Q else E := by
  have hw : Region.wanted o (yielded ops a.tmps) = true := by simp [Region.wanted, hg]
  rw [if_pos hw]
  obtain ⟨i0, hi, hz0, hz1, hz2⟩ := info_parts infoS
  refine wp_append_own w s x 35 ho B 9 i0 (.string ⟨#[]⟩) 1 16 Tryz.underlying35 hi hz0 hz1 hz2 rfl (by decide) v l.length (l.map Value.string) hs hbuf ⟨g, 0, none⟩ 1 1 [.string new] hx rfl ?_ ?_ (by unfold maxLen; omega) (by omega) hB ?_
  · intro j u hj
    match j, hj with
    | 0, hj => simp at hj; subst hj; exact hrow
    | n + 1, hj => simp at hj
  · intro u hu
    simp only [List.mem_singleton] at hu
    subst hu
    rfl
  · intro v' w' h1 h2 _
    refine h v' w' ?_ (Below.grown (Below.refl _ _) h2 hB fun k hk => (World.ownsRow.lt hbuf k hk).1)
    unfold BufS
    simpa using h1
/-- make([]string, 0, n). -/
theorem make_texts (n : Nat) (hn : n ≤ 1000000) : ∀ u : World, (Instr.makeSlice 35 (.int .i64 0) (.int .i64 (n : Int))).run Tryz.prog u =
      .ok (.slice (some ⟨u.heap.size, 0, none⟩) 0 n) (u.alloc (.cells (madeCells #[.string ⟨#[]⟩] n) 9)) := fun u => by
  obtain ⟨i0, hi, hz0, hz1, hz2⟩ := info_parts infoS
  have h := run_make (P := Tryz.prog) u 35 9 i0 (.string ⟨#[]⟩) Tryz.underlying35 hi hz0 .i64 .i64 0 (n : Int) (Int.le_refl _) (by omega) (by rw [hz2]; omega) (by omega)
  simpa [hz1, Value.cells] using h
end Go.Proofs.YtcjdnifckngcfaaGreatDoor
end
