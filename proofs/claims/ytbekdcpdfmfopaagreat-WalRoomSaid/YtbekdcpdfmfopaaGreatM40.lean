/- Contract: a head's bytes, by the program. Contracts: whether a conf may be, whether it fits; a checkpoint's head; what files have; a sync. -/
import Derived.Test.YtbekdcpdfmfopaaGreatM15
import Derived.Test.YtbekdcpdfmfopaaGreatM39
import Derived.Test.YtbekdcpdfmfopaaGreatM34
import Derived.Deep.DeepCutAuto
import Derived.Deep.RegionWith
import Derived.Outline
import Derived.Test.YtbekdcpdfmfopaaGreatM38
import Derived.Test.YtbekdcpdfmfopaaGreatM01
section
namespace Go.Proofs.YtbekdcpdfmfopaaGreat
open Go.RowKit
theorem one_number (w : World) (q g : Nat) (hg : g < 18446744073709551616) (h : Blk w q 38 [.int .u64 (g : Int)]) :
    Calls Tryz.prog 76 #[.slice (some ⟨q, 0, none⟩) 1 1] w fun e w' => e = .returned (.string ⟨(wn g).toArray⟩) ∧ Ext w w' := by
  have := Uints_any w _ 1 1 [g] rfl (Blk.vals (l := vU [g]) h) (by simpa using hg) (by have := (wn_length g).2; simp; omega) (by decide)
  simpa using this
/-- What each operation of the region leaves in its slot. -/
def PHdF (k g f : Nat) (K G t E : ByteArray) (j : Nat) (v : Value) (w : World) : Prop :=
  match j with
  | 0 => v = .int .u64 (f : Int)
  | 1 => v = .int .u8 (k : Int)
  | 2 => ∃ q, v = .slice (some ⟨q, 0, none⟩) 1 1 ∧ Blk w q 5 [.int .u8 (k : Int)]
  | 3 => v = .string K
  | 4 => v = .int .u64 (g : Int)
  | 5 => ∃ q, v = .slice (some ⟨q, 0, none⟩) 1 1 ∧ Blk w q 38 [.int .u64 (g : Int)]
  | 6 => v = .string G
  | 7 => v = .string (K ++ G)
  | 8 => v = .string t
  | 9 => v = .string (K ++ G ++ t)
  | 10 => v = .agg #[.int .u64 (f : Int), .string (K ++ G ++ t)]
  | 11 => v = .tuple #[.string E, .int .i64 0]
  | 12 => v = .string E
  | 13 => v = .int .i64 0
  | 14 => v = .string E
  | 15 => v = .int .i64 0
  | _ => True
theorem PHdF_ext (k g f : Nat) (K G t E : ByteArray) (j : Nat) (v : Value) (w w' : World) (hx : Ext w w') (h : PHdF k g f K G t E j v w) : PHdF k g f K G t E j v w' := by
  unfold PHdF at h ⊢
  split at h
  all_goals first
    | exact h
    | (obtain ⟨g, h1, h2⟩ := h; exact ⟨g, h1, h2.ext hx⟩)
def pHdSlots : List Nat := [17, 18, 19, 20, 21, 22, 23, 24, 25, 26, 27, 28, 29, 30, 8, 9]
abbrev PHdWay (k g f : Nat) (K G t E : ByteArray) (w0 : World) : Array Bool → Act → World → Prop := Way 16 31 pHdSlots [(0, .int .u8 (k : Int)), (1, .int .u64 (g : Int)), (2, .int .u64 (f : Int)), (3, .string t)] (PHdF k g f K G t E) w0
theorem pHdSlots_ok : ∀ t, t ∈ pHdSlots → t < 31 ∧ 0 ≠ t ∧ 1 ≠ t ∧ 2 ≠ t ∧ 3 ≠ t := by decide
theorem PHdWay.go {k g f : Nat} {K G t E : ByteArray} {w0 w w' : World} {L : Array Bool} {a : Act} (h : PHdWay k g f K G t E w0 L a w) (i sl : Nat) (hsl : pHdSlots[i]? = some sl) (v : Value) (hx : Ext w w') (hv : PHdF k g f K G t E i v w') : PHdWay k g f K G t E w0 (L.setIfInBounds i true) (a.put (some sl) v) w' :=
  h.put (PHdF_ext k g f K G t E) (by decide) (fun t ht => ⟨(pHdSlots_ok t ht).1, fun p hp => by
    obtain ⟨_, h0, h1, h2, h3⟩ := pHdSlots_ok t ht
    simp only [List.mem_cons, List.not_mem_nil, or_false] at hp
    rcases hp with rfl | rfl | rfl | rfl
    · exact h0
    · exact h1
    · exact h2
    · exact h3⟩) hsl v hx hv
theorem PHdWay.at {k g f : Nat} {K G t E : ByteArray} {w0 w : World} {L : Array Bool} {a : Act} (h : PHdWay k g f K G t E w0 L a w) (j sl : Nat) (hsl : pHdSlots[j]? = some sl) (hj : L.getD j false = true) : PHdF k g f K G t E j (a.tmps[sl]?.getD undef) w := by
  have := h.facts j sl hsl (wbit_of hj)
  rwa [Array.getD_eq_getD_getElem?] at this
theorem PHdWay.ahead {k g f : Nat} {K G t E : ByteArray} {w0 w : World} {L : Array Bool} {a : Act} (h : PHdWay k g f K G t E w0 L a w) (p : Nat × Value) (hp : p ∈ [(0, .int .u8 (k : Int)), (1, .int .u64 (g : Int)), (2, .int .u64 (f : Int)), (3, .string t)]) : a.tmps[p.1]?.getD undef = p.2 := by
  have := h.base p hp
  rwa [Array.getD_eq_getD_getElem?] at this
set_option maxRecDepth 100000 in
set_option maxHeartbeats 4000000 in
theorem Head_any (k g f : Nat) (t : ByteArray) (hk : k < 256) (hg : g < 18446744073709551616) (hf : f < 18446744073709551616) (ht : t.size ≤ 8192) (w : World) :
    Calls Tryz.prog 51 #[.int .u8 (k : Int), .int .u64 (g : Int), .int .u64 (f : Int), .string t] w fun e w' => e = .returned (.tuple #[.string (headF k g f t).1, .int .i64 ((headF k g f t).2 : Int)]) ∧ Ext w w' := by
  have HM := Lib.hid (fun u => mayBe_any ⟨k, g, f, t, [], 0, false⟩ none 0 0 u)
  unfold segV at HM
  dsimp only at HM
  rcases headF_or k g f t with ⟨h, he⟩ | ⟨h, he⟩
  · rw [he]
    dsimp only
    rw [decide_eq_true h] at HM
    have HE := Lib.hid (fun u => Encode_any (headR k g f t) hf (by have := headT_le k g t; show (headT k g t).size ≤ _; omega) u)
    rw [enc_head k g f t ht] at HE
    obtain ⟨E, hE⟩ : ∃ E, E = frameT (headR k g f t) := ⟨_, rfl⟩
    rw [← hE] at HE ⊢
    have eT := headT_parts k g t
    unfold recV headR at HE
    dsimp only at HE
    rw [← eT, show ((0 : Nat) : Int) = 0 from rfl] at HE
    have HU := Lib.hid (fun (u : World) (q : Nat) (hq : Blk u q 38 [.int .u64 (g : Int)]) => one_number u q g hg hq)
    have HK := Lib.hid (fun (u : World) (q : Nat) (hq : Blk u q 5 [.int .u8 (k : Int)]) => one_byte_text u q k hk hq)
    have hl1 : ¬ 9223372036854775807 < (⟨#[UInt8.ofNat k]⟩ : ByteArray).size + (⟨(wn g).toArray⟩ : ByteArray).size := by
      have := (wn_length g).2
      show ¬ 9223372036854775807 < 1 + (wn g).length; omega
    have hl2 : ¬ 9223372036854775807 < ((⟨#[UInt8.ofNat k]⟩ : ByteArray) ++ (⟨(wn g).toArray⟩ : ByteArray)).size + t.size := by
      have := (wn_length g).2
      rw [ByteArray.size_append]
      show ¬ 9223372036854775807 < 1 + (wn g).length + t.size; omega
    have hl3 : ¬ 9223372036854775807 < (⟨#[UInt8.ofNat k]⟩ : ByteArray).size + (⟨(wn g).toArray⟩ : ByteArray).size + t.size := by
      rwa [ByteArray.size_append] at hl2
    clear h he eT hk hg hf ht hE
    generalize (⟨#[UInt8.ofNat k]⟩ : ByteArray) = K at *
    generalize (⟨(wn g).toArray⟩ : ByteArray) = G at *
    go_enter Tryz.func51, Tryz.ntmps51
    go_upto_region 3 with (go_at_call 74; refine (HM.out _).mono ?_; rintro e w1 ⟨rfl, x1⟩; have HX := Lib.hid x1; clear x1)
    refine wp_region_any (by kernel_rfl) ?_
    refine wpAny_inv (PHdWay k g f K G t E _) ?hsize ?step ?last _ _ _ _ (by decide) ⟨rfl, rfl, rfl, ?base, (Ext.refl _).drew, fun j sl hsl hj => ?none⟩
    case hsize => exact fun L a w h => h.size
    case base =>
      intro p hp
      simp only [List.mem_cons, List.not_mem_nil, or_false] at hp
      rcases hp with rfl | rfl | rfl | rfl <;> rfl
    case none =>
      exfalso
      have hj2 : j < 16 := (List.getElem?_eq_some_iff.1 hsl).1
      have h0 : (Array.replicate 16 false).getD j true = false := by simp [Array.getD, hj2]
      have h1 : (Array.replicate 16 false).getD j true = true := hj
      rw [h0] at h1
      cases h1
    case step =>
      intro L a w' i h hi
      have hlt : i < 16 := (ready_spec hi).1
      obtain ⟨X, D⟩ := a
      obtain rfl : D = [] := h.defers
      have b0 : X[0]?.getD undef = .int .u8 (k : Int) := h.ahead (0, _) (by simp)
      have b1 : X[1]?.getD undef = .int .u64 (g : Int) := h.ahead (1, _) (by simp)
      have b2 : X[2]?.getD undef = .int .u64 (f : Int) := h.ahead (2, _) (by simp)
      have b3 : X[3]?.getD undef = .string t := h.ahead (3, _) (by simp)
      rcases (show i = 0 ∨ i = 1 ∨ i = 2 ∨ i = 3 ∨ i = 4 ∨ i = 5 ∨ i = 6 ∨ i = 7 ∨ i = 8 ∨ i = 9 ∨ i = 10 ∨ i = 11 ∨ i = 12 ∨ i = 13 ∨ i = 14 ∨ i = 15 by omega) with rfl | rfl | rfl | rfl | rfl | rfl | rfl | rfl | rfl | rfl | rfl | rfl | rfl | rfl | rfl | rfl
      · refine wpOp_step rfl (fun K hK => ?_)
        go_simp
        exact hK _ _ (h.go 0 17 rfl _ (Ext.refl _) rfl)
      · refine wpOp_step rfl (fun K hK => ?_)
        go_simp
        exact hK _ _ (h.go 1 18 rfl _ (Ext.refl _) rfl)
      · have d1 := ready_after hi _ rfl 0 _ rfl rfl
        have f1 : X[18]?.getD undef = .int .u8 (k : Int) := h.at 1 18 rfl d1
        refine wpOp_step rfl (fun K hK => ?_)
        go_simp
        exact hK _ _ (h.go 2 19 rfl _ ((Ext.refl _).alloc _) ⟨_, rfl, Blk.new _ _ _⟩)
      · have d2 := ready_after hi _ rfl 0 _ rfl rfl
        obtain ⟨q2, f2, r2⟩ : ∃ q, X[19]?.getD undef = .slice (some ⟨q, 0, none⟩) 1 1 ∧ Blk w' q 5 [.int .u8 (k : Int)] := h.at 2 19 rfl d2
        have ht := HK.out w' q2 r2
        refine wpOp_step rfl (fun K hK => ?_)
        go_simp
        exact hK _ _ (h.go 3 20 rfl _ (Ext.refl _) rfl)
      · refine wpOp_step rfl (fun K hK => ?_)
        go_simp
        exact hK _ _ (h.go 4 21 rfl _ (Ext.refl _) rfl)
      · have d4 := ready_after hi _ rfl 0 _ rfl rfl
        have f4 : X[21]?.getD undef = .int .u64 (g : Int) := h.at 4 21 rfl d4
        refine wpOp_step rfl (fun K hK => ?_)
        go_simp
        exact hK _ _ (h.go 5 22 rfl _ ((Ext.refl _).alloc _) ⟨_, rfl, Blk.new _ _ _⟩)
      · have d5 := ready_after hi _ rfl 0 _ rfl rfl
        obtain ⟨q5, f5, r5⟩ : ∃ q, X[22]?.getD undef = .slice (some ⟨q, 0, none⟩) 1 1 ∧ Blk w' q 38 [.int .u64 (g : Int)] := h.at 5 22 rfl d5
        refine wpOp_step rfl (fun K hK => ?_)
        go_simp
        go_at_call 76
        refine (HU.out _ _ r5).mono ?_
        rintro e w5 ⟨rfl, h5⟩
        exact hK _ _ (h.go 6 23 rfl _ h5 rfl)
      · have d3 := ready_after hi _ rfl 0 _ rfl rfl
        have f3 : X[20]?.getD undef = .string K := h.at 3 20 rfl d3
        have d6 := ready_after hi _ rfl 1 _ rfl rfl
        have f6 : X[23]?.getD undef = .string G := h.at 6 23 rfl d6
        refine wpOp_step rfl (fun K hK => ?_)
        go_simp
        exact hK _ _ (h.go 7 24 rfl _ (Ext.refl _) rfl)
      · refine wpOp_step rfl (fun K hK => ?_)
        go_simp
        exact hK _ _ (h.go 8 25 rfl _ (Ext.refl _) rfl)
      · have d7 := ready_after hi _ rfl 0 _ rfl rfl
        have f7 : X[24]?.getD undef = .string (K ++ G) := h.at 7 24 rfl d7
        have d8 := ready_after hi _ rfl 1 _ rfl rfl
        have f8 : X[25]?.getD undef = .string t := h.at 8 25 rfl d8
        refine wpOp_step rfl (fun K hK => ?_)
        go_simp
        exact hK _ _ (h.go 9 26 rfl _ (Ext.refl _) rfl)
      · have d0 := ready_after hi _ rfl 0 _ rfl rfl
        have f0 : X[17]?.getD undef = .int .u64 (f : Int) := h.at 0 17 rfl d0
        have d9 := ready_after hi _ rfl 1 _ rfl rfl
        have f9 : X[26]?.getD undef = .string (K ++ G ++ t) := h.at 9 26 rfl d9
        refine wpOp_step rfl (fun K hK => ?_)
        go_simp
        exact hK _ _ (h.go 10 27 rfl _ (Ext.refl _) rfl)
      · have d10 := ready_after hi _ rfl 0 _ rfl rfl
        have f10 : X[27]?.getD undef = .agg #[.int .u64 (f : Int), .string (K ++ G ++ t)] := h.at 10 27 rfl d10
        refine wpOp_step rfl (fun K hK => ?_)
        go_simp
        go_at_call 75
        refine (HE.out _).mono ?_
        rintro e w5 ⟨rfl, h5⟩
        exact hK _ _ (h.go 11 28 rfl _ h5 rfl)
      · have d11 := ready_after hi _ rfl 0 _ rfl rfl
        have f11 : X[28]?.getD undef = .tuple #[.string E, .int .i64 0] := h.at 11 28 rfl d11
        refine wpOp_step rfl (fun K hK => ?_)
        go_simp
        exact hK _ _ (h.go 12 29 rfl _ (Ext.refl _) rfl)
      · have d11 := ready_after hi _ rfl 0 _ rfl rfl
        have f11 : X[28]?.getD undef = .tuple #[.string E, .int .i64 0] := h.at 11 28 rfl d11
        refine wpOp_step rfl (fun K hK => ?_)
        go_simp
        exact hK _ _ (h.go 13 30 rfl _ (Ext.refl _) rfl)
      · have d12 := ready_after hi _ rfl 0 _ rfl rfl
        have f12 : X[29]?.getD undef = .string E := h.at 12 29 rfl d12
        refine wpOp_step rfl (fun K hK => ?_)
        go_simp
        exact hK _ _ (h.go 14 8 rfl _ (Ext.refl _) rfl)
      · have d13 := ready_after hi _ rfl 0 _ rfl rfl
        have f13 : X[30]?.getD undef = .int .i64 0 := h.at 13 30 rfl d13
        refine wpOp_step rfl (fun K hK => ?_)
        go_simp
        exact hK _ _ (h.go 15 9 rfl _ (Ext.refl _) rfl)
    case last =>
      intro L a w' h hr
      have hA := h.facts 14 8 rfl (all_done_b h.size (by kernel_rfl) hr 14 (by decide))
      have hB := h.facts 15 9 rfl (all_done_b h.size (by kernel_rfl) hr 15 (by decide))
      have hx := h.ext
      obtain ⟨X, D⟩ := a
      obtain rfl : D = [] := h.defers
      have hA' : X.getD 8 undef = .string E := hA
      have hB' : X.getD 9 undef = .int .i64 0 := hB
      go_wp2
      refine bodyPost_ret (results_two rfl _ _) rfl ⟨?_, HX.out.trans hx⟩
      rw [hA', hB'] <;> rfl
  · rw [he]
    rw [decide_eq_false h] at HM
    clear h he
    go_enter Tryz.func51, Tryz.ntmps51
    go_wp2_with (go_at_call 74; refine (HM.out _).mono ?_; rintro e w1 ⟨rfl, x1⟩)
    go_ret2
    exact ⟨rfl, x1⟩
end Go.Proofs.YtbekdcpdfmfopaaGreat
end

section
namespace Go.Proofs.YtbekdcpdfmfopaaGreat
open Go.RowKit

def cfV (nf sz ck : Int) : Value := .agg #[.int .i64 nf, .int .i64 sz, .int .i64 ck]
set_option maxRecDepth 100000 in
theorem May_yes (nf sz ck : Int) (h1 : 2 ≤ nf ∧ nf ≤ 16) (h2 : 64 ≤ sz ∧ sz ≤ 4194304) (h3 : 32 ≤ ck ∧ ck ≤ 4194304) (w : World) : Calls Tryz.prog 66 #[cfV nf sz ck] w fun e w' => e = .returned (.bool true) ∧ Ext w w' := by
  have hx1 : Ext w (w.alloc (.cells #[.int .i64 nf, .int .i64 sz, .int .i64 ck] 46)) := (Ext.refl w).alloc _
  obtain ⟨a1, a2⟩ := h1
  obtain ⟨b1, b2⟩ := h2
  obtain ⟨c1, c2⟩ := h3
  have HX := Lib.hid hx1
  clear hx1
  unfold cfV
  go_enter Tryz.func66, Tryz.ntmps66
  go_wp2
  go_ret
  exact ⟨rfl, HX.out⟩
theorem fits_nil (nf sz ck : Int) (w : World) : Calls Tryz.prog 41 #[.pointer none, cfV nf sz ck] w fun e w' => e = .returned (.int .i64 1) ∧ Ext w w' := by
  have HX : Hid (Ext w (w.alloc (.cells #[.int .i64 nf, .int .i64 sz, .int .i64 ck] 46))) := Lib.hid ((Ext.refl w).alloc _)
  unfold cfV
  go_enter Tryz.func41, Tryz.ntmps41
  go_wp2_with (go_at_call 65; refine (Files_nil _).mono ?_; rintro e w1 ⟨rfl, rfl⟩)
  go_ret
  exact ⟨rfl, HX.out⟩
set_option maxRecDepth 100000 in
set_option maxHeartbeats 2000000 in
theorem fits_any (nf sz ck : Int) (h1 : 2 ≤ nf ∧ nf ≤ 16) (h2 : 64 ≤ sz ∧ sz ≤ 4194304) (h3 : 32 ≤ ck ∧ ck ≤ 4194304) (w : World) (bd : Nat) (μ : Foot) (d : DS) (h : IsD w bd μ d) : Calls Tryz.prog 41 #[.pointer (some ⟨bd, 0, none⟩), cfV nf sz ck] w fun e w' => e = .returned (.int .i64 (if (d.m : Int) = nf then 0 else 2)) ∧ Ext w w' := by
  have hx1 : Ext w (w.alloc (.cells #[.int .i64 nf, .int .i64 sz, .int .i64 ck] 46)) := (Ext.refl w).alloc _
  have hb : Blk (w.alloc (.cells #[.int .i64 nf, .int .i64 sz, .int .i64 ck] 46)) w.heap.size 46 [.int .i64 nf, .int .i64 sz, .int .i64 ck] := Blk.new w _ _
  have HF := Lib.hid (fun u (hu : Ext w u) => Files_any u bd μ d (h.ext hu))
  have HM := Lib.hid (fun u => May_yes nf sz ck h1 h2 h3 u)
  have hm1 := h.ok.m1
  have hm0 : ((d.m : Int) == 0) = false := by rw [beq_eq_false_iff_ne]; omega
  have HX1 := Lib.hid hx1
  have HP : Hid (∀ u, Ext (w.alloc (.cells #[.int .i64 nf, .int .i64 sz, .int .i64 ck] 46)) u → u.cell? ⟨w.heap.size, 0, none⟩ = some (.int .i64 nf) ∧ u.cell? ⟨w.heap.size, 1, none⟩ = some (.int .i64 sz) ∧ u.cell? ⟨w.heap.size, 2, none⟩ = some (.int .i64 ck) ∧ Ext (w.alloc (.cells #[.int .i64 nf, .int .i64 sz, .int .i64 ck] 46)) u) := Lib.hid (fun u hu => ⟨(hb.ext hu).cell 0 _ rfl, (hb.ext hu).cell 1 _ rfl, (hb.ext hu).cell 2 _ rfl, hu⟩)
  clear h hx1 h1 h2 h3 hb hm1
  unfold cfV at HM ⊢
  by_cases he : (d.m : Int) = nf
  · rw [if_pos he]
    go_enter Tryz.func41, Tryz.ntmps41
    go_upto_region 3 with (go_at_call 65; refine (HF.out _ HX1.out).mono ?_; rintro e w1 ⟨rfl, rfl⟩)
    generalize w.alloc (.cells #[.int .i64 nf, .int .i64 sz, .int .i64 ck] 46) = W1 at *
    have x0 : Ext W1 W1.drew := (Ext.refl W1).drew
    have hS := HP.out _ x0
    go_region_held3 (fun u => u.cell? ⟨w.heap.size, 0, none⟩ = some (.int .i64 nf) ∧ u.cell? ⟨w.heap.size, 1, none⟩ = some (.int .i64 sz) ∧ u.cell? ⟨w.heap.size, 2, none⟩ = some (.int .i64 ck) ∧ Ext W1 u) (first | exact hS | exact hS1 | assumption | go_keep) (first
      | (go_at_call 66; refine (HM.out _).mono ?_; rintro e w1 ⟨rfl, x1⟩; have y1 := Ext.trans (a := W1) (by assumption) x1; have hS1 := HP.out _ y1)
      | (go_at_call 65; refine (HF.out _ (HX1.out.trans (by assumption))).mono ?_; rintro e w2 ⟨rfl, rfl⟩))
    all_goals
      go_wp2
      go_ret
      exact ⟨rfl, HX1.out.trans (by assumption)⟩
  · rw [if_neg he]
    have hne : ((d.m : Int) == nf) = false := by rw [beq_eq_false_iff_ne]; exact he
    go_enter Tryz.func41, Tryz.ntmps41
    go_upto_region 3 with (go_at_call 65; refine (HF.out _ HX1.out).mono ?_; rintro e w1 ⟨rfl, rfl⟩)
    generalize w.alloc (.cells #[.int .i64 nf, .int .i64 sz, .int .i64 ck] 46) = W1 at *
    have x0 : Ext W1 W1.drew := (Ext.refl W1).drew
    have hS := HP.out _ x0
    go_region_held3 (fun u => u.cell? ⟨w.heap.size, 0, none⟩ = some (.int .i64 nf) ∧ u.cell? ⟨w.heap.size, 1, none⟩ = some (.int .i64 sz) ∧ u.cell? ⟨w.heap.size, 2, none⟩ = some (.int .i64 ck) ∧ Ext W1 u) (first | exact hS | exact hS1 | assumption | go_keep) (first
      | (go_at_call 66; refine (HM.out _).mono ?_; rintro e w1 ⟨rfl, x1⟩; have y1 := Ext.trans (a := W1) (by assumption) x1; have hS1 := HP.out _ y1)
      | (go_at_call 65; refine (HF.out _ (HX1.out.trans (by assumption))).mono ?_; rintro e w2 ⟨rfl, rfl⟩))
    all_goals
      go_wp2
      go_ret
      exact ⟨rfl, HX1.out.trans (by assumption)⟩
/-- The head that a log begins with. -/
def chkF (ck : Int) (g f : Nat) (t : ByteArray) : ByteArray × Int := if (headF 1 g f t).2 ≠ 0 then (⟨#[]⟩, ((headF 1 g f t).2 : Int)) else if ck < ((headF 1 g f t).1.size : Int) then (⟨#[]⟩, 5) else ((headF 1 g f t).1, 0)
set_option maxRecDepth 100000 in
theorem chk_any (nf sz ck : Int) (g f : Nat) (t : ByteArray) (hg : g < 18446744073709551616) (hf : f < 18446744073709551616) (ht : t.size ≤ 8192) (w : World) :
    Calls Tryz.prog 31 #[cfV nf sz ck, .int .u64 (g : Int), .int .u64 (f : Int), .string t] w fun e w' => e = .returned (.tuple #[.string (chkF ck g f t).1, .int .i64 (chkF ck g f t).2]) ∧ Ext w w' := by
  have HH := Lib.hid (fun u => Head_any 1 g f t (by decide) hg hf ht u)
  have hx1 : Ext w (w.alloc (.cells #[.int .i64 nf, .int .i64 sz, .int .i64 ck] 46)) := (Ext.refl w).alloc _
  have hb : Blk (w.alloc (.cells #[.int .i64 nf, .int .i64 sz, .int .i64 ck] 46)) w.heap.size 46 [.int .i64 nf, .int .i64 sz, .int .i64 ck] := Blk.new w _ _
  have HX1 := Lib.hid hx1; have HB := Lib.hid hb
  unfold cfV chkF
  generalize headF 1 g f t = hd at *
  obtain ⟨H, e0⟩ := hd
  dsimp only at HH ⊢
  rw [show ((1 : Nat) : Int) = 1 from rfl] at HH
  clear hx1 hb
  by_cases h0 : e0 = 0
  · subst h0
    rw [if_neg (by simp)]
    by_cases hl : ck < (H.size : Int)
    · rw [if_pos hl]
      go_enter Tryz.func31, Tryz.ntmps31
      go_wp2_with (go_at_call 51; refine (HH.out _).mono ?_; rintro e w1 ⟨rfl, x1⟩; have c2 := (HB.out.ext x1).cell 2 _ rfl; have X1 := Lib.hid x1; clear x1)
      go_ret2
      exact ⟨rfl, HX1.out.trans X1.out⟩
    · rw [if_neg hl]
      go_enter Tryz.func31, Tryz.ntmps31
      go_wp2_with (go_at_call 51; refine (HH.out _).mono ?_; rintro e w1 ⟨rfl, x1⟩; have c2 := (HB.out.ext x1).cell 2 _ rfl; have X1 := Lib.hid x1; clear x1)
      go_ret2
      exact ⟨rfl, HX1.out.trans X1.out⟩
  · rw [if_pos (by simpa using h0)]
    have hne : ((e0 : Int) == 0) = false := by rw [beq_eq_false_iff_ne]; omega
    go_enter Tryz.func31, Tryz.ntmps31
    go_wp2_with (go_at_call 51; refine (HH.out _).mono ?_; rintro e w1 ⟨rfl, x1⟩; have X1 := Lib.hid x1; clear x1)
    go_ret2
    exact ⟨rfl, HX1.out.trans X1.out⟩
/-- A log's sync. -/
theorem wSync_any (w : World) (b bd : Nat) (κ μ : Foot) (s : WS) (d : DS) (h : LS w b bd κ μ s d) (he : s.e = 0) (hL : d.L.length ≤ 1000000) (s9 : WS) (d9 : DS) (e9 : Int) (hdo : doF [.sync] s d = (s9, d9, e9)) : Calls Tryz.prog 11 #[.pointer (some ⟨b, 0, none⟩)] w fun e w' => e = .returned (.int .i64 e9) ∧ LPost w b bd κ μ w' s9 d9 := by
  have c0 := h.wal.cells.1
  have HG := Lib.hid (wgoes_any w b bd κ s h.wal)
  rw [he, if_pos rfl] at HG
  obtain ⟨hr, hf⟩ := RowS.made (C := [.sync]) h.lr (vs := [.func (.func 30) #[.pointer (some ⟨bd, 0, none⟩)] #[]]) rfl (fun u hu => by simp at hu; subst hu; rfl) (fun i v c hv hc => by
    have h0 : i < 1 := (List.getElem?_eq_some_iff.1 hc).1
    obtain rfl : i = 0 := by omega
    simp at hv hc
    subst hc
    exact hv.symm)
  obtain ⟨k1, k2⟩ := LR.done h hf (h.lr.f4 hf)
  have HD := Lib.hid (do_any' _ b bd _ μ s d k1 _ 1 [.sync] (hr.done (h.lr.f4 hf)) (by decide) ⟨trivial, hL, fun _ => trivial⟩ _ _ _ hdo)
  have HK := Lib.hid k2
  clear h k1 k2 hr hf hdo
  go_enter Tryz.func11, Tryz.ntmps11
  go_wp2_with (first
    | (go_at_call 25; refine (HG.out).mono ?_; rintro e w1 ⟨rfl, rfl⟩)
    | (go_at_call 29; refine (HD.out).mono ?_; rintro e w1 ⟨rfl, hp⟩; have HP := Lib.hid hp; clear hp))
  go_ret
  exact ⟨rfl, LPost.after HK.out HP.out⟩
end Go.Proofs.YtbekdcpdfmfopaaGreat
end
