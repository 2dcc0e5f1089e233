/- Contract: what all files have, as a law asks it; texts of the call's own. -/
import Derived.Test.YtpjhkhelgeoneaaRefD
import Derived.Test.YtpjhkhelgeoneaaDo
namespace Go.Proofs.Ytpjhkhelgeoneaa
open Go.RowKit
/-- A slice of texts that lies in blocks from n0 up to n1. -/
def TX (w : World) (p : Option Addr) (l : List Value) (n0 n1 : Nat) : Prop := n1 ≤ w.heap.size ∧ ∀ (j : Nat) (u : Value), l[j]? = some u → ∃ g, p = some ⟨g, 0, none⟩ ∧ n0 ≤ g ∧ g < n1 ∧ w.cell? ⟨g, j, none⟩ = some u
theorem TX.keep {w w' : World} {p : Option Addr} {l : List Value} {n0 n1 : Nat} (h : TX w p l n0 n1) (hs : w.heap.size ≤ w'.heap.size) (hb : ∀ g, n0 ≤ g → g < n1 → w'.heap[g]? = w.heap[g]?) : TX w' p l n0 n1 :=
  ⟨Nat.le_trans h.1 hs, fun j u hu => by
    obtain ⟨g, h1, h2, h3, h4⟩ := h.2 j u hu
    exact ⟨g, h1, h2, h3, (World.cell?_of_block (w := w) (a := ⟨g, j, none⟩) (hb g h2 h3)).trans h4⟩⟩
theorem TX.ext {w w' : World} {p : Option Addr} {l : List Value} {n0 n1 : Nat} (h : TX w p l n0 n1) (hx : Ext w w') : TX w' p l n0 n1 := h.keep hx.size (fun g _ hg => hx.block g (Nat.lt_of_lt_of_le hg h.1))
theorem TX.fr {w w' : World} {p : Option Addr} {l : List Value} {n0 n1 : Nat} {κ κ' : Foot} (h : TX w p l n0 n1) (f : Fr κ (2 ≤ ·) w w' κ') (hz : ∀ g, n0 ≤ g → g < n1 → κ g = 0) : TX w' p l n0 n1 ∧ ∀ g, n0 ≤ g → g < n1 → κ' g = 0 :=
  ⟨h.keep f.size (fun g h1 h2 => f.other g (Nat.lt_of_lt_of_le h2 h.1) (by rw [hz g h1 h2]; decide)), fun g h1 h2 => (f.foot g (Nat.lt_of_lt_of_le h2 h.1)).trans (hz g h1 h2)⟩
set_option maxRecDepth 100000 in
set_option maxHeartbeats 2000000 in
theorem files_any (w : World) (b : Nat) (κ : Foot) (d : DS) (h : IsD w b κ d) (hf : d.fuse ≠ 0) :
    Calls Try.prog 27 #[.pointer (some ⟨b, 0, none⟩)] w fun e w' => ∃ p c, e = .returned (.slice p d.m c) ∧ TX w' p (txs d.now d.m) w.heap.size w'.heap.size ∧ Ext w w' := by
  have HF := Lib.hid (fun u (hu : Ext w u) => Files_any u b κ d (h.ext hu))
  have HR : Hid (∀ u, Ext w u → ∀ i : Nat, i < d.m → Calls Try.prog 30 #[.pointer (some ⟨b, 0, none⟩), .int .i64 (i : Int)] u fun e w' => e = .returned (.tuple #[.string (d.now i), .int .i64 0]) ∧ u = w') := Lib.hid (fun u hu i hi => by
    have := Read_any u b κ d (h.ext hu) (i : Int)
    rw [show d.read (i : Int) = (d.now i, 0) from by
      unfold DS.read
      rw [if_neg hf, if_neg (fun q => q ⟨by omega, by omega⟩)]
      rfl] at this
    exact this)
  have hm16 := h.ok.m16
  have HT := Lib.hid (fun j (hj : j < d.m) => (show txs d.now (j + 1) = txs d.now j ++ [Value.string (d.now j)] from by unfold txs; rw [List.range_succ]; simp))
  clear h hf
  go_enter Try.func27, Try.ntmps27
  go_wp2
  go_loopw [3, 4] (fun lv iv wr => ∃ j : Nat, j ≤ d.m ∧ iv = .int .i64 (j : Int) ∧ ∃ p c, lv = .slice p j c ∧ ∃ κj, Sl wr κj 5 1 9 p j c (txs d.now j) ∧ Fr (fun _ => 0) (· = 5) w wr κj) (fun _ iv _ => d.m - (intOf iv).toNat)
  case atStart => exact ⟨0, Nat.zero_le _, rfl, none, 0, rfl, fun _ => 0, Sl.nil _ _ _ _ _, Fr.refl _ _ _⟩
  case round =>
    obtain ⟨j, hj, rfl, p, c, rfl, κj, hs, hfr⟩ := hrel
    have HS := Lib.hid hs; have HFr := Lib.hid hfr
    have HX : Hid (Ext w wr) := Lib.hid ⟨hfr.os, hfr.tape, hfr.output, hfr.size, fun g hg => hfr.other g hg (by decide)⟩
    clear hs hfr
    by_cases hlt : j < d.m
    · have HRj := Lib.hid (HR.out wr HX.out j hlt)
      have HTj := Lib.hid (HT.out j hlt)
      generalize d.now j = tj at *
      go_wp2_with (first
        | (go_at_call 32; refine (HF.out wr HX.out).mono ?_; rintro e w1 ⟨rfl, rfl⟩)
        | (go_at_call 30; refine (HRj.out).mono ?_; rintro e w1 ⟨rfl, rfl⟩)
        | (refine wpList_append_sl rfl (.tmp 19) (.tmp 21) 50 50 rfl Try.underlying50 infoT rfl (by decide) rfl (HS.out.ext ((Ext.refl _).alloc _)) (txs_one _ _) _ rfl 1 [.string tj] ((Sl.ofBlk (κ := fun _ => 0) (z := 1) (Blk.new _ [.string tj] 9) rfl rfl).src Try.underlying50 (by intro u hu; simp at hu; subst hu; rfl)) (by omega) ?_; intro p2 c2 w3 κ3 s3 f3 _ _ _; rw [← HTj.out] at s3; have HS3 := Lib.hid s3; have HF3 := Lib.hid ((HFr.out.alloc (.cells #[.string tj] 9)).trans f3); clear s3 f3))
      go_roundw
      case rel => exact ⟨j + 1, hlt, by go_num, p2, c2, rfl, κ3, HS3.out, HF3.out⟩
      case measure => simp [intOf]; omega
    · obtain rfl : j = d.m := by omega
      go_wp2_with (go_at_call 32; refine (HF.out wr HX.out).mono ?_; rintro e w1 ⟨rfl, rfl⟩)
      go_ret
      refine ⟨p, c, rfl, ⟨Nat.le_refl _, fun j u hu => ?_⟩, HX.out⟩
      obtain ⟨g, h1, h2, h3, h4, _⟩ := HS.out.cell hu
      refine ⟨g, h1, ?_, h2, h4⟩
      rcases Nat.lt_or_ge g w.heap.size with q | q
      · have := HFr.out.foot g q; rw [h3] at this; cases this
      · exact q
end Go.Proofs.Ytpjhkhelgeoneaa
