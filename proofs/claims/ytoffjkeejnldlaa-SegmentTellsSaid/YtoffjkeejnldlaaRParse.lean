/- Contract: the segment in front of bytes, by the document: what is none. -/
import Derived.Test.YtoffjkeejnldlaaPParse
import Derived.Test.YtoffjkeejnldlaaRNum8
import Derived.Test.YtoffjkeejnldlaaRDec
import Derived.Outline
namespace Go.Proofs.Ytoffjkeejnldlaa
open Go.RowKit

theorem texts_kept8 {u : World} {B : Nat} {q : Option Addr} {l : List ByteArray} (h : TextsP u q l) (hq : ∀ a, q = some a → B ≤ a.block) (X S : Nat) (hX : X < B) (hS : S < X) (c b a0 a1 a2 a3 a4 a5 a6 : Value) :
    TextsP (((((((((u.setCell ⟨X, 5, none⟩ c).setCell ⟨X, 6, none⟩ b).setCell ⟨S, 0, none⟩ a0).setCell ⟨S, 1, none⟩ a1).setCell ⟨S, 2, none⟩ a2).setCell ⟨S, 3, none⟩ a3).setCell ⟨S, 4, none⟩ a4).setCell ⟨S, 5, none⟩ a5).setCell ⟨S, 6, none⟩ a6) q l := by
  refine texts_kept (u := u.setCell ⟨X, 5, none⟩ c) ?_ hq X S hX hS b a0 a1 a2 a3 a4 a5 a6
  intro i s hs
  obtain ⟨a, h1, h2, h3⟩ := h i s hs
  have hb := hq a h1
  refine ⟨a, h1, by simpa [World.setCell] using h2, ?_⟩
  rw [World.cell?_of_block (w := u) (a := a.add i) (Below.heap_setCell u ⟨X, 5, none⟩ c _ (by rw [add_block]; show a.block ≠ X; omega))]
  exact h3
set_option maxRecDepth 100000 in
set_option maxHeartbeats 4000000 in
theorem rParse_bad (s : ByteArray) (hs : s.size ≤ 1000000) (e0 : Nat) (he : e0 ≠ 0) (r0 : Rec) (u0 : Nat) (hd : decF s = (r0, u0, e0)) (w : World) :
    Calls Try.prog 14 #[.string s] w fun e w' => e = .returned (.tuple #[segV Seg.zero (.slice none 0 0), .int .i64 (e0 : Int)]) ∧ Ext w w' := by
  have HD := Lib.hid (fun u => rDecode_any s hs u)
  rw [hd] at HD
  dsimp only at HD
  unfold recV at HD
  have hei : ((e0 : Int) != 0) = true := by rw [bne_iff_ne]; omega
  have hb : Blk (w.alloc (.cells zero7.toArray 25)) w.heap.size 25 zero7 := Blk.new w _ _
  have HB := Lib.hid hb
  have HX := Lib.hid ((Ext.refl w).alloc (.cells zero7.toArray 25))
  clear hb hd he
  unfold zero7 at HB HX
  unfold segV Seg.zero
  dsimp only
  go_enter Try.func14, Try.ntmps14
  go_wp2_with (go_at_call 34; refine (HD.out _).mono ?_; rintro e w1 ⟨rfl, x1⟩; have hb1 := (HB.out.ext x1).alloc (.cells #[.int .u64 (r0.n : Int), .string r0.t] 60); have X1 := Lib.hid (HX.out.trans x1); have t0 := hb1.cell 0 _ rfl; have t1 := hb1.cell 1 _ rfl; have t2 := hb1.cell 2 _ rfl; have t3 := hb1.cell 3 _ rfl; have t4 := hb1.cell 4 _ rfl; have t5 := hb1.cell 5 _ rfl; have t6 := hb1.cell 6 _ rfl; have g0 := hb1.frozen 0; have g1 := hb1.frozen 1; have g2 := hb1.frozen 2; have g3 := hb1.frozen 3; have g4 := hb1.frozen 4; have g5 := hb1.frozen 5; have g6 := hb1.frozen 6; have HB1 := Lib.hid hb1; clear x1 hb1)
  exact bodyPost_ret (results_seg rfl _ _ w.heap.size 25 _ _ _ _ _ _ _ (0, 0) rfl (Blk.set7 HB1.out _ _ _ _ _ _ _)) rfl ⟨rfl, Ext.set7 (X1.out.alloc _) (Nat.le_refl _) _ _ _ _ _ _ _⟩
set_option maxRecDepth 100000 in
set_option maxHeartbeats 4000000 in
theorem rParse_none (s : ByteArray) (hs : s.size ≤ 1000000) (r0 : Rec) (u0 : Nat) (hd : decF s = (r0, u0, 0)) (h0 : r0.t.size = 0) (w : World) :
    Calls Try.prog 14 #[.string s] w fun e w' => e = .returned (.tuple #[segV Seg.zero (.slice none 0 0), .int .i64 7]) ∧ Ext w w' := by
  have HD := Lib.hid (fun u => rDecode_any s hs u)
  rw [hd] at HD
  dsimp only at HD
  unfold recV at HD
  rw [show ((0 : Nat) : Int) = 0 from rfl] at HD
  have hei : ((r0.t.size : Int) == 0) = true := by rw [beq_iff_eq]; omega
  have hb : Blk (w.alloc (.cells zero7.toArray 25)) w.heap.size 25 zero7 := Blk.new w _ _
  have HB := Lib.hid hb
  have HX := Lib.hid ((Ext.refl w).alloc (.cells zero7.toArray 25))
  clear hb hd h0
  unfold zero7 at HB HX
  unfold segV Seg.zero
  dsimp only
  generalize r0.t = T at *
  go_enter Try.func14, Try.ntmps14
  go_wp2_with (go_at_call 34; refine (HD.out _).mono ?_; rintro e w1 ⟨rfl, x1⟩; have hb1 := (HB.out.ext x1).alloc (.cells #[.int .u64 (r0.n : Int), .string T] 60); have X1 := Lib.hid (HX.out.trans x1); have t0 := hb1.cell 0 _ rfl; have t1 := hb1.cell 1 _ rfl; have t2 := hb1.cell 2 _ rfl; have t3 := hb1.cell 3 _ rfl; have t4 := hb1.cell 4 _ rfl; have t5 := hb1.cell 5 _ rfl; have t6 := hb1.cell 6 _ rfl; have g0 := hb1.frozen 0; have g1 := hb1.frozen 1; have g2 := hb1.frozen 2; have g3 := hb1.frozen 3; have g4 := hb1.frozen 4; have g5 := hb1.frozen 5; have g6 := hb1.frozen 6; have HB1 := Lib.hid hb1; have hr1 := Blk.new w1 [.int .u64 (r0.n : Int), .string T] 60; have q1 := hr1.cell 1 _ rfl; clear x1 hb1 hr1)
  exact bodyPost_ret (results_seg rfl _ _ w.heap.size 25 _ _ _ _ _ _ _ (0, 0) rfl (Blk.set7 HB1.out _ _ _ _ _ _ _)) rfl ⟨rfl, Ext.set7 (X1.out.alloc _) (Nat.le_refl _) _ _ _ _ _ _ _⟩
set_option maxRecDepth 100000 in
set_option maxHeartbeats 4000000 in
theorem rParse_num (s : ByteArray) (hs : s.size ≤ 1000000) (r0 : Rec) (u0 : Nat) (hd : decF s = (r0, u0, 0)) (h0 : 1 ≤ r0.t.size) (f : Nat) (hf : f ≠ 0) (hn : numR (r0.t.extract 1 r0.t.size).data.toList = (0, 0, f)) (w : World) :
    Calls Try.prog 14 #[.string s] w fun e w' => e = .returned (.tuple #[segV Seg.zero (.slice none 0 0), .int .i64 7]) ∧ Ext w w' := by
  have HD := Lib.hid (fun u => rDecode_any s hs u)
  have hsz := (decF_itm s).1
  rw [hd] at HD hsz
  dsimp only at HD hsz
  unfold recV at HD
  rw [show ((0 : Nat) : Int) = 0 from rfl] at HD
  have hei : ((r0.t.size : Int) == 0) = false := by rw [beq_eq_false_iff_ne]; omega
  have hfi : ((f : Int) != 0) = true := by rw [bne_iff_ne]; omega
  have hsl := cut_from r0.t 1 h0
  rw [show ((1 : Nat) : Int) = 1 from rfl] at hsl
  have HN := Lib.hid (fun u => rNumber8_any (r0.t.extract 1 r0.t.size) (by rw [ByteArray.size_extract]; omega) u)
  rw [hn] at HN
  dsimp only at HN
  rw [show ((0 : Nat) : Int) = 0 from rfl] at HN
  have hb : Blk (w.alloc (.cells zero7.toArray 25)) w.heap.size 25 zero7 := Blk.new w _ _
  have HB := Lib.hid hb
  have HX := Lib.hid ((Ext.refl w).alloc (.cells zero7.toArray 25))
  clear hb hd h0 hn hf hsz
  unfold zero7 at HB HX
  unfold segV Seg.zero
  dsimp only
  generalize r0.t.extract 1 r0.t.size = S1 at *
  generalize r0.t = T at *
  go_enter Try.func14, Try.ntmps14
  go_wp2_with (first
    | (go_at_call 34; refine (HD.out _).mono ?_; rintro e w1 ⟨rfl, x1⟩; have hb1 := (HB.out.ext x1).alloc (.cells #[.int .u64 (r0.n : Int), .string T] 60); have X1 := Lib.hid (HX.out.trans x1); have t0 := hb1.cell 0 _ rfl; have t1 := hb1.cell 1 _ rfl; have t2 := hb1.cell 2 _ rfl; have t3 := hb1.cell 3 _ rfl; have t4 := hb1.cell 4 _ rfl; have t5 := hb1.cell 5 _ rfl; have t6 := hb1.cell 6 _ rfl; have g0 := hb1.frozen 0; have g1 := hb1.frozen 1; have g2 := hb1.frozen 2; have g3 := hb1.frozen 3; have g4 := hb1.frozen 4; have g5 := hb1.frozen 5; have g6 := hb1.frozen 6; have HB1 := Lib.hid hb1; have hr1 := Blk.new w1 [.int .u64 (r0.n : Int), .string T] 60; have q1 := hr1.cell 1 _ rfl; clear x1 hb1 hr1)
    | (go_at_call 35; refine (HN.out _).mono ?_; rintro e w2 ⟨rfl, rfl⟩))
  exact bodyPost_ret (results_seg rfl _ _ w.heap.size 25 _ _ _ _ _ _ _ (0, 0) rfl (Blk.set7 HB1.out _ _ _ _ _ _ _)) rfl ⟨rfl, Ext.set7 (X1.out.alloc _) (Nat.le_refl _) _ _ _ _ _ _ _⟩
end Go.Proofs.Ytoffjkeejnldlaa
