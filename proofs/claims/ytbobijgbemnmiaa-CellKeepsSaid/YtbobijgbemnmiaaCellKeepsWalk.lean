/- The walk of CellKeeps. -/
import Derived.Test.YtbobijgbemnmiaaSlA
import Derived.Test.YtbobijgbemnmiaaHeavy17
import Derived.Test.YtbobijgbemnmiaaWorks17
import Derived.Deep.DeepCutAuto
import Derived.Deep.CutBlock
namespace Go.Proofs.Ytbobijgbemnmiaa
open Go.RowKit

set_option maxRecDepth 1000000 in
set_option maxHeartbeats 16000000 in
theorem CellKeeps_walk (pa : Option Addr) (ca : Nat) (l : List Act17) (w : World) (ha : Act17sP w pa l) (hok : ∀ x ∈ l, x.Ok) (hal : l.length ≤ 140737488355328) :
    Calls Try.prog 5 #[.slice pa l.length ca] w fun e w' => e = .returned (.bool true) ∧ Ext w w' := by
  obtain ⟨K, hK⟩ : ∃ K, l.length = K := ⟨_, rfl⟩
  have HHv := Lib.hid (heavy17_any w 0 none 0 [] (VersP.nil _ _) (fun y hy => by cases hy) (by simp) pa ca l ha hok hal)
  have HA := Lib.hid ha; have HOk := Lib.hid hok; have HK := Lib.hid hK
  rw [hK] at HHv ⊢
  clear ha hok hK hal
  go_enter Try.func5, Try.ntmps5
  go_upto_if 26 with (go_at_call 7; refine HHv.out.mono ?_; rintro e w1 ⟨⟨b, rfl, hb⟩, x1⟩; have HX1 := Lib.hid x1; clear x1; cases b)
  case' true =>
    go_wp2_with (go_at_call 8; refine (works17_any _).mono ?_; rintro e w9 ⟨rfl, x9⟩)
    go_ret
    exact ⟨rfl, HX1.out.trans x9⟩
  case' false =>
    obtain ⟨-, hl60, hsz⟩ : Light17 [] l := by simpa using hb
    have HTx : Hid (∀ x ∈ l, x.Text.size ≤ 32768) := Lib.hid (fun x hx => by have := sumT_mem hx; simp only [sizeL] at hsz; omega)
    have hK60 : K ≤ 60 := by rw [← HK.out]; exact hl60
    have HB0 := Lib.hid (Blk.new w1 [.int .u64 0, .slice none 0 0] 25)
    have HX2 := Lib.hid (HX1.out.alloc (.cells #[.int .u64 0, .slice none 0 0] 25))
    clear hb hl60 hsz
    go_wp2
    go_loopw [6, 4, 5] (fun iv tv sv wr => ∃ (j n m k c : Nat) (q : Option Addr) (L : List Ver) (P : List (Nat × ByteArray)) (p4 : Option Addr) (c4 : Nat) (p5 : Option Addr) (c5 : Nat), j ≤ K ∧ n ≤ j ∧ iv = .int .i64 (j : Int) ∧ tv = .slice p4 n c4 ∧ sv = .slice p5 n c5 ∧ Hid (Blk wr w1.heap.size 25 [.int .u64 (m : Int), .slice q k c]) ∧ Hid (IsV wr w.heap.size q c L ∧ L.length = k ∧ mayL m L = true) ∧ Hid (Story m L P) ∧ Hid (P.length = n) ∧ Hid (IsA wr w.heap.size 9 p4 c4 (txV P)) ∧ Hid (IsA wr w.heap.size 5 p5 c5 (stV P)) ∧ Hid (Ext w wr)) (fun iv _ _ _ => K - (intOf iv).toNat)
    case atStart => exact ⟨0, 0, 0, 0, 0, none, [], [], none, 0, none, 0, Nat.zero_le _, Nat.le_refl _, rfl, rfl, rfl, HB0, Lib.hid ⟨IsV.nil _ _, rfl, may_empty⟩, Lib.hid Story.nil, Lib.hid rfl, Lib.hid (IsA.nil _ _ _), Lib.hid (IsA.nil _ _ _), HX2⟩
    case round =>
      obtain ⟨j, n, m, k, c, q, L, P, p4, c4, p5, c5, hj, hnj, rfl, rfl, rfl, B3, HC, HSy, HNP, T4, T5, HX⟩ := hrel
      have b0 := B3.out.cell 0 _ rfl
      have b1 := B3.out.cell 1 _ rfl
      by_cases hlt : j < K
      · have hlti : (j : Int) < (K : Int) := by omega
        have hj0 : (0 : Int) ≤ (j : Int) := by omega
        have hkl := HK.out
        obtain ⟨x, hx⟩ : ∃ x, l[j]? = some x := ⟨_, List.getElem?_eq_getElem (by omega)⟩
        obtain ⟨a, rfl, -, hc⟩ := (HA.out.ext HX.out) j x hx
        have a0 : wr.cell? (a.add (j * 5)) = some (.int .u8 (x.Do : Int)) := hc 0 _ rfl
        have a1 := act17_at (k := 0) (hc 1 _ rfl)
        have a2 := act17_at (k := 1) (hc 2 _ rfl)
        have a3 := act17_at (k := 2) (hc 3 _ rfl)
        have a4 := act17_at (k := 3) (hc 4 _ rfl)
        have htx := HTx.out x (List.mem_of_getElem? hx)
        have hdv := (HOk.out x (List.mem_of_getElem? hx)).Do
        clear hx hc hkl
        generalize x.Do = dv at *
        generalize x.Any = an at *
        generalize x.Want = wt at *
        generalize x.N = xn at *
        generalize x.Text = tx at *
        have hkL : L.length ≤ 1000000 := by have := (mayL_iff.1 HC.out.2.2).1; omega
        have hmB : m < 18446744073709551616 := by have := HSy.out.last; have := HNP.out; omega
        have hs3 := B3.out.lt
        have hn9 : n + 1 ≤ 1000000000 := by omega
        have HNt : Hid ((txV P).length = n) := Lib.hid (by simp [txV, HNP.out])
        have HNs : Hid ((stV P).length = n) := Lib.hid (by simp [stV, HNP.out])
        obtain ⟨nw, hnw⟩ : ∃ nw, nowL L = nw := ⟨_, rfl⟩
        have HNW := Lib.hid hnw
        have HNo : Hid (∀ u, Ext wr u → Calls Try.prog 16 #[.agg #[.int .u64 (m : Int), .slice q k c]] u fun e w' => e = .returned (.int .u64 (nw : Int)) ∧ Ext u w') := Lib.hid (fun u y => by
          have := now_any u m q c L (HC.out.1.vers.ext y) (by omega)
          rwa [HC.out.2.1, hnw] at this)
        have B3a := Lib.hid (B3.out.alloc (.cells #[.int .u8 (dv : Int), .bool an, .int .u64 (wt : Int), .int .u64 (xn : Int), .string tx] 27))
        have B3b := Lib.hid (B3a.out.alloc (.cells #[.int .u64 (m : Int), .slice q k c] 25))
        have ba0 := B3a.out.cell 0 _ rfl
        have ba1 := B3a.out.cell 1 _ rfl
        have bb0 := B3b.out.cell 0 _ rfl
        have bb1 := B3b.out.cell 1 _ rfl
        clear hnw
        obtain ⟨d, hd⟩ : ∃ d, dv % 3 = d := ⟨_, rfl⟩
        have hm3 : (dv : Int) % 3 = (d : Int) := by omega
        have hm3t : (dv : Int).tmod 3 = (d : Int) := by rw [Int.tmod_eq_emod_of_nonneg (by omega)]; exact hm3
        have hd3 : d = 0 ∨ d = 1 ∨ d = 2 := by omega
        clear hd
        go_upto_block 2 with ((go_at_call 16; refine (HNo.out _ (((Ext.refl wr).alloc _).alloc _)).mono ?_; rintro e w2 ⟨rfl, x2⟩; have HE2 : Hid (Ext wr w2) := Lib.hid ((((Ext.refl wr).alloc _).alloc _).trans x2); have A7 : Hid (Blk w2 wr.heap.size 27 [.int .u8 (dv : Int), .bool an, .int .u64 (wt : Int), .int .u64 (xn : Int), .string tx]) := Lib.hid (((Blk.new wr [.int .u8 (dv : Int), .bool an, .int .u64 (wt : Int), .int .u64 (xn : Int), .string tx] 27).alloc _).ext x2); have A8 : Hid (Blk w2 (wr.heap.size + 1) 25 [.int .u64 (m : Int), .slice q k c]) := Lib.hid ((Blk.new1V wr _ [.int .u64 (m : Int), .slice q k c] 25).ext x2); have B3c := Lib.hid (B3.out.ext HE2.out); have Vc := Lib.hid (HC.out.1.ext HE2.out); have T4c := Lib.hid (T4.out.ext HE2.out); have T5c := Lib.hid (T5.out.ext HE2.out); have HX2 := Lib.hid (HX.out.trans HE2.out); have a0 := A7.out.cell 0 _ rfl; have a1 := A7.out.cell 1 _ rfl; have a2 := A7.out.cell 2 _ rfl; have a3 := A7.out.cell 3 _ rfl; have a4 := A7.out.cell 4 _ rfl; have b0 := B3c.out.cell 0 _ rfl; have b1 := B3c.out.cell 1 _ rfl; have bf0 := B3c.out.frozen 0; have bf1 := B3c.out.frozen 1; clear x2))
        go_cut [4, 5] (fun tv sv wx => ∃ (n' m' k' c' : Nat) (q' : Option Addr) (L' : List Ver) (P' : List (Nat × ByteArray)) (p4' : Option Addr) (c4' : Nat) (p5' : Option Addr) (c5' : Nat), n' ≤ j + 1 ∧ tv = .slice p4' n' c4' ∧ sv = .slice p5' n' c5' ∧ Hid (Blk wx w1.heap.size 25 [.int .u64 (m' : Int), .slice q' k' c']) ∧ Hid (IsV wx w.heap.size q' c' L' ∧ L'.length = k' ∧ mayL m' L' = true) ∧ Hid (Story m' L' P') ∧ Hid (P'.length = n') ∧ Hid (IsA wx w.heap.size 9 p4' c4' (txV P')) ∧ Hid (IsA wx w.heap.size 5 p5' c5' (stV P')) ∧ Hid (Ext w wx))
        case first =>
          have hs7 := A7.out.lt
          rcases hd3 with e | e | e
          · have hd0 : ((d : Int) == 0) = true := by have : (d : Int) = 0 := (by omega); simpa using this
            clear e
            by_cases hf : ((an = true ∨ wt = nw) ∧ tx.size ≤ 4096)
            · obtain ⟨LL, hLL⟩ : ∃ LL, cutL (L ++ [(⟨m + 1, 1, tx⟩ : Ver)]) = LL := ⟨_, rfl⟩
              obtain ⟨la, hla⟩ : ∃ la, m + 1 = la := ⟨_, rfl⟩
              obtain ⟨nl, hnl⟩ : ∃ nl, LL.length = nl := ⟨_, rfl⟩
              have hO : putL m L an wt tx = ⟨0, la, LL⟩ := by rw [← hla, ← hLL]; exact put_fine HC.out.2.2 (by have := HSy.out.last; have := HNP.out; omega) (by rw [← HNW.out] at hf; exact hf)
              have HSt : Hid (Story la LL (P ++ [(1, tx)])) := Lib.hid (by rw [← hla, ← hLL]; exact HSy.out.add 1 tx (.inl rfl))
              have HMy : Hid (mayL la LL = true) := Lib.hid (by rw [← hla, ← hLL]; exact (by have h9 := may_act HC.out.2.2 (by have := HSy.out.last; have := HNP.out; omega) 0 an wt 0 tx; have e9 : actL m L 0 an wt 0 tx = putL m L an wt tx := (by simp [actL]); rw [e9, put_fine HC.out.2.2 (by have := HSy.out.last; have := HNP.out; omega) (by rw [← HNW.out] at hf; exact hf)] at h9; exact h9.1))
              have HNL := Lib.hid hnl
              have HO := Lib.hid hO
              have HP : Hid (∀ u q c', VersP u q L → Calls Try.prog 21 #[.agg #[.int .u64 (m : Int), .slice q k c'], .bool an, .int .u64 (wt : Int), .string tx] u fun e w' => ∃ q c', e = .returned (.tuple #[.agg #[.int .u64 (la : Int), .slice q nl c'], .int .i64 0]) ∧ IsV w' u.heap.size q c' LL ∧ Ext u w') := Lib.hid (fun u q c' v => by
                have := put_any u m q c' L v hkL hmB an wt tx (by omega)
                rw [HO.out, HC.out.2.1] at this
                dsimp only at this
                rwa [HNL.out] at this)
              clear hO hnl hLL hla
              go_upto_region 28 with ((go_at_call 21; refine (HP.out _ _ _ Vc.out.vers).mono ?_; rintro e w3 ⟨q3, c3, rfl, v3, x3⟩; have D3 := Lib.hid (B3c.out.ext x3); have D7 := Lib.hid (A7.out.ext x3); have D8 := Lib.hid (A8.out.ext x3); have HX3 := Lib.hid (HX2.out.trans x3); have V3 : Hid (IsV w3 w.heap.size q3 c3 LL) := Lib.hid (v3.base HX2.out.size); have T4d := Lib.hid (T4c.out.ext x3); have T5d := Lib.hid (T5c.out.ext x3); have b0 := D3.out.cell 0 _ rfl; have b1 := D3.out.cell 1 _ rfl; have bf0 := D3.out.frozen 0; have bf1 := D3.out.frozen 1; have F3 : Hid (Blk ((w3.setCell ⟨w1.heap.size, 0, none⟩ (.int .u64 (la : Int))).setCell ⟨w1.heap.size, 1, none⟩ (.slice q3 nl c3)) w1.heap.size 25 [.int .u64 (la : Int), .slice q3 nl c3]) := Lib.hid ((D3.out.set_ 0 _).set_ 1 _); have F7 := Lib.hid ((D7.out.other (g := w1.heap.size) (by omega) 0 (.int .u64 (la : Int))).other (g := w1.heap.size) (by omega) 1 (.slice q3 nl c3)); have F8 := Lib.hid ((D8.out.other (g := w1.heap.size) (by omega) 0 (.int .u64 (la : Int))).other (g := w1.heap.size) (by omega) 1 (.slice q3 nl c3)); have Vcd := Lib.hid (Vc.out.ext x3); have V4q : Hid (VersP ((w3.setCell ⟨w1.heap.size, 0, none⟩ (.int .u64 (la : Int))).setCell ⟨w1.heap.size, 1, none⟩ (.slice q3 nl c3)) q L) := Lib.hid (((Vcd.out.parted (o := 0) D3.out (by decide) (.int .u64 (la : Int))).parted (o := 1) (D3.out.set_ 0 _) (by decide) (.slice q3 nl c3)).vers); have V4 : Hid (IsV ((w3.setCell ⟨w1.heap.size, 0, none⟩ (.int .u64 (la : Int))).setCell ⟨w1.heap.size, 1, none⟩ (.slice q3 nl c3)) w.heap.size q3 c3 LL) := Lib.hid ((V3.out.parted (o := 0) D3.out (by decide) _).parted (o := 1) (D3.out.set_ 0 _) (by decide) _); have U4 : Hid (IsA ((w3.setCell ⟨w1.heap.size, 0, none⟩ (.int .u64 (la : Int))).setCell ⟨w1.heap.size, 1, none⟩ (.slice q3 nl c3)) w.heap.size 9 p4 c4 (txV P)) := Lib.hid ((T4d.out.parted (o := 0) D3.out (by decide) _).parted (o := 1) (D3.out.set_ 0 _) (by decide) _); have U5 : Hid (IsA ((w3.setCell ⟨w1.heap.size, 0, none⟩ (.int .u64 (la : Int))).setCell ⟨w1.heap.size, 1, none⟩ (.slice q3 nl c3)) w.heap.size 5 p5 c5 (stV P)) := Lib.hid ((T5d.out.parted (o := 0) D3.out (by decide) _).parted (o := 1) (D3.out.set_ 0 _) (by decide) _); have HX4 : Hid (Ext w ((w3.setCell ⟨w1.heap.size, 0, none⟩ (.int .u64 (la : Int))).setCell ⟨w1.heap.size, 1, none⟩ (.slice q3 nl c3))) := Lib.hid ((HX3.out.setCell (p := ⟨w1.heap.size, 0, none⟩) HX1.out.size _).setCell (p := ⟨w1.heap.size, 1, none⟩) HX1.out.size _); have g0 := F7.out.cell 0 _ rfl; have g1 := F7.out.cell 1 _ rfl; have g2 := F7.out.cell 2 _ rfl; have g3 := F7.out.cell 3 _ rfl; have g4 := F7.out.cell 4 _ rfl; have h0 := F3.out.cell 0 _ rfl; have h1 := F3.out.cell 1 _ rfl; have i0 := F8.out.cell 0 _ rfl; have i1 := F8.out.cell 1 _ rfl; clear v3 x3))
              go_cut [12] (fun fv wx => fv = .bool true ∧ ((w3.setCell ⟨w1.heap.size, 0, none⟩ (.int .u64 (la : Int))).setCell ⟨w1.heap.size, 1, none⟩ (.slice q3 nl c3)) = wx)
              case first =>
                as_aux_lemma =>
                  rcases hf with ⟨ha, hz⟩
                  have hz2 : (tx.size : Int) ≤ 4096 := by omega
                  have hz3 : tx.size ≤ 4096 := hz
                  clear hz
                  rcases ha with ha | ha
                  · subst ha
                    go_wp2 <;> (go_meet; exact ⟨rfl, rfl⟩)
                  · have hw : ((wt : Int) == (nw : Int)) = true := by have : (wt : Int) = (nw : Int) := (by omega); simpa using this
                    clear ha
                    cases an
                    all_goals
                      go_wp2 <;> (go_meet; exact ⟨rfl, rfl⟩)
              case rest =>
                obtain ⟨rfl, rfl⟩ := hcut
                as_aux_lemma =>
                  have G3 : Hid (Blk (((w3.setCell ⟨w1.heap.size, 0, none⟩ (.int .u64 (la : Int))).setCell ⟨w1.heap.size, 1, none⟩ (.slice q3 nl c3)).alloc (.cells #[.string tx] 9)) w1.heap.size 25 [.int .u64 (la : Int), .slice q3 nl c3]) := Lib.hid (F3.out.alloc _)
                  have HS4 : Hid (Sl (((w3.setCell ⟨w1.heap.size, 0, none⟩ (.int .u64 (la : Int))).setCell ⟨w1.heap.size, 1, none⟩ (.slice q3 nl c3)).alloc (.cells #[.string tx] 9)) (kp p4) 1 1 9 p4 n c4 (txV P)) := Lib.hid (by have := (U4.out.ext ((Ext.refl _).alloc (.cells #[.string tx] 9))).sl; rwa [HNt.out] at this)
                  have HRC : Hid (∀ g, ((w3.setCell ⟨w1.heap.size, 0, none⟩ (.int .u64 (la : Int))).setCell ⟨w1.heap.size, 1, none⟩ (.slice q3 nl c3)).heap.size = g → Src Try.prog 1 45 (.slice (some ⟨g, 0, none⟩) 1 1) 1 [.string tx] (((w3.setCell ⟨w1.heap.size, 0, none⟩ (.int .u64 (la : Int))).setCell ⟨w1.heap.size, 1, none⟩ (.slice q3 nl c3)).alloc (.cells #[.string tx] 9))) := Lib.hid (fun g hg => src_text _ _ _ ((Blk.newAt ((w3.setCell ⟨w1.heap.size, 0, none⟩ (.int .u64 (la : Int))).setCell ⟨w1.heap.size, 1, none⟩ (.slice q3 nl c3)) [.string tx] 9 g hg).cell 0 _ rfl))
                  have HX5 : Hid (Ext w (((w3.setCell ⟨w1.heap.size, 0, none⟩ (.int .u64 (la : Int))).setCell ⟨w1.heap.size, 1, none⟩ (.slice q3 nl c3)).alloc (.cells #[.string tx] 9))) := Lib.hid (HX4.out.alloc _)
                  have V5 : Hid (IsV (((w3.setCell ⟨w1.heap.size, 0, none⟩ (.int .u64 (la : Int))).setCell ⟨w1.heap.size, 1, none⟩ (.slice q3 nl c3)).alloc (.cells #[.string tx] 9)) w.heap.size q3 c3 LL) := Lib.hid (V4.out.ext ((Ext.refl _).alloc _))
                  have R5 : Hid (IsA (((w3.setCell ⟨w1.heap.size, 0, none⟩ (.int .u64 (la : Int))).setCell ⟨w1.heap.size, 1, none⟩ (.slice q3 nl c3)).alloc (.cells #[.string tx] 9)) w.heap.size 5 p5 c5 (stV P)) := Lib.hid (U5.out.ext ((Ext.refl _).alloc _))
                  go_wp2_with (first | (refine wpList_append_sl rfl (.tmp 171) (.tmp 173) 45 45 rfl Try.underlying45 infoStr rfl (by decide) rfl HS4.out (txV_one P) _ rfl 1 _ (HRC.out _ (by simp [World.setCell])) hn9 ?_; intro p6 c6 w6 κ6 s6 f6 e6 x6 o6; have HK6 := Lib.hid (keepA_of_fr HS4.out U4.out.low HX5.out.size f6 x6); have T6 : Hid (IsA w6 w.heap.size 9 p6 c6 (txV P ++ [.string tx])) := Lib.hid (isA_grown s6 HNt.out e6 U4.out.low HX5.out.size); have G3b := Lib.hid (G3.out.keepA HK6.out (by decide)); have V6 := Lib.hid (V5.out.keepA HK6.out (by decide)); have R6 := Lib.hid (R5.out.keepA HK6.out (by decide)); have HX6 := Lib.hid (HX5.out.keptA HK6.out); have HS7 : Hid (Sl (w6.alloc (.cells #[.int .u8 1] 5)) (kp p5) 1 1 5 p5 n c5 (stV P)) := Lib.hid (by have := (R6.out.ext ((Ext.refl _).alloc (.cells #[.int .u8 1] 5))).sl; rwa [HNs.out] at this); have HX7 : Hid (Ext w (w6.alloc (.cells #[.int .u8 1] 5))) := Lib.hid (HX6.out.alloc _); have HRS : Hid (Src Try.prog 1 46 (.slice (some ⟨w6.heap.size, 0, none⟩) 1 1) 1 [.int .u8 1] (w6.alloc (.cells #[.int .u8 1] 5))) := Lib.hid (src_u8 _ _ 1 ((Blk.new w6 [.int .u8 1] 5).cell 0 _ rfl)); clear s6 f6 e6 x6 o6) | (refine wpList_append_sl rfl (.tmp 175) (.tmp 177) 46 46 rfl Try.underlying46 info5 rfl (by decide) rfl HS7.out (stV_one P) _ rfl 1 _ HRS.out hn9 ?_; intro p7 c7 w7 κ7 s7 f7 e7 x7 o7; have HK7 := Lib.hid (keepA_of_fr HS7.out R6.out.low HX7.out.size f7 x7); have T7 : Hid (IsA w7 w.heap.size 5 p7 c7 (stV P ++ [.int .u8 1])) := Lib.hid (isA_grown s7 HNs.out e7 R6.out.low HX7.out.size); have G3c := Lib.hid ((G3b.out.alloc _).keepA HK7.out (by decide)); have V7 := Lib.hid ((V6.out.ext ((Ext.refl _).alloc _)).keepA HK7.out (by decide)); have T6b := Lib.hid ((T6.out.ext ((Ext.refl _).alloc _)).keepA HK7.out (by decide)); have HX8 := Lib.hid (HX7.out.keptA HK7.out); clear s7 f7 e7 x7 o7))
                  go_meet
                  exact ⟨n + 1, la, nl, c3, q3, LL, P ++ [(1, tx)], p6, c6, p7, c7, by omega, rfl, rfl, G3c, Lib.hid ⟨V7.out, HNL.out, HMy.out⟩, HSt, Lib.hid (by rw [List.length_append, HNP.out]; rfl), Lib.hid (by rw [show txV (P ++ [(1, tx)]) = txV P ++ [.string tx] by simp [txV]]; exact T6b.out), Lib.hid (by rw [show stV (P ++ [(1, tx)]) = stV P ++ [.int .u8 1] by simp [stV]]; exact T7.out), HX8⟩
            · obtain ⟨er, her, hO⟩ := put_not HC.out.2.2 (by rw [HNW.out]; exact hf)
              obtain ⟨la, hla⟩ : ∃ la, m = la := ⟨_, rfl⟩
              obtain ⟨LL, hLL⟩ : ∃ LL, L = LL := ⟨_, rfl⟩
              obtain ⟨nl, hnl⟩ : ∃ nl, LL.length = nl := ⟨_, rfl⟩
              rw [hla, hLL] at hO
              have hO : putL m L an wt tx = ⟨er, la, LL⟩ := by rw [hla, hLL]; exact hO
              have HSt : Hid (Story la LL P) := Lib.hid (by rw [← hla, ← hLL]; exact HSy.out)
              have HMy : Hid (mayL la LL = true) := Lib.hid (by rw [← hla, ← hLL]; exact HC.out.2.2)
              have hee : ((er : Int) == 0) = false := by have : ¬ (er : Int) = 0 := (by omega); simpa using this
              have HSm : Hid (∀ u q q' c c', VersP u q LL → VersP u q' L → Calls Try.prog 20 #[.agg #[.int .u64 (la : Int), .slice q nl c], .agg #[.int .u64 (m : Int), .slice q' k c']] u fun e w' => e = .returned (.bool true) ∧ Ext u w') := Lib.hid (fun u q q' c c' v v' => by
                have := same_any u la m q q' c c' LL L v v' (by rw [← hLL]; have := (mayL_iff.1 HC.out.2.2).1; omega)
                rw [hnl, HC.out.2.1] at this
                simpa [hla, hLL] using this)
              have HNL := Lib.hid hnl
              have HO := Lib.hid hO
              have HP : Hid (∀ u q c', VersP u q L → Calls Try.prog 21 #[.agg #[.int .u64 (m : Int), .slice q k c'], .bool an, .int .u64 (wt : Int), .string tx] u fun e w' => ∃ q c', e = .returned (.tuple #[.agg #[.int .u64 (la : Int), .slice q nl c'], .int .i64 (er : Int)]) ∧ IsV w' u.heap.size q c' LL ∧ Ext u w') := Lib.hid (fun u q c' v => by
                have := put_any u m q c' L v hkL hmB an wt tx (by omega)
                rw [HO.out, HC.out.2.1] at this
                dsimp only at this
                rwa [HNL.out] at this)
              clear hO hnl hLL hla
              go_upto_region 28 with ((go_at_call 21; refine (HP.out _ _ _ Vc.out.vers).mono ?_; rintro e w3 ⟨q3, c3, rfl, v3, x3⟩; have D3 := Lib.hid (B3c.out.ext x3); have D7 := Lib.hid (A7.out.ext x3); have D8 := Lib.hid (A8.out.ext x3); have HX3 := Lib.hid (HX2.out.trans x3); have V3 : Hid (IsV w3 w.heap.size q3 c3 LL) := Lib.hid (v3.base HX2.out.size); have T4d := Lib.hid (T4c.out.ext x3); have T5d := Lib.hid (T5c.out.ext x3); have b0 := D3.out.cell 0 _ rfl; have b1 := D3.out.cell 1 _ rfl; have bf0 := D3.out.frozen 0; have bf1 := D3.out.frozen 1; have F3 : Hid (Blk ((w3.setCell ⟨w1.heap.size, 0, none⟩ (.int .u64 (la : Int))).setCell ⟨w1.heap.size, 1, none⟩ (.slice q3 nl c3)) w1.heap.size 25 [.int .u64 (la : Int), .slice q3 nl c3]) := Lib.hid ((D3.out.set_ 0 _).set_ 1 _); have F7 := Lib.hid ((D7.out.other (g := w1.heap.size) (by omega) 0 (.int .u64 (la : Int))).other (g := w1.heap.size) (by omega) 1 (.slice q3 nl c3)); have F8 := Lib.hid ((D8.out.other (g := w1.heap.size) (by omega) 0 (.int .u64 (la : Int))).other (g := w1.heap.size) (by omega) 1 (.slice q3 nl c3)); have Vcd := Lib.hid (Vc.out.ext x3); have V4q : Hid (VersP ((w3.setCell ⟨w1.heap.size, 0, none⟩ (.int .u64 (la : Int))).setCell ⟨w1.heap.size, 1, none⟩ (.slice q3 nl c3)) q L) := Lib.hid (((Vcd.out.parted (o := 0) D3.out (by decide) (.int .u64 (la : Int))).parted (o := 1) (D3.out.set_ 0 _) (by decide) (.slice q3 nl c3)).vers); have V4 : Hid (IsV ((w3.setCell ⟨w1.heap.size, 0, none⟩ (.int .u64 (la : Int))).setCell ⟨w1.heap.size, 1, none⟩ (.slice q3 nl c3)) w.heap.size q3 c3 LL) := Lib.hid ((V3.out.parted (o := 0) D3.out (by decide) _).parted (o := 1) (D3.out.set_ 0 _) (by decide) _); have U4 : Hid (IsA ((w3.setCell ⟨w1.heap.size, 0, none⟩ (.int .u64 (la : Int))).setCell ⟨w1.heap.size, 1, none⟩ (.slice q3 nl c3)) w.heap.size 9 p4 c4 (txV P)) := Lib.hid ((T4d.out.parted (o := 0) D3.out (by decide) _).parted (o := 1) (D3.out.set_ 0 _) (by decide) _); have U5 : Hid (IsA ((w3.setCell ⟨w1.heap.size, 0, none⟩ (.int .u64 (la : Int))).setCell ⟨w1.heap.size, 1, none⟩ (.slice q3 nl c3)) w.heap.size 5 p5 c5 (stV P)) := Lib.hid ((T5d.out.parted (o := 0) D3.out (by decide) _).parted (o := 1) (D3.out.set_ 0 _) (by decide) _); have HX4 : Hid (Ext w ((w3.setCell ⟨w1.heap.size, 0, none⟩ (.int .u64 (la : Int))).setCell ⟨w1.heap.size, 1, none⟩ (.slice q3 nl c3))) := Lib.hid ((HX3.out.setCell (p := ⟨w1.heap.size, 0, none⟩) HX1.out.size _).setCell (p := ⟨w1.heap.size, 1, none⟩) HX1.out.size _); have g0 := F7.out.cell 0 _ rfl; have g1 := F7.out.cell 1 _ rfl; have g2 := F7.out.cell 2 _ rfl; have g3 := F7.out.cell 3 _ rfl; have g4 := F7.out.cell 4 _ rfl; have h0 := F3.out.cell 0 _ rfl; have h1 := F3.out.cell 1 _ rfl; have i0 := F8.out.cell 0 _ rfl; have i1 := F8.out.cell 1 _ rfl; clear v3 x3))
              go_cut [12] (fun fv wx => fv = .bool false ∧ ((w3.setCell ⟨w1.heap.size, 0, none⟩ (.int .u64 (la : Int))).setCell ⟨w1.heap.size, 1, none⟩ (.slice q3 nl c3)) = wx)
              case first =>
                as_aux_lemma =>
                  by_cases hz : tx.size ≤ 4096
                  · have hz2 : (tx.size : Int) ≤ 4096 := by omega
                    have han : an = false := by cases an; rfl; exact absurd ⟨.inl rfl, hz⟩ hf
                    have hw : ((wt : Int) == (nw : Int)) = false := by have : ¬ (wt : Int) = (nw : Int) := (by intro h1; exact hf ⟨.inr (by omega), hz⟩); simpa using this
                    clear hf hz
                    subst han
                    go_wp2 <;> (go_meet; exact ⟨rfl, rfl⟩)
                  · have hz2 : ¬ (tx.size : Int) ≤ 4096 := by omega
                    clear hf hz
                    by_cases hwn : wt = nw
                    · have hw : ((wt : Int) == (nw : Int)) = true := by have : (wt : Int) = (nw : Int) := (by omega); simpa using this
                      clear hwn
                      cases an
                      all_goals
                        go_wp2 <;> (go_meet; exact ⟨rfl, rfl⟩)
                    · have hw : ((wt : Int) == (nw : Int)) = false := by have : ¬ (wt : Int) = (nw : Int) := (by omega); simpa using this
                      clear hwn
                      cases an
                      all_goals
                        go_wp2 <;> (go_meet; exact ⟨rfl, rfl⟩)
              case rest =>
                obtain ⟨rfl, rfl⟩ := hcut
                as_aux_lemma =>
                  go_wp2_with ((go_at_call 20; refine (HSm.out _ _ _ _ _ V4.out.vers V4q.out).mono ?_; rintro e w5 ⟨rfl, x5⟩; have G3 := Lib.hid (F3.out.ext x5); have V5 := Lib.hid (V4.out.ext x5); have R4 := Lib.hid (U4.out.ext x5); have R5 := Lib.hid (U5.out.ext x5); have HX5 := Lib.hid (HX4.out.trans x5); clear x5))
                  go_meet
                  exact ⟨n, la, nl, c3, q3, LL, P, p4, c4, p5, c5, by omega, rfl, rfl, G3, Lib.hid ⟨V5.out, HNL.out, HMy.out⟩, HSt, HNP, R4, R5, HX5⟩
          · have hd0 : ((d : Int) == 0) = false := by have : ¬ (d : Int) = 0 := (by omega); simpa using this
            have hd1 : ((d : Int) == 1) = true := by have : (d : Int) = 1 := (by omega); simpa using this
            clear e
            by_cases hf : ((an = true ∨ wt = nw) ∧ nw ≠ 0)
            · obtain ⟨LL, hLL⟩ : ∃ LL, cutL (L ++ [(⟨m + 1, 2, ⟨#[]⟩⟩ : Ver)]) = LL := ⟨_, rfl⟩
              obtain ⟨la, hla⟩ : ∃ la, m + 1 = la := ⟨_, rfl⟩
              obtain ⟨nl, hnl⟩ : ∃ nl, LL.length = nl := ⟨_, rfl⟩
              have hO : delL m L an wt = ⟨0, la, LL⟩ := by rw [← hla, ← hLL]; exact del_fine HC.out.2.2 (by have := HSy.out.last; have := HNP.out; omega) (by rw [← HNW.out] at hf; exact hf)
              have HSt : Hid (Story la LL (P ++ [(2, ⟨#[]⟩)])) := Lib.hid (by rw [← hla, ← hLL]; exact HSy.out.add 2 ⟨#[]⟩ (.inr rfl))
              have HMy : Hid (mayL la LL = true) := Lib.hid (by rw [← hla, ← hLL]; exact (by have h9 := may_act HC.out.2.2 (by have := HSy.out.last; have := HNP.out; omega) 1 an wt 0 ⟨#[]⟩; have e9 : actL m L 1 an wt 0 ⟨#[]⟩ = delL m L an wt := (by simp [actL]); rw [e9, del_fine HC.out.2.2 (by have := HSy.out.last; have := HNP.out; omega) (by rw [← HNW.out] at hf; exact hf)] at h9; exact h9.1))
              have HNL := Lib.hid hnl
              have HO := Lib.hid hO
              have HP : Hid (∀ u q c', VersP u q L → Calls Try.prog 22 #[.agg #[.int .u64 (m : Int), .slice q k c'], .bool an, .int .u64 (wt : Int)] u fun e w' => ∃ q c', e = .returned (.tuple #[.agg #[.int .u64 (la : Int), .slice q nl c'], .int .i64 0]) ∧ IsV w' u.heap.size q c' LL ∧ Ext u w') := Lib.hid (fun u q c' v => by
                have := delV_any u m q c' L v hkL hmB an wt
                rw [HO.out, HC.out.2.1] at this
                dsimp only at this
                rwa [HNL.out] at this)
              clear hO hnl hLL hla
              go_upto_region 28 with ((go_at_call 22; refine (HP.out _ _ _ Vc.out.vers).mono ?_; rintro e w3 ⟨q3, c3, rfl, v3, x3⟩; have D3 := Lib.hid (B3c.out.ext x3); have D7 := Lib.hid (A7.out.ext x3); have D8 := Lib.hid (A8.out.ext x3); have HX3 := Lib.hid (HX2.out.trans x3); have V3 : Hid (IsV w3 w.heap.size q3 c3 LL) := Lib.hid (v3.base HX2.out.size); have T4d := Lib.hid (T4c.out.ext x3); have T5d := Lib.hid (T5c.out.ext x3); have b0 := D3.out.cell 0 _ rfl; have b1 := D3.out.cell 1 _ rfl; have bf0 := D3.out.frozen 0; have bf1 := D3.out.frozen 1; have F3 : Hid (Blk ((w3.setCell ⟨w1.heap.size, 0, none⟩ (.int .u64 (la : Int))).setCell ⟨w1.heap.size, 1, none⟩ (.slice q3 nl c3)) w1.heap.size 25 [.int .u64 (la : Int), .slice q3 nl c3]) := Lib.hid ((D3.out.set_ 0 _).set_ 1 _); have F7 := Lib.hid ((D7.out.other (g := w1.heap.size) (by omega) 0 (.int .u64 (la : Int))).other (g := w1.heap.size) (by omega) 1 (.slice q3 nl c3)); have F8 := Lib.hid ((D8.out.other (g := w1.heap.size) (by omega) 0 (.int .u64 (la : Int))).other (g := w1.heap.size) (by omega) 1 (.slice q3 nl c3)); have Vcd := Lib.hid (Vc.out.ext x3); have V4q : Hid (VersP ((w3.setCell ⟨w1.heap.size, 0, none⟩ (.int .u64 (la : Int))).setCell ⟨w1.heap.size, 1, none⟩ (.slice q3 nl c3)) q L) := Lib.hid (((Vcd.out.parted (o := 0) D3.out (by decide) (.int .u64 (la : Int))).parted (o := 1) (D3.out.set_ 0 _) (by decide) (.slice q3 nl c3)).vers); have V4 : Hid (IsV ((w3.setCell ⟨w1.heap.size, 0, none⟩ (.int .u64 (la : Int))).setCell ⟨w1.heap.size, 1, none⟩ (.slice q3 nl c3)) w.heap.size q3 c3 LL) := Lib.hid ((V3.out.parted (o := 0) D3.out (by decide) _).parted (o := 1) (D3.out.set_ 0 _) (by decide) _); have U4 : Hid (IsA ((w3.setCell ⟨w1.heap.size, 0, none⟩ (.int .u64 (la : Int))).setCell ⟨w1.heap.size, 1, none⟩ (.slice q3 nl c3)) w.heap.size 9 p4 c4 (txV P)) := Lib.hid ((T4d.out.parted (o := 0) D3.out (by decide) _).parted (o := 1) (D3.out.set_ 0 _) (by decide) _); have U5 : Hid (IsA ((w3.setCell ⟨w1.heap.size, 0, none⟩ (.int .u64 (la : Int))).setCell ⟨w1.heap.size, 1, none⟩ (.slice q3 nl c3)) w.heap.size 5 p5 c5 (stV P)) := Lib.hid ((T5d.out.parted (o := 0) D3.out (by decide) _).parted (o := 1) (D3.out.set_ 0 _) (by decide) _); have HX4 : Hid (Ext w ((w3.setCell ⟨w1.heap.size, 0, none⟩ (.int .u64 (la : Int))).setCell ⟨w1.heap.size, 1, none⟩ (.slice q3 nl c3))) := Lib.hid ((HX3.out.setCell (p := ⟨w1.heap.size, 0, none⟩) HX1.out.size _).setCell (p := ⟨w1.heap.size, 1, none⟩) HX1.out.size _); have g0 := F7.out.cell 0 _ rfl; have g1 := F7.out.cell 1 _ rfl; have g2 := F7.out.cell 2 _ rfl; have g3 := F7.out.cell 3 _ rfl; have g4 := F7.out.cell 4 _ rfl; have h0 := F3.out.cell 0 _ rfl; have h1 := F3.out.cell 1 _ rfl; have i0 := F8.out.cell 0 _ rfl; have i1 := F8.out.cell 1 _ rfl; clear v3 x3))
              go_cut [12] (fun fv wx => fv = .bool true ∧ ((w3.setCell ⟨w1.heap.size, 0, none⟩ (.int .u64 (la : Int))).setCell ⟨w1.heap.size, 1, none⟩ (.slice q3 nl c3)) = wx)
              case first =>
                as_aux_lemma =>
                  rcases hf with ⟨ha, hz⟩
                  have hz2 : (0 : Int) < (nw : Int) := by omega
                  have hz3 : 0 < nw := by omega
                  clear hz
                  rcases ha with ha | ha
                  · subst ha
                    go_wp2 <;> (go_meet; exact ⟨rfl, rfl⟩)
                  · have hw : ((wt : Int) == (nw : Int)) = true := by have : (wt : Int) = (nw : Int) := (by omega); simpa using this
                    clear ha
                    cases an
                    all_goals
                      go_wp2 <;> (go_meet; exact ⟨rfl, rfl⟩)
              case rest =>
                obtain ⟨rfl, rfl⟩ := hcut
                as_aux_lemma =>
                  have G3 : Hid (Blk (((w3.setCell ⟨w1.heap.size, 0, none⟩ (.int .u64 (la : Int))).setCell ⟨w1.heap.size, 1, none⟩ (.slice q3 nl c3)).alloc (.cells #[.string ⟨#[]⟩] 9)) w1.heap.size 25 [.int .u64 (la : Int), .slice q3 nl c3]) := Lib.hid (F3.out.alloc _)
                  have HS4 : Hid (Sl (((w3.setCell ⟨w1.heap.size, 0, none⟩ (.int .u64 (la : Int))).setCell ⟨w1.heap.size, 1, none⟩ (.slice q3 nl c3)).alloc (.cells #[.string ⟨#[]⟩] 9)) (kp p4) 1 1 9 p4 n c4 (txV P)) := Lib.hid (by have := (U4.out.ext ((Ext.refl _).alloc (.cells #[.string ⟨#[]⟩] 9))).sl; rwa [HNt.out] at this)
                  have HRC : Hid (∀ g, ((w3.setCell ⟨w1.heap.size, 0, none⟩ (.int .u64 (la : Int))).setCell ⟨w1.heap.size, 1, none⟩ (.slice q3 nl c3)).heap.size = g → Src Try.prog 1 45 (.slice (some ⟨g, 0, none⟩) 1 1) 1 [.string ⟨#[]⟩] (((w3.setCell ⟨w1.heap.size, 0, none⟩ (.int .u64 (la : Int))).setCell ⟨w1.heap.size, 1, none⟩ (.slice q3 nl c3)).alloc (.cells #[.string ⟨#[]⟩] 9))) := Lib.hid (fun g hg => src_text _ _ _ ((Blk.newAt ((w3.setCell ⟨w1.heap.size, 0, none⟩ (.int .u64 (la : Int))).setCell ⟨w1.heap.size, 1, none⟩ (.slice q3 nl c3)) [.string ⟨#[]⟩] 9 g hg).cell 0 _ rfl))
                  have HX5 : Hid (Ext w (((w3.setCell ⟨w1.heap.size, 0, none⟩ (.int .u64 (la : Int))).setCell ⟨w1.heap.size, 1, none⟩ (.slice q3 nl c3)).alloc (.cells #[.string ⟨#[]⟩] 9))) := Lib.hid (HX4.out.alloc _)
                  have V5 : Hid (IsV (((w3.setCell ⟨w1.heap.size, 0, none⟩ (.int .u64 (la : Int))).setCell ⟨w1.heap.size, 1, none⟩ (.slice q3 nl c3)).alloc (.cells #[.string ⟨#[]⟩] 9)) w.heap.size q3 c3 LL) := Lib.hid (V4.out.ext ((Ext.refl _).alloc _))
                  have R5 : Hid (IsA (((w3.setCell ⟨w1.heap.size, 0, none⟩ (.int .u64 (la : Int))).setCell ⟨w1.heap.size, 1, none⟩ (.slice q3 nl c3)).alloc (.cells #[.string ⟨#[]⟩] 9)) w.heap.size 5 p5 c5 (stV P)) := Lib.hid (U5.out.ext ((Ext.refl _).alloc _))
                  go_wp2_with (first | (refine wpList_append_sl rfl (.tmp 171) (.tmp 173) 45 45 rfl Try.underlying45 infoStr rfl (by decide) rfl HS4.out (txV_one P) _ rfl 1 _ (HRC.out _ (by simp [World.setCell])) hn9 ?_; intro p6 c6 w6 κ6 s6 f6 e6 x6 o6; have HK6 := Lib.hid (keepA_of_fr HS4.out U4.out.low HX5.out.size f6 x6); have T6 : Hid (IsA w6 w.heap.size 9 p6 c6 (txV P ++ [.string ⟨#[]⟩])) := Lib.hid (isA_grown s6 HNt.out e6 U4.out.low HX5.out.size); have G3b := Lib.hid (G3.out.keepA HK6.out (by decide)); have V6 := Lib.hid (V5.out.keepA HK6.out (by decide)); have R6 := Lib.hid (R5.out.keepA HK6.out (by decide)); have HX6 := Lib.hid (HX5.out.keptA HK6.out); have HS7 : Hid (Sl (w6.alloc (.cells #[.int .u8 2] 5)) (kp p5) 1 1 5 p5 n c5 (stV P)) := Lib.hid (by have := (R6.out.ext ((Ext.refl _).alloc (.cells #[.int .u8 2] 5))).sl; rwa [HNs.out] at this); have HX7 : Hid (Ext w (w6.alloc (.cells #[.int .u8 2] 5))) := Lib.hid (HX6.out.alloc _); have HRS : Hid (Src Try.prog 1 46 (.slice (some ⟨w6.heap.size, 0, none⟩) 1 1) 1 [.int .u8 2] (w6.alloc (.cells #[.int .u8 2] 5))) := Lib.hid (src_u8 _ _ 2 ((Blk.new w6 [.int .u8 2] 5).cell 0 _ rfl)); clear s6 f6 e6 x6 o6) | (refine wpList_append_sl rfl (.tmp 175) (.tmp 177) 46 46 rfl Try.underlying46 info5 rfl (by decide) rfl HS7.out (stV_one P) _ rfl 1 _ HRS.out hn9 ?_; intro p7 c7 w7 κ7 s7 f7 e7 x7 o7; have HK7 := Lib.hid (keepA_of_fr HS7.out R6.out.low HX7.out.size f7 x7); have T7 : Hid (IsA w7 w.heap.size 5 p7 c7 (stV P ++ [.int .u8 2])) := Lib.hid (isA_grown s7 HNs.out e7 R6.out.low HX7.out.size); have G3c := Lib.hid ((G3b.out.alloc _).keepA HK7.out (by decide)); have V7 := Lib.hid ((V6.out.ext ((Ext.refl _).alloc _)).keepA HK7.out (by decide)); have T6b := Lib.hid ((T6.out.ext ((Ext.refl _).alloc _)).keepA HK7.out (by decide)); have HX8 := Lib.hid (HX7.out.keptA HK7.out); clear s7 f7 e7 x7 o7))
                  go_meet
                  exact ⟨n + 1, la, nl, c3, q3, LL, P ++ [(2, ⟨#[]⟩)], p6, c6, p7, c7, by omega, rfl, rfl, G3c, Lib.hid ⟨V7.out, HNL.out, HMy.out⟩, HSt, Lib.hid (by rw [List.length_append, HNP.out]; rfl), Lib.hid (by rw [show txV (P ++ [(2, ⟨#[]⟩)]) = txV P ++ [.string ⟨#[]⟩] by simp [txV]]; exact T6b.out), Lib.hid (by rw [show stV (P ++ [(2, ⟨#[]⟩)]) = stV P ++ [.int .u8 2] by simp [stV]]; exact T7.out), HX8⟩
            · obtain ⟨er, her, hO⟩ := del_not HC.out.2.2 (by rw [HNW.out]; exact hf)
              obtain ⟨la, hla⟩ : ∃ la, m = la := ⟨_, rfl⟩
              obtain ⟨LL, hLL⟩ : ∃ LL, L = LL := ⟨_, rfl⟩
              obtain ⟨nl, hnl⟩ : ∃ nl, LL.length = nl := ⟨_, rfl⟩
              rw [hla, hLL] at hO
              have hO : delL m L an wt = ⟨er, la, LL⟩ := by rw [hla, hLL]; exact hO
              have HSt : Hid (Story la LL P) := Lib.hid (by rw [← hla, ← hLL]; exact HSy.out)
              have HMy : Hid (mayL la LL = true) := Lib.hid (by rw [← hla, ← hLL]; exact HC.out.2.2)
              have hee : ((er : Int) == 0) = false := by have : ¬ (er : Int) = 0 := (by omega); simpa using this
              have HSm : Hid (∀ u q q' c c', VersP u q LL → VersP u q' L → Calls Try.prog 20 #[.agg #[.int .u64 (la : Int), .slice q nl c], .agg #[.int .u64 (m : Int), .slice q' k c']] u fun e w' => e = .returned (.bool true) ∧ Ext u w') := Lib.hid (fun u q q' c c' v v' => by
                have := same_any u la m q q' c c' LL L v v' (by rw [← hLL]; have := (mayL_iff.1 HC.out.2.2).1; omega)
                rw [hnl, HC.out.2.1] at this
                simpa [hla, hLL] using this)
              have HNL := Lib.hid hnl
              have HO := Lib.hid hO
              have HP : Hid (∀ u q c', VersP u q L → Calls Try.prog 22 #[.agg #[.int .u64 (m : Int), .slice q k c'], .bool an, .int .u64 (wt : Int)] u fun e w' => ∃ q c', e = .returned (.tuple #[.agg #[.int .u64 (la : Int), .slice q nl c'], .int .i64 (er : Int)]) ∧ IsV w' u.heap.size q c' LL ∧ Ext u w') := Lib.hid (fun u q c' v => by
                have := delV_any u m q c' L v hkL hmB an wt
                rw [HO.out, HC.out.2.1] at this
                dsimp only at this
                rwa [HNL.out] at this)
              clear hO hnl hLL hla
              go_upto_region 28 with ((go_at_call 22; refine (HP.out _ _ _ Vc.out.vers).mono ?_; rintro e w3 ⟨q3, c3, rfl, v3, x3⟩; have D3 := Lib.hid (B3c.out.ext x3); have D7 := Lib.hid (A7.out.ext x3); have D8 := Lib.hid (A8.out.ext x3); have HX3 := Lib.hid (HX2.out.trans x3); have V3 : Hid (IsV w3 w.heap.size q3 c3 LL) := Lib.hid (v3.base HX2.out.size); have T4d := Lib.hid (T4c.out.ext x3); have T5d := Lib.hid (T5c.out.ext x3); have b0 := D3.out.cell 0 _ rfl; have b1 := D3.out.cell 1 _ rfl; have bf0 := D3.out.frozen 0; have bf1 := D3.out.frozen 1; have F3 : Hid (Blk ((w3.setCell ⟨w1.heap.size, 0, none⟩ (.int .u64 (la : Int))).setCell ⟨w1.heap.size, 1, none⟩ (.slice q3 nl c3)) w1.heap.size 25 [.int .u64 (la : Int), .slice q3 nl c3]) := Lib.hid ((D3.out.set_ 0 _).set_ 1 _); have F7 := Lib.hid ((D7.out.other (g := w1.heap.size) (by omega) 0 (.int .u64 (la : Int))).other (g := w1.heap.size) (by omega) 1 (.slice q3 nl c3)); have F8 := Lib.hid ((D8.out.other (g := w1.heap.size) (by omega) 0 (.int .u64 (la : Int))).other (g := w1.heap.size) (by omega) 1 (.slice q3 nl c3)); have Vcd := Lib.hid (Vc.out.ext x3); have V4q : Hid (VersP ((w3.setCell ⟨w1.heap.size, 0, none⟩ (.int .u64 (la : Int))).setCell ⟨w1.heap.size, 1, none⟩ (.slice q3 nl c3)) q L) := Lib.hid (((Vcd.out.parted (o := 0) D3.out (by decide) (.int .u64 (la : Int))).parted (o := 1) (D3.out.set_ 0 _) (by decide) (.slice q3 nl c3)).vers); have V4 : Hid (IsV ((w3.setCell ⟨w1.heap.size, 0, none⟩ (.int .u64 (la : Int))).setCell ⟨w1.heap.size, 1, none⟩ (.slice q3 nl c3)) w.heap.size q3 c3 LL) := Lib.hid ((V3.out.parted (o := 0) D3.out (by decide) _).parted (o := 1) (D3.out.set_ 0 _) (by decide) _); have U4 : Hid (IsA ((w3.setCell ⟨w1.heap.size, 0, none⟩ (.int .u64 (la : Int))).setCell ⟨w1.heap.size, 1, none⟩ (.slice q3 nl c3)) w.heap.size 9 p4 c4 (txV P)) := Lib.hid ((T4d.out.parted (o := 0) D3.out (by decide) _).parted (o := 1) (D3.out.set_ 0 _) (by decide) _); have U5 : Hid (IsA ((w3.setCell ⟨w1.heap.size, 0, none⟩ (.int .u64 (la : Int))).setCell ⟨w1.heap.size, 1, none⟩ (.slice q3 nl c3)) w.heap.size 5 p5 c5 (stV P)) := Lib.hid ((T5d.out.parted (o := 0) D3.out (by decide) _).parted (o := 1) (D3.out.set_ 0 _) (by decide) _); have HX4 : Hid (Ext w ((w3.setCell ⟨w1.heap.size, 0, none⟩ (.int .u64 (la : Int))).setCell ⟨w1.heap.size, 1, none⟩ (.slice q3 nl c3))) := Lib.hid ((HX3.out.setCell (p := ⟨w1.heap.size, 0, none⟩) HX1.out.size _).setCell (p := ⟨w1.heap.size, 1, none⟩) HX1.out.size _); have g0 := F7.out.cell 0 _ rfl; have g1 := F7.out.cell 1 _ rfl; have g2 := F7.out.cell 2 _ rfl; have g3 := F7.out.cell 3 _ rfl; have g4 := F7.out.cell 4 _ rfl; have h0 := F3.out.cell 0 _ rfl; have h1 := F3.out.cell 1 _ rfl; have i0 := F8.out.cell 0 _ rfl; have i1 := F8.out.cell 1 _ rfl; clear v3 x3))
              go_cut [12] (fun fv wx => fv = .bool false ∧ ((w3.setCell ⟨w1.heap.size, 0, none⟩ (.int .u64 (la : Int))).setCell ⟨w1.heap.size, 1, none⟩ (.slice q3 nl c3)) = wx)
              case first =>
                as_aux_lemma =>
                  by_cases hz : nw = 0
                  · have hz2 : decide ((0 : Int) < (nw : Int)) = false := by simp; omega
                    by_cases hwn : wt = nw
                    · have hw : ((wt : Int) == (nw : Int)) = true := by have : (wt : Int) = (nw : Int) := (by omega); simpa using this
                      clear hwn hf
                      subst hz
                      cases an
                      all_goals
                        go_wp2 <;> (go_meet; exact ⟨rfl, rfl⟩)
                    · have hw : ((wt : Int) == (nw : Int)) = false := by have : ¬ (wt : Int) = (nw : Int) := (by omega); simpa using this
                      clear hwn hf
                      subst hz
                      cases an
                      all_goals
                        go_wp2 <;> (go_meet; exact ⟨rfl, rfl⟩)
                  · have hz2 : (0 : Int) < (nw : Int) := by omega
                    have han : an = false := by cases an; rfl; exact absurd ⟨.inl rfl, hz⟩ hf
                    have hw : ((wt : Int) == (nw : Int)) = false := by have : ¬ (wt : Int) = (nw : Int) := (by intro h1; exact hf ⟨.inr (by omega), hz⟩); simpa using this
                    clear hf hz
                    subst han
                    go_wp2 <;> (go_meet; exact ⟨rfl, rfl⟩)
              case rest =>
                obtain ⟨rfl, rfl⟩ := hcut
                as_aux_lemma =>
                  go_wp2_with ((go_at_call 20; refine (HSm.out _ _ _ _ _ V4.out.vers V4q.out).mono ?_; rintro e w5 ⟨rfl, x5⟩; have G3 := Lib.hid (F3.out.ext x5); have V5 := Lib.hid (V4.out.ext x5); have R4 := Lib.hid (U4.out.ext x5); have R5 := Lib.hid (U5.out.ext x5); have HX5 := Lib.hid (HX4.out.trans x5); clear x5))
                  go_meet
                  exact ⟨n, la, nl, c3, q3, LL, P, p4, c4, p5, c5, by omega, rfl, rfl, G3, Lib.hid ⟨V5.out, HNL.out, HMy.out⟩, HSt, HNP, R4, R5, HX5⟩
          · have hd0 : ((d : Int) == 0) = false := by have : ¬ (d : Int) = 0 := (by omega); simpa using this
            have hd1 : ((d : Int) == 1) = false := by have : ¬ (d : Int) = 1 := (by omega); simpa using this
            have hwu : IntKind.u64.wrap (n : Int) = (n : Int) := IntWalk.u64_in _ ⟨by omega, by omega⟩
            have hw8 : IntKind.i64.wrap ((n : Int) - 8) = (n : Int) - 8 := IntWalk.i64_in _ ⟨by omega, by omega⟩
            clear e
            by_cases hkept : 1 ≤ xn ∧ xn ≤ n ∧ n ≤ xn + 7
            · obtain ⟨kk, hxk⟩ : ∃ kk, xn = kk + 1 := ⟨xn - 1, by omega⟩
              have hkn : kk < n := by omega
              have h8 : n ≤ kk + 8 := by omega
              have hz1 : IntKind.i64.wrap (xn : Int) = (xn : Int) := IntWalk.i64_in _ ⟨by omega, by omega⟩
              have hz2 : IntKind.i64.wrap ((xn : Int) - 1) = (kk : Int) := by rw [hxk]; have : (((kk + 1 : Nat) : Int) - 1) = (kk : Int) := (by omega); rw [this]; exact IntWalk.i64_in _ ⟨by omega, by omega⟩
              have hp0 : 0 < xn := by omega
              have hle : xn ≤ n := by omega
              have hleI : (xn : Int) ≤ (n : Int) := by omega
              have hge : (n : Int) - 8 ≤ (kk : Int) := by omega
              have hkk0 : (0 : Int) ≤ (kk : Int) := by omega
              have hkkn : (kk : Int) < (n : Int) := by omega
              obtain ⟨⟨s, t⟩, hPk⟩ : ∃ x, P[kk]? = some x := ⟨_, List.getElem?_eq_getElem (by rw [HNP.out]; exact hkn)⟩
              have hkP : kk < (stV P).length := by simp [stV]; rw [HNP.out]; exact hkn
              by_cases hs : s = 1
              · subst hs
                obtain ⟨LL, hLL⟩ : ∃ LL, L.set (kk - (P.length - 8)) ⟨kk + 1, 3, ⟨#[]⟩⟩ = LL := ⟨_, rfl⟩
                obtain ⟨nl, hnl⟩ : ∃ nl, LL.length = nl := ⟨_, rfl⟩
                have hO : desL m L xn = ⟨0, m, LL⟩ := by rw [← hLL, hxk]; simp only [desL]; rw [HSy.out.find HC.out.2.2 hPk (by rw [HNP.out]; exact h8)]; rfl
                have HSt : Hid (Story m LL (P.set kk (3, t))) := Lib.hid (by rw [← hLL]; exact HSy.out.die hPk (by rw [HNP.out]; exact h8))
                have HNq : Hid ((P.set kk (3, t)).length = n) := Lib.hid (by rw [List.length_set]; exact HNP.out)
                clear hLL
                have HNL := Lib.hid hnl
                have HO := Lib.hid hO
                have HP : Hid (∀ u q c', VersP u q L → Calls Try.prog 23 #[.agg #[.int .u64 (m : Int), .slice q k c'], .int .u64 (xn : Int)] u fun e w' => ∃ q c', e = .returned (.tuple #[.agg #[.int .u64 (m : Int), .slice q nl c'], .int .i64 0]) ∧ IsV w' u.heap.size q c' LL ∧ Ext u w') := Lib.hid (fun u q c' v => by
                  have := des_any u m q c' L v hkL xn
                  rw [HO.out, HC.out.2.1] at this
                  dsimp only at this
                  rwa [HNL.out] at this)
                have HMy : Hid (mayL m LL = true) := Lib.hid (by have h9 := may_act HC.out.2.2 hmB 2 an wt xn ⟨#[]⟩; have e9 : actL m L 2 an wt xn ⟨#[]⟩ = desL m L xn := (by simp [actL]); rw [e9, hO] at h9; exact h9.1)
                clear hO hnl
                obtain ⟨g5, e5, hlt5, -, q0, qf0⟩ := T5c.out.sl.cell (stV_get hPk)
                obtain rfl : p5 = some ⟨g5, 0, none⟩ := e5
                have HPk := Lib.hid hPk
                clear q0 qf0 hPk hxk
                go_upto_region 15 with ((go_at_call 23; refine (HP.out _ _ _ Vc.out.vers).mono ?_; rintro e w3 ⟨q3, c3, rfl, v3, x3⟩; have HE3 : Ext w2 (w3.alloc (.cells #[.int .u64 (m : Int), .slice q3 nl c3] 25)) := x3.alloc _; have D3 := Lib.hid (B3c.out.ext HE3); have D7 := Lib.hid (A7.out.ext HE3); have D15 : Hid (Blk (w3.alloc (.cells #[.int .u64 (m : Int), .slice q3 nl c3] 25)) w3.heap.size 25 [.int .u64 (m : Int), .slice q3 nl c3]) := Lib.hid (Blk.new w3 [.int .u64 (m : Int), .slice q3 nl c3] 25); have HX3 := Lib.hid (HX2.out.trans HE3); have V3 : Hid (IsV (w3.alloc (.cells #[.int .u64 (m : Int), .slice q3 nl c3] 25)) w.heap.size q3 c3 LL) := Lib.hid ((v3.base HX2.out.size).ext ((Ext.refl _).alloc _)); have T4d := Lib.hid (T4c.out.ext HE3); have T5d := Lib.hid (T5c.out.ext HE3); have hs23 : w2.heap.size ≤ w3.heap.size := x3.size; have b0 := D3.out.cell 0 _ rfl; have b1 := D3.out.cell 1 _ rfl; have bf0 := D3.out.frozen 0; have bf1 := D3.out.frozen 1; have a0 := D7.out.cell 0 _ rfl; have a1 := D7.out.cell 1 _ rfl; have a2 := D7.out.cell 2 _ rfl; have a3 := D7.out.cell 3 _ rfl; have a4 := D7.out.cell 4 _ rfl; have e0 := D15.out.cell 0 _ rfl; have e1 := D15.out.cell 1 _ rfl; clear v3 x3 HE3))
                go_cut [18] (fun fv wx => fv = .bool true ∧ (w3.alloc (.cells #[.int .u64 (m : Int), .slice q3 nl c3] 25)) = wx)
                case first =>
                  as_aux_lemma =>
                    go_wp2
                    go_meet
                    exact ⟨rfl, rfl⟩
                case rest =>
                  obtain ⟨rfl, rfl⟩ := hcut
                  as_aux_lemma =>
                    obtain ⟨g5', e5', -, y0, yf0⟩ := T5d.out.at_ (stV_get HPk.out)
                    cases e5'
                    obtain ⟨T5p, k5⟩ := T5d.out.put (i := kk) (by simp [stV]; rw [HNP.out]; exact hkn) (.int .u8 3)
                    have E3x := Lib.hid (D3.out.keepA k5 (by decide))
                    have E15 := Lib.hid (D15.out.keepA k5 (by decide))
                    have Vx := Lib.hid (V3.out.keepA k5 (by decide))
                    have T4x := Lib.hid (T4d.out.keepA k5 (by decide))
                    have T5x : Hid (IsA _ w.heap.size 5 (some ⟨g5, 0, none⟩) c5 (stV (P.set kk (3, t)))) := Lib.hid (by rw [stV_set]; exact T5p)
                    have T4y := T4x
                    have HXx := Lib.hid (HX3.out.keptA k5)
                    have n1 : ¬ g5 = w3.heap.size := by omega
                    have n1' : ¬ w3.heap.size = g5 := by omega
                    have n2 : ¬ g5 = w1.heap.size := fun h1 => blk_clash T5d.out hkP (by rw [h1]; exact D3.out) (by decide)
                    have n2' : ¬ w1.heap.size = g5 := fun h1 => n2 h1.symm
                    clear k5 T5p
                    go_wp2
                    go_meet
                    exact ⟨n, m, nl, c3, q3, LL, P.set kk (3, t), p4, c4, some ⟨g5, 0, none⟩, c5, by omega, rfl, rfl, Lib.hid ((E3x.out.set_ 0 _).set_ 1 _), Lib.hid ⟨(Vx.out.parted (o := 0) E3x.out (by decide) _).parted (o := 1) (E3x.out.set_ 0 _) (by decide) _, HNL.out, HMy.out⟩, HSt, HNq, Lib.hid (by rw [txV_set HPk.out]; exact (T4x.out.parted (o := 0) E3x.out (by decide) _).parted (o := 1) (E3x.out.set_ 0 _) (by decide) _), Lib.hid ((T5x.out.parted (o := 0) E3x.out (by decide) _).parted (o := 1) (E3x.out.set_ 0 _) (by decide) _), Lib.hid ((HXx.out.setCell (p := ⟨w1.heap.size, 0, none⟩) HX1.out.size _).setCell (p := ⟨w1.heap.size, 1, none⟩) HX1.out.size _)⟩
              · obtain ⟨LL, hLL⟩ : ∃ LL, L = LL := ⟨_, rfl⟩
                obtain ⟨nl, hnl⟩ : ∃ nl, LL.length = nl := ⟨_, rfl⟩
                have hO : desL m L xn = ⟨171, m, LL⟩ := by rw [← hLL, hxk]; simp only [desL]; rw [HSy.out.find HC.out.2.2 hPk (by rw [HNP.out]; exact h8), if_neg hs]; rfl
                have HSt : Hid (Story m LL P) := Lib.hid (by rw [← hLL]; exact HSy.out)
                have HNq := HNP
                clear hLL
                have HNL := Lib.hid hnl
                have HO := Lib.hid hO
                have HP : Hid (∀ u q c', VersP u q L → Calls Try.prog 23 #[.agg #[.int .u64 (m : Int), .slice q k c'], .int .u64 (xn : Int)] u fun e w' => ∃ q c', e = .returned (.tuple #[.agg #[.int .u64 (m : Int), .slice q nl c'], .int .i64 171]) ∧ IsV w' u.heap.size q c' LL ∧ Ext u w') := Lib.hid (fun u q c' v => by
                  have := des_any u m q c' L v hkL xn
                  rw [HO.out, HC.out.2.1] at this
                  dsimp only at this
                  rwa [HNL.out] at this)
                have HMy : Hid (mayL m LL = true) := Lib.hid (by have h9 := may_act HC.out.2.2 hmB 2 an wt xn ⟨#[]⟩; have e9 : actL m L 2 an wt xn ⟨#[]⟩ = desL m L xn := (by simp [actL]); rw [e9, hO] at h9; exact h9.1)
                clear hO hnl
                obtain ⟨g5, e5, hlt5, -, q0, qf0⟩ := T5c.out.sl.cell (stV_get hPk)
                obtain rfl : p5 = some ⟨g5, 0, none⟩ := e5
                have HPk := Lib.hid hPk
                clear q0 qf0 hPk hxk
                go_upto_region 15 with ((go_at_call 23; refine (HP.out _ _ _ Vc.out.vers).mono ?_; rintro e w3 ⟨q3, c3, rfl, v3, x3⟩; have HE3 : Ext w2 (w3.alloc (.cells #[.int .u64 (m : Int), .slice q3 nl c3] 25)) := x3.alloc _; have D3 := Lib.hid (B3c.out.ext HE3); have D7 := Lib.hid (A7.out.ext HE3); have D15 : Hid (Blk (w3.alloc (.cells #[.int .u64 (m : Int), .slice q3 nl c3] 25)) w3.heap.size 25 [.int .u64 (m : Int), .slice q3 nl c3]) := Lib.hid (Blk.new w3 [.int .u64 (m : Int), .slice q3 nl c3] 25); have HX3 := Lib.hid (HX2.out.trans HE3); have V3 : Hid (IsV (w3.alloc (.cells #[.int .u64 (m : Int), .slice q3 nl c3] 25)) w.heap.size q3 c3 LL) := Lib.hid ((v3.base HX2.out.size).ext ((Ext.refl _).alloc _)); have T4d := Lib.hid (T4c.out.ext HE3); have T5d := Lib.hid (T5c.out.ext HE3); have hs23 : w2.heap.size ≤ w3.heap.size := x3.size; have b0 := D3.out.cell 0 _ rfl; have b1 := D3.out.cell 1 _ rfl; have bf0 := D3.out.frozen 0; have bf1 := D3.out.frozen 1; have a0 := D7.out.cell 0 _ rfl; have a1 := D7.out.cell 1 _ rfl; have a2 := D7.out.cell 2 _ rfl; have a3 := D7.out.cell 3 _ rfl; have a4 := D7.out.cell 4 _ rfl; have e0 := D15.out.cell 0 _ rfl; have e1 := D15.out.cell 1 _ rfl; clear v3 x3 HE3))
                go_cut [18] (fun fv wx => fv = .bool true ∧ (w3.alloc (.cells #[.int .u64 (m : Int), .slice q3 nl c3] 25)) = wx)
                case first =>
                  as_aux_lemma =>
                    go_wp2
                    go_meet
                    exact ⟨rfl, rfl⟩
                case rest =>
                  obtain ⟨rfl, rfl⟩ := hcut
                  as_aux_lemma =>
                    obtain ⟨g5', e5', -, y0, yf0⟩ := T5d.out.at_ (stV_get HPk.out)
                    cases e5'
                    have hss : ((s : Int) == 1) = false := by have : ¬ (s : Int) = 1 := (by omega); simpa using this
                    have E3x := D3
                    have Vx := V3
                    have T4x := T4d
                    have T5x := T5d
                    have HXx := HX3
                    go_wp2
                    go_meet
                    exact ⟨n, m, nl, c3, q3, LL, P, p4, c4, some ⟨g5, 0, none⟩, c5, by omega, rfl, rfl, Lib.hid ((E3x.out.set_ 0 _).set_ 1 _), Lib.hid ⟨(Vx.out.parted (o := 0) E3x.out (by decide) _).parted (o := 1) (E3x.out.set_ 0 _) (by decide) _, HNL.out, HMy.out⟩, HSt, HNq, Lib.hid ((T4x.out.parted (o := 0) E3x.out (by decide) _).parted (o := 1) (E3x.out.set_ 0 _) (by decide) _), Lib.hid ((T5x.out.parted (o := 0) E3x.out (by decide) _).parted (o := 1) (E3x.out.set_ 0 _) (by decide) _), Lib.hid ((HXx.out.setCell (p := ⟨w1.heap.size, 0, none⟩) HX1.out.size _).setCell (p := ⟨w1.heap.size, 1, none⟩) HX1.out.size _)⟩
            · have hno : xn = 0 ∨ n < xn ∨ (0 < xn ∧ xn + 7 < n) := by omega
              obtain ⟨z1, hz1⟩ : ∃ z1, IntKind.i64.wrap (xn : Int) = z1 := ⟨_, rfl⟩
              obtain ⟨z2, hz2⟩ : ∃ z2, IntKind.i64.wrap (z1 - 1) = z2 := ⟨_, rfl⟩
              have HZ2 : Hid (0 < xn → xn ≤ n → z2 = (xn : Int) - 1) := Lib.hid (fun h1 h2 => by rw [← hz2, ← hz1, show IntKind.i64.wrap (xn : Int) = (xn : Int) from IntWalk.i64_in _ ⟨by omega, by omega⟩]; exact IntWalk.i64_in _ ⟨by omega, by omega⟩)
              clear hkept
              obtain ⟨LL, hLL⟩ : ∃ LL, L = LL := ⟨_, rfl⟩
              obtain ⟨nl, hnl⟩ : ∃ nl, LL.length = nl := ⟨_, rfl⟩
              have hO : desL m L xn = ⟨3, m, LL⟩ := by rw [← hLL]; simp only [desL]; rw [HSy.out.out HC.out.2.2 (by rw [HNP.out]; omega)]; rfl
              have HSt : Hid (Story m LL P) := Lib.hid (by rw [← hLL]; exact HSy.out)
              have HNq := HNP
              clear hLL
              have HNL := Lib.hid hnl
              have HO := Lib.hid hO
              have HP : Hid (∀ u q c', VersP u q L → Calls Try.prog 23 #[.agg #[.int .u64 (m : Int), .slice q k c'], .int .u64 (xn : Int)] u fun e w' => ∃ q c', e = .returned (.tuple #[.agg #[.int .u64 (m : Int), .slice q nl c'], .int .i64 3]) ∧ IsV w' u.heap.size q c' LL ∧ Ext u w') := Lib.hid (fun u q c' v => by
                have := des_any u m q c' L v hkL xn
                rw [HO.out, HC.out.2.1] at this
                dsimp only at this
                rwa [HNL.out] at this)
              have HMy : Hid (mayL m LL = true) := Lib.hid (by have h9 := may_act HC.out.2.2 hmB 2 an wt xn ⟨#[]⟩; have e9 : actL m L 2 an wt xn ⟨#[]⟩ = desL m L xn := (by simp [actL]); rw [e9, hO] at h9; exact h9.1)
              clear hO hnl
              go_upto_region 15 with ((go_at_call 23; refine (HP.out _ _ _ Vc.out.vers).mono ?_; rintro e w3 ⟨q3, c3, rfl, v3, x3⟩; have HE3 : Ext w2 (w3.alloc (.cells #[.int .u64 (m : Int), .slice q3 nl c3] 25)) := x3.alloc _; have D3 := Lib.hid (B3c.out.ext HE3); have D7 := Lib.hid (A7.out.ext HE3); have D15 : Hid (Blk (w3.alloc (.cells #[.int .u64 (m : Int), .slice q3 nl c3] 25)) w3.heap.size 25 [.int .u64 (m : Int), .slice q3 nl c3]) := Lib.hid (Blk.new w3 [.int .u64 (m : Int), .slice q3 nl c3] 25); have HX3 := Lib.hid (HX2.out.trans HE3); have V3 : Hid (IsV (w3.alloc (.cells #[.int .u64 (m : Int), .slice q3 nl c3] 25)) w.heap.size q3 c3 LL) := Lib.hid ((v3.base HX2.out.size).ext ((Ext.refl _).alloc _)); have T4d := Lib.hid (T4c.out.ext HE3); have T5d := Lib.hid (T5c.out.ext HE3); have hs23 : w2.heap.size ≤ w3.heap.size := x3.size; have b0 := D3.out.cell 0 _ rfl; have b1 := D3.out.cell 1 _ rfl; have bf0 := D3.out.frozen 0; have bf1 := D3.out.frozen 1; have a0 := D7.out.cell 0 _ rfl; have a1 := D7.out.cell 1 _ rfl; have a2 := D7.out.cell 2 _ rfl; have a3 := D7.out.cell 3 _ rfl; have a4 := D7.out.cell 4 _ rfl; have e0 := D15.out.cell 0 _ rfl; have e1 := D15.out.cell 1 _ rfl; clear v3 x3 HE3))
              go_cut [18] (fun fv wx => fv = .bool false ∧ (w3.alloc (.cells #[.int .u64 (m : Int), .slice q3 nl c3] 25)) = wx)
              case first =>
                as_aux_lemma =>
                  rcases hno with h0 | h0 | ⟨hp0, h0⟩
                  · subst h0
                    go_wp2 <;> (go_meet; exact ⟨rfl, rfl⟩)
                  · have hp0 : 0 < xn := by omega
                    have hle : ¬ xn ≤ n := by omega
                    have hleI : ¬ (xn : Int) ≤ (n : Int) := by omega
                    go_wp2 <;> (go_meet; exact ⟨rfl, rfl⟩)
                  · have hle : xn ≤ n := by omega
                    have hleI : (xn : Int) ≤ (n : Int) := by omega
                    have hz3 : ¬ ((n : Int) - 8 ≤ z2) := by have := HZ2.out hp0 hle; omega
                    go_wp2 <;> (go_meet; exact ⟨rfl, rfl⟩)
              case rest =>
                obtain ⟨rfl, rfl⟩ := hcut
                as_aux_lemma =>
                  have E3x := D3
                  have Vx := V3
                  have T4x := T4d
                  have T5x := T5d
                  have HXx := HX3
                  go_wp2
                  go_meet
                  exact ⟨n, m, nl, c3, q3, LL, P, p4, c4, p5, c5, by omega, rfl, rfl, Lib.hid ((E3x.out.set_ 0 _).set_ 1 _), Lib.hid ⟨(Vx.out.parted (o := 0) E3x.out (by decide) _).parted (o := 1) (E3x.out.set_ 0 _) (by decide) _, HNL.out, HMy.out⟩, HSt, HNq, Lib.hid ((T4x.out.parted (o := 0) E3x.out (by decide) _).parted (o := 1) (E3x.out.set_ 0 _) (by decide) _), Lib.hid ((T5x.out.parted (o := 0) E3x.out (by decide) _).parted (o := 1) (E3x.out.set_ 0 _) (by decide) _), Lib.hid ((HXx.out.setCell (p := ⟨w1.heap.size, 0, none⟩) HX1.out.size _).setCell (p := ⟨w1.heap.size, 1, none⟩) HX1.out.size _)⟩
        case rest =>
          as_aux_lemma =>
            obtain ⟨n', m', k', c', q', L', P', p4', c4', p5', c5', hn1, rfl, rfl, B3r, HCr, HSr, HNr, T4r, T5r, HXr⟩ := hcut
            have r0 := B3r.out.cell 0 _ rfl
            have hwu : IntKind.u64.wrap (n' : Int) = (n' : Int) := IntWalk.u64_in _ ⟨by omega, by omega⟩
            have hw8 : IntKind.i64.wrap ((n' : Int) - 8) = (n' : Int) - 8 := IntWalk.i64_in _ ⟨by omega, by omega⟩
            have hmn : ((m' : Int) != (n' : Int)) = false := by have h1 := HSr.out.last; have h2 := HNr.out; have : (m' : Int) = (n' : Int) := (by omega); simpa using this
            go_wp2
            go_loopw [19] (fun kv wy => ∃ kk : Nat, kk ≤ n' ∧ kv = .int .i64 (kk : Int) ∧ Hid (Ext wc wy)) (fun kv _ => n' - (intOf kv).toNat)
            case atStart => exact ⟨0, Nat.zero_le _, rfl, Lib.hid (Ext.refl _)⟩
            case round =>
              obtain ⟨kk, hkk, rfl, HXk⟩ := hrel
              by_cases hlk : kk < n'
              · have hlkI : (kk : Int) < (n' : Int) := by omega
                have hk0 : (0 : Int) ≤ (kk : Int) := by omega
                obtain ⟨⟨s, t⟩, hPk⟩ : ∃ x, P'[kk]? = some x := ⟨_, List.getElem?_eq_getElem (by rw [HNr.out]; exact hlk)⟩
                obtain ⟨g4, rfl, -, y4, -⟩ := T4r.out.at_ (txV_get hPk)
                obtain ⟨g5, rfl, -, y5, -⟩ := T5r.out.at_ (stV_get hPk)
                have HPk := Lib.hid hPk
                have s0 := (B3r.out.ext HXk.out).cell 0 _ rfl
                have s1 := (B3r.out.ext HXk.out).cell 1 _ rfl
                obtain ⟨k1, hk1⟩ : ∃ k1, kk + 1 = k1 := ⟨_, rfl⟩
                have hw1 : IntKind.i64.wrap ((kk : Int) + 1) = (k1 : Int) := by rw [← hk1]; exact IntWalk.i64_in _ ⟨by omega, by omega⟩
                have hw2 : IntKind.u64.wrap (k1 : Int) = (k1 : Int) := IntWalk.u64_in _ ⟨by omega, by omega⟩
                obtain ⟨⟨re, rn, rs, rt⟩, hRL⟩ : ∃ r, readL m' L' k1 = r := ⟨_, rfl⟩
                have HRL := Lib.hid hRL
                have HK1 := Lib.hid hk1
                have HRd : Hid (∀ u q c', VersP u q L' → Calls Try.prog 10 #[.agg #[.int .u64 (m' : Int), .slice q k' c'], .int .u64 (k1 : Int)] u fun e w' => e = .returned (.tuple #[.agg #[.int .u64 (rn : Int), .int .u8 (rs : Int), .string rt], .int .i64 (re : Int)]) ∧ Ext u w') := Lib.hid (fun u q c' v => by
                  have := read_any u m' k1 q c' L' v (by have := (mayL_iff.1 HCr.out.2.2).1; omega)
                  rwa [HRL.out, HCr.out.2.1] at this)
                clear hPk hk1 hRL y4 y5
                by_cases h8 : n' ≤ kk + 8
                · have h8i : (n' : Int) - 8 ≤ (kk : Int) := by omega
                  by_cases hs : s = 1
                  · subst hs
                    have hR : (re, (⟨rn, rs, rt⟩ : Ver)) = (0, ⟨k1, 1, t⟩) := by rw [← HRL.out, ← HK1.out]; exact HSr.out.live HCr.out.2.2 HPk.out (by rw [HNr.out]; exact h8)
                    cases hR
                    as_aux_lemma =>
                      go_upto_region 46 with ((go_at_call 10; refine (HRd.out _ _ _ (HCr.out.1.vers.ext HXk.out)).mono ?_; rintro e wz ⟨rfl, xz⟩; have HXz := Lib.hid ((HXk.out.trans xz).alloc (.cells #[.int .u64 (k1 : Int), .int .u8 1, .string t] 35)); have Z20 := Lib.hid (Blk.new wz [.int .u64 (k1 : Int), .int .u8 1, .string t] 35); have z2 := Z20.out.cell 2 _ rfl; obtain ⟨g4', e4, -, y4, -⟩ := (T4r.out.ext HXz.out).at_ (txV_get HPk.out); cases e4; obtain ⟨g5', e5, -, y5, -⟩ := (T5r.out.ext HXz.out).at_ (stV_get HPk.out); cases e5; clear xz))
                      go_quiet (fail)
                      go_wp2
                      go_roundw
                      case rel => exact ⟨k1, by have := HK1.out; omega, rfl, Lib.hid (HXz.out.drewN _)⟩
                      case measure => have := HK1.out; simp [intOf]; omega
                  · have hR : (re, (⟨rn, rs, rt⟩ : Ver)) = (171, ⟨0, 0, ⟨#[]⟩⟩) := by rw [← HRL.out, ← HK1.out]; exact HSr.out.dead HCr.out.2.2 HPk.out hs (by rw [HNr.out]; exact h8)
                    cases hR
                    have hss : ((s : Int) == 1) = false := by have : ¬ (s : Int) = 1 := (by omega); simpa using this
                    clear hs
                    as_aux_lemma =>
                      go_upto_region 46 with ((go_at_call 10; refine (HRd.out _ _ _ (HCr.out.1.vers.ext HXk.out)).mono ?_; rintro e wz ⟨rfl, xz⟩; have HXz := Lib.hid ((HXk.out.trans xz).alloc (.cells #[.int .u64 0, .int .u8 0, .string ⟨#[]⟩] 35)); have Z20 := Lib.hid (Blk.new wz [.int .u64 0, .int .u8 0, .string ⟨#[]⟩] 35); have z2 := Z20.out.cell 2 _ rfl; obtain ⟨g4', e4, -, y4, -⟩ := (T4r.out.ext HXz.out).at_ (txV_get HPk.out); cases e4; obtain ⟨g5', e5, -, y5, -⟩ := (T5r.out.ext HXz.out).at_ (stV_get HPk.out); cases e5; clear xz))
                      go_quiet (fail)
                      go_wp2
                      go_roundw
                      case rel => exact ⟨k1, by have := HK1.out; omega, rfl, Lib.hid (HXz.out.drewN _)⟩
                      case measure => have := HK1.out; simp [intOf]; omega
                · have h8i : ¬ ((n' : Int) - 8 ≤ (kk : Int)) := by omega
                  have hR : (re, (⟨rn, rs, rt⟩ : Ver)) = (3, ⟨0, 0, ⟨#[]⟩⟩) := by rw [← HRL.out, ← HK1.out]; exact HSr.out.gone HCr.out.2.2 (by rw [HNr.out]; omega)
                  cases hR
                  as_aux_lemma =>
                    go_upto_region 46 with ((go_at_call 10; refine (HRd.out _ _ _ (HCr.out.1.vers.ext HXk.out)).mono ?_; rintro e wz ⟨rfl, xz⟩; have HXz := Lib.hid ((HXk.out.trans xz).alloc (.cells #[.int .u64 0, .int .u8 0, .string ⟨#[]⟩] 35)); have Z20 := Lib.hid (Blk.new wz [.int .u64 0, .int .u8 0, .string ⟨#[]⟩] 35); have z2 := Z20.out.cell 2 _ rfl; obtain ⟨g4', e4, -, y4, -⟩ := (T4r.out.ext HXz.out).at_ (txV_get HPk.out); cases e4; obtain ⟨g5', e5, -, y5, -⟩ := (T5r.out.ext HXz.out).at_ (stV_get HPk.out); cases e5; clear xz))
                    go_quiet (fail)
                    go_wp2
                    go_roundw
                    case rel => exact ⟨k1, by have := HK1.out; omega, rfl, Lib.hid (HXz.out.drewN _)⟩
                    case measure => have := HK1.out; simp [intOf]; omega
              · have hlkI : ¬ (kk : Int) < (n' : Int) := by omega
                go_wp2
                go_roundw
                case rel => exact ⟨j + 1, n', m', k', c', q', L', P', p4', c4', p5', c5', by omega, hn1, by go_num, rfl, rfl, Lib.hid (B3r.out.ext HXk.out), Lib.hid ⟨HCr.out.1.ext HXk.out, HCr.out.2.1, HCr.out.2.2⟩, HSr, HNr, Lib.hid (T4r.out.ext HXk.out), Lib.hid (T5r.out.ext HXk.out), Lib.hid (HXr.out.trans HXk.out)⟩
                case measure => simp [intOf]; omega
      · have hlti : ¬ (j : Int) < (K : Int) := by omega
        go_wp2_with (go_at_call 8; refine (works17_any _).mono ?_; rintro e w9 ⟨rfl, x9⟩)
        go_ret
        exact ⟨rfl, HX.out.trans x9⟩
end Go.Proofs.Ytbobijgbemnmiaa
