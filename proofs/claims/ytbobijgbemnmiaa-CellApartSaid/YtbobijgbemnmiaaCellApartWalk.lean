/- The walk of CellApart. -/
import Derived.Test.YtbobijgbemnmiaaCellAct
import Derived.Test.YtbobijgbemnmiaaHeavy17
import Derived.Test.YtbobijgbemnmiaaWorks17
import Derived.Deep.DeepCutAuto
namespace Go.Proofs.Ytbobijgbemnmiaa
open Go.RowKit

/-- What an append to another slice leaves of one. -/
theorem isV_fr {w w' : World} {B c c3 : Nat} {p q : Option Addr} {L : List Ver} {κ' : Foot} (h : IsV w B q c L) (f : Fr (kp p) (fun j => j = 1) w w' κ') (x : c3 = 0 → Ext w w') (hp : 0 < c3 → ∀ g, p = some ⟨g, 0, none⟩ → g < B) : IsV w' B q c L := by
  rcases Nat.eq_zero_or_pos c3 with e | e
  · exact h.ext (x e)
  · exact ⟨h.sl.same (fun x hx hq => f.other x hx (fun e1 => by have h1 := hp e x (kp_one e1); have h2 := h.low x (kp_one hq); omega)) (fun _ _ e => e), h.low⟩
set_option maxRecDepth 1000000 in
set_option maxHeartbeats 16000000 in
theorem CellApart_walk (pa : Option Addr) (ca : Nat) (l : List Act17) (avI : Int) (w : World) (ha : Act17sP w pa l) (hok : ∀ x ∈ l, x.Ok) (hal : l.length ≤ 140737488355328) (hav : 0 ≤ avI ∧ avI ≤ 255) :
    Calls Try.prog 6 #[.slice pa l.length ca, .int .u8 avI] w fun e w' => e = .returned (.bool true) ∧ Ext w w' := by
  obtain ⟨av, rfl⟩ := Int.eq_ofNat_of_zero_le hav.1
  have hav2 : av ≤ 255 := by omega
  obtain ⟨K, hK⟩ : ∃ K, l.length = K := ⟨_, rfl⟩
  have HHv := Lib.hid (heavy17_any w 0 none 0 [] (VersP.nil _ _) (fun y hy => by cases hy) (by simp) pa ca l ha hok hal)
  have HA := Lib.hid ha; have HOk := Lib.hid hok; have HK := Lib.hid hK
  rw [hK] at HHv ⊢
  clear ha hok hK hal hav
  go_enter Try.func6, Try.ntmps6
  go_upto_if 14 with (go_at_call 7; refine HHv.out.mono ?_; rintro e w1 ⟨⟨b, rfl, hb⟩, x1⟩; have HX1 := Lib.hid x1; clear x1; cases b)
  case' true =>
    go_wp2_with (go_at_call 8; refine (works17_any _).mono ?_; rintro e w9 ⟨rfl, x9⟩)
    go_ret
    exact ⟨rfl, HX1.out.trans x9⟩
  case' false =>
    obtain ⟨-, hl60, hsz⟩ : Light17 [] l := by simpa using hb
    have HTx : Hid (∀ x ∈ l, x.Text.size ≤ 32768) := Lib.hid (fun x hx => by have := sumT_mem hx; simp only [sizeL] at hsz; omega)
    have hK60 : K ≤ 60 := by rw [← HK.out]; exact hl60
    have HB0 := Lib.hid (Blk.new w1 [.int .u64 0, .slice none 0 0] 25)
    have HX2 := Lib.hid (HX1.out.alloc (.cells #[.int .u64 0, .slice none 0 0] 25))
    clear hb hl60 hsz
    go_wp2
    go_loopw [6] (fun iv wr => ∃ (j m k c : Nat) (q : Option Addr) (L : List Ver), j ≤ K ∧ iv = .int .i64 (j : Int) ∧ Hid (Blk wr w1.heap.size 25 [.int .u64 (m : Int), .slice q k c]) ∧ Hid (VersP wr q L ∧ L.length = k ∧ mayL m L = true ∧ m < 18446744073709551616) ∧ Hid (Ext w wr)) (fun iv _ => K - (intOf iv).toNat)
    case atStart => exact ⟨0, 0, 0, 0, none, [], Nat.zero_le _, rfl, HB0, Lib.hid ⟨VersP.nil _ _, rfl, may_empty, by decide⟩, HX2⟩
    case round =>
      obtain ⟨j, m, k, c, q, L, hj, rfl, B5, HC, HX⟩ := hrel
      by_cases hlt : j < K
      · have hlti : (j : Int) < (K : Int) := by omega
        have hj0 : (0 : Int) ≤ (j : Int) := by omega
        have hkl := HK.out
        obtain ⟨x, hx⟩ : ∃ x, l[j]? = some x := ⟨_, List.getElem?_eq_getElem (by omega)⟩
        obtain ⟨a, rfl, -, hc⟩ := (HA.out.ext HX.out) j x hx
        have a0 : wr.cell? (a.add (j * 5)) = some (.int .u8 (x.Do : Int)) := hc 0 _ rfl
        have a1 := act17_at (k := 0) (hc 1 _ rfl)
        have a2 := act17_at (k := 1) (hc 2 _ rfl)
        have a3 := act17_at (k := 2) (hc 3 _ rfl)
        have a4 := act17_at (k := 3) (hc 4 _ rfl)
        have htx := HTx.out x (List.mem_of_getElem? hx)
        have hdv := (HOk.out x (List.mem_of_getElem? hx)).Do
        clear hx hc hkl
        generalize x.Do = dv at *
        generalize x.Any = an at *
        generalize x.Want = wt at *
        generalize x.N = xn at *
        generalize x.Text = tx at *
        obtain ⟨⟨er, la, LL⟩, hO⟩ : ∃ O, actL m L dv an wt xn tx = O := ⟨_, rfl⟩
        obtain ⟨nl, hnl⟩ : ∃ nl, LL.length = nl := ⟨_, rfl⟩
        have hk8 : L.length ≤ 8 := (mayL_iff.1 HC.out.2.2.1).1
        have hkL : L.length ≤ 1000000 := by omega
        have hM := may_act HC.out.2.2.1 HC.out.2.2.2 dv an wt xn tx
        rw [hO] at hM
        have HM := Lib.hid hM
        have hnl8 : nl ≤ 8 := by have := (mayL_iff.1 hM.1).1; dsimp only at this; omega
        have HNL := Lib.hid hnl
        have HkL : Hid (L.length ≤ 140737488355328) := Lib.hid (by omega)
        have B5a := Lib.hid (B5.out.alloc (.cells #[.int .u8 (dv : Int), .bool an, .int .u64 (wt : Int), .int .u64 (xn : Int), .string tx] 27))
        have ba0 := B5a.out.cell 0 _ rfl
        have ba1 := B5a.out.cell 1 _ rfl
        have HCp : Hid (∀ u, Ext wr u → Calls Try.prog 11 #[.agg #[.int .u64 (m : Int), .slice q k c]] u fun e w' => ∃ q c', e = .returned (.agg #[.int .u64 (m : Int), .slice q k c']) ∧ IsV w' u.heap.size q c' L ∧ Ext u w') := Lib.hid (fun u y => by
          have := copied_any u m q c L (HC.out.1.ext y) hkL
          rwa [HC.out.2.1] at this)
        have HCp2 : Hid (∀ (u : World) (q3 : Option Addr) (c3 : Nat), VersP u q3 LL → Calls Try.prog 11 #[.agg #[.int .u64 (la : Int), .slice q3 nl c3]] u fun e w' => ∃ q c', e = .returned (.agg #[.int .u64 (la : Int), .slice q nl c']) ∧ IsV w' u.heap.size q c' LL ∧ Ext u w') := Lib.hid (fun u q3 c3 v => by
          have := copied_any u la q3 c3 LL v (by omega)
          rwa [hnl] at this)
        have HZ0 : Hid True := Lib.hid trivial
        clear hM hk8 hnl
        rcases (show dv % 3 = 0 ∨ dv % 3 = 1 ∨ dv % 3 = 2 by omega) with e | e | e
        · have hm3 : (dv : Int) % 3 = 0 := by omega
          have hm3t : (dv : Int).tmod 3 = 0 := by rw [Int.tmod_eq_emod_of_nonneg (by omega)]; exact hm3
          have hO2 : putL m L an wt tx = ⟨er, la, LL⟩ := by rw [← hO]; simp [actL, e]
          have HP : Hid (∀ u q c', VersP u q L → Calls Try.prog 21 #[.agg #[.int .u64 (m : Int), .slice q k c'], .bool an, .int .u64 (wt : Int), .string tx] u fun e w' => ∃ q c', e = .returned (.tuple #[.agg #[.int .u64 (la : Int), .slice q nl c'], .int .i64 (er : Int)]) ∧ IsV w' u.heap.size q c' LL ∧ Ext u w') := Lib.hid (fun u q c' v => by
            have := put_any u m q c' L v hkL HC.out.2.2.2 an wt tx (by omega)
            rw [hO2, HC.out.2.1] at this
            dsimp only at this
            rwa [HNL.out] at this)
          clear hO hO2 e hdv htx hkL
          go_upto_region 17 with (first | (go_at_call 11; (with_reducible refine (HCp.out _ ((Ext.refl wr).alloc _)).mono ?_); rintro e w2 ⟨q2, c2, rfl, v2, x2⟩; have HEb : Hid (Ext wr (w2.alloc (.cells #[.int .u64 (m : Int), .slice q2 k c2] 25))) := Lib.hid ((((Ext.refl wr).alloc _).trans x2).alloc _); have HV2 : Hid (VersP (w2.alloc (.cells #[.int .u64 (m : Int), .slice q2 k c2] 25)) q2 L) := Lib.hid ((v2.ext ((Ext.refl w2).alloc _)).vers); have A7 : Hid (Blk (w2.alloc (.cells #[.int .u64 (m : Int), .slice q2 k c2] 25)) wr.heap.size 27 [.int .u8 (dv : Int), .bool an, .int .u64 (wt : Int), .int .u64 (xn : Int), .string tx]) := Lib.hid (((Blk.new wr [.int .u8 (dv : Int), .bool an, .int .u64 (wt : Int), .int .u64 (xn : Int), .string tx] 27).ext x2).alloc _); have B8 : Hid (Blk (w2.alloc (.cells #[.int .u64 (m : Int), .slice q2 k c2] 25)) w2.heap.size 25 [.int .u64 (m : Int), .slice q2 k c2]) := Lib.hid (Blk.new w2 [.int .u64 (m : Int), .slice q2 k c2] 25); have B5b := Lib.hid (B5.out.ext HEb.out); have hs2 : wr.heap.size < w2.heap.size := (by have := x2.size; simp at this; omega); have hs5 := B5.out.lt; have A7c := Lib.hid (A7.out.alloc (.cells #[.int .u64 0, .slice none 0 0] 25)); have B5c := Lib.hid (B5b.out.alloc (.cells #[.int .u64 0, .slice none 0 0] 25)); have ac0 := A7c.out.cell 0 _ rfl; have ac1 := A7c.out.cell 1 _ rfl; have ac2 := A7c.out.cell 2 _ rfl; have ac3 := A7c.out.cell 3 _ rfl; have ac4 := A7c.out.cell 4 _ rfl; have bc0 := B5c.out.cell 0 _ rfl; have bc1 := B5c.out.cell 1 _ rfl; clear v2 x2) | (go_at_call 21; refine (HP.out _ q c (HC.out.1.ext (HEb.out.alloc _))).mono ?_; rintro e w3 ⟨q3, c3, rfl, v3, x3⟩; have HE3 : Hid (Ext (w2.alloc (.cells #[.int .u64 (m : Int), .slice q2 k c2] 25)) w3) := Lib.hid (((Ext.refl (w2.alloc (.cells #[.int .u64 (m : Int), .slice q2 k c2] 25))).alloc (.cells #[.int .u64 0, .slice none 0 0] 25)).trans x3); have T9 : Hid (Blk w3 (w2.heap.size + 1) 25 [.int .u64 0, .slice none 0 0]) := Lib.hid ((Blk.newAt (w2.alloc (.cells #[.int .u64 (m : Int), .slice q2 k c2] 25)) [.int .u64 0, .slice none 0 0] 25 (w2.heap.size + 1) (by simp)).ext x3); have HLO : Hid (∀ g, q3 = some ⟨g, 0, none⟩ → w2.heap.size + 2 ≤ g) := Lib.hid (fun g e => (by have := v3.low g e; simpa using this)); have HV3 : Hid (IsV w3 (w2.alloc (.cells #[.int .u64 (m : Int), .slice q2 k c2] 25)).heap.size q3 c3 LL) := Lib.hid (v3.base (by simp)); have r0 := T9.out.cell 0 _ rfl; have r1 := T9.out.cell 1 _ rfl; have rf0 := T9.out.frozen 0; have rf1 := T9.out.frozen 1; have HEd : Hid (Ext (w2.alloc (.cells #[.int .u64 (m : Int), .slice q2 k c2] 25)) ((w3.setCell ⟨w2.heap.size + 1, 0, none⟩ (.int .u64 (la : Int))).setCell ⟨w2.heap.size + 1, 1, none⟩ (.slice q3 nl c3))) := Lib.hid ((HE3.out.setCell (p := ⟨w2.heap.size + 1, 0, none⟩) (by simp) _).setCell (p := ⟨w2.heap.size + 1, 1, none⟩) (by simp) _); have T9d : Hid (Blk ((w3.setCell ⟨w2.heap.size + 1, 0, none⟩ (.int .u64 (la : Int))).setCell ⟨w2.heap.size + 1, 1, none⟩ (.slice q3 nl c3)) (w2.heap.size + 1) 25 [.int .u64 (la : Int), .slice q3 nl c3]) := Lib.hid ((T9.out.set_ 0 _).set_ 1 _); have HVd : Hid (IsV ((w3.setCell ⟨w2.heap.size + 1, 0, none⟩ (.int .u64 (la : Int))).setCell ⟨w2.heap.size + 1, 1, none⟩ (.slice q3 nl c3)) (w2.alloc (.cells #[.int .u64 (m : Int), .slice q2 k c2] 25)).heap.size q3 c3 LL) := Lib.hid ((HV3.out.parted (o := 0) T9.out (by decide) _).parted (o := 1) (T9.out.set_ 0 _) (by decide) _); clear v3 x3) | (go_at_call 11; (with_reducible refine (HCp2.out _ _ c3 HVd.out.vers).mono ?_); rintro e w4 ⟨q4, c4, rfl, v4, x4⟩; have HXe : Ext ((w3.setCell ⟨w2.heap.size + 1, 0, none⟩ (.int .u64 (la : Int))).setCell ⟨w2.heap.size + 1, 1, none⟩ (.slice q3 nl c3)) (w4.alloc (.cells #[.int .u64 (la : Int), .slice q4 nl c4] 25)) := x4.alloc _; have HEe : Hid (Ext (w2.alloc (.cells #[.int .u64 (m : Int), .slice q2 k c2] 25)) (w4.alloc (.cells #[.int .u64 (la : Int), .slice q4 nl c4] 25))) := Lib.hid (HEd.out.trans HXe); have HVq : Hid (IsV (w4.alloc (.cells #[.int .u64 (la : Int), .slice q4 nl c4] 25)) ((w3.setCell ⟨w2.heap.size + 1, 0, none⟩ (.int .u64 (la : Int))).setCell ⟨w2.heap.size + 1, 1, none⟩ (.slice q3 nl c3)).heap.size q4 c4 LL) := Lib.hid (v4.ext ((Ext.refl w4).alloc _)); have T9e := Lib.hid (T9d.out.ext HXe); have T10 : Hid (Blk (w4.alloc (.cells #[.int .u64 (la : Int), .slice q4 nl c4] 25)) w4.heap.size 25 [.int .u64 (la : Int), .slice q4 nl c4]) := Lib.hid (Blk.new w4 [.int .u64 (la : Int), .slice q4 nl c4] 25); have HVe := Lib.hid (HVd.out.ext HXe); have hs4 : ((w3.setCell ⟨w2.heap.size + 1, 0, none⟩ (.int .u64 (la : Int))).setCell ⟨w2.heap.size + 1, 1, none⟩ (.slice q3 nl c3)).heap.size ≤ w4.heap.size := x4.size; have hs9 := T9d.out.lt; have e0 := T9e.out.cell 0 _ rfl; have e1 := T9e.out.cell 1 _ rfl; have ef0 := T9e.out.frozen 0; have ef1 := T9e.out.frozen 1; clear v4 HXe x4))
          have HSm : Hid (∀ u, Ext (w2.alloc (.cells #[.int .u64 (m : Int), .slice q2 k c2] 25)) u → Calls Try.prog 20 #[.agg #[.int .u64 (m : Int), .slice q k c], .agg #[.int .u64 (m : Int), .slice q2 k c2]] u fun e w' => e = .returned (.bool true) ∧ Ext u w') := Lib.hid (fun u y => by
            have := same_any u m m q q2 c c2 L L (HC.out.1.ext (HEb.out.trans y)) (HV2.out.ext y) HkL.out
            rw [HC.out.2.1] at this
            simpa using this)
          have HG0 : Hid (0 < c3 → ∀ g, q3 = some ⟨g, 0, none⟩ → g < ((w3.setCell ⟨w2.heap.size + 1, 0, none⟩ (.int .u64 (la : Int))).setCell ⟨w2.heap.size + 1, 1, none⟩ (.slice q3 nl c3)).heap.size) := Lib.hid (fun h0 g e => by
            obtain ⟨g', cur, e', _, h3, _⟩ := HVd.out.sl.2.2.2 h0
            rw [e] at e'
            cases e'
            exact heap_lt h3)
          have hwd : w2.heap.size + 1 < ((w3.setCell ⟨w2.heap.size + 1, 0, none⟩ (.int .u64 (la : Int))).setCell ⟨w2.heap.size + 1, 1, none⟩ (.slice q3 nl c3)).heap.size := hs9
          by_cases hn0 : nl = 0
          · subst hn0
            have HLX := HNL
            have HEg : Hid (Ext (w2.alloc (.cells #[.int .u64 (m : Int), .slice q2 k c2] 25)) ((w4.alloc (.cells #[.int .u64 (la : Int), .slice q4 0 c4] 25)).alloc (.cells #[.int .u64 78, .int .u8 0, .string ⟨#[]⟩] 35))) := Lib.hid (HEe.out.alloc _)
            have T9g : Hid (Blk ((w4.alloc (.cells #[.int .u64 (la : Int), .slice q4 0 c4] 25)).alloc (.cells #[.int .u64 78, .int .u8 0, .string ⟨#[]⟩] 35)) (w2.heap.size + 1) 25 [.int .u64 (la : Int), .slice q3 0 c3]) := Lib.hid (T9e.out.alloc _)
            have T10g : Hid (Blk ((w4.alloc (.cells #[.int .u64 (la : Int), .slice q4 0 c4] 25)).alloc (.cells #[.int .u64 78, .int .u8 0, .string ⟨#[]⟩] 35)) w4.heap.size 25 [.int .u64 (la : Int), .slice q4 0 c4]) := Lib.hid (T10.out.alloc _)
            have B5g : Hid (Blk ((w4.alloc (.cells #[.int .u64 (la : Int), .slice q4 0 c4] 25)).alloc (.cells #[.int .u64 78, .int .u8 0, .string ⟨#[]⟩] 35)) w1.heap.size 25 [.int .u64 (m : Int), .slice q k c]) := Lib.hid (B5b.out.ext HEg.out)
            have B8g : Hid (Blk ((w4.alloc (.cells #[.int .u64 (la : Int), .slice q4 0 c4] 25)).alloc (.cells #[.int .u64 78, .int .u8 0, .string ⟨#[]⟩] 35)) w2.heap.size 25 [.int .u64 (m : Int), .slice q2 k c2]) := Lib.hid (B8.out.ext HEg.out)
            have HVg : Hid (IsV ((w4.alloc (.cells #[.int .u64 (la : Int), .slice q4 0 c4] 25)).alloc (.cells #[.int .u64 78, .int .u8 0, .string ⟨#[]⟩] 35)) ((w3.setCell ⟨w2.heap.size + 1, 0, none⟩ (.int .u64 (la : Int))).setCell ⟨w2.heap.size + 1, 1, none⟩ (.slice q3 0 c3)).heap.size q4 c4 LL) := Lib.hid (HVq.out.ext ((Ext.refl _).alloc _))
            have HSL : Hid (Sl ((w4.alloc (.cells #[.int .u64 (la : Int), .slice q4 0 c4] 25)).alloc (.cells #[.int .u64 78, .int .u8 0, .string ⟨#[]⟩] 35)) (kp q3) 1 3 35 q3 0 c3 (vsCells LL)) := Lib.hid (by have := (HVe.out.ext ((Ext.refl _).alloc (.cells #[.int .u64 78, .int .u8 0, .string ⟨#[]⟩] 35))).sl; rwa [HLX.out] at this)
            have HLOW : Hid (∀ g' : Nat, (q3 : Option Addr) = some ⟨g', 0, none⟩ → (w2.alloc (.cells #[.int .u64 (m : Int), .slice q2 k c2] 25)).heap.size ≤ g') := Lib.hid HVe.out.low
            have HSZ : Hid ((w2.alloc (.cells #[.int .u64 (m : Int), .slice q2 k c2] 25)).heap.size ≤ ((w4.alloc (.cells #[.int .u64 (la : Int), .slice q4 0 c4] 25)).alloc (.cells #[.int .u64 78, .int .u8 0, .string ⟨#[]⟩] 35)).heap.size) := Lib.hid HEg.out.size
            have HSRC := Lib.hid ((versP_one (Blk.newAt (w4.alloc (.cells #[.int .u64 (la : Int), .slice q4 0 c4] 25)) [.int .u64 78, .int .u8 0, .string ⟨#[]⟩] 35 (w4.heap.size + 1) (by simp))).src 1)
            have HLT : Hid (0 < c3 → ∀ g' : Nat, (q3 : Option Addr) = some ⟨g', 0, none⟩ → g' < ((w3.setCell ⟨w2.heap.size + 1, 0, none⟩ (.int .u64 (la : Int))).setCell ⟨w2.heap.size + 1, 1, none⟩ (.slice q3 0 c3)).heap.size) := HG0
            have hn9 : 0 + 1 ≤ 1000000000 := by omega
            go_wp2_with (first | (refine wpList_append_sl rfl (.tmp 82) (.tmp 84) 23 23 rfl Try.underlying23 infoV rfl (by decide) rfl HSL.out (vsCells_one _) _ rfl 1 _ HSRC.out hn9 ?_; intro p6 c6 w6 κ6 s6 f6 e6 x6 o6; have HK6 := Lib.hid (keepV_of_fr HSL.out HLOW.out HSZ.out f6 x6); have U9 := Lib.hid (T9g.out.keepV HK6.out (by decide)); have U10 := Lib.hid (T10g.out.keepV HK6.out (by decide)); have U5 := Lib.hid (B5g.out.keepV HK6.out (by decide)); have U8 := Lib.hid (B8g.out.keepV HK6.out (by decide)); have HE6 := Lib.hid (HEg.out.keptV HK6.out); have HV6 := Lib.hid (isV_fr HVg.out f6 x6 HLT.out); have u0 := U9.out.cell 0 _ rfl; have u1 := U9.out.cell 1 _ rfl; have uf0 := U9.out.frozen 0; have uf1 := U9.out.frozen 1; have HE7 : Hid (Ext (w2.alloc (.cells #[.int .u64 (m : Int), .slice q2 k c2] 25)) (w6.setCell ⟨w2.heap.size + 1, 1, none⟩ (.slice p6 1 c6))) := Lib.hid (HE6.out.setCell (p := ⟨w2.heap.size + 1, 1, none⟩) (by simp) _); have Y5 := Lib.hid (U5.out.other (g := w2.heap.size + 1) (by omega) 1 (.slice p6 1 c6)); have Y8 := Lib.hid (U8.out.other (g := w2.heap.size + 1) (by omega) 1 (.slice p6 1 c6)); have Y10 := Lib.hid (U10.out.other (g := w2.heap.size + 1) (by omega) 1 (.slice p6 1 c6)); have HV7 := Lib.hid (HV6.out.setCell (a := ⟨w2.heap.size + 1, 1, none⟩) hs9 (.slice p6 1 c6)); have y0 := Y5.out.cell 0 _ rfl; have y1 := Y5.out.cell 1 _ rfl; have z0 := Y8.out.cell 0 _ rfl; have z1 := Y8.out.cell 1 _ rfl; clear s6 f6 e6 x6 o6; rw [Nat.zero_add]) | (go_at_call 20; refine (HSm.out _ HE7.out).mono ?_; rintro e w8 ⟨rfl, x8⟩; have Z5 := Lib.hid (Y5.out.ext x8); have Z10 := Lib.hid (Y10.out.ext x8); have HE8 := Lib.hid (HE7.out.trans x8); have HV8 := Lib.hid (HV7.out.ext x8); have y0 := Z5.out.cell 0 _ rfl; have y1 := Z5.out.cell 1 _ rfl; have yf0 := Z5.out.frozen 0; have yf1 := Z5.out.frozen 1; have t0 := Z10.out.cell 0 _ rfl; have t1 := Z10.out.cell 1 _ rfl; clear x8))
            go_roundw
            case rel =>
              refine ⟨j + 1, la, 0, c4, q4, LL, by omega, by go_num, Lib.hid ((Z5.out.set_ 0 _).set_ 1 _), Lib.hid ⟨?_, HNL.out, HM.out.1, HM.out.2⟩, Lib.hid ?_⟩
              · exact ((HV8.out.setCell (a := ⟨w1.heap.size, 0, none⟩) (Nat.lt_trans hs5 (Nat.lt_of_lt_of_le hs2 (by omega))) _).setCell (a := ⟨w1.heap.size, 1, none⟩) (Nat.lt_trans hs5 (Nat.lt_of_lt_of_le hs2 (by omega))) _).vers
              · exact ((HX.out.trans (HEb.out.trans HE8.out)).setCell (p := ⟨w1.heap.size, 0, none⟩) HX1.out.size _).setCell (p := ⟨w1.heap.size, 1, none⟩) HX1.out.size _
            case measure => simp [intOf]; omega
          · have hn0i : (0 : Int) < (nl : Int) := by omega
            have hnp : 0 < nl := by omega
            clear hn0
            obtain ⟨kk, hkk⟩ : ∃ kk, av % nl = kk := ⟨_, rfl⟩
            have hkl : kk < nl := by rw [← hkk]; exact Nat.mod_lt _ hnp
            have hrem : ((av : Int)).tmod (nl : Int) = (kk : Int) := by rw [Int.tmod_eq_emod_of_nonneg (by omega), ← hkk]; omega
            have hremE : ((av : Int)) % (nl : Int) = (kk : Int) := by rw [← hkk]; omega
            obtain ⟨v, hv⟩ : ∃ v, LL[kk]? = some v := ⟨_, List.getElem?_eq_getElem (by rw [HNL.out]; exact hkl)⟩
            obtain ⟨a', ea, _⟩ := HVe.out.vers.three (Ext.refl _) hv
            cases ea
            obtain ⟨g, ea, hlow⟩ := HVe.out.block
            cases ea
            obtain ⟨⟨k0, k1, k2⟩, ⟨l0, l1, l2⟩, j1, j2⟩ := HVe.out.lit (x := ⟨77, 3, ⟨#[]⟩⟩) hv
            have HVf := Lib.hid j1
            have HEf := Lib.hid (HEe.out.keptV j2)
            have T9f := Lib.hid (T9e.out.keepV j2 (by decide))
            have T10f := Lib.hid (T10.out.keepV j2 (by decide))
            have hgl := HG0.out (by have := HVe.out.le; have := HNL.out; omega) g rfl
            have HVqf := Lib.hid (((HVq.out.setCell (a := ⟨g, kk * 3, none⟩) hgl (.int .u64 77)).setCell (a := ⟨g, kk * 3 + 1, none⟩) hgl (.int .u8 3)).setCell (a := ⟨g, kk * 3 + 2, none⟩) hgl (.string ⟨#[]⟩))
            have HLX : Hid ((LL.set kk ⟨77, 3, ⟨#[]⟩⟩).length = nl) := Lib.hid (by rw [List.length_set]; exact HNL.out)
            have hge := HLO.out g rfl
            have n0 : ¬ g = w2.heap.size + 1 := by omega
            have n0' : ¬ w2.heap.size + 1 = g := by omega
            clear j1 j2 hv hkk hge hlow
            go_upto_region 20 with (fail)
            generalize ((((w4.alloc (.cells #[.int .u64 (la : Int), .slice q4 nl c4] 25)).setCell ⟨g, kk * 3, none⟩ (.int .u64 77)).setCell ⟨g, kk * 3 + 1, none⟩ (.int .u8 3)).setCell ⟨g, kk * 3 + 2, none⟩ (.string ⟨#[]⟩)) = V at HVf HEf T9f T10f HVqf ⊢
            clear e0 e1 ef0 ef1 k0 k1 k2 l0 l1 l2
            have e0 := T9f.out.cell 0 _ rfl
            have e1 := T9f.out.cell 1 _ rfl
            have ef0 := T9f.out.frozen 0
            have ef1 := T9f.out.frozen 1
            have HEg : Hid (Ext (w2.alloc (.cells #[.int .u64 (m : Int), .slice q2 k c2] 25)) (V.alloc (.cells #[.int .u64 78, .int .u8 0, .string ⟨#[]⟩] 35))) := Lib.hid (HEf.out.alloc _)
            have T9g : Hid (Blk (V.alloc (.cells #[.int .u64 78, .int .u8 0, .string ⟨#[]⟩] 35)) (w2.heap.size + 1) 25 [.int .u64 (la : Int), .slice (some ⟨g, 0, none⟩) nl c3]) := Lib.hid (T9f.out.alloc _)
            have T10g : Hid (Blk (V.alloc (.cells #[.int .u64 78, .int .u8 0, .string ⟨#[]⟩] 35)) w4.heap.size 25 [.int .u64 (la : Int), .slice q4 nl c4]) := Lib.hid (T10f.out.alloc _)
            have B5g : Hid (Blk (V.alloc (.cells #[.int .u64 78, .int .u8 0, .string ⟨#[]⟩] 35)) w1.heap.size 25 [.int .u64 (m : Int), .slice q k c]) := Lib.hid (B5b.out.ext HEg.out)
            have B8g : Hid (Blk (V.alloc (.cells #[.int .u64 78, .int .u8 0, .string ⟨#[]⟩] 35)) w2.heap.size 25 [.int .u64 (m : Int), .slice q2 k c2]) := Lib.hid (B8.out.ext HEg.out)
            have HVg : Hid (IsV (V.alloc (.cells #[.int .u64 78, .int .u8 0, .string ⟨#[]⟩] 35)) ((w3.setCell ⟨w2.heap.size + 1, 0, none⟩ (.int .u64 (la : Int))).setCell ⟨w2.heap.size + 1, 1, none⟩ (.slice (some ⟨g, 0, none⟩) nl c3)).heap.size q4 c4 LL) := Lib.hid (HVqf.out.ext ((Ext.refl _).alloc _))
            have HSL : Hid (Sl (V.alloc (.cells #[.int .u64 78, .int .u8 0, .string ⟨#[]⟩] 35)) (kp (some ⟨g, 0, none⟩)) 1 3 35 (some ⟨g, 0, none⟩) nl c3 (vsCells (LL.set kk ⟨77, 3, ⟨#[]⟩⟩))) := Lib.hid (by have := (HVf.out.ext ((Ext.refl _).alloc (.cells #[.int .u64 78, .int .u8 0, .string ⟨#[]⟩] 35))).sl; rwa [HLX.out] at this)
            have HLOW : Hid (∀ g' : Nat, ((some ⟨g, 0, none⟩) : Option Addr) = some ⟨g', 0, none⟩ → (w2.alloc (.cells #[.int .u64 (m : Int), .slice q2 k c2] 25)).heap.size ≤ g') := Lib.hid HVf.out.low
            have HSZ : Hid ((w2.alloc (.cells #[.int .u64 (m : Int), .slice q2 k c2] 25)).heap.size ≤ (V.alloc (.cells #[.int .u64 78, .int .u8 0, .string ⟨#[]⟩] 35)).heap.size) := Lib.hid HEg.out.size
            have HSRC := Lib.hid ((versP_one (Blk.new V [.int .u64 78, .int .u8 0, .string ⟨#[]⟩] 35)).src 1)
            have HLT : Hid (0 < c3 → ∀ g' : Nat, ((some ⟨g, 0, none⟩) : Option Addr) = some ⟨g', 0, none⟩ → g' < ((w3.setCell ⟨w2.heap.size + 1, 0, none⟩ (.int .u64 (la : Int))).setCell ⟨w2.heap.size + 1, 1, none⟩ (.slice (some ⟨g, 0, none⟩) nl c3)).heap.size) := HG0
            have hn9 : nl + 1 ≤ 1000000000 := by omega
            go_wp2_with (first | (refine wpList_append_sl rfl (.tmp 82) (.tmp 84) 23 23 rfl Try.underlying23 infoV rfl (by decide) rfl HSL.out (vsCells_one _) _ rfl 1 _ HSRC.out hn9 ?_; intro p6 c6 w6 κ6 s6 f6 e6 x6 o6; have HK6 := Lib.hid (keepV_of_fr HSL.out HLOW.out HSZ.out f6 x6); have U9 := Lib.hid (T9g.out.keepV HK6.out (by decide)); have U10 := Lib.hid (T10g.out.keepV HK6.out (by decide)); have U5 := Lib.hid (B5g.out.keepV HK6.out (by decide)); have U8 := Lib.hid (B8g.out.keepV HK6.out (by decide)); have HE6 := Lib.hid (HEg.out.keptV HK6.out); have HV6 := Lib.hid (isV_fr HVg.out f6 x6 HLT.out); have u0 := U9.out.cell 0 _ rfl; have u1 := U9.out.cell 1 _ rfl; have uf0 := U9.out.frozen 0; have uf1 := U9.out.frozen 1; have HE7 : Hid (Ext (w2.alloc (.cells #[.int .u64 (m : Int), .slice q2 k c2] 25)) (w6.setCell ⟨w2.heap.size + 1, 1, none⟩ (.slice p6 (nl + 1) c6))) := Lib.hid (HE6.out.setCell (p := ⟨w2.heap.size + 1, 1, none⟩) (by simp) _); have Y5 := Lib.hid (U5.out.other (g := w2.heap.size + 1) (by omega) 1 (.slice p6 (nl + 1) c6)); have Y8 := Lib.hid (U8.out.other (g := w2.heap.size + 1) (by omega) 1 (.slice p6 (nl + 1) c6)); have Y10 := Lib.hid (U10.out.other (g := w2.heap.size + 1) (by omega) 1 (.slice p6 (nl + 1) c6)); have HV7 := Lib.hid (HV6.out.setCell (a := ⟨w2.heap.size + 1, 1, none⟩) hs9 (.slice p6 (nl + 1) c6)); have y0 := Y5.out.cell 0 _ rfl; have y1 := Y5.out.cell 1 _ rfl; have z0 := Y8.out.cell 0 _ rfl; have z1 := Y8.out.cell 1 _ rfl; clear s6 f6 e6 x6 o6) | (go_at_call 20; refine (HSm.out _ HE7.out).mono ?_; rintro e w8 ⟨rfl, x8⟩; have Z5 := Lib.hid (Y5.out.ext x8); have Z10 := Lib.hid (Y10.out.ext x8); have HE8 := Lib.hid (HE7.out.trans x8); have HV8 := Lib.hid (HV7.out.ext x8); have y0 := Z5.out.cell 0 _ rfl; have y1 := Z5.out.cell 1 _ rfl; have yf0 := Z5.out.frozen 0; have yf1 := Z5.out.frozen 1; have t0 := Z10.out.cell 0 _ rfl; have t1 := Z10.out.cell 1 _ rfl; clear x8))
            go_roundw
            case rel =>
              refine ⟨j + 1, la, nl, c4, q4, LL, by omega, by go_num, Lib.hid ((Z5.out.set_ 0 _).set_ 1 _), Lib.hid ⟨?_, HNL.out, HM.out.1, HM.out.2⟩, Lib.hid ?_⟩
              · exact ((HV8.out.setCell (a := ⟨w1.heap.size, 0, none⟩) (Nat.lt_trans hs5 (Nat.lt_of_lt_of_le hs2 (by omega))) _).setCell (a := ⟨w1.heap.size, 1, none⟩) (Nat.lt_trans hs5 (Nat.lt_of_lt_of_le hs2 (by omega))) _).vers
              · exact ((HX.out.trans (HEb.out.trans HE8.out)).setCell (p := ⟨w1.heap.size, 0, none⟩) HX1.out.size _).setCell (p := ⟨w1.heap.size, 1, none⟩) HX1.out.size _
            case measure => simp [intOf]; omega
        · have hm3 : (dv : Int) % 3 = 1 := by omega
          have hm3t : (dv : Int).tmod 3 = 1 := by rw [Int.tmod_eq_emod_of_nonneg (by omega)]; exact hm3
          have hO2 : delL m L an wt = ⟨er, la, LL⟩ := by rw [← hO]; simp [actL, e]
          have HP : Hid (∀ u q c', VersP u q L → Calls Try.prog 22 #[.agg #[.int .u64 (m : Int), .slice q k c'], .bool an, .int .u64 (wt : Int)] u fun e w' => ∃ q c', e = .returned (.tuple #[.agg #[.int .u64 (la : Int), .slice q nl c'], .int .i64 (er : Int)]) ∧ IsV w' u.heap.size q c' LL ∧ Ext u w') := Lib.hid (fun u q c' v => by
            have := delV_any u m q c' L v hkL HC.out.2.2.2 an wt
            rw [hO2, HC.out.2.1] at this
            dsimp only at this
            rwa [HNL.out] at this)
          clear hO hO2 e hdv htx hkL
          go_upto_region 17 with (first | (go_at_call 11; (with_reducible refine (HCp.out _ ((Ext.refl wr).alloc _)).mono ?_); rintro e w2 ⟨q2, c2, rfl, v2, x2⟩; have HEb : Hid (Ext wr (w2.alloc (.cells #[.int .u64 (m : Int), .slice q2 k c2] 25))) := Lib.hid ((((Ext.refl wr).alloc _).trans x2).alloc _); have HV2 : Hid (VersP (w2.alloc (.cells #[.int .u64 (m : Int), .slice q2 k c2] 25)) q2 L) := Lib.hid ((v2.ext ((Ext.refl w2).alloc _)).vers); have A7 : Hid (Blk (w2.alloc (.cells #[.int .u64 (m : Int), .slice q2 k c2] 25)) wr.heap.size 27 [.int .u8 (dv : Int), .bool an, .int .u64 (wt : Int), .int .u64 (xn : Int), .string tx]) := Lib.hid (((Blk.new wr [.int .u8 (dv : Int), .bool an, .int .u64 (wt : Int), .int .u64 (xn : Int), .string tx] 27).ext x2).alloc _); have B8 : Hid (Blk (w2.alloc (.cells #[.int .u64 (m : Int), .slice q2 k c2] 25)) w2.heap.size 25 [.int .u64 (m : Int), .slice q2 k c2]) := Lib.hid (Blk.new w2 [.int .u64 (m : Int), .slice q2 k c2] 25); have B5b := Lib.hid (B5.out.ext HEb.out); have hs2 : wr.heap.size < w2.heap.size := (by have := x2.size; simp at this; omega); have hs5 := B5.out.lt; have A7c := Lib.hid (A7.out.alloc (.cells #[.int .u64 0, .slice none 0 0] 25)); have B5c := Lib.hid (B5b.out.alloc (.cells #[.int .u64 0, .slice none 0 0] 25)); have ac0 := A7c.out.cell 0 _ rfl; have ac1 := A7c.out.cell 1 _ rfl; have ac2 := A7c.out.cell 2 _ rfl; have ac3 := A7c.out.cell 3 _ rfl; have ac4 := A7c.out.cell 4 _ rfl; have bc0 := B5c.out.cell 0 _ rfl; have bc1 := B5c.out.cell 1 _ rfl; clear v2 x2) | (go_at_call 22; refine (HP.out _ q c (HC.out.1.ext (HEb.out.alloc _))).mono ?_; rintro e w3 ⟨q3, c3, rfl, v3, x3⟩; have HE3 : Hid (Ext (w2.alloc (.cells #[.int .u64 (m : Int), .slice q2 k c2] 25)) w3) := Lib.hid (((Ext.refl (w2.alloc (.cells #[.int .u64 (m : Int), .slice q2 k c2] 25))).alloc (.cells #[.int .u64 0, .slice none 0 0] 25)).trans x3); have T9 : Hid (Blk w3 (w2.heap.size + 1) 25 [.int .u64 0, .slice none 0 0]) := Lib.hid ((Blk.newAt (w2.alloc (.cells #[.int .u64 (m : Int), .slice q2 k c2] 25)) [.int .u64 0, .slice none 0 0] 25 (w2.heap.size + 1) (by simp)).ext x3); have HLO : Hid (∀ g, q3 = some ⟨g, 0, none⟩ → w2.heap.size + 2 ≤ g) := Lib.hid (fun g e => (by have := v3.low g e; simpa using this)); have HV3 : Hid (IsV w3 (w2.alloc (.cells #[.int .u64 (m : Int), .slice q2 k c2] 25)).heap.size q3 c3 LL) := Lib.hid (v3.base (by simp)); have r0 := T9.out.cell 0 _ rfl; have r1 := T9.out.cell 1 _ rfl; have rf0 := T9.out.frozen 0; have rf1 := T9.out.frozen 1; have HEd : Hid (Ext (w2.alloc (.cells #[.int .u64 (m : Int), .slice q2 k c2] 25)) ((w3.setCell ⟨w2.heap.size + 1, 0, none⟩ (.int .u64 (la : Int))).setCell ⟨w2.heap.size + 1, 1, none⟩ (.slice q3 nl c3))) := Lib.hid ((HE3.out.setCell (p := ⟨w2.heap.size + 1, 0, none⟩) (by simp) _).setCell (p := ⟨w2.heap.size + 1, 1, none⟩) (by simp) _); have T9d : Hid (Blk ((w3.setCell ⟨w2.heap.size + 1, 0, none⟩ (.int .u64 (la : Int))).setCell ⟨w2.heap.size + 1, 1, none⟩ (.slice q3 nl c3)) (w2.heap.size + 1) 25 [.int .u64 (la : Int), .slice q3 nl c3]) := Lib.hid ((T9.out.set_ 0 _).set_ 1 _); have HVd : Hid (IsV ((w3.setCell ⟨w2.heap.size + 1, 0, none⟩ (.int .u64 (la : Int))).setCell ⟨w2.heap.size + 1, 1, none⟩ (.slice q3 nl c3)) (w2.alloc (.cells #[.int .u64 (m : Int), .slice q2 k c2] 25)).heap.size q3 c3 LL) := Lib.hid ((HV3.out.parted (o := 0) T9.out (by decide) _).parted (o := 1) (T9.out.set_ 0 _) (by decide) _); clear v3 x3) | (go_at_call 11; (with_reducible refine (HCp2.out _ _ c3 HVd.out.vers).mono ?_); rintro e w4 ⟨q4, c4, rfl, v4, x4⟩; have HXe : Ext ((w3.setCell ⟨w2.heap.size + 1, 0, none⟩ (.int .u64 (la : Int))).setCell ⟨w2.heap.size + 1, 1, none⟩ (.slice q3 nl c3)) (w4.alloc (.cells #[.int .u64 (la : Int), .slice q4 nl c4] 25)) := x4.alloc _; have HEe : Hid (Ext (w2.alloc (.cells #[.int .u64 (m : Int), .slice q2 k c2] 25)) (w4.alloc (.cells #[.int .u64 (la : Int), .slice q4 nl c4] 25))) := Lib.hid (HEd.out.trans HXe); have HVq : Hid (IsV (w4.alloc (.cells #[.int .u64 (la : Int), .slice q4 nl c4] 25)) ((w3.setCell ⟨w2.heap.size + 1, 0, none⟩ (.int .u64 (la : Int))).setCell ⟨w2.heap.size + 1, 1, none⟩ (.slice q3 nl c3)).heap.size q4 c4 LL) := Lib.hid (v4.ext ((Ext.refl w4).alloc _)); have T9e := Lib.hid (T9d.out.ext HXe); have T10 : Hid (Blk (w4.alloc (.cells #[.int .u64 (la : Int), .slice q4 nl c4] 25)) w4.heap.size 25 [.int .u64 (la : Int), .slice q4 nl c4]) := Lib.hid (Blk.new w4 [.int .u64 (la : Int), .slice q4 nl c4] 25); have HVe := Lib.hid (HVd.out.ext HXe); have hs4 : ((w3.setCell ⟨w2.heap.size + 1, 0, none⟩ (.int .u64 (la : Int))).setCell ⟨w2.heap.size + 1, 1, none⟩ (.slice q3 nl c3)).heap.size ≤ w4.heap.size := x4.size; have hs9 := T9d.out.lt; have e0 := T9e.out.cell 0 _ rfl; have e1 := T9e.out.cell 1 _ rfl; have ef0 := T9e.out.frozen 0; have ef1 := T9e.out.frozen 1; clear v4 HXe x4))
          have HSm : Hid (∀ u, Ext (w2.alloc (.cells #[.int .u64 (m : Int), .slice q2 k c2] 25)) u → Calls Try.prog 20 #[.agg #[.int .u64 (m : Int), .slice q k c], .agg #[.int .u64 (m : Int), .slice q2 k c2]] u fun e w' => e = .returned (.bool true) ∧ Ext u w') := Lib.hid (fun u y => by
            have := same_any u m m q q2 c c2 L L (HC.out.1.ext (HEb.out.trans y)) (HV2.out.ext y) HkL.out
            rw [HC.out.2.1] at this
            simpa using this)
          have HG0 : Hid (0 < c3 → ∀ g, q3 = some ⟨g, 0, none⟩ → g < ((w3.setCell ⟨w2.heap.size + 1, 0, none⟩ (.int .u64 (la : Int))).setCell ⟨w2.heap.size + 1, 1, none⟩ (.slice q3 nl c3)).heap.size) := Lib.hid (fun h0 g e => by
            obtain ⟨g', cur, e', _, h3, _⟩ := HVd.out.sl.2.2.2 h0
            rw [e] at e'
            cases e'
            exact heap_lt h3)
          have hwd : w2.heap.size + 1 < ((w3.setCell ⟨w2.heap.size + 1, 0, none⟩ (.int .u64 (la : Int))).setCell ⟨w2.heap.size + 1, 1, none⟩ (.slice q3 nl c3)).heap.size := hs9
          by_cases hn0 : nl = 0
          · subst hn0
            have HLX := HNL
            have HEg : Hid (Ext (w2.alloc (.cells #[.int .u64 (m : Int), .slice q2 k c2] 25)) ((w4.alloc (.cells #[.int .u64 (la : Int), .slice q4 0 c4] 25)).alloc (.cells #[.int .u64 78, .int .u8 0, .string ⟨#[]⟩] 35))) := Lib.hid (HEe.out.alloc _)
            have T9g : Hid (Blk ((w4.alloc (.cells #[.int .u64 (la : Int), .slice q4 0 c4] 25)).alloc (.cells #[.int .u64 78, .int .u8 0, .string ⟨#[]⟩] 35)) (w2.heap.size + 1) 25 [.int .u64 (la : Int), .slice q3 0 c3]) := Lib.hid (T9e.out.alloc _)
            have T10g : Hid (Blk ((w4.alloc (.cells #[.int .u64 (la : Int), .slice q4 0 c4] 25)).alloc (.cells #[.int .u64 78, .int .u8 0, .string ⟨#[]⟩] 35)) w4.heap.size 25 [.int .u64 (la : Int), .slice q4 0 c4]) := Lib.hid (T10.out.alloc _)
            have B5g : Hid (Blk ((w4.alloc (.cells #[.int .u64 (la : Int), .slice q4 0 c4] 25)).alloc (.cells #[.int .u64 78, .int .u8 0, .string ⟨#[]⟩] 35)) w1.heap.size 25 [.int .u64 (m : Int), .slice q k c]) := Lib.hid (B5b.out.ext HEg.out)
            have B8g : Hid (Blk ((w4.alloc (.cells #[.int .u64 (la : Int), .slice q4 0 c4] 25)).alloc (.cells #[.int .u64 78, .int .u8 0, .string ⟨#[]⟩] 35)) w2.heap.size 25 [.int .u64 (m : Int), .slice q2 k c2]) := Lib.hid (B8.out.ext HEg.out)
            have HVg : Hid (IsV ((w4.alloc (.cells #[.int .u64 (la : Int), .slice q4 0 c4] 25)).alloc (.cells #[.int .u64 78, .int .u8 0, .string ⟨#[]⟩] 35)) ((w3.setCell ⟨w2.heap.size + 1, 0, none⟩ (.int .u64 (la : Int))).setCell ⟨w2.heap.size + 1, 1, none⟩ (.slice q3 0 c3)).heap.size q4 c4 LL) := Lib.hid (HVq.out.ext ((Ext.refl _).alloc _))
            have HSL : Hid (Sl ((w4.alloc (.cells #[.int .u64 (la : Int), .slice q4 0 c4] 25)).alloc (.cells #[.int .u64 78, .int .u8 0, .string ⟨#[]⟩] 35)) (kp q3) 1 3 35 q3 0 c3 (vsCells LL)) := Lib.hid (by have := (HVe.out.ext ((Ext.refl _).alloc (.cells #[.int .u64 78, .int .u8 0, .string ⟨#[]⟩] 35))).sl; rwa [HLX.out] at this)
            have HLOW : Hid (∀ g' : Nat, (q3 : Option Addr) = some ⟨g', 0, none⟩ → (w2.alloc (.cells #[.int .u64 (m : Int), .slice q2 k c2] 25)).heap.size ≤ g') := Lib.hid HVe.out.low
            have HSZ : Hid ((w2.alloc (.cells #[.int .u64 (m : Int), .slice q2 k c2] 25)).heap.size ≤ ((w4.alloc (.cells #[.int .u64 (la : Int), .slice q4 0 c4] 25)).alloc (.cells #[.int .u64 78, .int .u8 0, .string ⟨#[]⟩] 35)).heap.size) := Lib.hid HEg.out.size
            have HSRC := Lib.hid ((versP_one (Blk.newAt (w4.alloc (.cells #[.int .u64 (la : Int), .slice q4 0 c4] 25)) [.int .u64 78, .int .u8 0, .string ⟨#[]⟩] 35 (w4.heap.size + 1) (by simp))).src 1)
            have HLT : Hid (0 < c3 → ∀ g' : Nat, (q3 : Option Addr) = some ⟨g', 0, none⟩ → g' < ((w3.setCell ⟨w2.heap.size + 1, 0, none⟩ (.int .u64 (la : Int))).setCell ⟨w2.heap.size + 1, 1, none⟩ (.slice q3 0 c3)).heap.size) := HG0
            have hn9 : 0 + 1 ≤ 1000000000 := by omega
            go_wp2_with (first | (refine wpList_append_sl rfl (.tmp 82) (.tmp 84) 23 23 rfl Try.underlying23 infoV rfl (by decide) rfl HSL.out (vsCells_one _) _ rfl 1 _ HSRC.out hn9 ?_; intro p6 c6 w6 κ6 s6 f6 e6 x6 o6; have HK6 := Lib.hid (keepV_of_fr HSL.out HLOW.out HSZ.out f6 x6); have U9 := Lib.hid (T9g.out.keepV HK6.out (by decide)); have U10 := Lib.hid (T10g.out.keepV HK6.out (by decide)); have U5 := Lib.hid (B5g.out.keepV HK6.out (by decide)); have U8 := Lib.hid (B8g.out.keepV HK6.out (by decide)); have HE6 := Lib.hid (HEg.out.keptV HK6.out); have HV6 := Lib.hid (isV_fr HVg.out f6 x6 HLT.out); have u0 := U9.out.cell 0 _ rfl; have u1 := U9.out.cell 1 _ rfl; have uf0 := U9.out.frozen 0; have uf1 := U9.out.frozen 1; have HE7 : Hid (Ext (w2.alloc (.cells #[.int .u64 (m : Int), .slice q2 k c2] 25)) (w6.setCell ⟨w2.heap.size + 1, 1, none⟩ (.slice p6 1 c6))) := Lib.hid (HE6.out.setCell (p := ⟨w2.heap.size + 1, 1, none⟩) (by simp) _); have Y5 := Lib.hid (U5.out.other (g := w2.heap.size + 1) (by omega) 1 (.slice p6 1 c6)); have Y8 := Lib.hid (U8.out.other (g := w2.heap.size + 1) (by omega) 1 (.slice p6 1 c6)); have Y10 := Lib.hid (U10.out.other (g := w2.heap.size + 1) (by omega) 1 (.slice p6 1 c6)); have HV7 := Lib.hid (HV6.out.setCell (a := ⟨w2.heap.size + 1, 1, none⟩) hs9 (.slice p6 1 c6)); have y0 := Y5.out.cell 0 _ rfl; have y1 := Y5.out.cell 1 _ rfl; have z0 := Y8.out.cell 0 _ rfl; have z1 := Y8.out.cell 1 _ rfl; clear s6 f6 e6 x6 o6; rw [Nat.zero_add]) | (go_at_call 20; refine (HSm.out _ HE7.out).mono ?_; rintro e w8 ⟨rfl, x8⟩; have Z5 := Lib.hid (Y5.out.ext x8); have Z10 := Lib.hid (Y10.out.ext x8); have HE8 := Lib.hid (HE7.out.trans x8); have HV8 := Lib.hid (HV7.out.ext x8); have y0 := Z5.out.cell 0 _ rfl; have y1 := Z5.out.cell 1 _ rfl; have yf0 := Z5.out.frozen 0; have yf1 := Z5.out.frozen 1; have t0 := Z10.out.cell 0 _ rfl; have t1 := Z10.out.cell 1 _ rfl; clear x8))
            go_roundw
            case rel =>
              refine ⟨j + 1, la, 0, c4, q4, LL, by omega, by go_num, Lib.hid ((Z5.out.set_ 0 _).set_ 1 _), Lib.hid ⟨?_, HNL.out, HM.out.1, HM.out.2⟩, Lib.hid ?_⟩
              · exact ((HV8.out.setCell (a := ⟨w1.heap.size, 0, none⟩) (Nat.lt_trans hs5 (Nat.lt_of_lt_of_le hs2 (by omega))) _).setCell (a := ⟨w1.heap.size, 1, none⟩) (Nat.lt_trans hs5 (Nat.lt_of_lt_of_le hs2 (by omega))) _).vers
              · exact ((HX.out.trans (HEb.out.trans HE8.out)).setCell (p := ⟨w1.heap.size, 0, none⟩) HX1.out.size _).setCell (p := ⟨w1.heap.size, 1, none⟩) HX1.out.size _
            case measure => simp [intOf]; omega
          · have hn0i : (0 : Int) < (nl : Int) := by omega
            have hnp : 0 < nl := by omega
            clear hn0
            obtain ⟨kk, hkk⟩ : ∃ kk, av % nl = kk := ⟨_, rfl⟩
            have hkl : kk < nl := by rw [← hkk]; exact Nat.mod_lt _ hnp
            have hrem : ((av : Int)).tmod (nl : Int) = (kk : Int) := by rw [Int.tmod_eq_emod_of_nonneg (by omega), ← hkk]; omega
            have hremE : ((av : Int)) % (nl : Int) = (kk : Int) := by rw [← hkk]; omega
            obtain ⟨v, hv⟩ : ∃ v, LL[kk]? = some v := ⟨_, List.getElem?_eq_getElem (by rw [HNL.out]; exact hkl)⟩
            obtain ⟨a', ea, _⟩ := HVe.out.vers.three (Ext.refl _) hv
            cases ea
            obtain ⟨g, ea, hlow⟩ := HVe.out.block
            cases ea
            obtain ⟨⟨k0, k1, k2⟩, ⟨l0, l1, l2⟩, j1, j2⟩ := HVe.out.lit (x := ⟨77, 3, ⟨#[]⟩⟩) hv
            have HVf := Lib.hid j1
            have HEf := Lib.hid (HEe.out.keptV j2)
            have T9f := Lib.hid (T9e.out.keepV j2 (by decide))
            have T10f := Lib.hid (T10.out.keepV j2 (by decide))
            have hgl := HG0.out (by have := HVe.out.le; have := HNL.out; omega) g rfl
            have HVqf := Lib.hid (((HVq.out.setCell (a := ⟨g, kk * 3, none⟩) hgl (.int .u64 77)).setCell (a := ⟨g, kk * 3 + 1, none⟩) hgl (.int .u8 3)).setCell (a := ⟨g, kk * 3 + 2, none⟩) hgl (.string ⟨#[]⟩))
            have HLX : Hid ((LL.set kk ⟨77, 3, ⟨#[]⟩⟩).length = nl) := Lib.hid (by rw [List.length_set]; exact HNL.out)
            have hge := HLO.out g rfl
            have n0 : ¬ g = w2.heap.size + 1 := by omega
            have n0' : ¬ w2.heap.size + 1 = g := by omega
            clear j1 j2 hv hkk hge hlow
            go_upto_region 20 with (fail)
            generalize ((((w4.alloc (.cells #[.int .u64 (la : Int), .slice q4 nl c4] 25)).setCell ⟨g, kk * 3, none⟩ (.int .u64 77)).setCell ⟨g, kk * 3 + 1, none⟩ (.int .u8 3)).setCell ⟨g, kk * 3 + 2, none⟩ (.string ⟨#[]⟩)) = V at HVf HEf T9f T10f HVqf ⊢
            clear e0 e1 ef0 ef1 k0 k1 k2 l0 l1 l2
            have e0 := T9f.out.cell 0 _ rfl
            have e1 := T9f.out.cell 1 _ rfl
            have ef0 := T9f.out.frozen 0
            have ef1 := T9f.out.frozen 1
            have HEg : Hid (Ext (w2.alloc (.cells #[.int .u64 (m : Int), .slice q2 k c2] 25)) (V.alloc (.cells #[.int .u64 78, .int .u8 0, .string ⟨#[]⟩] 35))) := Lib.hid (HEf.out.alloc _)
            have T9g : Hid (Blk (V.alloc (.cells #[.int .u64 78, .int .u8 0, .string ⟨#[]⟩] 35)) (w2.heap.size + 1) 25 [.int .u64 (la : Int), .slice (some ⟨g, 0, none⟩) nl c3]) := Lib.hid (T9f.out.alloc _)
            have T10g : Hid (Blk (V.alloc (.cells #[.int .u64 78, .int .u8 0, .string ⟨#[]⟩] 35)) w4.heap.size 25 [.int .u64 (la : Int), .slice q4 nl c4]) := Lib.hid (T10f.out.alloc _)
            have B5g : Hid (Blk (V.alloc (.cells #[.int .u64 78, .int .u8 0, .string ⟨#[]⟩] 35)) w1.heap.size 25 [.int .u64 (m : Int), .slice q k c]) := Lib.hid (B5b.out.ext HEg.out)
            have B8g : Hid (Blk (V.alloc (.cells #[.int .u64 78, .int .u8 0, .string ⟨#[]⟩] 35)) w2.heap.size 25 [.int .u64 (m : Int), .slice q2 k c2]) := Lib.hid (B8.out.ext HEg.out)
            have HVg : Hid (IsV (V.alloc (.cells #[.int .u64 78, .int .u8 0, .string ⟨#[]⟩] 35)) ((w3.setCell ⟨w2.heap.size + 1, 0, none⟩ (.int .u64 (la : Int))).setCell ⟨w2.heap.size + 1, 1, none⟩ (.slice (some ⟨g, 0, none⟩) nl c3)).heap.size q4 c4 LL) := Lib.hid (HVqf.out.ext ((Ext.refl _).alloc _))
            have HSL : Hid (Sl (V.alloc (.cells #[.int .u64 78, .int .u8 0, .string ⟨#[]⟩] 35)) (kp (some ⟨g, 0, none⟩)) 1 3 35 (some ⟨g, 0, none⟩) nl c3 (vsCells (LL.set kk ⟨77, 3, ⟨#[]⟩⟩))) := Lib.hid (by have := (HVf.out.ext ((Ext.refl _).alloc (.cells #[.int .u64 78, .int .u8 0, .string ⟨#[]⟩] 35))).sl; rwa [HLX.out] at this)
            have HLOW : Hid (∀ g' : Nat, ((some ⟨g, 0, none⟩) : Option Addr) = some ⟨g', 0, none⟩ → (w2.alloc (.cells #[.int .u64 (m : Int), .slice q2 k c2] 25)).heap.size ≤ g') := Lib.hid HVf.out.low
            have HSZ : Hid ((w2.alloc (.cells #[.int .u64 (m : Int), .slice q2 k c2] 25)).heap.size ≤ (V.alloc (.cells #[.int .u64 78, .int .u8 0, .string ⟨#[]⟩] 35)).heap.size) := Lib.hid HEg.out.size
            have HSRC := Lib.hid ((versP_one (Blk.new V [.int .u64 78, .int .u8 0, .string ⟨#[]⟩] 35)).src 1)
            have HLT : Hid (0 < c3 → ∀ g' : Nat, ((some ⟨g, 0, none⟩) : Option Addr) = some ⟨g', 0, none⟩ → g' < ((w3.setCell ⟨w2.heap.size + 1, 0, none⟩ (.int .u64 (la : Int))).setCell ⟨w2.heap.size + 1, 1, none⟩ (.slice (some ⟨g, 0, none⟩) nl c3)).heap.size) := HG0
            have hn9 : nl + 1 ≤ 1000000000 := by omega
            go_wp2_with (first | (refine wpList_append_sl rfl (.tmp 82) (.tmp 84) 23 23 rfl Try.underlying23 infoV rfl (by decide) rfl HSL.out (vsCells_one _) _ rfl 1 _ HSRC.out hn9 ?_; intro p6 c6 w6 κ6 s6 f6 e6 x6 o6; have HK6 := Lib.hid (keepV_of_fr HSL.out HLOW.out HSZ.out f6 x6); have U9 := Lib.hid (T9g.out.keepV HK6.out (by decide)); have U10 := Lib.hid (T10g.out.keepV HK6.out (by decide)); have U5 := Lib.hid (B5g.out.keepV HK6.out (by decide)); have U8 := Lib.hid (B8g.out.keepV HK6.out (by decide)); have HE6 := Lib.hid (HEg.out.keptV HK6.out); have HV6 := Lib.hid (isV_fr HVg.out f6 x6 HLT.out); have u0 := U9.out.cell 0 _ rfl; have u1 := U9.out.cell 1 _ rfl; have uf0 := U9.out.frozen 0; have uf1 := U9.out.frozen 1; have HE7 : Hid (Ext (w2.alloc (.cells #[.int .u64 (m : Int), .slice q2 k c2] 25)) (w6.setCell ⟨w2.heap.size + 1, 1, none⟩ (.slice p6 (nl + 1) c6))) := Lib.hid (HE6.out.setCell (p := ⟨w2.heap.size + 1, 1, none⟩) (by simp) _); have Y5 := Lib.hid (U5.out.other (g := w2.heap.size + 1) (by omega) 1 (.slice p6 (nl + 1) c6)); have Y8 := Lib.hid (U8.out.other (g := w2.heap.size + 1) (by omega) 1 (.slice p6 (nl + 1) c6)); have Y10 := Lib.hid (U10.out.other (g := w2.heap.size + 1) (by omega) 1 (.slice p6 (nl + 1) c6)); have HV7 := Lib.hid (HV6.out.setCell (a := ⟨w2.heap.size + 1, 1, none⟩) hs9 (.slice p6 (nl + 1) c6)); have y0 := Y5.out.cell 0 _ rfl; have y1 := Y5.out.cell 1 _ rfl; have z0 := Y8.out.cell 0 _ rfl; have z1 := Y8.out.cell 1 _ rfl; clear s6 f6 e6 x6 o6) | (go_at_call 20; refine (HSm.out _ HE7.out).mono ?_; rintro e w8 ⟨rfl, x8⟩; have Z5 := Lib.hid (Y5.out.ext x8); have Z10 := Lib.hid (Y10.out.ext x8); have HE8 := Lib.hid (HE7.out.trans x8); have HV8 := Lib.hid (HV7.out.ext x8); have y0 := Z5.out.cell 0 _ rfl; have y1 := Z5.out.cell 1 _ rfl; have yf0 := Z5.out.frozen 0; have yf1 := Z5.out.frozen 1; have t0 := Z10.out.cell 0 _ rfl; have t1 := Z10.out.cell 1 _ rfl; clear x8))
            go_roundw
            case rel =>
              refine ⟨j + 1, la, nl, c4, q4, LL, by omega, by go_num, Lib.hid ((Z5.out.set_ 0 _).set_ 1 _), Lib.hid ⟨?_, HNL.out, HM.out.1, HM.out.2⟩, Lib.hid ?_⟩
              · exact ((HV8.out.setCell (a := ⟨w1.heap.size, 0, none⟩) (Nat.lt_trans hs5 (Nat.lt_of_lt_of_le hs2 (by omega))) _).setCell (a := ⟨w1.heap.size, 1, none⟩) (Nat.lt_trans hs5 (Nat.lt_of_lt_of_le hs2 (by omega))) _).vers
              · exact ((HX.out.trans (HEb.out.trans HE8.out)).setCell (p := ⟨w1.heap.size, 0, none⟩) HX1.out.size _).setCell (p := ⟨w1.heap.size, 1, none⟩) HX1.out.size _
            case measure => simp [intOf]; omega
        · have hm3 : (dv : Int) % 3 = 2 := by omega
          have hm3t : (dv : Int).tmod 3 = 2 := by rw [Int.tmod_eq_emod_of_nonneg (by omega)]; exact hm3
          have hO2 : desL m L xn = ⟨er, la, LL⟩ := by rw [← hO]; simp [actL, e]
          have HP : Hid (∀ u q c', VersP u q L → Calls Try.prog 23 #[.agg #[.int .u64 (m : Int), .slice q k c'], .int .u64 (xn : Int)] u fun e w' => ∃ q c', e = .returned (.tuple #[.agg #[.int .u64 (la : Int), .slice q nl c'], .int .i64 (er : Int)]) ∧ IsV w' u.heap.size q c' LL ∧ Ext u w') := Lib.hid (fun u q c' v => by
            have := des_any u m q c' L v hkL xn
            rw [hO2, HC.out.2.1] at this
            dsimp only at this
            rwa [HNL.out] at this)
          clear hO hO2 e hdv htx hkL
          go_upto_region 17 with (first | (go_at_call 11; (with_reducible refine (HCp.out _ ((Ext.refl wr).alloc _)).mono ?_); rintro e w2 ⟨q2, c2, rfl, v2, x2⟩; have HEb : Hid (Ext wr (w2.alloc (.cells #[.int .u64 (m : Int), .slice q2 k c2] 25))) := Lib.hid ((((Ext.refl wr).alloc _).trans x2).alloc _); have HV2 : Hid (VersP (w2.alloc (.cells #[.int .u64 (m : Int), .slice q2 k c2] 25)) q2 L) := Lib.hid ((v2.ext ((Ext.refl w2).alloc _)).vers); have A7 : Hid (Blk (w2.alloc (.cells #[.int .u64 (m : Int), .slice q2 k c2] 25)) wr.heap.size 27 [.int .u8 (dv : Int), .bool an, .int .u64 (wt : Int), .int .u64 (xn : Int), .string tx]) := Lib.hid (((Blk.new wr [.int .u8 (dv : Int), .bool an, .int .u64 (wt : Int), .int .u64 (xn : Int), .string tx] 27).ext x2).alloc _); have B8 : Hid (Blk (w2.alloc (.cells #[.int .u64 (m : Int), .slice q2 k c2] 25)) w2.heap.size 25 [.int .u64 (m : Int), .slice q2 k c2]) := Lib.hid (Blk.new w2 [.int .u64 (m : Int), .slice q2 k c2] 25); have B5b := Lib.hid (B5.out.ext HEb.out); have hs2 : wr.heap.size < w2.heap.size := (by have := x2.size; simp at this; omega); have hs5 := B5.out.lt; have A7c := Lib.hid (A7.out.alloc (.cells #[.int .u64 0, .slice none 0 0] 25)); have B5c := Lib.hid (B5b.out.alloc (.cells #[.int .u64 0, .slice none 0 0] 25)); have ac0 := A7c.out.cell 0 _ rfl; have ac1 := A7c.out.cell 1 _ rfl; have ac2 := A7c.out.cell 2 _ rfl; have ac3 := A7c.out.cell 3 _ rfl; have ac4 := A7c.out.cell 4 _ rfl; have bc0 := B5c.out.cell 0 _ rfl; have bc1 := B5c.out.cell 1 _ rfl; clear v2 x2) | (go_at_call 23; refine (HP.out _ q c (HC.out.1.ext (HEb.out.alloc _))).mono ?_; rintro e w3 ⟨q3, c3, rfl, v3, x3⟩; have HE3 : Hid (Ext (w2.alloc (.cells #[.int .u64 (m : Int), .slice q2 k c2] 25)) w3) := Lib.hid (((Ext.refl (w2.alloc (.cells #[.int .u64 (m : Int), .slice q2 k c2] 25))).alloc (.cells #[.int .u64 0, .slice none 0 0] 25)).trans x3); have T9 : Hid (Blk w3 (w2.heap.size + 1) 25 [.int .u64 0, .slice none 0 0]) := Lib.hid ((Blk.newAt (w2.alloc (.cells #[.int .u64 (m : Int), .slice q2 k c2] 25)) [.int .u64 0, .slice none 0 0] 25 (w2.heap.size + 1) (by simp)).ext x3); have HLO : Hid (∀ g, q3 = some ⟨g, 0, none⟩ → w2.heap.size + 2 ≤ g) := Lib.hid (fun g e => (by have := v3.low g e; simpa using this)); have HV3 : Hid (IsV w3 (w2.alloc (.cells #[.int .u64 (m : Int), .slice q2 k c2] 25)).heap.size q3 c3 LL) := Lib.hid (v3.base (by simp)); have r0 := T9.out.cell 0 _ rfl; have r1 := T9.out.cell 1 _ rfl; have rf0 := T9.out.frozen 0; have rf1 := T9.out.frozen 1; have HEd : Hid (Ext (w2.alloc (.cells #[.int .u64 (m : Int), .slice q2 k c2] 25)) ((w3.setCell ⟨w2.heap.size + 1, 0, none⟩ (.int .u64 (la : Int))).setCell ⟨w2.heap.size + 1, 1, none⟩ (.slice q3 nl c3))) := Lib.hid ((HE3.out.setCell (p := ⟨w2.heap.size + 1, 0, none⟩) (by simp) _).setCell (p := ⟨w2.heap.size + 1, 1, none⟩) (by simp) _); have T9d : Hid (Blk ((w3.setCell ⟨w2.heap.size + 1, 0, none⟩ (.int .u64 (la : Int))).setCell ⟨w2.heap.size + 1, 1, none⟩ (.slice q3 nl c3)) (w2.heap.size + 1) 25 [.int .u64 (la : Int), .slice q3 nl c3]) := Lib.hid ((T9.out.set_ 0 _).set_ 1 _); have HVd : Hid (IsV ((w3.setCell ⟨w2.heap.size + 1, 0, none⟩ (.int .u64 (la : Int))).setCell ⟨w2.heap.size + 1, 1, none⟩ (.slice q3 nl c3)) (w2.alloc (.cells #[.int .u64 (m : Int), .slice q2 k c2] 25)).heap.size q3 c3 LL) := Lib.hid ((HV3.out.parted (o := 0) T9.out (by decide) _).parted (o := 1) (T9.out.set_ 0 _) (by decide) _); clear v3 x3) | (go_at_call 11; (with_reducible refine (HCp2.out _ _ c3 HVd.out.vers).mono ?_); rintro e w4 ⟨q4, c4, rfl, v4, x4⟩; have HXe : Ext ((w3.setCell ⟨w2.heap.size + 1, 0, none⟩ (.int .u64 (la : Int))).setCell ⟨w2.heap.size + 1, 1, none⟩ (.slice q3 nl c3)) (w4.alloc (.cells #[.int .u64 (la : Int), .slice q4 nl c4] 25)) := x4.alloc _; have HEe : Hid (Ext (w2.alloc (.cells #[.int .u64 (m : Int), .slice q2 k c2] 25)) (w4.alloc (.cells #[.int .u64 (la : Int), .slice q4 nl c4] 25))) := Lib.hid (HEd.out.trans HXe); have HVq : Hid (IsV (w4.alloc (.cells #[.int .u64 (la : Int), .slice q4 nl c4] 25)) ((w3.setCell ⟨w2.heap.size + 1, 0, none⟩ (.int .u64 (la : Int))).setCell ⟨w2.heap.size + 1, 1, none⟩ (.slice q3 nl c3)).heap.size q4 c4 LL) := Lib.hid (v4.ext ((Ext.refl w4).alloc _)); have T9e := Lib.hid (T9d.out.ext HXe); have T10 : Hid (Blk (w4.alloc (.cells #[.int .u64 (la : Int), .slice q4 nl c4] 25)) w4.heap.size 25 [.int .u64 (la : Int), .slice q4 nl c4]) := Lib.hid (Blk.new w4 [.int .u64 (la : Int), .slice q4 nl c4] 25); have HVe := Lib.hid (HVd.out.ext HXe); have hs4 : ((w3.setCell ⟨w2.heap.size + 1, 0, none⟩ (.int .u64 (la : Int))).setCell ⟨w2.heap.size + 1, 1, none⟩ (.slice q3 nl c3)).heap.size ≤ w4.heap.size := x4.size; have hs9 := T9d.out.lt; have e0 := T9e.out.cell 0 _ rfl; have e1 := T9e.out.cell 1 _ rfl; have ef0 := T9e.out.frozen 0; have ef1 := T9e.out.frozen 1; clear v4 HXe x4))
          have HSm : Hid (∀ u, Ext (w2.alloc (.cells #[.int .u64 (m : Int), .slice q2 k c2] 25)) u → Calls Try.prog 20 #[.agg #[.int .u64 (m : Int), .slice q k c], .agg #[.int .u64 (m : Int), .slice q2 k c2]] u fun e w' => e = .returned (.bool true) ∧ Ext u w') := Lib.hid (fun u y => by
            have := same_any u m m q q2 c c2 L L (HC.out.1.ext (HEb.out.trans y)) (HV2.out.ext y) HkL.out
            rw [HC.out.2.1] at this
            simpa using this)
          have HG0 : Hid (0 < c3 → ∀ g, q3 = some ⟨g, 0, none⟩ → g < ((w3.setCell ⟨w2.heap.size + 1, 0, none⟩ (.int .u64 (la : Int))).setCell ⟨w2.heap.size + 1, 1, none⟩ (.slice q3 nl c3)).heap.size) := Lib.hid (fun h0 g e => by
            obtain ⟨g', cur, e', _, h3, _⟩ := HVd.out.sl.2.2.2 h0
            rw [e] at e'
            cases e'
            exact heap_lt h3)
          have hwd : w2.heap.size + 1 < ((w3.setCell ⟨w2.heap.size + 1, 0, none⟩ (.int .u64 (la : Int))).setCell ⟨w2.heap.size + 1, 1, none⟩ (.slice q3 nl c3)).heap.size := hs9
          by_cases hn0 : nl = 0
          · subst hn0
            have HLX := HNL
            have HEg : Hid (Ext (w2.alloc (.cells #[.int .u64 (m : Int), .slice q2 k c2] 25)) ((w4.alloc (.cells #[.int .u64 (la : Int), .slice q4 0 c4] 25)).alloc (.cells #[.int .u64 78, .int .u8 0, .string ⟨#[]⟩] 35))) := Lib.hid (HEe.out.alloc _)
            have T9g : Hid (Blk ((w4.alloc (.cells #[.int .u64 (la : Int), .slice q4 0 c4] 25)).alloc (.cells #[.int .u64 78, .int .u8 0, .string ⟨#[]⟩] 35)) (w2.heap.size + 1) 25 [.int .u64 (la : Int), .slice q3 0 c3]) := Lib.hid (T9e.out.alloc _)
            have T10g : Hid (Blk ((w4.alloc (.cells #[.int .u64 (la : Int), .slice q4 0 c4] 25)).alloc (.cells #[.int .u64 78, .int .u8 0, .string ⟨#[]⟩] 35)) w4.heap.size 25 [.int .u64 (la : Int), .slice q4 0 c4]) := Lib.hid (T10.out.alloc _)
            have B5g : Hid (Blk ((w4.alloc (.cells #[.int .u64 (la : Int), .slice q4 0 c4] 25)).alloc (.cells #[.int .u64 78, .int .u8 0, .string ⟨#[]⟩] 35)) w1.heap.size 25 [.int .u64 (m : Int), .slice q k c]) := Lib.hid (B5b.out.ext HEg.out)
            have B8g : Hid (Blk ((w4.alloc (.cells #[.int .u64 (la : Int), .slice q4 0 c4] 25)).alloc (.cells #[.int .u64 78, .int .u8 0, .string ⟨#[]⟩] 35)) w2.heap.size 25 [.int .u64 (m : Int), .slice q2 k c2]) := Lib.hid (B8.out.ext HEg.out)
            have HVg : Hid (IsV ((w4.alloc (.cells #[.int .u64 (la : Int), .slice q4 0 c4] 25)).alloc (.cells #[.int .u64 78, .int .u8 0, .string ⟨#[]⟩] 35)) ((w3.setCell ⟨w2.heap.size + 1, 0, none⟩ (.int .u64 (la : Int))).setCell ⟨w2.heap.size + 1, 1, none⟩ (.slice q3 0 c3)).heap.size q4 c4 LL) := Lib.hid (HVq.out.ext ((Ext.refl _).alloc _))
            have HSL : Hid (Sl ((w4.alloc (.cells #[.int .u64 (la : Int), .slice q4 0 c4] 25)).alloc (.cells #[.int .u64 78, .int .u8 0, .string ⟨#[]⟩] 35)) (kp q3) 1 3 35 q3 0 c3 (vsCells LL)) := Lib.hid (by have := (HVe.out.ext ((Ext.refl _).alloc (.cells #[.int .u64 78, .int .u8 0, .string ⟨#[]⟩] 35))).sl; rwa [HLX.out] at this)
            have HLOW : Hid (∀ g' : Nat, (q3 : Option Addr) = some ⟨g', 0, none⟩ → (w2.alloc (.cells #[.int .u64 (m : Int), .slice q2 k c2] 25)).heap.size ≤ g') := Lib.hid HVe.out.low
            have HSZ : Hid ((w2.alloc (.cells #[.int .u64 (m : Int), .slice q2 k c2] 25)).heap.size ≤ ((w4.alloc (.cells #[.int .u64 (la : Int), .slice q4 0 c4] 25)).alloc (.cells #[.int .u64 78, .int .u8 0, .string ⟨#[]⟩] 35)).heap.size) := Lib.hid HEg.out.size
            have HSRC := Lib.hid ((versP_one (Blk.newAt (w4.alloc (.cells #[.int .u64 (la : Int), .slice q4 0 c4] 25)) [.int .u64 78, .int .u8 0, .string ⟨#[]⟩] 35 (w4.heap.size + 1) (by simp))).src 1)
            have HLT : Hid (0 < c3 → ∀ g' : Nat, (q3 : Option Addr) = some ⟨g', 0, none⟩ → g' < ((w3.setCell ⟨w2.heap.size + 1, 0, none⟩ (.int .u64 (la : Int))).setCell ⟨w2.heap.size + 1, 1, none⟩ (.slice q3 0 c3)).heap.size) := HG0
            have hn9 : 0 + 1 ≤ 1000000000 := by omega
            go_wp2_with (first | (refine wpList_append_sl rfl (.tmp 82) (.tmp 84) 23 23 rfl Try.underlying23 infoV rfl (by decide) rfl HSL.out (vsCells_one _) _ rfl 1 _ HSRC.out hn9 ?_; intro p6 c6 w6 κ6 s6 f6 e6 x6 o6; have HK6 := Lib.hid (keepV_of_fr HSL.out HLOW.out HSZ.out f6 x6); have U9 := Lib.hid (T9g.out.keepV HK6.out (by decide)); have U10 := Lib.hid (T10g.out.keepV HK6.out (by decide)); have U5 := Lib.hid (B5g.out.keepV HK6.out (by decide)); have U8 := Lib.hid (B8g.out.keepV HK6.out (by decide)); have HE6 := Lib.hid (HEg.out.keptV HK6.out); have HV6 := Lib.hid (isV_fr HVg.out f6 x6 HLT.out); have u0 := U9.out.cell 0 _ rfl; have u1 := U9.out.cell 1 _ rfl; have uf0 := U9.out.frozen 0; have uf1 := U9.out.frozen 1; have HE7 : Hid (Ext (w2.alloc (.cells #[.int .u64 (m : Int), .slice q2 k c2] 25)) (w6.setCell ⟨w2.heap.size + 1, 1, none⟩ (.slice p6 1 c6))) := Lib.hid (HE6.out.setCell (p := ⟨w2.heap.size + 1, 1, none⟩) (by simp) _); have Y5 := Lib.hid (U5.out.other (g := w2.heap.size + 1) (by omega) 1 (.slice p6 1 c6)); have Y8 := Lib.hid (U8.out.other (g := w2.heap.size + 1) (by omega) 1 (.slice p6 1 c6)); have Y10 := Lib.hid (U10.out.other (g := w2.heap.size + 1) (by omega) 1 (.slice p6 1 c6)); have HV7 := Lib.hid (HV6.out.setCell (a := ⟨w2.heap.size + 1, 1, none⟩) hs9 (.slice p6 1 c6)); have y0 := Y5.out.cell 0 _ rfl; have y1 := Y5.out.cell 1 _ rfl; have z0 := Y8.out.cell 0 _ rfl; have z1 := Y8.out.cell 1 _ rfl; clear s6 f6 e6 x6 o6; rw [Nat.zero_add]) | (go_at_call 20; refine (HSm.out _ HE7.out).mono ?_; rintro e w8 ⟨rfl, x8⟩; have Z5 := Lib.hid (Y5.out.ext x8); have Z10 := Lib.hid (Y10.out.ext x8); have HE8 := Lib.hid (HE7.out.trans x8); have HV8 := Lib.hid (HV7.out.ext x8); have y0 := Z5.out.cell 0 _ rfl; have y1 := Z5.out.cell 1 _ rfl; have yf0 := Z5.out.frozen 0; have yf1 := Z5.out.frozen 1; have t0 := Z10.out.cell 0 _ rfl; have t1 := Z10.out.cell 1 _ rfl; clear x8))
            go_roundw
            case rel =>
              refine ⟨j + 1, la, 0, c4, q4, LL, by omega, by go_num, Lib.hid ((Z5.out.set_ 0 _).set_ 1 _), Lib.hid ⟨?_, HNL.out, HM.out.1, HM.out.2⟩, Lib.hid ?_⟩
              · exact ((HV8.out.setCell (a := ⟨w1.heap.size, 0, none⟩) (Nat.lt_trans hs5 (Nat.lt_of_lt_of_le hs2 (by omega))) _).setCell (a := ⟨w1.heap.size, 1, none⟩) (Nat.lt_trans hs5 (Nat.lt_of_lt_of_le hs2 (by omega))) _).vers
              · exact ((HX.out.trans (HEb.out.trans HE8.out)).setCell (p := ⟨w1.heap.size, 0, none⟩) HX1.out.size _).setCell (p := ⟨w1.heap.size, 1, none⟩) HX1.out.size _
            case measure => simp [intOf]; omega
          · have hn0i : (0 : Int) < (nl : Int) := by omega
            have hnp : 0 < nl := by omega
            clear hn0
            obtain ⟨kk, hkk⟩ : ∃ kk, av % nl = kk := ⟨_, rfl⟩
            have hkl : kk < nl := by rw [← hkk]; exact Nat.mod_lt _ hnp
            have hrem : ((av : Int)).tmod (nl : Int) = (kk : Int) := by rw [Int.tmod_eq_emod_of_nonneg (by omega), ← hkk]; omega
            have hremE : ((av : Int)) % (nl : Int) = (kk : Int) := by rw [← hkk]; omega
            obtain ⟨v, hv⟩ : ∃ v, LL[kk]? = some v := ⟨_, List.getElem?_eq_getElem (by rw [HNL.out]; exact hkl)⟩
            obtain ⟨a', ea, _⟩ := HVe.out.vers.three (Ext.refl _) hv
            cases ea
            obtain ⟨g, ea, hlow⟩ := HVe.out.block
            cases ea
            obtain ⟨⟨k0, k1, k2⟩, ⟨l0, l1, l2⟩, j1, j2⟩ := HVe.out.lit (x := ⟨77, 3, ⟨#[]⟩⟩) hv
            have HVf := Lib.hid j1
            have HEf := Lib.hid (HEe.out.keptV j2)
            have T9f := Lib.hid (T9e.out.keepV j2 (by decide))
            have T10f := Lib.hid (T10.out.keepV j2 (by decide))
            have hgl := HG0.out (by have := HVe.out.le; have := HNL.out; omega) g rfl
            have HVqf := Lib.hid (((HVq.out.setCell (a := ⟨g, kk * 3, none⟩) hgl (.int .u64 77)).setCell (a := ⟨g, kk * 3 + 1, none⟩) hgl (.int .u8 3)).setCell (a := ⟨g, kk * 3 + 2, none⟩) hgl (.string ⟨#[]⟩))
            have HLX : Hid ((LL.set kk ⟨77, 3, ⟨#[]⟩⟩).length = nl) := Lib.hid (by rw [List.length_set]; exact HNL.out)
            have hge := HLO.out g rfl
            have n0 : ¬ g = w2.heap.size + 1 := by omega
            have n0' : ¬ w2.heap.size + 1 = g := by omega
            clear j1 j2 hv hkk hge hlow
            go_upto_region 20 with (fail)
            generalize ((((w4.alloc (.cells #[.int .u64 (la : Int), .slice q4 nl c4] 25)).setCell ⟨g, kk * 3, none⟩ (.int .u64 77)).setCell ⟨g, kk * 3 + 1, none⟩ (.int .u8 3)).setCell ⟨g, kk * 3 + 2, none⟩ (.string ⟨#[]⟩)) = V at HVf HEf T9f T10f HVqf ⊢
            clear e0 e1 ef0 ef1 k0 k1 k2 l0 l1 l2
            have e0 := T9f.out.cell 0 _ rfl
            have e1 := T9f.out.cell 1 _ rfl
            have ef0 := T9f.out.frozen 0
            have ef1 := T9f.out.frozen 1
            have HEg : Hid (Ext (w2.alloc (.cells #[.int .u64 (m : Int), .slice q2 k c2] 25)) (V.alloc (.cells #[.int .u64 78, .int .u8 0, .string ⟨#[]⟩] 35))) := Lib.hid (HEf.out.alloc _)
            have T9g : Hid (Blk (V.alloc (.cells #[.int .u64 78, .int .u8 0, .string ⟨#[]⟩] 35)) (w2.heap.size + 1) 25 [.int .u64 (la : Int), .slice (some ⟨g, 0, none⟩) nl c3]) := Lib.hid (T9f.out.alloc _)
            have T10g : Hid (Blk (V.alloc (.cells #[.int .u64 78, .int .u8 0, .string ⟨#[]⟩] 35)) w4.heap.size 25 [.int .u64 (la : Int), .slice q4 nl c4]) := Lib.hid (T10f.out.alloc _)
            have B5g : Hid (Blk (V.alloc (.cells #[.int .u64 78, .int .u8 0, .string ⟨#[]⟩] 35)) w1.heap.size 25 [.int .u64 (m : Int), .slice q k c]) := Lib.hid (B5b.out.ext HEg.out)
            have B8g : Hid (Blk (V.alloc (.cells #[.int .u64 78, .int .u8 0, .string ⟨#[]⟩] 35)) w2.heap.size 25 [.int .u64 (m : Int), .slice q2 k c2]) := Lib.hid (B8.out.ext HEg.out)
            have HVg : Hid (IsV (V.alloc (.cells #[.int .u64 78, .int .u8 0, .string ⟨#[]⟩] 35)) ((w3.setCell ⟨w2.heap.size + 1, 0, none⟩ (.int .u64 (la : Int))).setCell ⟨w2.heap.size + 1, 1, none⟩ (.slice (some ⟨g, 0, none⟩) nl c3)).heap.size q4 c4 LL) := Lib.hid (HVqf.out.ext ((Ext.refl _).alloc _))
            have HSL : Hid (Sl (V.alloc (.cells #[.int .u64 78, .int .u8 0, .string ⟨#[]⟩] 35)) (kp (some ⟨g, 0, none⟩)) 1 3 35 (some ⟨g, 0, none⟩) nl c3 (vsCells (LL.set kk ⟨77, 3, ⟨#[]⟩⟩))) := Lib.hid (by have := (HVf.out.ext ((Ext.refl _).alloc (.cells #[.int .u64 78, .int .u8 0, .string ⟨#[]⟩] 35))).sl; rwa [HLX.out] at this)
            have HLOW : Hid (∀ g' : Nat, ((some ⟨g, 0, none⟩) : Option Addr) = some ⟨g', 0, none⟩ → (w2.alloc (.cells #[.int .u64 (m : Int), .slice q2 k c2] 25)).heap.size ≤ g') := Lib.hid HVf.out.low
            have HSZ : Hid ((w2.alloc (.cells #[.int .u64 (m : Int), .slice q2 k c2] 25)).heap.size ≤ (V.alloc (.cells #[.int .u64 78, .int .u8 0, .string ⟨#[]⟩] 35)).heap.size) := Lib.hid HEg.out.size
            have HSRC := Lib.hid ((versP_one (Blk.new V [.int .u64 78, .int .u8 0, .string ⟨#[]⟩] 35)).src 1)
            have HLT : Hid (0 < c3 → ∀ g' : Nat, ((some ⟨g, 0, none⟩) : Option Addr) = some ⟨g', 0, none⟩ → g' < ((w3.setCell ⟨w2.heap.size + 1, 0, none⟩ (.int .u64 (la : Int))).setCell ⟨w2.heap.size + 1, 1, none⟩ (.slice (some ⟨g, 0, none⟩) nl c3)).heap.size) := HG0
            have hn9 : nl + 1 ≤ 1000000000 := by omega
            go_wp2_with (first | (refine wpList_append_sl rfl (.tmp 82) (.tmp 84) 23 23 rfl Try.underlying23 infoV rfl (by decide) rfl HSL.out (vsCells_one _) _ rfl 1 _ HSRC.out hn9 ?_; intro p6 c6 w6 κ6 s6 f6 e6 x6 o6; have HK6 := Lib.hid (keepV_of_fr HSL.out HLOW.out HSZ.out f6 x6); have U9 := Lib.hid (T9g.out.keepV HK6.out (by decide)); have U10 := Lib.hid (T10g.out.keepV HK6.out (by decide)); have U5 := Lib.hid (B5g.out.keepV HK6.out (by decide)); have U8 := Lib.hid (B8g.out.keepV HK6.out (by decide)); have HE6 := Lib.hid (HEg.out.keptV HK6.out); have HV6 := Lib.hid (isV_fr HVg.out f6 x6 HLT.out); have u0 := U9.out.cell 0 _ rfl; have u1 := U9.out.cell 1 _ rfl; have uf0 := U9.out.frozen 0; have uf1 := U9.out.frozen 1; have HE7 : Hid (Ext (w2.alloc (.cells #[.int .u64 (m : Int), .slice q2 k c2] 25)) (w6.setCell ⟨w2.heap.size + 1, 1, none⟩ (.slice p6 (nl + 1) c6))) := Lib.hid (HE6.out.setCell (p := ⟨w2.heap.size + 1, 1, none⟩) (by simp) _); have Y5 := Lib.hid (U5.out.other (g := w2.heap.size + 1) (by omega) 1 (.slice p6 (nl + 1) c6)); have Y8 := Lib.hid (U8.out.other (g := w2.heap.size + 1) (by omega) 1 (.slice p6 (nl + 1) c6)); have Y10 := Lib.hid (U10.out.other (g := w2.heap.size + 1) (by omega) 1 (.slice p6 (nl + 1) c6)); have HV7 := Lib.hid (HV6.out.setCell (a := ⟨w2.heap.size + 1, 1, none⟩) hs9 (.slice p6 (nl + 1) c6)); have y0 := Y5.out.cell 0 _ rfl; have y1 := Y5.out.cell 1 _ rfl; have z0 := Y8.out.cell 0 _ rfl; have z1 := Y8.out.cell 1 _ rfl; clear s6 f6 e6 x6 o6) | (go_at_call 20; refine (HSm.out _ HE7.out).mono ?_; rintro e w8 ⟨rfl, x8⟩; have Z5 := Lib.hid (Y5.out.ext x8); have Z10 := Lib.hid (Y10.out.ext x8); have HE8 := Lib.hid (HE7.out.trans x8); have HV8 := Lib.hid (HV7.out.ext x8); have y0 := Z5.out.cell 0 _ rfl; have y1 := Z5.out.cell 1 _ rfl; have yf0 := Z5.out.frozen 0; have yf1 := Z5.out.frozen 1; have t0 := Z10.out.cell 0 _ rfl; have t1 := Z10.out.cell 1 _ rfl; clear x8))
            go_roundw
            case rel =>
              refine ⟨j + 1, la, nl, c4, q4, LL, by omega, by go_num, Lib.hid ((Z5.out.set_ 0 _).set_ 1 _), Lib.hid ⟨?_, HNL.out, HM.out.1, HM.out.2⟩, Lib.hid ?_⟩
              · exact ((HV8.out.setCell (a := ⟨w1.heap.size, 0, none⟩) (Nat.lt_trans hs5 (Nat.lt_of_lt_of_le hs2 (by omega))) _).setCell (a := ⟨w1.heap.size, 1, none⟩) (Nat.lt_trans hs5 (Nat.lt_of_lt_of_le hs2 (by omega))) _).vers
              · exact ((HX.out.trans (HEb.out.trans HE8.out)).setCell (p := ⟨w1.heap.size, 0, none⟩) HX1.out.size _).setCell (p := ⟨w1.heap.size, 1, none⟩) HX1.out.size _
            case measure => simp [intOf]; omega
      · have hlti : ¬ (j : Int) < (K : Int) := by omega
        go_wp2_with (go_at_call 8; refine (works17_any _).mono ?_; rintro e w9 ⟨rfl, x9⟩)
        go_ret
        exact ⟨rfl, HX.out.trans x9⟩
end Go.Proofs.Ytbobijgbemnmiaa
