/- The walk of KeyringBack: what was written is read; a copy goes on by itself. -/
import Derived.Test.YteddogalmdgjlaaDoorM46
import Derived.Test.YteddogalmdgjlaaDoorM47
import Derived.Deep.DeepCutAuto
import Derived.Outline
namespace Go.Proofs.YteddogalmdgjlaaDoor
open Go.RowKit

theorem fullB_or {K : List (Nat × ByteArray)} (k : Nat) (hk : k ≤ 200) (ht : top (eps K) ≤ k) : (64 ≤ K.length ∨ top (eps K) = 4294967295) ∨ (K.length < 64 ∧ top (eps K) < 4294967295) := by omega
theorem grown_self (w : World) (row : Option Nat) : w.grownBy w row := ⟨rfl, rfl, rfl, Nat.le_refl _, fun _ _ _ => rfl⟩
theorem IsK.grown {w w' : World} {r b k : Nat} {L : List (Nat × ByteArray)} (h : IsK w r b L) (g : w.grownBy w' (some k)) (h1 : k ≠ r) (h2 : k ≠ b) : IsK w' r b L :=
  ⟨(g.block r h.ring.lt (by simpa using h1.symm)).trans h.ring, h.map.same (g.block b h.map.lt (by simpa using h2.symm)), h.good⟩
theorem apart_of {w : World} {r b r3 b3 : Nat} {L : List (Nat × ByteArray)} (h : IsK w r b L) (h1 : w.heap.size ≤ r3) (h2 : w.heap.size ≤ b3) : b ≠ r3 ∧ b ≠ b3 := by
  have := h.map.lt
  omega
theorem retire_all (w : World) (r b : Nat) (L : List (Nat × ByteArray)) (h : IsK w r b L) (e : Nat) (h32 : e < 4294967296) :
    Calls Tryd.prog 16 #[.pointer (some ⟨r, 0, none⟩), .int .u32 (e : Int)] w fun x w' => ∃ (v : Int) (L' : List (Nat × ByteArray)), x = .returned (.int .i64 v) ∧ IsK w' r b L' ∧ top (eps L') = top (eps L) ∧ w.grownBy w' (some b) := by
  by_cases h1 : e = top (eps L)
  · subst h1
    exact (retire_top w r b L h).mono fun _ _ q => ⟨_, L, q.1, h.ext q.2, rfl, grownK_ext (grown_self w _) q.2⟩
  · by_cases h2 : e ∈ eps L
    · exact (retire_yes w r b L h e h1 h2).mono fun _ _ q => ⟨_, _, q.1, q.2.1, outK_top h.good h2 h1, q.2.2⟩
    · exact (retire_none w r b L h e h32 h2).mono fun _ _ q => ⟨_, L, q.1, h.ext q.2, rfl, grownK_ext (grown_self w _) q.2⟩
theorem rotate_all (w : World) (r b : Nat) (L : List (Nat × ByteArray)) (h : IsK w r b L) (s : ByteArray) (hs : s.size = 32) (ht : top (eps L) ≤ 200) :
    Calls Tryd.prog 17 #[.pointer (some ⟨r, 0, none⟩), .string s] w fun x w' => ∃ (v : Value) (L' : List (Nat × ByteArray)), x = .returned v ∧ IsK w' r b L' ∧ top (eps L') ≤ top (eps L) + 1 ∧ w.grownBy w' (some b) := by
  rcases fullB_or 200 (by omega) ht with hf | hr
  · exact (rotate_full w r b L h s hs hf).mono fun _ _ q => ⟨_, L, q.1, h.ext q.2, by omega, grownK_ext (grown_self w _) q.2⟩
  · exact (rotate_yes w r b L h s hs hr.1 hr.2).mono fun _ _ q => ⟨_, _, q.1, q.2.1, by rw [top_snoc _ _ _ (Nat.lt_succ_self _)]; exact Nat.le_refl _, q.2.2⟩
theorem ring_longer (K : List (Nat × ByteArray)) (hG : GoodK K) (t : Nat) (B : ByteArray) (hB : B.size = 32) : ((⟨(ringL (K ++ [(t, B)])).toArray⟩ : ByteArray).toList == (⟨(ringL K).toArray⟩ : ByteArray).toList) = false := by
  rw [beq_eq_false_iff_ne]
  intro q
  rw [ByteArray.toList_eq, ByteArray.toList_eq] at q
  have := congrArg List.length q
  simp only [ringL, List.length_cons] at this
  rw [rowsL_length (L := K ++ [(t, B)]) (fun x hx => by
    rcases List.mem_append.1 hx with hx | hx
    · exact (hG.each x hx).2.2
    · rw [List.mem_singleton] at hx; subst hx; exact hB), rowsL_length fun x hx => (hG.each x hx).2.2, List.length_append] at this
  simp at this
  omega
theorem keys_sized (u : World) (r b : Nat) (K : List (Nat × ByteArray)) (hL : Laid u) (h : IsK u r b K) (e : Nat) (he : e ∈ eps K) :
    Calls Tryd.prog 21 #[.pointer (some ⟨r, 0, none⟩), .int .u32 (e : Int)] u fun x w' => ∃ D1 D2 : ByteArray, x = .returned (.tuple #[.string D1, .string D2, .bool true]) ∧ D1.size = 16 ∧ D2.size = 32 ∧ Ext u w' := by
  obtain ⟨⟨e', s⟩, hx, rfl⟩ := List.mem_map.1 he
  exact (keys_yes u r b K hL h e' s hx).mono fun _ _ q => ⟨_, _, q.1, kd_size _ _ _ (by omega), kd_size _ _ _ (by omega), q.2⟩
set_option maxRecDepth 1000000 in
set_option maxHeartbeats 8000000 in
theorem KeyringBack_walk (w : World) (hL : Laid w) (a0 b0 : ByteArray) (p : Option Addr) (c : Nat) (L : List Act13) (za : a0.size ≤ 140737488351232) (zb : b0.size ≤ 140737488351232) (hP : Act13sP w p L) (hok : ∀ x ∈ L, x.Ok) (hl : L.length ≤ 140737488355328) :
    Calls Tryd.prog 4 #[.string a0, .string b0, .slice p L.length c] w fun e w' => e = .returned (.bool true) ∧ Ext w w' := by
  have HHv := Lib.hid (heavyK_any w p c L hP hok hl)
  have HW := Lib.hid (fun u (hu : Ext w u) => worksK u (hL.ext hu))
  have HP := Lib.hid hP; have HOk := Lib.hid hok; have HL := Lib.hid hL
  have zA := f32B_size a0
  have zB := f32B_size b0
  have HFa := Lib.hid (fun u => fullK_any a0 u)
  have HFb := Lib.hid (fun u => fullK_any b0 u)
  generalize f32B a0 = A at *
  generalize f32B b0 = B at *
  have HFd := HFa; have HFc := HFb
  have HzA := Lib.hid zA; have HzB := Lib.hid zB
  clear hP hok hL zA zB
  go_enter Tryd.func4, Tryd.ntmps4
  by_cases h400 : 400 < a0.size + b0.size
  · have h400i : (400 : Int) < (a0.size : Int) + (b0.size : Int) := by omega
    go_wp2_with (first
      | (go_at_call 6; refine (HHv.out).mono ?_; rintro e w1 ⟨⟨hb, rfl, hlt⟩, rfl⟩; clear hlt; cases hb)
      | (go_at_call 7; refine (HW.out _ (Ext.refl _)).mono ?_; rintro e w2 ⟨rfl, x2⟩))
    all_goals
      go_ret
      exact ⟨rfl, x2⟩
  · have h400i : ¬ (400 : Int) < (a0.size : Int) + (b0.size : Int) := by omega
    go_wp2_with (first
      | (go_at_call 6; refine (HHv.out).mono ?_; rintro e w1 ⟨⟨hb, rfl, hlt⟩, rfl⟩; have HLt := Lib.hid hlt; clear hlt; cases hb)
      | (go_at_call 7; refine (HW.out _ (Ext.refl _)).mono ?_; rintro e w2 ⟨rfl, x2⟩)
      | (go_at_call 9; refine (HFa.out _).mono ?_; rintro e w2 ⟨rfl, x2⟩)
      | (go_at_call 15; refine (newK_yes _ A HzA.out).mono ?_; rintro e w3 ⟨r, b, rfl, i3, q3, p3, x3⟩; have I3 := Lib.hid i3; have X3 := Lib.hid (x2.trans x3); have Q3 := Lib.hid (Nat.le_trans x2.size p3); clear i3 x2 x3 q3 p3))
    · have hl80 := HLt.out (by trivial)
      clear HHv HFa HLt hl h400 h400i
      go_loopw [9] (fun iv wr => ∃ (k : Nat) (K : List (Nat × ByteArray)), k ≤ L.length ∧ iv = .int .i64 (k : Int) ∧ Hid (IsK wr r b K) ∧ Hid (top (eps K) ≤ k + 1) ∧ Hid (Ext w wr)) (fun iv _ => L.length - (intOf iv).toNat)
      case atStart => exact ⟨0, [(1, A)], Nat.zero_le _, rfl, I3, Lib.hid (by simp [eps, top]), X3⟩
      case round =>
        obtain ⟨k, K, hk, rfl, HK, HT, HX⟩ := hrel
        clear I3 X3
        by_cases hlt : k < L.length
        · have hlti : (k : Int) < (L.length : Int) := by omega
          obtain ⟨x, hx⟩ : ∃ x, L[k]? = some x := ⟨_, List.getElem?_eq_getElem hlt⟩
          obtain ⟨a, rfl, ha, hc⟩ := (HP.out.ext HX.out) k x hx
          have hok := HOk.out x (List.mem_of_getElem? hx)
          have he32 := hok.Epoch
          have k0 : wr.cell? (a.add (k * 4)) = some (.bool x.Go) := hc 0 _ rfl
          have k1 := act13_at (k := 0) (hc 1 _ rfl)
          have k2 := act13_at (k := 1) (hc 2 _ rfl)
          clear hx hc hok ha
          have HRt := Lib.hid (fun u (hu : IsK u r b K) => retire_all u r b K hu x.Epoch he32)
          have HFk := Lib.hid (fun u => fullK_any x.Key u)
          have HRo := Lib.hid (fun u (hu : IsK u r b K) => rotate_all u r b K hu (f32B x.Key) (f32B_size _) (by have := HT.out; omega))
          generalize f32B x.Key = Bk at *
          generalize x.Go = go at *
          generalize x.Epoch = ep at *
          generalize x.Key = ky at *
          cases go
          · go_wp2_with (first
              | (go_at_call 9; refine (HFk.out _).mono ?_; rintro e w4 ⟨rfl, x4⟩)
              | (go_at_call 17; refine (HRo.out _ (HK.out.ext x4)).mono ?_; rintro e w5 ⟨v5, K5, rfl, i5, t5, g5⟩; have I5 := Lib.hid i5; have T5 := Lib.hid t5; have X5 := Lib.hid ((HX.out.trans x4).grownBack g5 Q3.out); clear i5 g5 t5))
            go_roundw
            case rel => exact ⟨k + 1, K5, hlt, by go_num, I5, Lib.hid (by have := T5.out; have := HT.out; omega), X5⟩
            case measure => simp [intOf]; omega
          · go_wp2_with (go_at_call 16; refine (HRt.out _ HK.out).mono ?_; rintro e w5 ⟨v5, K5, rfl, i5, t5, g5⟩; have I5 := Lib.hid i5; have T5 := Lib.hid t5; have X5 := Lib.hid (HX.out.grownBack g5 Q3.out); clear i5 g5 t5)
            go_roundw
            case rel => exact ⟨k + 1, K5, hlt, by go_num, I5, Lib.hid (by have := T5.out; have := HT.out; omega), X5⟩
            case measure => simp [intOf]; omega
        · have hlti : ¬ (k : Int) < (L.length : Int) := by omega
          have hG := HK.out.good
          have HBg := Lib.hid (fun u r b (hu : IsK u r b K) => bytes_any u r b K hu)
          have HBa := Lib.hid (fun u (hu : IsK u r b K) => bytes_any u r b K hu)
          have HRd := Lib.hid (fun u => read_yes u K hG)
          have HCp := Lib.hid (fun u (hu : IsK u r b K) => copy_any u r b K hu)
          have hB1 : ByteArray.size (B ++ ⟨#[120]⟩) ≠ 32 := by rw [ByteArray.size_append, HzB.out]; decide
          have HRa := Lib.hid (fun u r b (hu : IsK u r b K) => rotate_arg u r b K hu (B ++ ⟨#[120]⟩) hB1)
          have HNd := Lib.hid (fun u r b (hu : IsK u r b K) => newest_any u r b K hu)
          rcases fullB_or (k + 1) (by omega) HT.out with hfull | hroom
          · have HRo := Lib.hid (fun u (hu : IsK u r b K) => rotate_full u r b K hu B HzB.out hfull)
            have HNr := Lib.hid (fun u (hu : IsK u r b K) => newest_any u r b K hu)
            have HKy := Lib.hid (fun u (hx : Ext w u) (hu : IsK u r b K) => keys_sized u r b K (HL.out.ext hx) hu (top (eps K)) hG.top_in)
            clear hfull hB1 HNd hG
            generalize top (eps K) = t at *
            generalize (⟨(ringL K).toArray⟩ : ByteArray) = S at *
            have HBb := HBg; have HBc := HBg; have HBd := HBg
            clear HBg
            go_wp2_with (first
        | (go_at_call 18; refine (HBa.out _ HK.out).mono ?_; rintro e w2 ⟨rfl, x2⟩; have K2 := Lib.hid (HK.out.ext x2); have X2 := Lib.hid (HX.out.trans x2); clear x2 HBa)
        | (go_at_call 12; refine (HRd.out _).mono ?_; rintro e w3 ⟨r2, b2, rfl, i3, q3, p3, x3⟩; have C3 := Lib.hid i3; have K3 := Lib.hid (K2.out.ext x3); have X3 := Lib.hid (X2.out.trans x3); clear i3 q3 p3 x3 HRd)
        | (go_at_call 19; refine (HCp.out _ K3.out).mono ?_; rintro e w4 ⟨r3, b3, rfl, i4, q4, p4, x4⟩; have D4 := Lib.hid i4; have C4 := Lib.hid (C3.out.ext x4); have N4 := Lib.hid (apart_of K3.out q4 p4); have K4 := Lib.hid (K3.out.ext x4); have X4 := Lib.hid (X3.out.trans x4); clear i4 q4 p4 x4 HCp)
        | (go_at_call 18; refine (HBb.out _ _ _ C4.out).mono ?_; rintro e w5 ⟨rfl, x5⟩; have D5 := Lib.hid (D4.out.ext x5); have K5 := Lib.hid (K4.out.ext x5); have X5 := Lib.hid (X4.out.trans x5); clear x5 HBb)
        | (go_at_call 18; refine (HBc.out _ _ _ D5.out).mono ?_; rintro e w6 ⟨rfl, x6⟩; have D6 := Lib.hid (D5.out.ext x6); have K6 := Lib.hid (K5.out.ext x6); have X6 := Lib.hid (X5.out.trans x6); clear x6 HBc)
        | (go_at_call 9; refine (HFb.out _).mono ?_; rintro e w7 ⟨rfl, x7⟩; have D7 := Lib.hid (D6.out.ext x7); have K7 := Lib.hid (K6.out.ext x7); have X7 := Lib.hid (X6.out.trans x7); clear x7 HFb)
        | (go_at_call 17; refine (HRo.out _ K7.out).mono ?_; rintro e w8 ⟨rfl, x8⟩; have D8 := Lib.hid (D7.out.ext x8); have K8 := Lib.hid (K7.out.ext x8); have X8 := Lib.hid (X7.out.trans x8); clear x8 HRo)
        | (go_at_call 9; refine (HFc.out _).mono ?_; rintro e w9 ⟨rfl, x9⟩; have D9 := Lib.hid (D8.out.ext x9); have K9 := Lib.hid (K8.out.ext x9); have X9 := Lib.hid (X8.out.trans x9); clear x9 HFc)
        | (go_at_call 17; refine (HRa.out _ _ _ D9.out).mono ?_; rintro e w10 ⟨rfl, x10⟩; have D10 := Lib.hid (D9.out.ext x10); have K10 := Lib.hid (K9.out.ext x10); have X10 := Lib.hid (X9.out.trans x10); clear x10 HRa)
        | (go_at_call 18; refine (HBd.out _ _ _ D10.out).mono ?_; rintro e w11 ⟨rfl, x11⟩; have D11 := Lib.hid (D10.out.ext x11); have K11 := Lib.hid (K10.out.ext x11); have X11 := Lib.hid (X10.out.trans x11); clear x11 HBd)
        | (go_at_call 20; refine (HNr.out _ K11.out).mono ?_; rintro e w14 ⟨rfl, x14⟩; have K14 := Lib.hid (K11.out.ext x14); have X14 := Lib.hid (X11.out.trans x14); clear x14 HNr)
        | (go_at_call 21; refine (HKy.out _ X14.out K14.out).mono ?_; rintro e w15 ⟨D1, D2, rfl, z1, z2, x15⟩; have X15 := Lib.hid (X14.out.trans x15); clear x15 HKy)
        | (go_at_call 9; refine (HFd.out _).mono ?_; rintro e w16 ⟨rfl, x16⟩; have X16 := Lib.hid (X15.out.trans x16); clear x16 HFd)
        | (go_at_call 17; refine (rotate_nil _ _).mono ?_; rintro e w17 ⟨rfl, rfl⟩)
        | (go_at_call 21; refine (keys_nil _ _).mono ?_; rintro e w18 ⟨rfl, rfl⟩)
        | (go_at_call 16; refine (retire_nil _ _).mono ?_; rintro e w19 ⟨rfl, rfl⟩)
        | (go_at_call 20; refine (newest_nil _).mono ?_; rintro e w20 ⟨rfl, rfl⟩)
        | (go_at_call 22; refine (epochs_nil _).mono ?_; rintro e w21 ⟨rfl, rfl⟩)
        | (go_at_call 18; refine (bytes_nil _).mono ?_; rintro e w22 ⟨rfl, rfl⟩)
        | (go_at_call 19; refine (copy_nil _).mono ?_; rintro e w23 ⟨rfl, rfl⟩)
        | (go_at_call 7; refine (HW.out _ X16.out).mono ?_; rintro e w24 ⟨rfl, x24⟩; have X24 := Lib.hid (X16.out.trans x24); clear x24))
            · rename_i hbig
              exfalso
              have := HzB.out
              omega
            go_ret
            exact ⟨by first | rfl | simp, X24.out⟩
          · have htop : top (eps (K ++ [(top (eps K) + 1, B)])) = top (eps K) + 1 := top_snoc K _ B (Nat.lt_succ_self _)
            have hlong := ring_longer K hG (top (eps K) + 1) B HzB.out
            have hlong' : ¬ (⟨(ringL (K ++ [(top (eps K) + 1, B)])).toArray⟩ : ByteArray).toList = (⟨(ringL K).toArray⟩ : ByteArray).toList := by simpa using hlong
            have HRo := Lib.hid (fun u (hu : IsK u r b K) => by
              have := rotate_yes u r b K hu B HzB.out hroom.1 hroom.2
              rw [show ((top (eps K) + 1 : Nat) : Int) = (top (eps K) : Int) + 1 by omega] at this
              exact this)
            have HBe := Lib.hid (fun u (hu : IsK u r b (K ++ [(top (eps K) + 1, B)])) => bytes_any u r b _ hu)
            have HNr := Lib.hid (fun u (hu : IsK u r b (K ++ [(top (eps K) + 1, B)])) => by
              have := newest_any u r b _ hu
              rw [htop, show ((top (eps K) + 1 : Nat) : Int) = (top (eps K) : Int) + 1 by omega] at this
              exact this)
            have HKy := Lib.hid (fun u (hx : Ext w u) (hu : IsK u r b (K ++ [(top (eps K) + 1, B)])) => by
              have := keys_sized u r b _ (HL.out.ext hx) hu (top (eps K) + 1) (by have h := hu.good.top_in; rw [htop] at h; exact h)
              rw [show ((top (eps K) + 1 : Nat) : Int) = (top (eps K) : Int) + 1 by omega] at this
              exact this)
            have ht80 : top (eps K) ≤ 81 := by have := HT.out; omega
            clear hroom hB1 hG htop
            generalize top (eps K) = t at *
            generalize (⟨(ringL (K ++ [(t + 1, B)])).toArray⟩ : ByteArray) = S2 at *
            generalize K ++ [(t + 1, B)] = K9' at *
            generalize (⟨(ringL K).toArray⟩ : ByteArray) = S at *
            have hw : IntKind.u32.wrap ((t : Int) + 1) = (t : Int) + 1 := by simp [IntKind.wrap, IntKind.signed, IntKind.bits]; omega
            have HBb := HBg; have HBc := HBg; have HBd := HBg
            clear HBg
            go_wp2_with (first
        | (go_at_call 18; refine (HBa.out _ HK.out).mono ?_; rintro e w2 ⟨rfl, x2⟩; have K2 := Lib.hid (HK.out.ext x2); have X2 := Lib.hid (HX.out.trans x2); clear x2 HBa)
        | (go_at_call 12; refine (HRd.out _).mono ?_; rintro e w3 ⟨r2, b2, rfl, i3, q3, p3, x3⟩; have C3 := Lib.hid i3; have K3 := Lib.hid (K2.out.ext x3); have X3 := Lib.hid (X2.out.trans x3); clear i3 q3 p3 x3 HRd)
        | (go_at_call 19; refine (HCp.out _ K3.out).mono ?_; rintro e w4 ⟨r3, b3, rfl, i4, q4, p4, x4⟩; have D4 := Lib.hid i4; have C4 := Lib.hid (C3.out.ext x4); have N4 := Lib.hid (apart_of K3.out q4 p4); have K4 := Lib.hid (K3.out.ext x4); have X4 := Lib.hid (X3.out.trans x4); clear i4 q4 p4 x4 HCp)
        | (go_at_call 18; refine (HBb.out _ _ _ C4.out).mono ?_; rintro e w5 ⟨rfl, x5⟩; have D5 := Lib.hid (D4.out.ext x5); have K5 := Lib.hid (K4.out.ext x5); have X5 := Lib.hid (X4.out.trans x5); clear x5 HBb)
        | (go_at_call 18; refine (HBc.out _ _ _ D5.out).mono ?_; rintro e w6 ⟨rfl, x6⟩; have D6 := Lib.hid (D5.out.ext x6); have K6 := Lib.hid (K5.out.ext x6); have X6 := Lib.hid (X5.out.trans x6); clear x6 HBc)
        | (go_at_call 9; refine (HFb.out _).mono ?_; rintro e w7 ⟨rfl, x7⟩; have D7 := Lib.hid (D6.out.ext x7); have K7 := Lib.hid (K6.out.ext x7); have X7 := Lib.hid (X6.out.trans x7); clear x7 HFb)
        | (go_at_call 17; refine (HRo.out _ K7.out).mono ?_; rintro e w8 ⟨rfl, i8, g8⟩; have D8 := Lib.hid (D7.out.grown g8 N4.out.1 N4.out.2); have K8 := Lib.hid i8; have X8 := Lib.hid (X7.out.grownBack g8 Q3.out); clear i8 g8 HRo)
        | (go_at_call 9; refine (HFc.out _).mono ?_; rintro e w9 ⟨rfl, x9⟩; have D9 := Lib.hid (D8.out.ext x9); have K9 := Lib.hid (K8.out.ext x9); have X9 := Lib.hid (X8.out.trans x9); clear x9 HFc)
        | (go_at_call 17; refine (HRa.out _ _ _ D9.out).mono ?_; rintro e w10 ⟨rfl, x10⟩; have D10 := Lib.hid (D9.out.ext x10); have K10 := Lib.hid (K9.out.ext x10); have X10 := Lib.hid (X9.out.trans x10); clear x10 HRa)
        | (go_at_call 18; refine (HBd.out _ _ _ D10.out).mono ?_; rintro e w11 ⟨rfl, x11⟩; have D11 := Lib.hid (D10.out.ext x11); have K11 := Lib.hid (K10.out.ext x11); have X11 := Lib.hid (X10.out.trans x11); clear x11 HBd)
        | (go_at_call 20; refine (HNd.out _ _ _ D11.out).mono ?_; rintro e w12 ⟨rfl, x12⟩; have K12 := Lib.hid (K11.out.ext x12); have X12 := Lib.hid (X11.out.trans x12); clear x12 HNd)
        | (go_at_call 18; refine (HBe.out _ K12.out).mono ?_; rintro e w13 ⟨rfl, x13⟩; have K13 := Lib.hid (K12.out.ext x13); have X13 := Lib.hid (X12.out.trans x13); clear x13 HBe)
        | (go_at_call 20; refine (HNr.out _ K13.out).mono ?_; rintro e w14 ⟨rfl, x14⟩; have K14 := Lib.hid (K13.out.ext x14); have X14 := Lib.hid (X13.out.trans x14); clear x14 HNr)
        | (go_at_call 21; refine (HKy.out _ X14.out K14.out).mono ?_; rintro e w15 ⟨D1, D2, rfl, z1, z2, x15⟩; have X15 := Lib.hid (X14.out.trans x15); clear x15 HKy)
        | (go_at_call 9; refine (HFd.out _).mono ?_; rintro e w16 ⟨rfl, x16⟩; have X16 := Lib.hid (X15.out.trans x16); clear x16 HFd)
        | (go_at_call 17; refine (rotate_nil _ _).mono ?_; rintro e w17 ⟨rfl, rfl⟩)
        | (go_at_call 21; refine (keys_nil _ _).mono ?_; rintro e w18 ⟨rfl, rfl⟩)
        | (go_at_call 16; refine (retire_nil _ _).mono ?_; rintro e w19 ⟨rfl, rfl⟩)
        | (go_at_call 20; refine (newest_nil _).mono ?_; rintro e w20 ⟨rfl, rfl⟩)
        | (go_at_call 22; refine (epochs_nil _).mono ?_; rintro e w21 ⟨rfl, rfl⟩)
        | (go_at_call 18; refine (bytes_nil _).mono ?_; rintro e w22 ⟨rfl, rfl⟩)
        | (go_at_call 19; refine (copy_nil _).mono ?_; rintro e w23 ⟨rfl, rfl⟩)
        | (go_at_call 7; refine (HW.out _ X16.out).mono ?_; rintro e w24 ⟨rfl, x24⟩; have X24 := Lib.hid (X16.out.trans x24); clear x24))
            · rename_i hbig
              exfalso
              have := HzB.out
              omega
            go_ret
            exact ⟨by first | rfl | simp, X24.out⟩
    · go_ret
      exact ⟨rfl, x2⟩
end Go.Proofs.YteddogalmdgjlaaDoor
