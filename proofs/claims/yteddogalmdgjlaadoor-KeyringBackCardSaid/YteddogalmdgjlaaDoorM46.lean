/- Plain: the newest epoch, what goes, what comes; all epochs, so many. The walk of KeyringOrder: epochs rise, the newest is there, each has its keys. -/
import Derived.Test.YteddogalmdgjlaaDoorM45
import Derived.Deep.DeepCutAuto
import Derived.Outline
import Derived.BigQuiet
section
namespace Go.Proofs.YteddogalmdgjlaaDoor
open Go.RowKit

/-! ### Plain -/
section
variable {K : List (Nat × ByteArray)}
theorem top_snoc (K : List (Nat × ByteArray)) (t : Nat) (s : ByteArray) (h : top (eps K) < t) : top (eps (K ++ [(t, s)])) = t := by
  have hp : (eps (K ++ [(t, s)])).Perm (t :: eps K) := by
    unfold eps
    rw [List.map_append]
    exact List.perm_append_comm
  rw [top_perm hp, top_cons]
  omega
theorem eps_split (K : List (Nat × ByteArray)) (e : Nat) (hup : (eps K).Pairwise (· < ·)) (he : e ∈ eps K) : (eps K).Perm (e :: eps (outK K e)) := by
  have hn : (eps K).Nodup := hup.imp fun q => Nat.ne_of_lt q
  have hn2 : (eps (outK K e)).Nodup := hn.sublist ((List.filter_sublist).map _)
  have hm : ∀ x, x ∈ eps (outK K e) ↔ x ∈ eps K ∧ x ≠ e := by
    intro x
    constructor
    · intro hx
      obtain ⟨y, hy, rfl⟩ := List.mem_map.1 hx
      exact ⟨List.mem_map.2 ⟨y, (mem_outK.1 hy).1, rfl⟩, (mem_outK.1 hy).2⟩
    · rintro ⟨hx, hne⟩
      obtain ⟨y, hy, rfl⟩ := List.mem_map.1 hx
      exact List.mem_map.2 ⟨y, mem_outK.2 ⟨hy, hne⟩, rfl⟩
  refine (List.perm_ext_iff_of_nodup hn (List.nodup_cons.2 ⟨fun q => ((hm e).1 q).2 rfl, hn2⟩)).2 fun x => ?_
  rw [List.mem_cons, hm]
  constructor
  · intro hx
    by_cases q : x = e
    · exact .inl q
    · exact .inr ⟨hx, q⟩
  · rintro (rfl | hx)
    · exact he
    · exact hx.1
theorem outK_length (hg : GoodK K) {e : Nat} (he : e ∈ eps K) : (outK K e).length + 1 = K.length := by
  have := (eps_split K e hg.up he).length_eq
  simp only [List.length_cons, eps, List.length_map] at this
  omega
theorem outK_top (hg : GoodK K) {e : Nat} (he : e ∈ eps K) (hne : e ≠ top (eps K)) : top (eps (outK K e)) = top (eps K) := by
  have h := top_perm (eps_split K e hg.up he)
  rw [top_cons] at h
  omega
/-- The newest is the last. -/
theorem last_top (hg : GoodK K) {n : Nat} (hn : K.length = n + 1) (hl : n < (eps K).length) : (eps K)[n] = top (eps K) := by
  obtain ⟨i, hi, he⟩ := List.getElem_of_mem hg.top_in
  have hlen : (eps K).length = n + 1 := by simp [eps, hn]
  rcases Nat.lt_or_ge i n with q | q
  · have := List.pairwise_iff_getElem.1 hg.up i n hi hl q
    have h2 := le_top (List.getElem_mem hl)
    omega
  · obtain rfl : i = n := by omega
    exact he
theorem eps_at {j : Nat} (hj : j < (eps K).length) : ∃ s, ((eps K)[j], s) ∈ K := by
  have hm := List.getElem_mem hj
  obtain ⟨⟨e, s⟩, hx, he⟩ := List.mem_map.1 hm
  exact ⟨s, by rw [← he]; exact hx⟩
end
theorem IsE.at_ {w : World} {B g c : Nat} {l : List Nat} (h : IsE w B g c l) (i x : Nat) (hi : i < l.length) (hx : l[i] = x) : w.cell? ⟨g, i, none⟩ = some (.int .u32 (x : Int)) := by
  subst hx
  exact h.cell i hi
/-- All epochs, so many. -/
theorem epochs_n (w : World) (r b : Nat) (L : List (Nat × ByteArray)) (h : IsK w r b L) (n : Nat) (hn : L.length = n) :
    Calls Tryd.prog 22 #[.pointer (some ⟨r, 0, none⟩)] w fun e w' => ∃ g c, e = .returned (.slice (some ⟨g, 0, none⟩) n c) ∧ IsE w' w.heap.size g c (eps L) ∧ Ext w w' := by
  subst hn
  exact epochs_any w r b L h
end Go.Proofs.YteddogalmdgjlaaDoor
end

section
namespace Go.Proofs.YteddogalmdgjlaaDoor
open Go.RowKit

theorem ext_same (w : World) (n : Nat) : Ext w (w.drewN n) := (Ext.refl w).drewN n
theorem full_or {K : List (Nat × ByteArray)} (k : Nat) (hk : k ≤ 200) (ht : top (eps K) ≤ k) : (64 ≤ K.length ∨ top (eps K) = 4294967295) ∨ (K.length < 64 ∧ top (eps K) < 4294967295) := by omega
set_option maxRecDepth 1000000 in
set_option maxHeartbeats 8000000 in
theorem KeyringOrder_walk (w : World) (hL : Laid w) (p : Option Addr) (c : Nat) (L : List Act13) (hP : Act13sP w p L) (hok : ∀ x ∈ L, x.Ok) (hl : L.length ≤ 140737488355328) :
    Calls Tryd.prog 5 #[.slice p L.length c] w fun e w' => e = .returned (.bool true) ∧ Ext w w' := by
  have HHv := Lib.hid (heavyK_any w p c L hP hok hl)
  have HW := Lib.hid (fun u (hu : Ext w u) => worksK u (hL.ext hu))
  have HP := Lib.hid hP; have HOk := Lib.hid hok; have HL := Lib.hid hL
  have hF : Calls Tryd.prog 9 #[.string ⟨#[102, 105, 114, 115, 116]⟩] w fun e w' => ∃ A : ByteArray, e = .returned (.string A) ∧ A.size = 32 ∧ Ext w w' := (fullK_any _ w).mono fun _ _ he => ⟨_, he.1, f32B_size _, he.2⟩
  have HF := Lib.hid hF
  clear hP hok hL hF
  go_enter Tryd.func5, Tryd.ntmps5
  go_wp2_with (first
    | (go_at_call 6; refine (HHv.out).mono ?_; rintro e w1 ⟨⟨hb, rfl, hlt⟩, rfl⟩; have HLt := Lib.hid hlt; clear hlt; cases hb)
    | (go_at_call 7; refine (HW.out _ (Ext.refl _)).mono ?_; rintro e w2 ⟨rfl, x2⟩)
    | (go_at_call 9; refine (HF.out).mono ?_; rintro e w2 ⟨A, rfl, zA, x2⟩)
    | (go_at_call 15; refine (newK_yes _ A zA).mono ?_; rintro e w3 ⟨r, b, rfl, i3, q3, p3, x3⟩; have I3 := Lib.hid i3; have X3 := Lib.hid (x2.trans x3); have Q3 := Lib.hid (Nat.le_trans x2.size p3); clear i3 x2 x3 q3 p3 zA))
  · have hl80 := HLt.out (by trivial)
    clear HHv HF HLt hl
    go_loopw [5, 6] (fun nv iv wr => ∃ (k : Nat) (K : List (Nat × ByteArray)), k ≤ L.length ∧ iv = .int .i64 (k : Int) ∧ nv = .int .u32 (top (eps K) : Int) ∧ Hid (IsK wr r b K) ∧ Hid (top (eps K) ≤ k + 1) ∧ Hid (Ext w wr)) (fun _ iv _ => L.length - (intOf iv).toNat)
    case atStart => exact ⟨0, [(1, A)], Nat.zero_le _, rfl, by simp [eps, top], I3, Lib.hid (by simp [eps, top]), X3⟩
    case round =>
      obtain ⟨k, K, hk, rfl, rfl, HK, HT, HX⟩ := hrel
      clear I3 X3
      by_cases hlt : k < L.length
      · have hlti : (k : Int) < (L.length : Int) := by omega
        obtain ⟨x, hx⟩ : ∃ x, L[k]? = some x := ⟨_, List.getElem?_eq_getElem hlt⟩
        obtain ⟨a, rfl, ha, hc⟩ := (HP.out.ext HX.out) k x hx
        have hok := HOk.out x (List.mem_of_getElem? hx)
        have he32 := hok.Epoch
        have HC0 := Lib.hid (fun u (hu : Ext w u) => by
          obtain ⟨a', ha', _, hc'⟩ := (HP.out.ext hu) k x hx
          cases ha'
          exact hc')
        clear hx hc hok ha
        obtain ⟨go, ep, ky, fit⟩ := x
        simp only [Act13.cells] at HC0 he32
        have k0 : wr.cell? (a.add (k * 4)) = some (.bool go) := HC0.out wr HX.out 0 _ rfl
        go_upto_if 43 with (fail)
        go_cut [5] (fun s5 wx => ∃ K1 : List (Nat × ByteArray), s5 = .int .u32 (top (eps K1) : Int) ∧ Hid (IsK wx r b K1) ∧ Hid (top (eps K1) ≤ k + 2) ∧ Hid (Ext w wx))
        case first =>
          cases go
          · -- a key comes
            have k2 := act13_at (k := 1) (HC0.out wr HX.out 2 _ rfl)
            have HFk := Lib.hid (fun u => fullK_any ky u)
            have hBz := f32B_size ky
            generalize f32B ky = B at *
            have HB := Lib.hid hBz
            clear hBz k0
            rcases full_or (k + 1) (by omega) HT.out with hfull | hroom
            · have HR := Lib.hid (fun u (hu : IsK u r b K) => rotate_full u r b K hu B HB.out hfull)
              clear hfull
              go_wp2_with (first
                | (go_at_call 9; refine (HFk.out _).mono ?_; rintro e w4 ⟨rfl, x4⟩)
                | (go_at_call 17; refine (HR.out _ (HK.out.ext x4)).mono ?_; rintro e w5 ⟨rfl, x5⟩))
              go_meet
              case rel => exact ⟨K, rfl, Lib.hid ((HK.out.ext x4).ext x5), Lib.hid (by have := HT.out; omega), Lib.hid ((HX.out.trans x4).trans x5)⟩
            · have ht2 := top_snoc K (top (eps K) + 1) B (Nat.lt_succ_self _)
              have HR := Lib.hid (fun u (hu : IsK u r b K) => by
                have := rotate_yes u r b K hu B HB.out hroom.1 (by have := HT.out; omega)
                rw [show ((top (eps K) + 1 : Nat) : Int) = (top (eps K) : Int) + 1 by omega] at this
                exact this)
              have HT2 := Lib.hid ht2
              clear hroom ht2
              obtain ⟨t, ht⟩ : ∃ t, top (eps K) = t := ⟨_, rfl⟩
              rw [ht] at HR HT2 HT
              rw [ht]
              have HTe := Lib.hid ht
              clear ht
              have hw : IntKind.u32.wrap ((t : Int) + 1) = (t : Int) + 1 := by have := HT.out; simp [IntKind.wrap, IntKind.signed, IntKind.bits]; omega
              have ht80 : t ≤ 81 := by have := HT.out; omega
              go_wp2_with (first
                | (go_at_call 9; refine (HFk.out _).mono ?_; rintro e w4 ⟨rfl, x4⟩)
                | (go_at_call 17; refine (HR.out _ (HK.out.ext x4)).mono ?_; rintro e w5 ⟨rfl, i5, g5⟩; have I5 := Lib.hid i5; have X5 := Lib.hid ((HX.out.trans x4).grownBack g5 Q3.out); clear i5 g5))
              go_meet
              case rel => exact ⟨K ++ [(t + 1, B)], by rw [HT2.out]; first | rfl | simp, I5, Lib.hid (by rw [HT2.out]; have := HT.out; omega), X5⟩
          · -- an epoch goes
            have k1 := act13_at (k := 0) (HC0.out wr HX.out 1 _ rfl)
            obtain ⟨n, hn⟩ : ∃ n, K.length = n + 1 := ⟨K.length - 1, by have := List.length_pos_iff.2 HK.out.good.ne; omega⟩
            have HE := Lib.hid (fun u (hu : IsK u r b K) => epochs_n u r b K hu (n + 1) hn)
            have HN := Lib.hid hn
            have hn63 : n < 64 := by have := HK.out.good.few; omega
            have hwn : IntKind.i64.wrap (n : Int) = (n : Int) := by simp [IntKind.wrap, IntKind.signed, IntKind.bits]; omega
            clear hn k0
            by_cases h1 : ep = top (eps K)
            · have HR := Lib.hid (fun u (hu : IsK u r b K) => by
                have := retire_top u r b K hu
                rw [← h1] at this
                exact this)
              have H1 := Lib.hid h1
              clear h1
              go_wp2_with (first
                | (go_at_call 22; (with_reducible refine (HE.out _ HK.out).mono ?_); rintro e w4 ⟨g, c4, rfl, i4, x4⟩; have K4 := Lib.hid (HK.out.ext x4); have X4 := Lib.hid (HX.out.trans x4); have k1b := act13_at (k := 0) (HC0.out _ X4.out 1 _ rfl); clear i4 x4)
                | (go_at_call 16; refine (HR.out _ K4.out).mono ?_; rintro e w5 ⟨rfl, x5⟩; have K5 := Lib.hid (K4.out.ext x5); have X5 := Lib.hid (X4.out.trans x5); clear x5)
                | (go_at_call 22; (with_reducible refine (HE.out _ K5.out).mono ?_); rintro e w6 ⟨g6, c6, rfl, i6, x6⟩; have K6 := Lib.hid (K5.out.ext x6); have X6 := Lib.hid (X5.out.trans x6); clear i6 x6))
              go_meet
              case rel => exact ⟨K, rfl, K6, Lib.hid (by have := HT.out; omega), X6⟩
            · by_cases h2 : ep ∈ eps K
              · have HR := Lib.hid (fun u (hu : IsK u r b K) => retire_yes u r b K hu ep h1 h2)
                have hn2 : (outK K ep).length = n := by have := outK_length HK.out.good h2; have := HN.out; omega
                have HE2 := Lib.hid (fun u (hu : IsK u r b (outK K ep)) => epochs_n u r b (outK K ep) hu n hn2)
                have HTo := Lib.hid (outK_top HK.out.good h2 h1)
                clear hn2 h1 h2
                go_wp2_with (first
                  | (go_at_call 22; (with_reducible refine (HE.out _ HK.out).mono ?_); rintro e w4 ⟨g, c4, rfl, i4, x4⟩; have K4 := Lib.hid (HK.out.ext x4); have X4 := Lib.hid (HX.out.trans x4); have k1b := act13_at (k := 0) (HC0.out _ X4.out 1 _ rfl); clear i4 x4)
                  | (go_at_call 16; refine (HR.out _ K4.out).mono ?_; rintro e w5 ⟨rfl, i5, g5⟩; have K5 := Lib.hid i5; have X5 := Lib.hid (X4.out.grownBack g5 Q3.out); clear i5 g5)
                  | (go_at_call 22; (with_reducible refine (HE2.out _ K5.out).mono ?_); rintro e w6 ⟨g6, c6, rfl, i6, x6⟩; have K6 := Lib.hid (K5.out.ext x6); have X6 := Lib.hid (X5.out.trans x6); clear i6 x6))
                go_meet
                case rel => exact ⟨outK K ep, by rw [HTo.out], K6, Lib.hid (by rw [HTo.out]; have := HT.out; omega), X6⟩
              · have HR := Lib.hid (fun u (hu : IsK u r b K) => retire_none u r b K hu ep he32 h2)
                clear h1 h2
                go_wp2_with (first
                  | (go_at_call 22; (with_reducible refine (HE.out _ HK.out).mono ?_); rintro e w4 ⟨g, c4, rfl, i4, x4⟩; have K4 := Lib.hid (HK.out.ext x4); have X4 := Lib.hid (HX.out.trans x4); have k1b := act13_at (k := 0) (HC0.out _ X4.out 1 _ rfl); clear i4 x4)
                  | (go_at_call 16; refine (HR.out _ K4.out).mono ?_; rintro e w5 ⟨rfl, x5⟩; have K5 := Lib.hid (K4.out.ext x5); have X5 := Lib.hid (X4.out.trans x5); clear x5)
                  | (go_at_call 22; (with_reducible refine (HE.out _ K5.out).mono ?_); rintro e w6 ⟨g6, c6, rfl, i6, x6⟩; have K6 := Lib.hid (K5.out.ext x6); have X6 := Lib.hid (X5.out.trans x6); clear i6 x6))
                go_meet
                case rel => exact ⟨K, rfl, K6, Lib.hid (by have := HT.out; omega), X6⟩
        case rest =>
          obtain ⟨K1, rfl, HK1, HT1, HX1⟩ := hcut
          clear k0 HC0 HK HT HX he32
          obtain ⟨n, hn⟩ : ∃ n, K1.length = n + 1 := ⟨K1.length - 1, by have := List.length_pos_iff.2 HK1.out.good.ne; omega⟩
          have hn64 : n < 64 := by have := HK1.out.good.few; omega
          have hen : (eps K1).length = n + 1 := by simp [eps, hn]
          have HE := Lib.hid (fun u (hu : IsK u r b K1) => epochs_n u r b K1 hu (n + 1) hn)
          have HLast := Lib.hid (fun (h : n < (eps K1).length) => last_top HK1.out.good hn h)
          have HEn := Lib.hid hen
          have HNo := Lib.hid (fun u (hu : IsK u r b K1) => keys_no u r b K1 hu (top (eps K1) + 1) (by have := HT1.out; omega) (fun q => by have := le_top q; omega))
          have HNw := Lib.hid (fun u (hu : IsK u r b K1) => newest_any u r b K1 hu)
          clear hn hen
          obtain ⟨t, ht⟩ : ∃ t, top (eps K1) = t := ⟨_, rfl⟩
          rw [ht] at HLast HNo HNw HT1
          have ht1 : ((t + 1 : Nat) : Int) = (t : Int) + 1 := by omega
          rw [ht1] at HNo
          rw [ht]
          have HTe := Lib.hid ht
          clear ht ht1
          have hw : IntKind.u32.wrap ((t : Int) + 1) = (t : Int) + 1 := by have := HT1.out; simp [IntKind.wrap, IntKind.signed, IntKind.bits]; omega
          have hn1 : ¬ ((n : Int) + 1 < 1) := by omega
          have hwn : IntKind.i64.wrap (n : Int) = (n : Int) := by simp [IntKind.wrap, IntKind.signed, IntKind.bits]; omega
          have hn2 : ¬ (64 : Int) < (n : Int) + 1 := by omega
          go_wp2_with (first
            | (go_at_call 22; refine (HE.out _ HK1.out).mono ?_; rintro e w6 ⟨g, c6, rfl, i6, x6⟩; have E6 := Lib.hid i6; have X6 := Lib.hid (HX1.out.trans x6); have K6 := Lib.hid (HK1.out.ext x6); have clast : w6.cell? ⟨g, n, none⟩ = some (.int .u32 (t : Int)) := i6.at_ n t (by rw [HEn.out]; omega) (HLast.out _); clear i6 x6)
            | (go_at_call 20; refine (HNw.out _ K6.out).mono ?_; rintro e w7 ⟨rfl, x7⟩; have E7 := Lib.hid (E6.out.ext x7); have X7 := Lib.hid (X6.out.trans x7); have K7 := Lib.hid (K6.out.ext x7); clear x7 clast))
          clear hn1 hn2
          go_loopw [12] (fun jv wx => ∃ j : Nat, j ≤ n + 1 ∧ jv = .int .i64 (j : Int) ∧ Hid (IsK wx r b K1) ∧ Hid (IsE wx wc.heap.size g c6 (eps K1)) ∧ Hid (Ext w wx)) (fun jv _ => n + 1 - (intOf jv).toNat)
          case atStart => exact ⟨0, Nat.zero_le _, rfl, K7, E7, X7⟩
          case round =>
            obtain ⟨j, hj, rfl, HKj, HEj, HXj⟩ := hrel
            clear K7 E7 X7 E6 X6 K6
            by_cases hjn : j < n + 1
            · have hjni : (j : Int) < (n : Int) + 1 := by omega
              obtain ⟨s, hs⟩ := eps_at (K := K1) (j := j) (by rw [HEn.out]; exact hjn)
              obtain ⟨e, he⟩ : ∃ e, (eps K1)[j]'(by rw [HEn.out]; exact hjn) = e := ⟨_, rfl⟩
              rw [he] at hs
              have cj := HEj.out.at_ j e (by rw [HEn.out]; exact hjn) he
              have HKy := Lib.hid (fun u (hx : Ext w u) (hu : IsK u r b K1) => keys_yes u r b K1 (HL.out.ext hx) hu e s hs)
              have HE0 := Lib.hid he
              clear hs he
              go_upto_region 27 with (go_at_call 21; refine (HKy.out _ HXj.out HKj.out).mono ?_; rintro e w8 ⟨rfl, x8⟩; have K8 := Lib.hid (HKj.out.ext x8); have E8 := Lib.hid (HEj.out.ext x8); have X8 := Lib.hid (HXj.out.trans x8); have cj8 := cj; clear x8 cj cj8)
              rcases j with _ | m
              · go_quiet (fail)
                go_wp2
                go_roundw
                case rel => exact ⟨1, by omega, rfl, Lib.hid (K8.out.ext (ext_same _ _)), Lib.hid (E8.out.ext (ext_same _ _)), Lib.hid (X8.out.trans (ext_same _ _))⟩
                case measure => simp [intOf]
              · have hm : m < (eps K1).length := by rw [HEn.out]; omega
                obtain ⟨e2, he2⟩ : ∃ e2, (eps K1)[m] = e2 := ⟨_, rfl⟩
                have c1 := E8.out.at_ (m + 1) e (by rw [HEn.out]; omega) HE0.out
                have c2 := E8.out.at_ m e2 hm he2
                have hlt2 := List.pairwise_iff_getElem.1 K8.out.good.up m (m + 1) hm (by rw [HEn.out]; omega) (by omega)
                rw [he2, HE0.out] at hlt2
                have hle : ¬ (e : Int) ≤ (e2 : Int) := by omega
                have HE2 := Lib.hid he2
                clear he2 hlt2
                have hwm : IntKind.i64.wrap (m : Int) = (m : Int) := by simp [IntKind.wrap, IntKind.signed, IntKind.bits]; omega
                have hm0 : (0 : Int) < (m : Int) + 1 := by omega
                have hmn : (m : Int) < (n : Int) := by omega
                go_quiet (fail)
                go_wp2
                go_roundw
                case rel => exact ⟨m + 1 + 1, by omega, by go_num, Lib.hid (K8.out.ext (ext_same _ _)), Lib.hid (E8.out.ext (ext_same _ _)), Lib.hid (X8.out.trans (ext_same _ _))⟩
                case measure => simp [intOf]; omega
            · obtain rfl : j = n + 1 := by omega
              go_wp2_with (go_at_call 21; refine (HNo.out _ HKj.out).mono ?_; rintro e w8 ⟨rfl, x8⟩; have K8 := Lib.hid (HKj.out.ext x8); have X8 := Lib.hid (HXj.out.trans x8); clear x8)
              go_roundw
              case rel => exact ⟨k + 1, K1, hlt, by go_num, by rw [HTe.out], K8, Lib.hid (by rw [HTe.out]; have := HT1.out; omega), X8⟩
              case measure => simp [intOf]; omega
      · have hlti : ¬ (k : Int) < (L.length : Int) := by omega
        go_wp2_with (go_at_call 7; refine (HW.out _ HX.out).mono ?_; rintro e w9 ⟨rfl, x9⟩; have X9 := Lib.hid (HX.out.trans x9); clear x9)
        go_ret
        exact ⟨rfl, X9.out⟩
  · go_ret
    exact ⟨rfl, x2⟩
end Go.Proofs.YteddogalmdgjlaaDoor
end
