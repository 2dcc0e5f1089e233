/- The walk of layer 11's statement SegmentOrder. -/
import Derived.Test.YthnoegipadnmeaaSHeavy
import Derived.Test.YthnoegipadnmeaaSegBase
import Derived.Test.YthnoegipadnmeaaSegOrd
import Derived.Test.YthnoegipadnmeaaOrdSl
import Derived.Test.YthnoegipadnmeaaSegOpen
import Derived.Deep.DeepCutAuto
import Derived.Deep.RegionLaw
namespace Go.Proofs.Ythnoegipadnmeaa
open Go.RowKit

theorem pieceL_succ (g f : Nat) (P : List (List ByteArray)) (n : Nat) : pieceL g f P (n + 1) = pieceL g f P n ++ [(pieceS g f P n, (n : Int))] := by
  unfold pieceL
  rw [List.range_succ, List.map_append]
  rfl
theorem elderL_succ (g : Nat) (E : List Seg) (j : Nat) (x : Seg) (h : E[j]? = some x) : elderL g (E.take (j + 1)) = elderL g (E.take j) ++ [(elderS g x, -1)] := by
  unfold elderL
  rw [List.take_add_one, h]
  simp
theorem piece_at {g f : Nat} {P : List (List ByteArray)} {j : Nat} {l : List ByteArray} (h : P[j]? = some l) (k : Nat) (hk : k = if j = 0 then 1 else 0) : pieceS g f P j = ⟨k, g, nP f P j, ⟨#[]⟩, l, 0, true⟩ := by
  unfold pieceS
  rw [List.getD_eq_getElem?_getD, h, hk]
  rfl
def lenOfO : Value → Nat
  | .slice _ n _ => n
  | _ => 0
set_option maxRecDepth 100000 in
set_option maxHeartbeats 32000000 in
theorem SegmentOrder_walk (p0 : Option Addr) (c0 : Nat) (P : List (List ByteArray)) (p1 : Option Addr) (c1 : Nat) (E : List Seg) (gen first : Int) (p4 : Option Addr) (n4 c4 : Nat) (picks : List Nat) (W : World)
    (h0 : StrssP W p0 P) (hp : ∀ l, l ∈ P → l.length ≤ 140737488355328 ∧ ∀ s, s ∈ l → s.size ≤ 140737488351232) (hpl : P.length ≤ 140737488355328) (h1 : SegsP W p1 E) (he : ∀ x, x ∈ E → x.Ok) (hel : E.length ≤ 140737488355328)
    (z2 : 0 ≤ gen ∧ gen ≤ 4294967295) (z3 : 0 ≤ first ∧ first ≤ 4294967295) (h4l : picks.length = n4) (h4 : ValsP W p4 (vU8 picks)) (_h4n : n4 ≤ 140737488355328) (h4b : ∀ x, x ∈ picks → x < 256) :
    Calls Try.prog 6 #[.slice p0 P.length c0, .slice p1 E.length c1, .int .u32 gen, .int .u32 first, .slice p4 n4 c4] W fun e W' => e = .returned (.bool true) ∧ Ext W W' := by
  obtain ⟨gn, rfl⟩ : ∃ f : Nat, gen = (f : Int) := ⟨gen.toNat, by omega⟩
  obtain ⟨fn, rfl⟩ : ∃ f : Nat, first = (f : Int) := ⟨first.toNat, by omega⟩
  by_cases hP12 : P.length ≤ 12
  · by_cases hP0 : P.length = 0
    · have d1 : decide ((12 : Int) < (P.length : Int)) = false := by rw [decide_eq_false_iff_not]; omega
      have d2 : (((P.length : Nat) : Int) == 0) = true := by rw [beq_iff_eq]; omega
      go_enter Try.func6, Try.ntmps6
      go_wp2_with (go_at_call 8; refine (alive_any _).mono ?_; rintro e w2 ⟨rfl, x2⟩; have X2 := Lib.hid x2; clear x2)
      go_ret
      exact ⟨rfl, X2.out⟩
    · by_cases hE12 : E.length ≤ 12
      · have d1 : decide ((12 : Int) < (P.length : Int)) = false := by rw [decide_eq_false_iff_not]; omega
        have d2 : (((P.length : Nat) : Int) == 0) = false := by rw [beq_eq_false_iff_ne]; omega
        have d3 : decide ((12 : Int) < (E.length : Int)) = false := by rw [decide_eq_false_iff_not]; omega
        have HStr := Lib.hid (fun u (hu : Ext W u) => h0.ext hu)
        have HEld := Lib.hid (fun u (hu : Ext W u) => h1.ext hu)
        have HPok := Lib.hid hp; have HEok := Lib.hid he
        have HPk := Lib.hid (fun u (hu : Ext W u) => h4.ext hu)
        have HPkb := Lib.hid (And.intro h4l h4b)
        obtain ⟨G, hG⟩ : ∃ G : Nat, G = 2 + gn := ⟨_, rfl⟩
        obtain ⟨F, hF⟩ : ∃ F : Nat, F = 1 + fn := ⟨_, rfl⟩
        have hGi : (2 : Int) + (gn : Int) = (G : Int) := by omega
        have hFi : (1 : Int) + (fn : Int) = (F : Int) := by omega
        have hGb : G ≤ 4294967297 := by omega
        have hG0 : 2 ≤ G := by omega
        have hFb : F ≤ 4294967296 := by omega
        clear h0 hp h1 he h4 h4l h4b hpl hel hG hF
        go_enter Try.func6, Try.ntmps6
        go_upto_region 7 with (fail)

        clear z2 z3 hGi hFi d1 d2 d3
        have HF0 : Hid (nP F P 0 = F) := Lib.hid nP_zero
        go_wp2
        go_loopw [11, 12, 13, 15] (fun av pv nv iv wr => ∃ (j N : Nat) (κ : Foot), j ≤ P.length ∧ iv = .int .i64 (j : Int) ∧ nv = .int .u64 (N : Int) ∧ Hid (N = nP F P j) ∧ N ≤ F + 60 * j ∧ Hid (SegSl W wr κ 2 av ((pieceL G F P j).map (·.1))) ∧ Hid (IntSl wr κ 3 pv ((pieceL G F P j).map (·.2))) ∧ Hid (Own W wr κ) ∧ Hid (∀ (i : Nat) (l : List ByteArray), i + 1 < j → P[i]? = some l → l ≠ [])) (fun _ _ _ iv _ => P.length - (intOf iv).toNat)
        case atStart => exact ⟨0, F, fun _ => 0, Nat.zero_le _, rfl, rfl, Lib.hid HF0.out.symm, by omega, Lib.hid (SegSl.nil _ _ _ _), Lib.hid (IntSl.nil _ _ _), Lib.hid (Own.start W), Lib.hid (fun i l h => by omega)⟩
        case round =>
          obtain ⟨j, N, κ, hj, rfl, rfl, hN, hNb, hA, hPl, hO, hNe⟩ := hrel
          obtain ⟨pa, na, ca, rfl, -, -⟩ := hA.out.lit
          obtain ⟨pp, np, cp, rfl, -, -⟩ := hPl.out.lit
          by_cases hlt : j < P.length
          · obtain ⟨l, hl⟩ : ∃ l, P[j]? = some l := ⟨_, List.getElem?_eq_getElem hlt⟩
            obtain ⟨ad, q, c, rfl, ha, ht, hc⟩ := HStr.out W (Ext.refl W) j l hl
            have hcw := (hO.out.ext.below.cell (p := ad.add j) (by rw [add_block]; exact ha)).trans hc
            have hlok := HPok.out l (List.mem_of_getElem? hl)
            have HLj := Lib.hid hl
            have e1 : ((1 : Nat) : Int) = 1 := rfl
            have e0 : ((0 : Nat) : Int) = 0 := rfl
            have HC0 := Lib.hid hc
            clear hc
            by_cases hj0 : j = 0
            · subst hj0
              rw [e0]
              rw [add_zeroA] at hcw
              have HBo := Lib.hid (fun u : World => (Blk.new u (segC ⟨1, G, N, ⟨#[]⟩, l, 0, true⟩ (.slice q l.length c)) 25 : Blk (u.alloc (.cells #[.int .u8 1, .int .u64 (G : Int), .int .u64 (N : Int), .string ⟨#[]⟩, .slice q l.length c, .int .i64 0, .bool true] 25)) u.heap.size 25 (segC ⟨1, G, N, ⟨#[]⟩, l, 0, true⟩ (.slice q l.length c))))
              have HHv := Lib.hid (fun u (hu : Ext W u) => heavy_any ⟨1, G, N, ⟨#[]⟩, l, 0, true⟩ q c u (ht.ext hu) (by show (0 : Nat) ≤ _; omega) hlok.2 hlok.1)
              simp only [segV, e1] at HHv
              have hb0 := HBo.out wr
              have HXb := Lib.hid ((Ext.refl wr).alloc (.cells #[.int .u8 1, .int .u64 (G : Int), .int .u64 (N : Int), .string ⟨#[]⟩, .slice q l.length c, .int .i64 0, .bool true] 25))
              have b0 : (wr.alloc (.cells #[.int .u8 1, .int .u64 (G : Int), .int .u64 (N : Int), .string ⟨#[]⟩, .slice q l.length c, .int .i64 0, .bool true] 25)).cell? ⟨wr.heap.size, 0, none⟩ = some (.int .u8 1) := hb0.cell 0 _ rfl
              have b1 := hb0.cell 1 _ rfl
              have b2 := hb0.cell 2 _ rfl
              have b3 := hb0.cell 3 _ rfl
              have b4 := hb0.cell 4 _ rfl
              have b5 := hb0.cell 5 _ rfl
              have b6 := hb0.cell 6 _ rfl
              have HB0 := Lib.hid hb0
              clear hb0
              go_upto_if 71 with (go_at_call 7; refine (HHv.out _ (hO.out.ext.trans HXb.out)).mono ?_; rintro e w1 ⟨b, rfl, x1, hlt1⟩; have X1 := Lib.hid (HXb.out.trans x1); have HLt := Lib.hid hlt1; have hb1 := HB0.out.ext x1; clear b0 b1 b2 b3 b4 b5 b6 x1 hlt1; cases b)
              · have hlight := HLt.out (by trivial)
                have hl60 : l.length ≤ 60 := hlight.n
                have b0 : w1.cell? ⟨wr.heap.size, 0, none⟩ = some (.int .u8 1) := hb1.cell 0 _ rfl
                have b1 := hb1.cell 1 _ rfl
                have b2 := hb1.cell 2 _ rfl
                have b3 := hb1.cell 3 _ rfl
                have b4 := hb1.cell 4 _ rfl
                have b5 := hb1.cell 5 _ rfl
                have b6 := hb1.cell 6 _ rfl
                have hcw1 := ((hO.out.ext.trans X1.out).below.cell (p := ad.add 0) (by rw [add_block]; exact ha)).trans HC0.out
                rw [add_zeroA] at hcw1
                have HTx := Lib.hid ht
                have HPc := Lib.hid (piece_at (g := G) (f := F) HLj.out 1 (by simp))
                have HSu := Lib.hid (nP_succ (first := F) HLj.out)
                have HA9 := Lib.hid (show (pieceL G F P (0 + 1)).map (·.1) = (pieceL G F P (0)).map (·.1) ++ [⟨1, G, N, ⟨#[]⟩, l, 0, true⟩] from by rw [pieceL_succ, List.map_append, hN.out, ← HPc.out]; rfl)
                have HP9 := Lib.hid (show (pieceL G F P (0 + 1)).map (·.2) = (pieceL G F P (0)).map (·.2) ++ [0] from by rw [pieceL_succ, List.map_append]; rfl)
                have HLen := Lib.hid (show ((pieceL G F P (0)).map (·.1)).length ≤ 1000000 ∧ ((pieceL G F P (0)).map (·.2)).length ≤ 1000000 from by simp only [pieceL, List.length_map, List.length_range]; omega)
                have HA1 := Lib.hid (hA.out.step X1.out)
                have HP1 := Lib.hid (hPl.out.step X1.out)
                have HO1 := Lib.hid (hO.out.step X1.out)
                clear hlight hb1 hlok ht hcw HLt HB0 HHv HXb hA hPl hO
                have hnw : IntKind.u64.wrap ((N : Int) + (l.length : Int)) = ((N + l.length : Nat) : Int) := by rw [wrap_u64]; omega
                generalize hAL : (pieceL G F P (0)).map (·.1) = AL at *
                generalize hPL : (pieceL G F P (0)).map (·.2) = PL at *
                have HAL := Lib.hid hAL; have HPL := Lib.hid hPL
                clear hAL hPL
                go_wp2_with (first
                  | (at_builtin; refine push_seg rfl (.tmp 81) (.tmp 83) rfl rfl (HA1.out.step ((Ext.refl w1).alloc _)) w1.heap.size rfl (HBo.out w1) HTx.out HLen.out.1 ?_; intro p2 c2 w2 κ2 h2 f2; have HA2 := Lib.hid h2; have HP2 := Lib.hid ((HP1.out.step ((Ext.refl w1).alloc _)).fr f2 (by decide)); have HO2 := Lib.hid ((HO1.out.step ((Ext.refl w1).alloc _)).fr (by decide) f2); clear h2 f2)
                  | (at_builtin; refine push_int rfl (.tmp 85) (.tmp 87) rfl rfl (HP2.out.step ((Ext.refl w2).alloc _)) w2.heap.size rfl (Blk.new w2 [.int .i64 0] 3) HLen.out.2 ?_; intro p3 c3 w3 κ3 h3 f3; have HP3 := Lib.hid h3; have HA3 := Lib.hid ((HA2.out.step ((Ext.refl w2).alloc _)).fr f3 (by decide)); have HO3 := Lib.hid ((HO2.out.step ((Ext.refl w2).alloc _)).fr (by decide) f3); clear h3 f3))
                go_roundw
                case rel => exact ⟨0 + 1, N + l.length, κ3, hlt, by go_num, rfl, Lib.hid (by rw [HSu.out, ← hN.out]), by omega, Lib.hid (by rw [HA9.out]; exact HA3.out), Lib.hid (by rw [HP9.out]; exact HP3.out), HO3, Lib.hid (fun i l h => by omega)⟩
                case measure => simp [intOf]; omega
              · go_wp2_with (go_at_call 8; refine (alive_any _).mono ?_; rintro e w2 ⟨rfl, x2⟩; have X2 := Lib.hid (X1.out.trans x2); clear x2)
                go_ret
                exact ⟨rfl, hO.out.ext.trans X2.out⟩
            · obtain ⟨i, rfl⟩ : ∃ i, j = i + 1 := ⟨j - 1, by omega⟩
              have ei : ((i + 1 : Nat) : Int) = (i : Int) + 1 := by omega
              rw [ei]
              obtain ⟨lk, hlk⟩ : ∃ l, P[i]? = some l := ⟨_, List.getElem?_eq_getElem (by omega)⟩
              obtain ⟨ad', q', c', e3, ha', ht', hc'⟩ := HStr.out W (Ext.refl W) i lk hlk
              obtain rfl : ad = ad' := by simpa using e3
              have hcx := ((hO.out.ext.alloc (.cells #[.int .u8 0, .int .u64 (G : Int), .int .u64 (N : Int), .string ⟨#[]⟩, .slice q l.length c, .int .i64 0, .bool true] 25)).below.cell (p := ad.add i) (by rw [add_block]; exact ha')).trans hc'
              have HLk := Lib.hid hlk
              have hi1 : ¬ ((i : Int) + 1 = 0) := by omega
              have hiw : IntKind.i64.wrap ((i : Int) + 1 - 1) = (i : Int) := by rw [show (i : Int) + 1 - 1 = (i : Int) by omega]; exact IntWalk.i64_in _ ⟨by omega, by omega⟩
              clear hc' ht' e3 ha' hlk hj0
              have hcw : wr.cell? ⟨ad.block, ad.off + (i + 1), none⟩ = some (.slice q l.length c) := hcw
              by_cases hl0 : lk.length = 0
              · have d5 : (((lk.length : Nat) : Int) == 0) = true := by rw [beq_iff_eq]; omega
                clear hl0
                go_wp2_with (go_at_call 8; refine (alive_any _).mono ?_; rintro e w2 ⟨rfl, x2⟩; have X2 := Lib.hid x2; clear x2)
                go_ret
                exact ⟨rfl, (hO.out.ext.alloc _).trans X2.out⟩
              · have HNn := Lib.hid (show lk ≠ [] from fun e => hl0 (by rw [e]; rfl))
                have d5 : (((lk.length : Nat) : Int) == 0) = false := by rw [beq_eq_false_iff_ne]; omega
                clear hl0
                have HBo := Lib.hid (fun u : World => (Blk.new u (segC ⟨0, G, N, ⟨#[]⟩, l, 0, true⟩ (.slice q l.length c)) 25 : Blk (u.alloc (.cells #[.int .u8 0, .int .u64 (G : Int), .int .u64 (N : Int), .string ⟨#[]⟩, .slice q l.length c, .int .i64 0, .bool true] 25)) u.heap.size 25 (segC ⟨0, G, N, ⟨#[]⟩, l, 0, true⟩ (.slice q l.length c))))
                have HHv := Lib.hid (fun u (hu : Ext W u) => heavy_any ⟨0, G, N, ⟨#[]⟩, l, 0, true⟩ q c u (ht.ext hu) (by show (0 : Nat) ≤ _; omega) hlok.2 hlok.1)
                simp only [segV, e0] at HHv
                have hb0 := HBo.out wr
                have HXb := Lib.hid ((Ext.refl wr).alloc (.cells #[.int .u8 0, .int .u64 (G : Int), .int .u64 (N : Int), .string ⟨#[]⟩, .slice q l.length c, .int .i64 0, .bool true] 25))
                have b0 : (wr.alloc (.cells #[.int .u8 0, .int .u64 (G : Int), .int .u64 (N : Int), .string ⟨#[]⟩, .slice q l.length c, .int .i64 0, .bool true] 25)).cell? ⟨wr.heap.size, 0, none⟩ = some (.int .u8 0) := hb0.cell 0 _ rfl
                have b1 := hb0.cell 1 _ rfl
                have b2 := hb0.cell 2 _ rfl
                have b3 := hb0.cell 3 _ rfl
                have b4 := hb0.cell 4 _ rfl
                have b5 := hb0.cell 5 _ rfl
                have b6 := hb0.cell 6 _ rfl
                have HB0 := Lib.hid hb0
                clear hb0
                go_upto_if 71 with (go_at_call 7; refine (HHv.out _ (hO.out.ext.trans HXb.out)).mono ?_; rintro e w1 ⟨b, rfl, x1, hlt1⟩; have X1 := Lib.hid (HXb.out.trans x1); have HLt := Lib.hid hlt1; have hb1 := HB0.out.ext x1; clear b0 b1 b2 b3 b4 b5 b6 x1 hlt1; cases b)
                · have hlight := HLt.out (by trivial)
                  have hl60 : l.length ≤ 60 := hlight.n
                  have b0 : w1.cell? ⟨wr.heap.size, 0, none⟩ = some (.int .u8 0) := hb1.cell 0 _ rfl
                  have b1 := hb1.cell 1 _ rfl
                  have b2 := hb1.cell 2 _ rfl
                  have b3 := hb1.cell 3 _ rfl
                  have b4 := hb1.cell 4 _ rfl
                  have b5 := hb1.cell 5 _ rfl
                  have b6 := hb1.cell 6 _ rfl
                  have hcw1 := ((hO.out.ext.trans X1.out).below.cell (p := ad.add (i + 1)) (by rw [add_block]; exact ha)).trans HC0.out
                  have hcw1 : w1.cell? ⟨ad.block, ad.off + (i + 1), none⟩ = some (.slice q l.length c) := hcw1
                  have HNE2 : Hid (∀ (i2 : Nat) (l2 : List ByteArray), i2 + 1 < i + 1 + 1 → P[i2]? = some l2 → l2 ≠ []) := Lib.hid (by
                    intro i2 l2 h2 h3
                    rcases Nat.lt_or_ge (i2 + 1) (i + 1) with h | h
                    · exact hNe.out i2 l2 h h3
                    · have e : i2 = i := by omega
                      subst e
                      rw [HLk.out] at h3
                      cases h3
                      exact HNn.out)
                  have HTx := Lib.hid ht
                  have HPc := Lib.hid (piece_at (g := G) (f := F) HLj.out 0 (by simp))
                  have HSu := Lib.hid (nP_succ (first := F) HLj.out)
                  have HA9 := Lib.hid (show (pieceL G F P (i + 1 + 1)).map (·.1) = (pieceL G F P (i + 1)).map (·.1) ++ [⟨0, G, N, ⟨#[]⟩, l, 0, true⟩] from by rw [pieceL_succ, List.map_append, hN.out, ← HPc.out]; rfl)
                  have HP9 := Lib.hid (show (pieceL G F P (i + 1 + 1)).map (·.2) = (pieceL G F P (i + 1)).map (·.2) ++ [((i : Int) + 1)] from by rw [pieceL_succ, List.map_append]; rfl)
                  have HLen := Lib.hid (show ((pieceL G F P (i + 1)).map (·.1)).length ≤ 1000000 ∧ ((pieceL G F P (i + 1)).map (·.2)).length ≤ 1000000 from by simp only [pieceL, List.length_map, List.length_range]; omega)
                  have HA1 := Lib.hid (hA.out.step X1.out)
                  have HP1 := Lib.hid (hPl.out.step X1.out)
                  have HO1 := Lib.hid (hO.out.step X1.out)
                  clear hlight hb1 hlok ht hcw HLt HB0 HHv HXb hA hPl hO
                  have hnw : IntKind.u64.wrap ((N : Int) + (l.length : Int)) = ((N + l.length : Nat) : Int) := by rw [wrap_u64]; omega
                  generalize hAL : (pieceL G F P (i + 1)).map (·.1) = AL at *
                  generalize hPL : (pieceL G F P (i + 1)).map (·.2) = PL at *
                  have HAL := Lib.hid hAL; have HPL := Lib.hid hPL
                  clear hAL hPL
                  go_wp2_with (first
                    | (at_builtin; refine push_seg rfl (.tmp 81) (.tmp 83) rfl rfl (HA1.out.step ((Ext.refl w1).alloc _)) w1.heap.size rfl (HBo.out w1) HTx.out HLen.out.1 ?_; intro p2 c2 w2 κ2 h2 f2; have HA2 := Lib.hid h2; have HP2 := Lib.hid ((HP1.out.step ((Ext.refl w1).alloc _)).fr f2 (by decide)); have HO2 := Lib.hid ((HO1.out.step ((Ext.refl w1).alloc _)).fr (by decide) f2); clear h2 f2)
                    | (at_builtin; refine push_int rfl (.tmp 85) (.tmp 87) rfl rfl (HP2.out.step ((Ext.refl w2).alloc _)) w2.heap.size rfl (Blk.new w2 [.int .i64 ((i : Int) + 1)] 3) HLen.out.2 ?_; intro p3 c3 w3 κ3 h3 f3; have HP3 := Lib.hid h3; have HA3 := Lib.hid ((HA2.out.step ((Ext.refl w2).alloc _)).fr f3 (by decide)); have HO3 := Lib.hid ((HO2.out.step ((Ext.refl w2).alloc _)).fr (by decide) f3); clear h3 f3))
                  go_roundw
                  case rel => exact ⟨i + 1 + 1, N + l.length, κ3, hlt, by go_num, rfl, Lib.hid (by rw [HSu.out, ← hN.out]), by omega, Lib.hid (by rw [HA9.out]; exact HA3.out), Lib.hid (by rw [HP9.out]; exact HP3.out), HO3, HNE2⟩
                  case measure => simp [intOf]; omega
                · go_wp2_with (go_at_call 8; refine (alive_any _).mono ?_; rintro e w2 ⟨rfl, x2⟩; have X2 := Lib.hid (X1.out.trans x2); clear x2)
                  go_ret
                  exact ⟨rfl, hO.out.ext.trans X2.out⟩
          · obtain rfl : j = P.length := by omega
            have HNp := Lib.hid hN.out
            have HNes := Lib.hid hNe.out
            clear hNe hN
            go_wp2
            go_loopw [11, 12, 17] (fun av pv iv wr => ∃ (j : Nat) (κ : Foot), j ≤ E.length ∧ iv = .int .i64 (j : Int) ∧ Hid (SegSl W wr κ 2 av ((pieceL G F P P.length ++ elderL G (E.take j)).map (·.1))) ∧ Hid (IntSl wr κ 3 pv ((pieceL G F P P.length ++ elderL G (E.take j)).map (·.2))) ∧ Hid (Own W wr κ)) (fun _ _ iv _ => E.length - (intOf iv).toNat)
            case atStart => exact ⟨0, κ, Nat.zero_le _, rfl, Lib.hid (by have := hA.out; simpa [elderL] using this), Lib.hid (by have := hPl.out; simpa [elderL] using this), hO⟩
            case round =>
              obtain ⟨j, κ, hj, rfl, hA, hPl, hO⟩ := hrel
              obtain ⟨pa, na, ca, rfl, -, -⟩ := hA.out.lit
              obtain ⟨pp, np, cp, rfl, -, -⟩ := hPl.out.lit
              by_cases hlt : j < E.length
              · obtain ⟨x, hxj⟩ : ∃ x, E[j]? = some x := ⟨_, List.getElem?_eq_getElem hlt⟩
                obtain ⟨ad, q0, c2, rfl, ha, _, hc⟩ := HEld.out _ hO.out.ext j x hxj
                obtain ⟨ad5, q5, c5, e5, ha5, ht5, hc5⟩ := HEld.out W (Ext.refl W) j x hxj
                obtain rfl : ad = ad5 := by simpa using e5
                have hqq : q5 = q0 ∧ c5 = c2 := by
                  have h1 := hc5 4 _ rfl
                  have h2 := hc 4 _ rfl
                  rw [hO.out.ext.below.cell (p := ad.add (j * 7 + 4)) (by rw [add_block]; exact ha5), h1] at h2
                  injection h2 with h2
                  injection h2 with h3 h4 h5
                  exact ⟨h3, h5⟩
                obtain ⟨rfl, rfl⟩ := hqq
                have HT5 := Lib.hid ht5
                have ok := HEok.out x (List.mem_of_getElem? hxj)
                have k0 : wr.cell? (ad.add (j * 7)) = some (.int .u8 (x.k : Int)) := hc 0 _ rfl
                have k1 := seven_at (k := 0) (hc 1 _ rfl)
                have k2 := seven_at (k := 1) (hc 2 _ rfl)
                have k3 := seven_at (k := 2) (hc 3 _ rfl)
                have k4 := seven_at (k := 3) (hc 4 _ rfl)
                have k5 := seven_at (k := 4) (hc 5 _ rfl)
                have k6 := seven_at (k := 5) (hc 6 _ rfl)
                have hbx := Blk.new wr [.int .u8 (x.k : Int), .int .u64 (x.g : Int), .int .u64 (x.f : Int), .string x.t, .slice q5 x.r.length c5, .int .i64 x.u, .bool x.w] 25
                have b1 := hbx.cell 1 _ rfl
                have f1 := hbx.frozen 1
                have hg64 := ok.g
                obtain ⟨m, hm⟩ : ∃ m, m = x.g % G := ⟨_, rfl⟩
                have hmz : (x.g : Int) % (G : Int) = (m : Int) := by omega
                have HY9 : Hid (elderS G x = ⟨x.k, m, x.f, x.t, x.r, x.u, x.w⟩) := Lib.hid (by rw [hm]; rfl)
                have hgl : m < 18446744073709551616 := by rw [hm]; exact Nat.lt_of_le_of_lt (Nat.mod_le _ _) hg64
                clear hm
                have HXb := Lib.hid ((Ext.refl wr).alloc (.cells #[.int .u8 (x.k : Int), .int .u64 (m : Int), .int .u64 (x.f : Int), .string x.t, .slice q5 x.r.length c5, .int .i64 x.u, .bool x.w] 25))
                have hb2 := Blk.new wr [.int .u8 (x.k : Int), .int .u64 (m : Int), .int .u64 (x.f : Int), .string x.t, .slice q5 x.r.length c5, .int .i64 x.u, .bool x.w] 25
                have b0 := hb2.cell 0 _ rfl
                have b1' := hb2.cell 1 _ rfl
                have b2 := hb2.cell 2 _ rfl
                have b3 := hb2.cell 3 _ rfl
                have b4 := hb2.cell 4 _ rfl
                have b5 := hb2.cell 5 _ rfl
                have b6 := hb2.cell 6 _ rfl
                have HBn := Lib.hid (fun u : World => (Blk.new u (segC ⟨x.k, m, x.f, x.t, x.r, x.u, x.w⟩ (.slice q5 x.r.length c5)) 25 : Blk (u.alloc (.cells #[.int .u8 (x.k : Int), .int .u64 (m : Int), .int .u64 (x.f : Int), .string x.t, .slice q5 x.r.length c5, .int .i64 x.u, .bool x.w] 25)) u.heap.size 25 (segC ⟨x.k, m, x.f, x.t, x.r, x.u, x.w⟩ (.slice q5 x.r.length c5))))
                have HBn2 : Hid (Blk ((wr.alloc (.cells #[.int .u8 (x.k : Int), .int .u64 (m : Int), .int .u64 (x.f : Int), .string x.t, .slice q5 x.r.length c5, .int .i64 x.u, .bool x.w] 25)).alloc (.cells #[.int .u8 (x.k : Int), .int .u64 (m : Int), .int .u64 (x.f : Int), .string x.t, .slice q5 x.r.length c5, .int .i64 x.u, .bool x.w] 25)) (wr.heap.size + 1) 25 (segC ⟨x.k, m, x.f, x.t, x.r, x.u, x.w⟩ (.slice q5 x.r.length c5))) := Lib.hid (by have h := HBn.out (wr.alloc (.cells #[.int .u8 (x.k : Int), .int .u64 (m : Int), .int .u64 (x.f : Int), .string x.t, .slice q5 x.r.length c5, .int .i64 x.u, .bool x.w] 25)); rwa [show (wr.alloc (.cells #[.int .u8 (x.k : Int), .int .u64 (m : Int), .int .u64 (x.f : Int), .string x.t, .slice q5 x.r.length c5, .int .i64 x.u, .bool x.w] 25)).heap.size = wr.heap.size + 1 by simp] at h)
                have HE9 := Lib.hid (elderL_succ G E j x hxj)
                have HLen := Lib.hid (show ((pieceL G F P P.length ++ elderL G (E.take j)).map (·.1)).length ≤ 1000000 ∧ ((pieceL G F P P.length ++ elderL G (E.take j)).map (·.2)).length ≤ 1000000 from by simp only [pieceL, elderL, List.length_map, List.length_append, List.length_range, List.length_take]; omega)
                have HA9 := Lib.hid (show (pieceL G F P P.length ++ elderL G (E.take (j + 1))).map (·.1) = (pieceL G F P P.length ++ elderL G (E.take j)).map (·.1) ++ [⟨x.k, m, x.f, x.t, x.r, x.u, x.w⟩] from by rw [HE9.out, ← List.append_assoc, List.map_append, ← HY9.out]; rfl)
                have HP9 := Lib.hid (show (pieceL G F P P.length ++ elderL G (E.take (j + 1))).map (·.2) = (pieceL G F P P.length ++ elderL G (E.take j)).map (·.2) ++ [-1] from by rw [HE9.out, ← List.append_assoc, List.map_append]; rfl)
                generalize hAL : (pieceL G F P P.length ++ elderL G (E.take j)).map (·.1) = AL at *
                generalize hPL : (pieceL G F P P.length ++ elderL G (E.take j)).map (·.2) = PL at *
                clear hAL hPL hbx hb2 hc hc5 ht5 e5 ok hxj
                go_wp2_with (first
                  | (at_builtin; refine push_seg (y := ⟨x.k, m, x.f, x.t, x.r, x.u, x.w⟩) rfl (.tmp 104) (.tmp 106) rfl rfl (hA.out.step (HXb.out.alloc _)) (wr.heap.size + 1) rfl HBn2.out HT5.out HLen.out.1 ?_; intro p2 c2 w2 κ2 h2 f2; have HA2 := Lib.hid h2; have HP2 := Lib.hid ((hPl.out.step (HXb.out.alloc _)).fr f2 (by decide)); have HO2 := Lib.hid ((hO.out.step (HXb.out.alloc _)).fr (by decide) f2); clear h2 f2)
                  | (at_builtin; refine push_int rfl (.tmp 108) (.tmp 109) rfl rfl (HP2.out.step ((Ext.refl w2).alloc _)) w2.heap.size rfl (Blk.new w2 [.int .i64 (-1)] 3) HLen.out.2 ?_; intro p3 c3 w3 κ3 h3 f3; have HP3 := Lib.hid h3; have HA3 := Lib.hid ((HA2.out.step ((Ext.refl w2).alloc _)).fr f3 (by decide)); have HO3 := Lib.hid ((HO2.out.step ((Ext.refl w2).alloc _)).fr (by decide) f3); clear h3 f3))
                go_roundw
                case rel => exact ⟨j + 1, κ3, hlt, by go_num, Lib.hid (by rw [HA9.out]; exact HA3.out), Lib.hid (by rw [HP9.out]; exact HP3.out), HO3⟩
                case measure => simp [intOf]; omega
              · obtain rfl : j = E.length := by omega
                have hfull : pieceL G F P P.length ++ elderL G (E.take E.length) = fullL G F P E := by rw [List.take_length]; rfl
                rw [hfull] at hA hPl
                have HFl := Lib.hid (show (fullL G F P E).length ≤ 24 from by unfold fullL pieceL elderL; simp; omega)
                clear hfull
                go_wp2
                go_loopw [11, 12, 19, 20, 21] (fun av pv lv wv iv wr => ∃ (X Y : List (Seg × Int)) (κ : Foot) (i : Nat), i ≤ 24 ∧ iv = .int .i64 (i : Int) ∧ lenOfO av = X.length ∧ Hid (SegSl W wr κ 2 av (X.map (·.1))) ∧ Hid (IntSl wr κ 3 pv (X.map (·.2))) ∧ Hid (SegSl W wr κ 4 lv (Y.map (·.1))) ∧ Hid (IntSl wr κ 5 wv (Y.map (·.2))) ∧ Hid (Own W wr κ) ∧ Hid (i = Y.length ∧ (Y ++ X).Perm (fullL G F P E))) (fun av _ _ _ _ _ => lenOfO av)
                case atStart => exact ⟨fullL G F P E, [], κ, 0, by omega, rfl, by have h := hA.out.zero; rw [List.length_map] at h; simp only [lenOfO]; exact h, hA, hPl, Lib.hid (SegSl.nil _ _ _ _), Lib.hid (IntSl.nil _ _ _), hO, Lib.hid ⟨rfl, by rw [List.nil_append]⟩⟩
                case round =>
                  obtain ⟨X, Y, κ, i, hi24, rfl, hlen, hA, hPl, hL, hWh, hO, hY⟩ := hrel
                  obtain ⟨pa, na, ca, rfl, -, hla⟩ := hA.out.lit
                  obtain ⟨pp, np, cp, rfl, hnp, hlp⟩ := hPl.out.lit
                  obtain ⟨pl, nl, cl, rfl, hnl, -⟩ := hL.out.lit
                  obtain ⟨pw, nw, cw, rfl, hnw, -⟩ := hWh.out.lit
                  have hna : na = X.length := hlen
                  have hXY : Y.length + X.length ≤ 24 := by
                    have h1 := hY.out.2.length_eq
                    rw [List.length_append] at h1
                    have := HFl.out
                    omega
                  have hiY := hY.out.1
                  by_cases hX : X = []
                  · subst hX
                    have hna0 : na = 0 := hna
                    clear hna
                    subst hna0
                    obtain ⟨R, hR1, hR2, hR3⟩ := order_row (g := G) (first := F) (P := P) (E := E) Y (by have := hY.out.2; rwa [List.append_nil] at this) (by omega) HNes.out (by omega) (by rw [← HNp.out]; omega)
                    have HYm : Hid (∀ x, x ∈ Y.map (·.1) → x.f < 18446744073709551616 ∧ x.r.length ≤ 140737488355328) := Lib.hid (by
                      intro x hx
                      obtain ⟨e, he, rfl⟩ := List.mem_map.1 hx
                      have h2 := hY.out.2
                      rw [List.append_nil] at h2
                      rcases fullL_mem (h2.mem_iff.1 he) with ⟨t, ht, rfl⟩ | ⟨y, hy, rfl⟩
                      · have h3 := nP_mono (first := F) (P := P) (show t ≤ P.length by omega)
                        have h4 := HNp.out
                        refine ⟨by show nP F P t < _; omega, ?_⟩
                        exact (HPok.out _ (List.mem_of_getElem? (show P[t]? = some (P.getD t []) from by rw [List.getD_eq_getElem?_getD, List.getElem?_eq_getElem ht]; rfl))).1
                      · have h5 := HEok.out y hy
                        exact ⟨h5.f, h5.n⟩)
                    have HRow := Lib.hid (fun u (q : Option Addr) (d : Nat) (hu : SegsP u q (Y.map (·.1))) => row_any u q d (Y.map (·.1)) hu (by rw [← hnl]; rw [List.length_map] at hnl; have := hXY; omega) HYm.out)
                    rw [hR1, ← hnl] at HRow
                    dsimp only at HRow
                    rw [hR2] at HRow
                    have HSg := Lib.hid (hL.out.segs hO.out.ext)
                    have HNl := Lib.hid hnl.symm
                    have HNw := Lib.hid hnw.symm
                    have HR2 := Lib.hid hR2
                    have HR3 := Lib.hid hR3
                    have hnl6 : nl ≤ 24 := by rw [List.length_map] at hnl; have := hXY; omega
                    have e00 : ((0 : Nat) : Int) = 0 := rfl
                    rw [e00] at HRow
                    clear hR1 hR2 hR3 hnl hnw hla hlp hXY hiY hnp HNes HYm
                    generalize Y.map (·.1) = YA at *
                    generalize hYB : Y.map (·.2) = YB at *
                    clear hYB hY
                    go_wp2_with (first
                      | (at_builtin; refine wpList_copySegs rfl (.tmp 163) (.tmp 164) rfl wr.heap.size rfl _ _ _ YA HNl.out rfl (HSg.out.ext ((Ext.refl _).alloc _)) (by omega) ?_; intro q1 c1' w1 h1 x1; have H1 := Lib.hid h1; have X1 := Lib.hid ((((Ext.refl wr).alloc _)).trans x1); clear h1 x1)
                      | (go_at_call 18; refine (HRow.out _ _ _ H1.out).mono ?_; rintro e w2 ⟨q2, c2, rfl, h2, x2⟩; have H2 := Lib.hid h2; have X2 := Lib.hid (X1.out.trans x2); have HW2 := Lib.hid (hWh.out.step (X1.out.trans x2)); clear h2 x2))
                    have HO2 := Lib.hid (hO.out.ext.trans X2.out)
                    clear HSg H1 X1 hA hPl hL hWh hO HRow X2
                    go_loopw [25] (fun iv wr => ∃ j : Nat, j ≤ P.length ∧ iv = .int .i64 (j : Int) ∧ w2 = wr) (fun iv _ => P.length - (intOf iv).toNat)
                    case atStart => exact ⟨0, Nat.zero_le _, rfl, rfl⟩
                    case round =>
                      obtain ⟨j, hj, rfl, rfl⟩ := hrel
                      by_cases hlt : j < P.length
                      · obtain ⟨r, hr⟩ : ∃ r, R[j]? = some r := ⟨_, List.getElem?_eq_getElem (by rw [HR2.out]; exact hlt)⟩
                        have hrw := HR3.out j r hr
                        have hrl : r < nw := by rw [← HNw.out]; exact (List.getElem?_eq_some_iff.1 hrw).1
                        obtain ⟨b, rfl, _, hcb⟩ := H2.out j _ (vN_get hr)
                        obtain ⟨gw, rfl, hcw⟩ := HW2.out.cell hrw
                        have hr0 : ¬ ((r : Int) < 0) := by omega
                        have hr1 : ¬ ((nw : Int) ≤ (r : Int)) := by omega
                        have hr2 : (r : Int) < (nw : Int) := by omega
                        clear hr hrw
                        go_wp2
                        go_roundw
                        case rel => exact ⟨j + 1, hlt, by go_num, trivial⟩
                        case measure => simp [intOf]; omega
                      · obtain rfl : j = P.length := by omega
                        go_wp2_with (go_at_call 8; refine (alive_any _).mono ?_; rintro e w3 ⟨rfl, x3⟩; have X3 := Lib.hid x3; clear x3)
                        go_ret
                        exact ⟨rfl, HO2.out.trans X3.out⟩
                  · have hX0 := List.length_pos_iff.2 hX
                    obtain ⟨a, rfl⟩ : ∃ a, pa = some a := by
                      obtain ⟨g, e, _⟩ := hla (by simpa using hX)
                      exact ⟨_, e⟩
                    have hca : na ≤ ca := by
                      obtain ⟨g, _, h⟩ := hla (by simpa using hX)
                      exact h
                    obtain ⟨a', rfl⟩ : ∃ a, pp = some a := by
                      obtain ⟨g, e, _⟩ := hlp (by simpa using hX)
                      exact ⟨_, e⟩
                    have hcp : np ≤ cp := by
                      obtain ⟨g, _, h⟩ := hlp (by simpa using hX)
                      exact h
                    rw [List.length_map] at hnp
                    obtain rfl : np = na := by omega
                    have hna0 : (0 : Int) < (np : Int) := by omega
                    have hna1 : 0 < np := by omega
                    have hn24 : np ≤ 24 := by omega
                    have HN := Lib.hid hna
                    have HlXY := Lib.hid hXY
                    have HiY := Lib.hid hiY
                    have hnl24 : nl ≤ 24 := by rw [hnl, List.length_map]; omega
                    have hnw24 : nw ≤ 24 := by rw [hnw, List.length_map]; omega
                    clear hX hla hlp hnp hna hlen hXY hX0 hnl hnw hiY
                    go_upto_if 119 with (fail)
                    go_cut [22] (fun kv wx => ∃ k, k < np ∧ kv = .int .i64 (k : Int) ∧ wr = wx)
                    case first =>
                      by_cases hin : i < n4
                      · have hini : (i : Int) < (n4 : Int) := by omega
                        obtain ⟨z, hz⟩ : ∃ z, picks[i]? = some z := ⟨_, List.getElem?_eq_getElem (by have := HPkb.out.1; omega)⟩
                        have hz8 := HPkb.out.2 z (List.mem_of_getElem? hz)
                        obtain ⟨a4, rfl, _, hc4⟩ := HPk.out wr hO.out.ext i (.int .u8 (z : Int)) (by unfold vU8; rw [List.getElem?_map, hz]; rfl)
                        obtain ⟨m, hm⟩ : ∃ m, m = z % np := ⟨_, rfl⟩
                        have hmz : (z : Int) % (np : Int) = (m : Int) := by omega
                        have hml : m < np := by rw [hm]; exact Nat.mod_lt _ hna1
                        clear hm hz
                        go_wp2
                        go_meet
                        exact ⟨m, hml, by rw [hmz], rfl⟩
                      · have hini : ¬ (i : Int) < (n4 : Int) := by omega
                        go_wp2
                        go_meet
                        exact ⟨0, hna1, rfl, rfl⟩
                    obtain ⟨k, hk, rfl, rfl⟩ := hcut
                    obtain ⟨⟨x, z⟩, hxz⟩ : ∃ e, X[k]? = some e := ⟨_, List.getElem?_eq_getElem (by have := HN.out; omega)⟩
                    have hxk : (X.map (·.1))[k]? = some x := by rw [List.getElem?_map, hxz]; rfl
                    have hzk : (X.map (·.2))[k]? = some z := by rw [List.getElem?_map, hxz]; rfl
                    obtain ⟨q, c, hq, hc⟩ := hA.out.at hxk
                    have k0 : wr.cell? (a.add (k * 7)) = some (.int .u8 (x.k : Int)) := hc 0 _ rfl
                    have k1 := seven_at (k := 0) (hc 1 _ rfl)
                    have k2 := seven_at (k := 1) (hc 2 _ rfl)
                    have k3 := seven_at (k := 2) (hc 3 _ rfl)
                    have k4 := seven_at (k := 3) (hc 4 _ rfl)
                    have k5 := seven_at (k := 4) (hc 5 _ rfl)
                    have k6 := seven_at (k := 5) (hc 6 _ rfl)
                    have HQ := Lib.hid hq
                    have HZk := Lib.hid hzk
                    have hkw : IntKind.i64.wrap ((k : Int) + 1) = (k : Int) + 1 := IntWalk.i64_in _ ⟨by omega, by omega⟩
                    have hk0 : (0 : Int) ≤ (k : Int) := by omega
                    have hkl : (k : Int) < (np : Int) := by omega
                    have HBn := Lib.hid (fun u : World => (Blk.new u (segC x (.slice q x.r.length c)) 25 : Blk (u.alloc (.cells #[.int .u8 (x.k : Int), .int .u64 (x.g : Int), .int .u64 (x.f : Int), .string x.t, .slice q x.r.length c, .int .i64 x.u, .bool x.w] 25)) u.heap.size 25 (segC x (.slice q x.r.length c))))
                    have HPm : Hid (((Y ++ [(x, z)]) ++ (X.take k ++ X.drop (k + 1))).Perm (fullL G F P E)) := Lib.hid (by
                      refine List.Perm.trans ?_ hY.out.2
                      obtain ⟨hk5, hx5⟩ := List.getElem?_eq_some_iff.1 hxz
                      have e : X = X.take k ++ (x, z) :: X.drop (k + 1) := by
                        rw [← hx5, ← List.drop_eq_getElem_cons hk5, List.take_append_drop]
                      refine List.Perm.trans ?_ (List.Perm.of_eq (show Y ++ (X.take k ++ (x, z) :: X.drop (k + 1)) = Y ++ X from by rw [← e]))
                      rw [List.append_assoc]
                      refine List.Perm.append_left _ ?_
                      show List.Perm ((x, z) :: (X.take k ++ X.drop (k + 1))) _
                      exact List.perm_middle.symm)
                    have HX9 := Lib.hid (show (X.take k ++ X.drop (k + 1)).map (·.1) = (X.map (·.1)).take k ++ (X.map (·.1)).drop (k + 1) from by rw [List.map_append, List.map_take, List.map_drop])
                    have HP9 := Lib.hid (show (X.take k ++ X.drop (k + 1)).map (·.2) = (X.map (·.2)).take k ++ (X.map (·.2)).drop (k + 1) from by rw [List.map_append, List.map_take, List.map_drop])
                    have HY9 := Lib.hid (show (Y ++ [(x, z)]).map (·.1) = Y.map (·.1) ++ [x] from by rw [List.map_append]; rfl)
                    have HW9 := Lib.hid (show (Y ++ [(x, z)]).map (·.2) = Y.map (·.2) ++ [z] from by rw [List.map_append]; rfl)
                    have HLen := Lib.hid (show (Y.map (·.1)).length ≤ 1000000 ∧ (Y.map (·.2)).length ≤ 1000000 from by rw [List.length_map, List.length_map]; have := HlXY.out; omega)
                    have HX'l := Lib.hid (show (X.take k ++ X.drop (k + 1)).length = k + (np - (k + 1)) from by rw [List.length_append, List.length_take, List.length_drop]; have := HN.out; omega)
                    have HY'l := Lib.hid (show i + 1 = (Y ++ [(x, z)]).length from by rw [List.length_append]; have := HiY.out; simp; omega)
                    generalize X.map (·.1) = XA at *
                    generalize X.map (·.2) = XB at *
                    generalize Y.map (·.1) = YA at *
                    generalize Y.map (·.2) = YB at *
                    have hhd := fun u => segs_head a np ca k (by omega) u
                    have hrs := fun u => segs_rest a np ca (k + 1) (by omega) hca u
                    have hihd := fun u => ints_head a' np cp k (by omega) u
                    have hirs := fun u => ints_rest a' np cp (k + 1) (by omega) hcp u
                    have ek1 : ((k + 1 : Nat) : Int) = (k : Int) + 1 := by omega
                    rw [ek1] at hrs hirs
                    have HI24 := Lib.hid (show i + 1 ≤ 24 from by have := HlXY.out; have := HN.out; have := HiY.out; omega)
                    have HCut := Lib.hid (And.intro hk hn24)
                    clear hY HlXY HiY hq hc hxz hxk hzk ek1
                    go_upto_region 37 with (first
                      | (at_builtin; refine push_seg rfl (.tmp 128) (.tmp 133) rfl rfl (hL.out.step ((Ext.refl wr).alloc _)) wr.heap.size rfl (HBn.out wr) HQ.out HLen.out.1 ?_; intro p2 c2 w2 κ2 h2 f2; have HL2 := Lib.hid h2; have HA2 := Lib.hid ((hA.out.step ((Ext.refl wr).alloc _)).fr f2 (by decide)); have HPl2 := Lib.hid ((hPl.out.step ((Ext.refl wr).alloc _)).fr f2 (by decide)); have HW2 := Lib.hid ((hWh.out.step ((Ext.refl wr).alloc _)).fr f2 (by decide)); have HO2 := Lib.hid ((hO.out.step ((Ext.refl wr).alloc _)).fr (by decide) f2); have hz2 := HPl2.out.at HZk.out; clear h2 f2)
                      | (at_builtin; refine push_int rfl (.tmp 135) (.tmp 140) rfl rfl (HW2.out.step ((Ext.refl w2).alloc _)) w2.heap.size rfl (Blk.new w2 [.int .i64 z] 3) HLen.out.2 ?_; intro p3 c3 w3 κ3 h3 f3; have HW3 := Lib.hid h3; have HL3 := Lib.hid ((HL2.out.step ((Ext.refl w2).alloc _)).fr f3 (by decide)); have HA3 := Lib.hid ((HA2.out.step ((Ext.refl w2).alloc _)).fr f3 (by decide)); have HPl3 := Lib.hid ((HPl2.out.step ((Ext.refl w2).alloc _)).fr f3 (by decide)); have HO3 := Lib.hid ((HO2.out.step ((Ext.refl w2).alloc _)).fr (by decide) f3); clear h3 f3))
                    clear k0 k1 k2 k3 k4 k5 k6 hz2 HL2 HA2 HPl2 HW2 HO2 hA hPl hL hWh hO
                    go_region_law (first
                      | (refine step_cut1 rfl (.tmp 142) (.tmp 145) rfl HA3.out (by first | exact (Ext.refl w3).drew.alloc _ | exact ((Ext.refl w3).alloc _).drew | exact (Ext.refl w3).alloc _) k (by have := HCut.out; omega) w3.heap.size (by simp [Act.eval]) (by simp [Act.eval]) (by have := HCut.out; omega) ?_; intro p14 c14 w4 κ4 h4 h4' f4; have HC4 := Lib.hid h4; have HA4 := Lib.hid h4'; have HF4 := Lib.hid f4; clear h4 h4' f4)
                      | (refine step_cut2 rfl (.tmp 146) (.tmp 150) rfl HC4.out HA4.out (k + 1) (by have := HCut.out; omega) (by simp [Act.eval]) (by simp [Act.eval]) (by have := HCut.out; omega) ?_; intro p15 c15 w5 κ5 h5 f5; have HA5 := Lib.hid h5; have HF5 := Lib.hid f5; clear h5 f5))
                    have HPl5 := Lib.hid ((HPl3.out.fr HF4.out (by decide)).fr HF5.out (by decide))
                    have HL5 := Lib.hid ((HL3.out.fr HF4.out (by decide)).fr HF5.out (by decide))
                    have HW5 := Lib.hid ((HW3.out.fr HF4.out (by decide)).fr HF5.out (by decide))
                    have HO5 := Lib.hid ((HO3.out.fr (by decide) HF4.out).fr (by decide) HF5.out)
                    clear HC4 HA4 HF4 HF5 HPl3 HL3 HW3 HO3 HA3
                    go_upto_region 38 with (fail)
                    go_region_law (first
                      | (refine step_icut1 rfl (.tmp 152) (.tmp 155) rfl HPl5.out (by first | exact (Ext.refl w5).drew.alloc _ | exact ((Ext.refl w5).alloc _).drew | exact (Ext.refl w5).alloc _) k (by have := HCut.out; omega) w5.heap.size (by simp [Act.eval]) (by simp [Act.eval]) (by have := HCut.out; omega) ?_; intro p16 c16 w6 κ6 h6 h6' f6; have HC6 := Lib.hid h6; have HB6 := Lib.hid h6'; have HF6 := Lib.hid f6; clear h6 h6' f6)
                      | (refine step_icut2 rfl (.tmp 156) (.tmp 160) rfl HC6.out HB6.out (k + 1) (by have := HCut.out; omega) (by simp [Act.eval]) (by simp [Act.eval]; rfl) (by have := HCut.out; omega) ?_; intro p17 c17 w7 κ7 h7 f7; have HB7 := Lib.hid h7; have HF7 := Lib.hid f7; clear h7 f7))
                    have HA7 := Lib.hid ((HA5.out.fr HF6.out (by decide)).fr HF7.out (by decide))
                    have HL7 := Lib.hid ((HL5.out.fr HF6.out (by decide)).fr HF7.out (by decide))
                    have HW7 := Lib.hid ((HW5.out.fr HF6.out (by decide)).fr HF7.out (by decide))
                    have HO7 := Lib.hid ((HO5.out.fr (by decide) HF6.out).fr (by decide) HF7.out)
                    clear HC6 HB6 HF6 HF7 HPl5 HL5 HW5 HO5 HA5 hhd hrs hihd hirs
                    go_wp2
                    go_roundw
                    case rel => exact ⟨X.take k ++ X.drop (k + 1), Y ++ [(x, z)], κ7, i + 1, HI24.out, by go_num, by simp only [lenOfO]; exact HX'l.out.symm, Lib.hid (by rw [HX9.out]; exact HA7.out), Lib.hid (by rw [HP9.out]; exact HB7.out), Lib.hid (by rw [HY9.out]; exact HL7.out), Lib.hid (by rw [HW9.out]; exact HW7.out), HO7, Lib.hid ⟨HY'l.out, HPm.out⟩⟩
                    case measure => have := HCut.out; simp only [lenOfO]; omega
      · have d1 : decide ((12 : Int) < (P.length : Int)) = false := by rw [decide_eq_false_iff_not]; omega
        have d2 : (((P.length : Nat) : Int) == 0) = false := by rw [beq_eq_false_iff_ne]; omega
        have d3 : decide ((12 : Int) < (E.length : Int)) = true := by rw [decide_eq_true_iff]; omega
        go_enter Try.func6, Try.ntmps6
        go_wp2_with (go_at_call 8; refine (alive_any _).mono ?_; rintro e w2 ⟨rfl, x2⟩; have X2 := Lib.hid x2; clear x2)
        go_ret
        exact ⟨rfl, X2.out⟩
  · have d1 : decide ((12 : Int) < (P.length : Int)) = true := by rw [decide_eq_true_iff]; omega
    go_enter Try.func6, Try.ntmps6
    go_wp2_with (go_at_call 8; refine (alive_any _).mono ?_; rintro e w2 ⟨rfl, x2⟩; have X2 := Lib.hid x2; clear x2)
    go_ret
    exact ⟨rfl, X2.out⟩
end Go.Proofs.Ythnoegipadnmeaa
