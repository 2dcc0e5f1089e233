/- Contracts: the round keys of a key, by the document's answer. Sixteen bytes made, and filled. -/
import Derived.Test.YtobhbppogeghnaaGreatDoorM33
import Derived.Test.YtobhbppogeghnaaGreatDoorM34
import Derived.Test.YtobhbppogeghnaaGreatDoorM02
import Derived.StillTailTactics
import Derived.Deep.RegionLaw
import Derived.Outline
import Derived.Test.YtobhbppogeghnaaGreatDoorM18
import Derived.Test.YtobhbppogeghnaaGreatDoorM07
section
namespace Go.Proofs.YtobhbppogeghnaaGreatDoor
open Go.RowKit

/-- The word that goes into word i. -/
def gW (w : List UInt8) (i : Nat) : List UInt8 :=
  if i % 4 = 0 then [boxB (w.getD (4 * i - 3) 0) ^^^ rcon (i / 4 - 1), boxB (w.getD (4 * i - 2) 0), boxB (w.getD (4 * i - 1) 0), boxB (w.getD (4 * i - 4) 0)]
  else [w.getD (4 * i - 4) 0, w.getD (4 * i - 3) 0, w.getD (4 * i - 2) 0, w.getD (4 * i - 1) 0]
theorem nextW_at (w : List UInt8) (i : Nat) (k : Nat) (hk : k < 4) (hi : 4 ≤ i) : (nextW w i)[k]? = some (w.getD (4 * i - 16 + k) 0 ^^^ (gW w i).getD k 0) := by
  unfold nextW gW
  rw [List.getElem?_map, List.getElem?_range hk]
  have e1 : 4 * i - 4 + 1 = 4 * i - 3 := by omega
  have e2 : 4 * i - 4 + 2 = 4 * i - 2 := by omega
  have e3 : 4 * i - 4 + 3 = 4 * i - 1 := by omega
  simp only [Option.map_some, e1, e2, e3, Nat.add_zero]
theorem gW_length (w : List UInt8) (i : Nat) : (gW w i).length = 4 := by unfold gW; split <;> rfl
theorem nextW_take (w : List UInt8) (i : Nat) (hi : 4 ≤ i) (k : Nat) (hk : k < 4) : (nextW w i).take (k + 1) = (nextW w i).take k ++ [w.getD (4 * i - 16 + k) 0 ^^^ (gW w i).getD k 0] := by
  have h := nextW_at w i k hk hi
  have hl : k < (nextW w i).length := by rw [nextW_length]; exact hk
  rw [List.take_succ_eq_append_getElem hl]
  rw [List.getElem?_eq_getElem hl] at h
  rw [Option.some.inj h]
theorem getD_some {l : List UInt8} {i : Nat} (h : i < l.length) : l[i]? = some (l.getD i 0) := by
  rw [List.getD_eq_getElem?_getD, List.getElem?_eq_getElem h]; rfl
theorem gW_four {E : List UInt8} {n : Nat} (h : n % 4 = 0) : gW E n = [boxB (E.getD (4 * n - 3) 0) ^^^ rcon (n / 4 - 1), boxB (E.getD (4 * n - 2) 0), boxB (E.getD (4 * n - 1) 0), boxB (E.getD (4 * n - 4) 0)] := by unfold gW; rw [if_pos h]
theorem gW_plain {E : List UInt8} {n : Nat} (h : ¬ n % 4 = 0) : gW E n = [E.getD (4 * n - 4) 0, E.getD (4 * n - 3) 0, E.getD (4 * n - 2) 0, E.getD (4 * n - 1) 0] := by unfold gW; rw [if_neg h]
theorem Row.four (w : World) (t : TypeId) (g : Nat) (hg : w.heap.size = g) (a b c d : Int) (x y z u : UInt8) (ha : a = (x.toNat : Int)) (hb : b = (y.toNat : Int)) (hc : c = (z.toNat : Int)) (hd : d = (u.toNat : Int)) : Row (w.alloc (.cells #[.int .u8 a, .int .u8 b, .int .u8 c, .int .u8 d] t)) g t [x, y, z, u] := by
  subst ha hb hc hd hg; exact heap_alloc_new w _
theorem xorB8 (a b : UInt8) : bits BinOp.xor IntKind.u8 (a.toNat : Int) (b.toNat : Int) = ((a ^^^ b).toNat : Int) := by
  rw [u8_xor_nat _ _ a.toNat_lt b.toNat_lt, UInt8.toNat_xor]
theorem BufT.cells2 {w : World} {B : Nat} {v : Value} {l : List UInt8} (h : BufT w B v l) : ∃ g c, v = .slice (some ⟨g, 0, none⟩) l.length c ∧ l.length ≤ c ∧ g < w.heap.size ∧ ∀ (i : Nat) (b : UInt8), l[i]? = some b → w.cell? ⟨g, i, none⟩ = some (.int .u8 (b.toNat : Int)) := by
  obtain ⟨g, cap, cur, fz, h1, h2, h3, h4, h5, h6, h7, h8⟩ := h
  obtain ⟨g', c', e1, _, e3, e4⟩ := BufT.cells (w := w) (B := B) (v := v) (l := l) ⟨g, cap, cur, fz, h1, h2, h3, h4, h5, h6, h7, h8⟩
  subst h1
  injection e1 with a1 a2 a3
  injection a1 with a4
  injection a4 with a5
  subst a5 a3
  exact ⟨g, cap, rfl, h5, e3, e4⟩
/-- Bytes of a slice's middle, as a text. -/
theorem text_mid (w : World) (g p c : Nat) (R : List UInt8) (n : Nat) (hn : R.length = n) (hc : ∀ (i : Nat) (b : UInt8), R[i]? = some b → w.cell? ⟨g, p + i, none⟩ = some (.int .u8 (b.toNat : Int))) :
    (convert 43 9 (.slice (some ⟨g, p, none⟩) n c)).run Tryz.prog w = .ok (.string ⟨R.toArray⟩) w := by
  have h2 := run_convert_bytes_arg (P := Tryz.prog) w 43 5 Tryz.underlying43 Tryz.underlying5 g p n c (R.map fun c => (c.toNat : Int)) (by simp [hn]) (by
    intro i hi
    have hi2 : i < R.length := by omega
    have := hc i R[i] (List.getElem?_eq_getElem hi2)
    simpa [List.getD, List.getElem?_eq_getElem hi2] using this) 9 Tryz.underlying9
  rw [h2]
  have e : strOfNums (R.map fun c => (c.toNat : Int)) = ⟨R.toArray⟩ := by
    have hm : (R.map fun c => (c.toNat : Int)).map (fun n => UInt8.ofNat n.toNat) = R := by
      rw [List.map_map]
      conv => rhs; rw [← List.map_id R]
      apply List.map_congr_left
      intro b _
      simp
    exact congrArg (fun l : List UInt8 => (⟨l.toArray⟩ : ByteArray)) hm
  rw [e]
theorem elemB : Tryz.prog.elem 43 = 5 := by kernel_rfl
theorem sizeB_run (w : World) : (sizeOf 5).run Tryz.prog w = .ok 1 w := Tryz.sizeOf5 w
theorem slice_mid (g len cap p : Nat) (hp : p + 16 ≤ cap) (w : World) : (Instr.slice 43 (.slice (some ⟨g, 0, none⟩) len cap) (some (.int .i64 (p : Int))) (some (.int .i64 ((p : Int) + 16))) none).run Tryz.prog w = .ok (.slice (some ⟨g, p, none⟩) 16 (cap - p)) w := by
  have hu : Tryz.prog.underlying 43 = some (.slice (Tryz.prog.elem 43)) := by rw [elemB]; exact Tryz.underlying43
  rw [run_slice_lh (P := Tryz.prog) w 43 (some ⟨g, 0, none⟩) len cap hu .i64 .i64 (p : Int) ((p : Int) + 16) (by omega) (by omega) (by omega), elemB, sizeB_run]
  have e1 : ((p : Int) + 16).toNat = p + 16 := by omega
  simp only [Result.andThen, sliced, Int.toNat_natCast, e1, Nat.mul_one, Option.map_some]
  rw [if_neg (by omega), Addr.add_mid, Nat.zero_add, Nat.add_sub_cancel_left]
attribute [local irreducible] rkey expand keyTexts gW nextW rcon
set_option maxRecDepth 100000 in
set_option maxHeartbeats 4000000 in
theorem rrounds_any (w : World) (key : ByteArray) (hk : key.size = 16) (v : Value) (hv : BSl w v boxT) :
    Calls Tryz.prog 183 #[.string key, v] w fun e w' => ∃ v', e = .returned v' ∧ SSl w' v' (keyTexts key.data.toList) ∧ Ext w w' := by
  obtain ⟨gt, ct, rfl, hgt, hct⟩ := hv
  rw [boxT_length]
  have HCT := Lib.hid (fun u (hu : Ext w u) (b : UInt8) => (hu.below.cell (p := ⟨gt, b.toNat, none⟩) hgt).trans (hct b.toNat (boxB b) (by have := boxT_at b.toNat b.toNat_lt; rwa [UInt8.ofNat_toNat] at this)))
  obtain ⟨cap, W1, hcv, hcap, hx1, hbuf1⟩ := bufT_of_text w key (by omega)
  obtain ⟨kl, hkl⟩ : ∃ kl, key.data.toList = kl := ⟨_, rfl⟩
  have hkl16 : kl.length = 16 := by rw [← hkl, size_list, hk]
  rw [hkl] at hbuf1 ⊢
  have HB1 := Lib.hid hbuf1; have HX1 := Lib.hid hx1
  have HEL := Lib.hid (fun m => expand_length hkl16 m)
  have HE0 : Hid (expand kl 0 = kl) := Lib.hid (by unfold expand; rfl)
  have HES : Hid (∀ m, expand kl (m + 1) = expand kl m ++ nextW (expand kl m) (m + 4)) := Lib.hid (fun m => by rw [expand])
  clear hct hbuf1 hx1 hcap hkl hkl16
  go_enter Tryz.func183, Tryz.ntmps183
  go_wp2
  rw [hk] at HB1
  go_loopw [5, 6, 7] (fun v r i wr => ∃ m n : Nat, m ≤ 40 ∧ n = m + 4 ∧ i = .int .i64 (n : Int) ∧ r = .int .u8 ((rcon ((n - 1) / 4)).toNat : Int) ∧ BufT wr w.heap.size v (expand kl m) ∧ Ext w wr) (fun _ _ i _ => 44 - (intOf i).toNat)
  case atStart => exact ⟨0, 4, by omega, rfl, rfl, by rw [show (4 - 1) / 4 = 0 from rfl]; unfold rcon; rfl, by rw [HE0.out]; exact HB1.out, HX1.out⟩
  case round =>
    clear HB1 HX1 hcv
    obtain ⟨m, n, hm, hn, rfl, rfl, hbuf, hext⟩ := hrel
    by_cases hlt : m < 40
    · have hni : (n : Int) < 44 := by omega
      obtain ⟨gv, cv, hv, hgB, hgv, hcells⟩ := hbuf.cells
      subst hv
      have HBf := Lib.hid hbuf; have HE := Lib.hid hext
      have HESm := Lib.hid (HES.out m)
      have hel := HEL.out m
      have hgtw : gt < wr.heap.size := Nat.lt_of_lt_of_le hgt hext.size
      have hne : gv < wr.heap.size := hgv
      generalize expand kl m = E at *
      have hlen : E.length = 4 * n := by rw [hel]; omega
      rw [show m + 4 = n by omega] at HESm
      have HW := Lib.hid (fun k hk => nextW_take E n (by omega) k hk)
      have HNL := Lib.hid (nextW_length E n)
      have c0 := hcells (4 * n - 4) _ (getD_some (by omega)); have c1 := hcells (4 * n - 3) _ (getD_some (by omega)); have c2 := hcells (4 * n - 2) _ (getD_some (by omega)); have c3 := hcells (4 * n - 1) _ (getD_some (by omega))
      have G4 := Lib.hid (fun (h : n % 4 = 0) => gW_four (E := E) h)
      have GP := Lib.hid (fun (h : ¬ n % 4 = 0) => gW_plain (E := E) h)
      have HEn := Lib.hid (fun k (hk : k < 4) => getD_some (l := E) (i := 4 * n - 16 + k) (by omega))
      have HGk : Hid (∀ k, k < 4 → (gW E n)[k]? = some ((gW E n).getD k 0)) := Lib.hid (fun k hk => getD_some (by rw [gW_length]; exact hk))
      generalize gW E n = G at *
      generalize nextW E n = NW at *
      generalize E.getD (4 * n - 4) 0 = b0 at *
      generalize E.getD (4 * n - 3) 0 = b1 at *
      generalize E.getD (4 * n - 2) 0 = b2 at *
      generalize E.getD (4 * n - 1) 0 = b3 at *
      obtain ⟨j0, q0⟩ : ∃ j : Nat, 4 * (n : Int) - 4 = (j : Int) := ⟨4 * n - 4, by omega⟩
      obtain ⟨j1, q1⟩ : ∃ j : Nat, 4 * (n : Int) - 3 = (j : Int) := ⟨4 * n - 3, by omega⟩
      obtain ⟨j2, q2⟩ : ∃ j : Nat, 4 * (n : Int) - 2 = (j : Int) := ⟨4 * n - 2, by omega⟩
      obtain ⟨j3, q3⟩ : ∃ j : Nat, 4 * (n : Int) - 1 = (j : Int) := ⟨4 * n - 1, by omega⟩
      rw [show 4 * n - 4 = j0 by omega] at c0
      rw [show 4 * n - 3 = j1 by omega] at c1
      rw [show 4 * n - 2 = j2 by omega] at c2
      rw [show 4 * n - 1 = j3 by omega] at c3
      have w4n : IntKind.i64.wrap (4 * (n : Int)) = 4 * (n : Int) := IntWalk.i64_in _ ⟨by omega, by omega⟩
      have wj0 : IntKind.i64.wrap (j0 : Int) = (j0 : Int) := IntWalk.i64_in _ ⟨by omega, by omega⟩
      have wj1 : IntKind.i64.wrap (j1 : Int) = (j1 : Int) := IntWalk.i64_in _ ⟨by omega, by omega⟩
      have wj2 : IntKind.i64.wrap (j2 : Int) = (j2 : Int) := IntWalk.i64_in _ ⟨by omega, by omega⟩
      have wj3 : IntKind.i64.wrap (j3 : Int) = (j3 : Int) := IntWalk.i64_in _ ⟨by omega, by omega⟩
      rw [hlen] at HBf ⊢
      obtain ⟨len, hl4⟩ : ∃ len, 4 * n = len := ⟨_, rfl⟩
      rw [hl4] at HBf ⊢
      have l0 : (j0 : Int) < (len : Int) := by omega
      have l1 : (j1 : Int) < (len : Int) := by omega
      have l2 : (j2 : Int) < (len : Int) := by omega
      have l3 : (j3 : Int) < (len : Int) := by omega
      have n0 : j0 < len := by omega
      have n1 : j1 < len := by omega
      have n2 : j2 < len := by omega
      have n3 : j3 < len := by omega
      have HLen := Lib.hid hlen; have HL4 := Lib.hid hl4
      have HN := Lib.hid hn
      have HNk : Hid (4 ≤ n ∧ n < 44) := Lib.hid (by omega)
      clear hbuf hext hcells hel hlen hl4 hn
      have hlen8 : ∀ x : UInt8, (x.toNat : Int) < 256 := fun x => by have := x.toNat_lt; omega
      by_cases hm4 : n % 4 = 0
      case' pos =>
        have hmi : (n : Int) % 4 = 0 := by omega
        have hG := G4.out hm4
        have hrn : n / 4 - 1 = (n - 1) / 4 := by omega
        have hrn2 : n / 4 = (n - 1) / 4 + 1 := by omega
        rw [hrn] at hG
        have HRN : Hid ((rcon (n / 4)).toNat = tm (rcon ((n - 1) / 4)).toNat 2) := Lib.hid (by rw [hrn2, rcon_double])
        have TR := Lib.hid (fun u => rTimes_any (rcon ((n - 1) / 4)).toNat 2 (rcon ((n - 1) / 4)).toNat_lt (by decide) u)
        have hxor := xorB8 (boxB b1) (rcon ((n - 1) / 4))
        obtain ⟨W2, hW2⟩ : ∃ W2, W2 = (wr.alloc (.cells #[.int .u8 (b0.toNat : Int), .int .u8 (b1.toNat : Int), .int .u8 (b2.toNat : Int), .int .u8 (b3.toNat : Int)] 5)).drew := ⟨_, rfl⟩
        have x2 : Ext wr W2 := by rw [hW2]; exact ((Ext.refl wr).alloc _).drew
        have r2 : Row W2 wr.heap.size 5 [b0, b1, b2, b3] := by rw [hW2]; exact Row.drew (Row.four wr _ _ rfl _ _ _ _ b0 b1 b2 b3 rfl rfl rfl rfl)
        have D0 := Lib.hid (r2.cell 0 b0 rfl); have D1 := Lib.hid (r2.cell 1 b1 rfl); have D2 := Lib.hid (r2.cell 2 b2 rfl); have D3 := Lib.hid (r2.cell 3 b3 rfl)
        have hz2 : W2.heap.size = wr.heap.size + 1 := by rw [hW2]; simp
        have S0 := Lib.hid (HCT.out W2 (HE.out.trans x2) b0); have S1 := Lib.hid (HCT.out W2 (HE.out.trans x2) b1); have S2 := Lib.hid (HCT.out W2 (HE.out.trans x2) b2); have S3 := Lib.hid (HCT.out W2 (HE.out.trans x2) b3)
        have HW2 := Lib.hid hW2; have HX2 := Lib.hid x2; have HZ2 := Lib.hid hz2
        clear hW2 x2 r2 hz2
        have B0 := hlen8 b0; have B1 := hlen8 b1; have B2 := hlen8 b2; have B3 := hlen8 b3
        have HFour := Lib.hid (fun u => Row.four u 5 u.heap.size rfl ((boxB b1 ^^^ rcon ((n - 1) / 4)).toNat : Int) ((boxB b2).toNat : Int) ((boxB b3).toNat : Int) ((boxB b0).toNat : Int) _ _ _ _ rfl rfl rfl rfl)
        rw [← hG] at HFour
        clear hrn hrn2 hG hm4 hlen8
        generalize tm (rcon ((n - 1) / 4)).toNat 2 = r2 at *
        generalize (boxB b1 ^^^ rcon ((n - 1) / 4)).toNat = z at *
        generalize (rcon ((n - 1) / 4)).toNat = r at *
        generalize (boxB b0).toNat = y0 at *
        generalize (boxB b1).toNat = y1 at *
        generalize (boxB b2).toNat = y2 at *
        generalize (boxB b3).toNat = y3 at *
        generalize b0.toNat = b0 at *
        generalize b1.toNat = b1 at *
        generalize b2.toNat = b2 at *
        generalize b3.toNat = b3 at *
        go_wp2
        go_still_tail 24, (by kernel_rfl)
        change wpList _ _ _ _ _ wr.drew
        go_wp2
        rw [← HW2.out]
        have d0 := D0.out; have d1 := D1.out; have d2 := D2.out; have d3 := D3.out
        have s0 := S0.out; have s1 := S1.out; have s2 := S2.out; have s3 := S3.out
        clear c0 c1 c2 c3
        go_still_tail 26, (by kernel_rfl)
        change wpList _ _ _ _ _ W2.drew
        clear d0 d1 d2 d3 s0 s1 s2 s3
        go_wp2_with (go_at_call 210; refine (TR.out _).mono ?_; rintro e w3 ⟨rfl, rfl⟩)
        have hRG := (HFour.out W2).drew
        have hXG : Ext wr ((W2.alloc (.cells #[.int .u8 (z : Int), .int .u8 (y2 : Int), .int .u8 (y3 : Int), .int .u8 (y0 : Int)] 5)).drew) := (HX2.out.alloc _).drew
        have hgb1 : wr.heap.size ≤ W2.heap.size := HX2.out.size
        have hgb2 : W2.heap.size < ((W2.alloc (.cells #[.int .u8 (z : Int), .int .u8 (y2 : Int), .int .u8 (y3 : Int), .int .u8 (y0 : Int)] 5)).drew).heap.size := by simp
        generalize ((W2.alloc (.cells #[.int .u8 (z : Int), .int .u8 (y2 : Int), .int .u8 (y3 : Int), .int .u8 (y0 : Int)] 5)).drew) = W3 at *
        generalize W2.heap.size = gb at *
        have HRG := Lib.hid hRG; have HXG := Lib.hid hXG; have HG1 := Lib.hid hgb1; have HG2 := Lib.hid hgb2
        clear hRG hXG hgb1 hgb2 HFour S0 S1 S2 S3 D0 D1 D2 D3 HW2 HX2 HZ2 TR hxor B0 B1 B2 B3
      case' neg =>
        have hmi : ((n : Int) % 4 == 0) = false := by simp; omega
        have hG := GP.out hm4
        have hrn2 : n / 4 = (n - 1) / 4 := by omega
        have HRN : Hid ((rcon (n / 4)).toNat = (rcon ((n - 1) / 4)).toNat) := Lib.hid (by rw [hrn2])
        have HFour := Lib.hid (Row.four wr 5 wr.heap.size rfl (b0.toNat : Int) (b1.toNat : Int) (b2.toNat : Int) (b3.toNat : Int) _ _ _ _ rfl rfl rfl rfl)
        rw [← hG] at HFour
        clear hrn2 hG hm4 hlen8
        generalize (rcon ((n - 1) / 4)).toNat = r2 at *
        generalize b0.toNat = b0 at *
        generalize b1.toNat = b1 at *
        generalize b2.toNat = b2 at *
        generalize b3.toNat = b3 at *
        go_wp2
        go_still_tail 24, (by kernel_rfl)
        change wpList _ _ _ _ _ wr.drew
        go_wp2
        have hRG := HFour.out.drew
        have hXG : Ext wr ((wr.alloc (.cells #[.int .u8 (b0 : Int), .int .u8 (b1 : Int), .int .u8 (b2 : Int), .int .u8 (b3 : Int)] 5)).drew) := ((Ext.refl wr).alloc _).drew
        have hgb2 : wr.heap.size < ((wr.alloc (.cells #[.int .u8 (b0 : Int), .int .u8 (b1 : Int), .int .u8 (b2 : Int), .int .u8 (b3 : Int)] 5)).drew).heap.size := by simp
        generalize ((wr.alloc (.cells #[.int .u8 (b0 : Int), .int .u8 (b1 : Int), .int .u8 (b2 : Int), .int .u8 (b3 : Int)] 5)).drew) = W3 at *
        obtain ⟨gb, hgb⟩ : ∃ g, g = wr.heap.size := ⟨_, rfl⟩
        have hgb1 : wr.heap.size ≤ gb := by omega
        rw [← hgb] at hRG hgb2 ⊢
        have HRG := Lib.hid hRG; have HXG := Lib.hid hXG; have HG1 := Lib.hid hgb1; have HG2 := Lib.hid hgb2
        clear hRG hXG hgb1 hgb2 hgb HFour
        clear c0 c1 c2 c3
      all_goals
        clear q0 q1 q2 q3 wj0 wj1 wj2 wj3 l0 l1 l2 l3 n0 n1 n2 n3 hmi G4 GP
        go_loopw [5, 9] (fun v i wr => ∃ k : Nat, k ≤ 4 ∧ i = .int .i64 k ∧ BufT wr w.heap.size v (E ++ NW.take k) ∧ (∀ a c, v ≠ .slice (some ⟨gb, 0, none⟩) a c) ∧ Row wr gb 5 G ∧ Ext w wr) (fun _ i _ => 4 - (intOf i).toNat)
        case atStart => exact ⟨0, by omega, rfl, by rw [List.take_zero, List.append_nil]; exact HBf.out.ext HXG.out, fun a c h => by injection h with h1; injection h1 with h2; injection h2 with h3; have := HG1.out; omega, HRG.out, HE.out.trans HXG.out⟩
        case round =>
          obtain ⟨k, hk4, rfl, hbuf, hvne, hrg, hext⟩ := hrel
          clear HRG HBf HXG hgtw hne
          by_cases hltk : k < 4
          · have hki : (k : Int) < 4 := by omega
            have hk0 : (0 : Int) ≤ (k : Int) := by omega
            obtain ⟨g5, c5, hv5, _, hg5, hcells⟩ := hbuf.cells
            subst hv5
            obtain ⟨p, hp⟩ : ∃ p : Nat, 4 * (n : Int) - 16 + (k : Int) = (p : Int) := ⟨4 * n - 16 + k, by have := HNk.out; omega⟩
            have hp2 : 4 * n - 16 + k = p := by have := HNk.out; omega
            have hpl : p < E.length := by have := HLen.out; have := HNk.out; omega
            have cE := hcells p _ (by rw [List.getElem?_append_left hpl, ← hp2]; exact HEn.out k hltk)
            have cG := hrg.cell k _ (HGk.out k hltk)
            have HWk := Lib.hid (HW.out k hltk)
            have hlk : (E ++ NW.take k).length = 4 * n + k := by rw [List.length_append, List.length_take, HNL.out, HLen.out]; omega
            have hpk : p < 4 * n + k := by have := HLen.out; omega
            obtain ⟨lk, hlk2⟩ : ∃ lk, 4 * n + k = lk := ⟨_, rfl⟩
            have hxor := xorB8 (E.getD (4 * n - 16 + k) 0) (G.getD k 0)
            have H2 : Hid ((E ++ NW.take k).length + 1 ≤ 140737488355328) := Lib.hid (by rw [hlk]; have := HNk.out; omega)
            rw [hlk, hlk2] at hbuf hvne ⊢
            rw [hlk2] at hpk
            have hpki : (p : Int) < (lk : Int) := by omega
            have hp0 : (0 : Int) ≤ (p : Int) := by omega
            have w16 : IntKind.i64.wrap (4 * (n : Int) - 16) = 4 * (n : Int) - 16 := IntWalk.i64_in _ ⟨by omega, by have := HNk.out; omega⟩
            have wp : IntKind.i64.wrap (p : Int) = (p : Int) := IntWalk.i64_in _ ⟨by omega, by have := HLen.out; have := HNk.out; omega⟩
            have HX := Lib.hid hxor
            have HBuf := Lib.hid hbuf; have HVn := Lib.hid hvne; have HRg := Lib.hid hrg; have HExt := Lib.hid hext
            clear hp2 hpl hcells hlk hlk2 hxor hbuf hvne hrg hext hg5
            generalize E.getD (4 * n - 16 + k) 0 = A at *
            generalize G.getD k 0 = Bq at *
            have hxor := HX.out
            go_wp2
            go_region_law (refine step_appendT rfl (.tmp 79) (.tmp 93) rfl w.heap.size (.slice (some ⟨g5, 0, none⟩) lk c5) _ (by simp [Act.eval]) (HBuf.out.ext ((Ext.refl wr).alloc _).drew) wr.heap.size 1 [A ^^^ Bq] (by simp [Act.eval]) rfl (Row.one _ _ _ _ (by first | rfl | exact HX.out)) H2.out (HExt.out.alloc _).size gb (Nat.lt_of_lt_of_le HRg.out.lt (by simp)) HVn.out ?_; intro v1 w1 hb1 hx1 hh1 hn1)
            all_goals
              go_wp2
              go_roundw
              case rel => exact ⟨k + 1, hltk, by go_num, by rw [HWk.out, ← List.append_assoc]; exact hb1, hn1, hh1.trans (HRg.out.alloc _), Below.trans (HExt.out.alloc _).drew hx1⟩
              case measure => simp [intOf]; omega
          · obtain rfl : k = 4 := by omega
            rw [List.take_of_length_le (by rw [HNL.out]; exact Nat.le_refl _), ← HESm.out] at hbuf
            have HBuf := Lib.hid hbuf; have HExt := Lib.hid hext
            clear hbuf hvne hrg hext
            have e4 : ((4 : Nat) : Int) = 4 := rfl
            rw [e4]
            clear e4
            go_wp2
            go_roundw
            case rel => exact ⟨m + 1, n + 1, by omega, by have := HN.out; omega, by go_num, by rw [show (n + 1 - 1) / 4 = n / 4 by omega, HRN.out], HBuf.out, HExt.out⟩
            case measure => simp [intOf]; omega
    · obtain rfl : m = 40 := by omega
      obtain rfl : n = 44 := by omega
      obtain ⟨gv, cv, hv, hcv, hgv, hcells⟩ := hbuf.cells2
      subst hv
      have hel : (expand kl 40).length = 176 := by rw [HEL.out]
      rw [hel] at hcv hbuf ⊢
      have hRt : ∀ i, i < 11 → ∀ (j : Nat) (b : UInt8), (rkey kl i)[j]? = some b → wr.cell? ⟨gv, 16 * i + j, none⟩ = some (.int .u8 (b.toNat : Int)) := fun i hi j b hb => by
        rw [← rkey_text, List.getElem?_take] at hb
        split at hb
        · rw [List.getElem?_drop] at hb; exact hcells _ _ hb
        · cases hb
      have hRl : ∀ i, i < 11 → (rkey kl i).length = 16 := fun i hi => by
        rw [← rkey_text, List.length_take, List.length_drop, hel]; omega
      have HRt := Lib.hid hRt; have HRl := Lib.hid hRl; have HE := Lib.hid hext; have HCv := Lib.hid hcv
      have HKT := Lib.hid (keyTexts_take kl); have HKL := Lib.hid (keyTexts_length kl)
      clear hbuf hcells hRt hRl hext hcv hel
      have e44 : ((44 : Nat) : Int) = 44 := rfl
      rw [e44]
      clear e44
      obtain ⟨W5, rfl⟩ : ∃ W5, W5 = wr := ⟨_, rfl⟩
      go_wp2
      go_loopw [10, 11] (fun v i wr => ∃ k : Nat, k ≤ 11 ∧ i = .int .i64 k ∧ BufS wr W5.heap.size v ((keyTexts kl).take k) ∧ Ext W5 wr) (fun _ i _ => 11 - (intOf i).toNat)
      case atStart => exact ⟨0, by omega, rfl, by simpa using BufS.nil W5 W5.heap.size, Ext.refl _⟩
      case round =>
        obtain ⟨k, hk11, rfl, hbs, hext⟩ := hrel
        have HBs := Lib.hid hbs; have HX := Lib.hid hext
        by_cases hltk : k < 11
        · have hki : (k : Int) < 11 := by omega
          obtain ⟨p, hp⟩ : ∃ p : Nat, 16 * (k : Int) = (p : Int) := ⟨16 * k, by omega⟩
          have hp2 : 16 * k = p := by omega
          have hsl := fun u => slice_mid gv 176 cv p (by have := HCv.out; omega) u
          have HRk := Lib.hid (HRl.out k hltk)
          have HTk := Lib.hid (HKT.out k hltk)
          have htx := text_mid wr gv p (cv - p) (rkey kl k) 16 HRk.out (fun j b hb => (hext.below.cell (p := ⟨gv, p + j, none⟩) hgv).trans (by have := HRt.out k hltk j b hb; rw [hp2] at this; exact this))
          have H2 : Hid (((keyTexts kl).take k).length ≤ 1000000) := Lib.hid (by rw [List.length_take]; omega)
          clear hbs hext hp2
          generalize rkey kl k = R at *
          go_wp2_with (at_builtin; refine append_text rfl (.tmp 99) (.tmp 108) rfl W5.heap.size _ _ rfl (HBs.out.ext ((Ext.refl wr).alloc _)) wr.heap.size ⟨R.toArray⟩ rfl (by rw [World.cell?_alloc_at _ _ _ _ rfl]; rfl) H2.out (HX.out.alloc _).size ?_; intro v1 w2 hb1 hx2; have x2 : Ext W5 w2 := Below.trans (HX.out.alloc _) hx2)
          go_roundw
          case rel => exact ⟨k + 1, hltk, by go_num, by rw [HTk.out]; exact hb1, x2⟩
          case measure => simp [intOf]; omega
        · obtain rfl : k = 11 := by omega
          rw [List.take_of_length_le (by rw [HKL.out]; exact Nat.le_refl _)] at hbs
          have HS := Lib.hid (hbs.sl (by intro h; have := HKL.out; rw [h] at this; cases this))
          clear hbs
          have e11 : ((11 : Nat) : Int) = 11 := rfl
          rw [e11]
          clear e11
          go_wp2
          go_ret
          exact ⟨_, rfl, HS.out, HE.out.trans hext⟩
end Go.Proofs.YtobhbppogeghnaaGreatDoor
end

section
namespace Go.Proofs.YtobhbppogeghnaaGreatDoor
open Go.RowKit

/-- The first 16 bytes, with bytes 0 behind. -/
def fullL (s : ByteArray) : List UInt8 := (s.data.toList ++ List.replicate 16 0).take 16
theorem make16 (u : World) : (Instr.makeSlice 43 (.int .i64 16) (.int .i64 16)).run Tryz.prog u = .ok (.slice (some ⟨u.heap.size, 0, none⟩) 16 16) (u.alloc (.cells (zc 16) 5)) := by
  have h := make_bytes 16 (by decide) u
  have e : madeCells #[Value.int .u8 0] 16 = zc 16 := by kernel_rfl
  rw [e] at h
  exact h
end Go.Proofs.YtobhbppogeghnaaGreatDoor
end
