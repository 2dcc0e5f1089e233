/- Contracts: keys by epochs: a ring's bytes: by the program. The walk of SealRing: a ring that was written and read, and a copy, open what the first one closed, and close as it did. -/
import Derived.Test.YtdnpgmoiapkhnaaGreatDoorM28
import Derived.Test.YtdnpgmoiapkhnaaGreatDoorM42
import Derived.Test.YtdnpgmoiapkhnaaGreatDoorM14
import Derived.Test.YtdnpgmoiapkhnaaGreatDoorM10
import Derived.Test.YtdnpgmoiapkhnaaGreatDoorM30
import Derived.Test.YtdnpgmoiapkhnaaGreatDoorM11
import Derived.Outline
section
namespace Go.Proofs.YtdnpgmoiapkhnaaGreatDoor
open Go.RowKit

theorem field_rk (s : ByteArray) (u : World) : (Instr.field 65 (.agg #[.string s]) 0).run Tryz.prog u = .ok (.string s) u := by kernel_rfl
/-- A text written: what else is no row of bytes stays. -/
theorem write_k (B b : Nat) (l : List UInt8) (s : ByteArray) (w : World) (h : IsB w B b l) (hlen : l.length + s.size ≤ 140737488355328) (hBw : B ≤ w.heap.size) :
    Calls Tryz.prog 61 #[.pointer (some ⟨b, 0, none⟩), .string s] w fun e w' => (∃ v, e = .returned v) ∧ IsB w' B b (l ++ s.data.toList) ∧ Below B w w' ∧ Lib.OthersKept 5 (some b) w w' :=
  (Any.Builder_WriteString_k laysW extraW B b (Lib.byteCells l) s w h (by rw [Lib.byteCells_length]; exact hlen) hBw).mono fun _ _ q => ⟨⟨_, q.1⟩, .inr (by rw [Lib.byteCells_append]; exact q.2.1), q.2.2⟩
theorem write_km (B b : Nat) (l m : List UInt8) (w : World) (h : IsB w B b l) (hlen : l.length + m.length ≤ 140737488355328) (hBw : B ≤ w.heap.size) :
    Calls Tryz.prog 61 #[.pointer (some ⟨b, 0, none⟩), .string ⟨m.toArray⟩] w fun e w' => (∃ v, e = .returned v) ∧ IsB w' B b (l ++ m) ∧ Below B w w' ∧ Lib.OthersKept 5 (some b) w w' := by
  have h1 := write_k B b l ⟨m.toArray⟩ w h (by rw [txt_size]; exact hlen) hBw
  have e : (⟨m.toArray⟩ : ByteArray).data.toList = m := by simp
  rw [e] at h1
  exact h1
theorem IsE.kept {w w' : World} {B g c k : Nat} {l : List Nat} (h : IsE w B g c l) (hk : Lib.OthersKept 5 (some k) w w') (hg : g ≠ k) : IsE w' B g c l := by
  obtain ⟨⟨pos, h1, h2⟩, h3, h4⟩ := h
  refine ⟨⟨pos, hk g _ h1 (by simpa using hg) (fun c fz e => ?_), h2⟩, h3, h4⟩
  injection e with _ e2
  exact absurd e2 (by decide)
theorem bytes_nil (w : World) :
    Calls Tryz.prog 32 #[.pointer none] w fun e w' => e = .returned (.string ⟨#[]⟩) ∧ w = w' := by
  go_enter Tryz.func32, Tryz.ntmps32
  go_wp2_with (go_at_call 37; refine (thereK_no _).mono ?_; rintro e w1 ⟨rfl, rfl⟩)
  go_ret
  exact ⟨rfl, rfl⟩
set_option maxRecDepth 100000 in
set_option maxHeartbeats 4000000 in
theorem bytes_any (w : World) (r b : Nat) (L : List (Nat × ByteArray)) (h : IsK w r b L) :
    Calls Tryz.prog 32 #[.pointer (some ⟨r, 0, none⟩)] w fun e w' => e = .returned (.string ⟨(ringL L).toArray⟩) ∧ Ext w w' := by
  have hc := h.cell
  have hlen := fun ty => h.map.len ty
  have h64 := h.good.few
  have HK := Lib.hid h
  have hb0 := IsB.new w w.heap.size (Nat.le_refl _)
  obtain ⟨W0, hW0⟩ : ∃ W0, w.alloc (.cells #[.pointer none, .slice none 0 0] 100) = W0 := ⟨_, rfl⟩
  have hx0 : Ext w W0 := by rw [← hW0]; exact (Ext.refl w).alloc _
  rw [hW0] at hb0
  have HB0 := Lib.hid hb0; have HX0 := Lib.hid hx0
  have hz0 : w.heap.size < W0.heap.size := by rw [← hW0]; simp
  have HZ0 := Lib.hid hz0
  clear hz0
  have hc2 := (h.ext hx0).cell
  have hlen2 := fun ty => (h.ext hx0).map.len ty
  have hwr : IntKind.u8.wrap (L.length : Int) = (L.length : Int) := by simp [IntKind.wrap, IntKind.signed, IntKind.bits]; omega
  have hE := fun u (hu : IsK u r b L) => epochs_any u r b L hu
  have HE := Lib.hid hE
  clear h hb0 hx0 hE
  go_enter Tryz.func32, Tryz.ntmps32
  go_wp2_with (first
    | (go_at_call 37; refine (thereK_yes _ r b hc).mono ?_; rintro e w1 ⟨rfl, rfl⟩)
    | (go_at_call 60; refine (byte_b w.heap.size w.heap.size [] _ (UInt8.ofNat L.length) (by simp; omega) _ HB0.out (by simp) HX0.out.size).mono ?_; rintro e w2 ⟨rfl, hb2, x2⟩; have HB2 := Lib.hid hb2; have HX2 : Hid (Ext w w2) := Lib.hid (HX0.out.trans3 x2); have HZ2 : Hid (w.heap.size < w2.heap.size) := Lib.hid (Nat.lt_of_lt_of_le HZ0.out x2.size); clear hb2 x2)
    | (go_at_call 35; refine (HE.out _ (HK.out.ext HX2.out)).mono ?_; rintro e w3 ⟨g, c, rfl, i3, x3⟩; have HB3 := Lib.hid (HB2.out.ext x3); have E3 := Lib.hid i3; have HX3 := Lib.hid (HX2.out.trans x3); clear i3 x3))
  have hsz : ∀ x ∈ L, x.2.size = 32 := fun x hx => (HK.out.good.each x hx).2.2
  have HSz := Lib.hid hsz
  clear hsz hlen hlen2 hc hc2 hW0
  go_loopw [19] (fun jv wr => ∃ j : Nat, j ≤ L.length ∧ jv = .int .i64 (j : Int) ∧ Hid (IsB wr w.heap.size w.heap.size (UInt8.ofNat L.length :: rowsL (L.take j))) ∧ Hid (IsE wr w2.heap.size g c (eps L)) ∧ Hid (Ext w wr)) (fun jv _ => L.length - (intOf jv).toNat)
  case atStart => exact ⟨0, Nat.zero_le _, rfl, Lib.hid (by simpa [rowsL] using HB3.out), E3, HX3⟩
  case round =>
    obtain ⟨j, hj, rfl, hB, hE, hX⟩ := hrel
    by_cases hlt : j < L.length
    · have hlti : (j : Int) < (L.length : Int) := by omega
      obtain ⟨⟨e, s⟩, hx⟩ : ∃ x, L[j]? = some x := ⟨_, List.getElem?_eq_getElem hlt⟩
      have hmem := List.mem_of_getElem? hx
      have hs : s.size = 32 := HSz.out _ hmem
      have he32 : e < 4294967296 := (HK.out.good.each _ hmem).2.1
      have hjl : j < (eps L).length := by simpa [eps] using hlt
      have hje : (eps L)[j] = e := by
        obtain ⟨h1, h2⟩ := List.getElem?_eq_some_iff.1 hx
        simp [eps, h2]
      have hle := hE.out.le
      have cj := hE.out.at_ j e hjl hje
      have HLk := Lib.hid (fun u (hu : IsM u b L) => hu.look false he32 hmem)
      have HSu := Lib.hid (rowsL_succ hx)
      have hln : (UInt8.ofNat L.length :: rowsL (L.take j)).length ≤ 3000 := by
        rw [List.length_cons, rowsL_length fun y hy => HSz.out y (List.mem_of_mem_take hy), List.length_take]
        omega
      have HLn := Lib.hid hln
      have hbl := Lib.hid (be_length 4 e)
      have hfd := field_rk s
      have hel : (eps L).length = L.length := by simp [eps]
      have HEl := Lib.hid hel
      rw [hel] at hle
      clear hx hmem hjl hje hln hel
      generalize rowsL (L.take j) = R at *
      have HPut := Lib.hid (fun u => Put32_any e u)
      generalize be 4 e = E at *
      have HW1 := Lib.hid (fun u hu hs => write_km w.heap.size w.heap.size (UInt8.ofNat L.length :: R) E u hu (by have h1 := HLn.out; have h2 := hbl.out; omega) hs)
      have HW2 := Lib.hid (fun u hu hs => write_k w.heap.size w.heap.size (UInt8.ofNat L.length :: R ++ E) s u hu (by have h1 := HLn.out; have h2 := hbl.out; rw [List.length_append]; omega) hs)
      go_wp2_with (first
        | (go_at_call 46; refine (HPut.out _).mono ?_; rintro e1 w4 ⟨rfl, x4⟩; have HB4 := Lib.hid (hB.out.ext x4); have HE4 := Lib.hid (hE.out.ext x4); have HX4 := Lib.hid (hX.out.trans x4); clear x4)
        | (go_at_call 61; refine (HW1.out _ HB4.out HX4.out.size).mono ?_; rintro e1 w5 ⟨⟨v5, rfl⟩, hb5, x5, o5⟩; have HB5 := Lib.hid hb5; have HE5 := Lib.hid (HE4.out.kept o5 (Nat.ne_of_gt (Nat.lt_of_lt_of_le HZ2.out HE4.out.new))); have HX5 := Lib.hid (HX4.out.trans3 x5); have HK5 := Lib.hid (HK.out.ext HX5.out); have c5 := HK5.out.cell; have hlk := HLk.out _ HK5.out.map; simp only [Bool.false_eq_true, if_false] at hlk; clear hb5 x5 o5 HW1)
        | (go_at_call 61; refine (HW2.out _ HB5.out HX5.out.size).mono ?_; rintro e1 w6 ⟨⟨v6, rfl⟩, hb6, x6, o6⟩; have HB6 := Lib.hid hb6; have HE6 := Lib.hid (HE5.out.kept o6 (Nat.ne_of_gt (Nat.lt_of_lt_of_le HZ2.out HE5.out.new))); have HX6 := Lib.hid (HX5.out.trans3 x6); clear hb6 x6 o6))
      have h6 := HB6.out
      rw [List.cons_append, List.cons_append, ← HSu.out] at h6
      have HB7 := Lib.hid h6
      clear h6
      go_roundw
      case rel => exact ⟨j + 1, hlt, by go_num, HB7, HE6, HX6⟩
      case measure => simp [intOf]; omega
    · obtain rfl : j = L.length := by omega
      have HB9 := Lib.hid (by have := hB.out; rwa [List.take_length] at this)
      have HS := Lib.hid (fun u (hu : Ext w u) (h : IsB u w.heap.size w.heap.size (UInt8.ofNat L.length :: rowsL L)) => string_b w.heap.size w.heap.size _ u h hu.size)
      go_wp2_with (go_at_call 62; refine (HS.out _ hX.out HB9.out).mono ?_; rintro e1 w9 ⟨rfl, x9⟩)
      go_ret
      exact ⟨rfl, hX.out.trans3 x9⟩
end Go.Proofs.YtdnpgmoiapkhnaaGreatDoor
end

section
namespace Go.Proofs.YtdnpgmoiapkhnaaGreatDoor
open Go.RowKit
attribute [local irreducible] rkey expand enc dec ctrB ctrC ctrL xorL turnL turnT kd t4 t8 env5 chk f32B f12B tagT sealT ringOf lastOf outK

set_option maxRecDepth 1000000 in
set_option maxHeartbeats 8000000 in
theorem SealRing_walk (w : World) (hL : Laid w) (p : Option Addr) (c : Nat) (K : List ByteArray) (hP : TextsP w p K) (hl : K.length ≤ 140737488355328) (hK : ∀ s, s ∈ K → s.size ≤ 140737488351232) (path : ByteArray) (zp : path.size ≤ 140737488351232) (v : Nat) (n : ByteArray) (zn : n.size ≤ 140737488351232) (a : ByteArray) (za : a.size ≤ 140737488351232) (o : ByteArray) (zo : o.size ≤ 140737488351232) :
    Calls Tryz.prog 6 #[.slice p K.length c, .string path, .int .u64 (v : Int), .string n, .string a, .string o] w fun e w' => e = .returned (.bool true) ∧ Ext w w' := by
  obtain ⟨W0, hW0⟩ : ∃ W0, w.alloc (.cells #[.string path, .string n, .string a, .string o] 9) = W0 := ⟨_, rfl⟩
  have hx0 : Ext w W0 := by rw [← hW0]; exact (Ext.refl w).alloc _
  have hq0 : TextsP W0 (some ⟨w.heap.size, 0, none⟩) [path, n, a, o] := by rw [← hW0]; exact texts_p (texts_lit w [path, n, a, o] 9)
  have HHv := Lib.hid (heavy14_any W0 p c K (hP.ext hx0) hK hl (some ⟨w.heap.size, 0, none⟩) 4 [path, n, a, o] hq0 (by intro s hs; simp at hs; rcases hs with rfl | rfl | rfl | rfl <;> assumption) (by simp))
  rw [show [path, n, a, o].length = 4 from rfl] at HHv
  have HW := Lib.hid (fun u (hu : Ext w u) => works14_any u (hL.ext hu))
  have HR := Lib.hid (fun u (hu : Ext w u) => rings_any u p c K (hP.ext hu) hl)
  have HN := Lib.hid (fun u => nonce_any n u)
  have z1 := f12B_size n
  have HFo := Lib.hid (fun u => fullK_any o u)
  have zO := f32B_size o
  obtain ⟨m, hm⟩ : ∃ m, min K.length 8 = m := ⟨_, rfl⟩
  have hm8 : m ≤ 8 := by omega
  rw [hm] at HR
  have HX0 := Lib.hid hx0; have HLd := Lib.hid hL
  clear hx0 hq0 hP hK hl hL zp zn za zo hm
  generalize f12B n = N at *
  generalize f32B o = O at *
  go_enter Tryz.func6, Tryz.ntmps6
  go_upto_region 3 with (first
    | (go_at_call 19; refine (HHv.out).mono ?_; rintro e w1 ⟨⟨hb, rfl, hlt⟩, rfl⟩; have HLt := Lib.hid hlt; clear hlt; cases hb)
    | (go_at_call 20; refine (HW.out _ HX0.out).mono ?_; rintro e w2 ⟨rfl, x2⟩))
  rotate_left
  · go_ret
    exact ⟨rfl, HX0.out.trans x2⟩
  obtain ⟨_, hsz⟩ := HLt.out (by trivial)
  have hp : path.size ≤ 1500 := hsz path (by simp)
  have ha : a.size ≤ 1500 := hsz a (by simp)
  clear HHv HLt hsz
  have htop := ringOf_top K m
  have hln := ringOf_length K m
  have hlast := ringOf_last K m
  have HC := Lib.hid (fun u r k (hx : Ext w u) (hu : IsK u r k (ringOf K m)) => by
    have := close_yes u r k _ (HLd.out.ext hx) hu (lastOf K m) (by rw [htop]; exact hlast) path v N a z1 (by omega) (by omega)
    rw [htop] at this
    exact this)
  have HNw := Lib.hid (fun u r k (hu : IsK u r k (ringOf K m)) => by
    have := newest_any u r k _ hu
    rw [htop] at this
    exact this)
  have HO := Lib.hid (fun u r k (hx : Ext w u) (hu : IsK u r k (ringOf K m)) => open_sealed u r k _ (HLd.out.ext hx) hu (m + 1) (lastOf K m) hlast path v N a z1 (by omega) (by omega))
  have HRo := Lib.hid (fun u r k (hu : IsK u r k (ringOf K m)) => by
    have := rotate_yes u r k _ hu O zO (by rw [hln]; omega) (by rw [htop]; omega)
    rw [htop] at this
    exact this)
  have htop2 : top (eps (ringOf K m ++ [(m + 1 + 1, O)])) = m + 2 := top_snoc _ _ _ (by rw [htop]; omega)
  have HRy := Lib.hid (fun u r k (hu : IsK u r k (ringOf K m ++ [(m + 1 + 1, O)])) => retire_yes u r k _ hu (m + 1) (by rw [htop2]; omega) (List.mem_map.2 ⟨(m + 1, lastOf K m), List.mem_append_left _ hlast, rfl⟩))
  have hcast : ((m + 1 : Nat) : Int) = (m : Int) + 1 := by omega
  rw [hcast] at HNw HRy
  have HBy := Lib.hid (fun u r k (hu : IsK u r k (ringOf K m)) => bytes_any u r k _ hu)
  have HRd := Lib.hid (fun u (hG : GoodK (ringOf K m)) => read_yes u _ hG)
  have HCp := Lib.hid (fun u r k (hu : IsK u r k (ringOf K m)) => copy_any u r k _ hu)
  clear htop hln hlast htop2 hcast z1 zO hp ha hm8
  generalize sealT (lastOf K m) (m + 1) path v N a = S at *
  generalize (⟨(ringL (ringOf K m)).toArray⟩ : ByteArray) = B at *
  generalize ringOf K m = L at *
  generalize L ++ [(m + 1 + 1, O)] = L2 at *
  go_wp2_with (first
    | (go_at_call 21; refine (HR.out _ HX0.out).mono ?_; rintro e w3 ⟨⟨r, bk, d, pd, cd, rfl, k3, d3, q3, p3⟩, x3⟩; have KA := Lib.hid k3; have P3 := Lib.hid (Nat.le_trans HX0.out.size p3); have X := Lib.hid (HX0.out.trans x3); clear k3 d3 q3 p3 x3)
    | (go_at_call 22; refine (HN.out _).mono ?_; rintro e w4 ⟨rfl, x4⟩; first | (have KB2 := Lib.hid (KB.out.ext x4); replace KB := KB2; clear KB2; replace KC := Lib.hid (KC.out.ext x4); replace X := Lib.hid (X.out.trans x4)) | (replace KA := Lib.hid (KA.out.ext x4); replace X := Lib.hid (X.out.trans x4)))
    | (go_at_call 23; (with_reducible refine (HC.out _ _ _ X.out KA.out).mono ?_); rintro e w5 ⟨rfl, x5⟩; replace KA := Lib.hid (KA.out.ext x5); replace X := Lib.hid (X.out.trans x5))
    | (go_at_call 32; refine (HBy.out _ _ _ KA.out).mono ?_; rintro e w6 ⟨rfl, x6⟩; replace KA := Lib.hid (KA.out.ext x6); replace X := Lib.hid (X.out.trans x6))
    | (go_at_call 31; refine (HRd.out _ KA.out.good).mono ?_; rintro e w7 ⟨rb, bb, rfl, i7, q7, p7, x7⟩; have KB := Lib.hid i7; have NB := Lib.hid (apart_of KA.out q7 p7); replace KA := Lib.hid (KA.out.ext x7); replace X := Lib.hid (X.out.trans x7); clear i7 q7 p7)
    | (go_at_call 33; refine (HCp.out _ _ _ KA.out).mono ?_; rintro e w8 ⟨rc, bc, rfl, i8, q8, p8, x8⟩; have KC := Lib.hid i8; have NC := Lib.hid (apart_of KA.out q8 p8); replace KA := Lib.hid (KA.out.ext x8); replace KB := Lib.hid (KB.out.ext x8); replace X := Lib.hid (X.out.trans x8); clear i8 q8 p8)
    | (go_at_call 34; refine (HNw.out _ _ _ KA.out).mono ?_; rintro e w9 ⟨rfl, x9⟩; replace KA := Lib.hid (KA.out.ext x9); replace KB := Lib.hid (KB.out.ext x9); replace KC := Lib.hid (KC.out.ext x9); replace X := Lib.hid (X.out.trans x9))
    | (go_at_call 10; refine (HFo.out _).mono ?_; rintro e w10 ⟨rfl, x10⟩; replace KA := Lib.hid (KA.out.ext x10); replace KB := Lib.hid (KB.out.ext x10); replace KC := Lib.hid (KC.out.ext x10); replace X := Lib.hid (X.out.trans x10))
    | (go_at_call 14; refine (HRo.out _ _ _ KA.out).mono ?_; rintro e w11 ⟨rfl, i11, g11⟩; have KD := Lib.hid i11; replace KB := Lib.hid (KB.out.grown g11 NB.out.1 NB.out.2); replace KC := Lib.hid (KC.out.grown g11 NC.out.1 NC.out.2); replace X := Lib.hid (X.out.grownBack g11 P3.out); clear i11 g11 KA)
    | (go_at_call 12; refine (HRy.out _ _ _ KD.out).mono ?_; rintro e w12 ⟨rfl, i12, g12⟩; replace KB := Lib.hid (KB.out.grown g12 NB.out.1 NB.out.2); replace KC := Lib.hid (KC.out.grown g12 NC.out.1 NC.out.2); replace X := Lib.hid (X.out.grownBack g12 P3.out); clear i12 g12 KD)
    | (go_at_call 29; (with_reducible refine (HO.out _ _ _ X.out KB.out).mono ?_); rintro e w13 ⟨rfl, x13⟩; replace KB := Lib.hid (KB.out.ext x13); replace KC := Lib.hid (KC.out.ext x13); replace X := Lib.hid (X.out.trans x13))
    | (go_at_call 29; (with_reducible refine (HO.out _ _ _ X.out KC.out).mono ?_); rintro e w14 ⟨rfl, x14⟩; replace KB := Lib.hid (KB.out.ext x14); replace KC := Lib.hid (KC.out.ext x14); replace X := Lib.hid (X.out.trans x14))
    | (go_at_call 23; (with_reducible refine (HC.out _ _ _ X.out KC.out).mono ?_); rintro e w15 ⟨rfl, x15⟩; replace KB := Lib.hid (KB.out.ext x15); replace KC := Lib.hid (KC.out.ext x15); replace X := Lib.hid (X.out.trans x15))
    | (go_at_call 23; (with_reducible refine (HC.out _ _ _ X.out KB.out).mono ?_); rintro e w16 ⟨rfl, x16⟩; replace KB := Lib.hid (KB.out.ext x16); replace KC := Lib.hid (KC.out.ext x16); replace X := Lib.hid (X.out.trans x16))
    | (go_at_call 20; refine (HW.out _ X.out).mono ?_; rintro e w17 ⟨rfl, x17⟩))
  all_goals
    go_ret
    exact ⟨by first | rfl | simp, X.out.trans x17⟩
end Go.Proofs.YtdnpgmoiapkhnaaGreatDoor
end
