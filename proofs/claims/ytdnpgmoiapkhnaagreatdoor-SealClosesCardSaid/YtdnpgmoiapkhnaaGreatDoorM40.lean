/- Contracts: what the laws of layer 14 play with: a nonce out of any text; whether texts are too long; two rings of the same keys; an envelope again. -/
import Derived.Test.YtdnpgmoiapkhnaaGreatDoorM39
import Derived.Test.YtdnpgmoiapkhnaaGreatDoorM13
import Derived.Test.YtdnpgmoiapkhnaaGreatDoorM29
import Derived.Test.YtdnpgmoiapkhnaaGreatDoorM04
import Derived.Outline
section
namespace Go.Proofs.YtdnpgmoiapkhnaaGreatDoor
open Go.RowKit
attribute [local irreducible] rkey expand enc dec ctrB ctrC ctrL xorL turnL turnT kd t4 t8 env5 chk f32B

/-! ### A nonce -/
/-- The first 12 bytes, with bytes 0 behind. -/
def f12L (s : ByteArray) : List UInt8 := (s.data.toList ++ List.replicate 12 0).take 12
theorem f12L_length (s : ByteArray) : (f12L s).length = 12 := by unfold f12L; rw [List.length_take, List.length_append, List.length_replicate]; omega
def f12B (s : ByteArray) : ByteArray := ⟨(f12L s).toArray⟩
theorem f12B_size (s : ByteArray) : (f12B s).size = 12 := by unfold f12B; rw [txt_size, f12L_length]
theorem make12 (u : World) : (Instr.makeSlice 53 (.int .i64 12) (.int .i64 12)).run Tryz.prog u = .ok (.slice (some ⟨u.heap.size, 0, none⟩) 12 12) (u.alloc (.cells (zc 12) 5)) := by
  have h := make_bytes 12 (by decide) u
  have e : madeCells #[Value.int .u8 0] 12 = zc 12 := by kernel_rfl
  rw [e] at h
  exact h
theorem nonce_any (s : ByteArray) (w : World) : Calls Tryz.prog 22 #[.string s] w fun e w' => e = .returned (.string (f12B s)) ∧ Ext w w' := by
  unfold f12B
  have hmk := make12
  have hr0 := Row.zero w 5 12
  obtain ⟨k, hk⟩ : ∃ k, k = min s.size 12 := ⟨_, rfl⟩
  have hcp := fun ty => run_copy_text (w.alloc (.cells (zc 12) 5)) ty w.heap.size 0 12 12 s _ 5 hr0.blk (by simp) k hk
  have e : ((List.replicate 12 (0 : UInt8)).map cellOf).take 0 ++ (s.data.toList.take k).map cellOf ++ ((List.replicate 12 (0 : UInt8)).map cellOf).drop (0 + k) = (f12L s).map cellOf := by
    rw [List.take_zero, List.nil_append, ← List.map_drop, ← List.map_append]
    congr 1
    unfold f12L
    rw [List.drop_replicate, List.take_append, size_list, List.take_replicate]
    congr 1
    · rcases Nat.le_total s.size 12 with h | h
      · rw [List.take_of_length_le (by rw [size_list]; omega), List.take_of_length_le (by rw [size_list]; omega)]
      · rw [show k = 12 by omega]
    · congr 1; omega
  rw [e] at hcp
  have hr1 : Row ((w.alloc (.cells (zc 12) 5)).setRow w.heap.size ((f12L s).map cellOf).toArray) w.heap.size 5 (f12L s) := setRow_heap _ _ _ _ _ _ hr0
  have ht := hr1.text (P := Tryz.prog) 53 5 9 Tryz.underlying53 Tryz.underlying5 Tryz.underlying9 12 12 (f12L_length s)
  have hx : Ext w ((w.alloc (.cells (zc 12) 5)).setRow w.heap.size ((f12L s).map cellOf).toArray) := ((Ext.refl w).alloc _).setRow (Nat.le_refl _) _
  have HX := Lib.hid hx
  clear hr0 hr1 e hk hx
  go_enter Tryz.func22, Tryz.ntmps22
  go_wp2
  go_ret
  exact ⟨rfl, HX.out⟩
/-! ### Rings -/
/-- Both rings' keys: of the text k, then of these. -/
def ringOf (K : List ByteArray) : Nat → List (Nat × ByteArray)
  | 0 => [(1, f32B ⟨#[107]⟩)]
  | i + 1 => ringOf K i ++ [(i + 2, f32B (K.getD i ⟨#[]⟩))]
theorem ringOf_length (K : List ByteArray) : ∀ i, (ringOf K i).length = i + 1
  | 0 => rfl
  | i + 1 => by rw [ringOf, List.length_append, ringOf_length K i]; rfl
theorem ringOf_top (K : List ByteArray) : ∀ i, top (eps (ringOf K i)) = i + 1
  | 0 => by simp [ringOf, eps, top]
  | i + 1 => by rw [ringOf, top_snoc _ _ _ (by rw [ringOf_top K i]; omega)]
/-- The newest key. -/
def lastOf (K : List ByteArray) : Nat → ByteArray
  | 0 => f32B ⟨#[107]⟩
  | i + 1 => f32B (K.getD i ⟨#[]⟩)
theorem ringOf_last (K : List ByteArray) : ∀ i, (i + 1, lastOf K i) ∈ ringOf K i
  | 0 => by simp [ringOf, lastOf]
  | i + 1 => by simp [ringOf, lastOf]
/-- What rings gives. -/
structure Rings (w w' : World) (L : List (Nat × ByteArray)) (e : Ending) : Prop where
  is : ∃ r b d p c, e = .returned (.tuple #[.pointer (some ⟨r, 0, none⟩), .pointer (some ⟨d, 0, none⟩)]) ∧ IsK w' r b L ∧ IsR w' w.heap.size d p c L ∧ w.heap.size ≤ r ∧ w.heap.size ≤ b
  ext : Ext w w'
theorem IsK.grow9 {w w' : World} {b : Nat} (g : w.grownBy w' (some b)) {B : Nat} {v : World} (hv : Ext v w) (hb : v.heap.size ≤ b) (_ : B = v.heap.size) : Ext v w' := hv.grownBack g hb
theorem Ext.turnedD {v w w' : World} (hv : Ext v w) (t : TurnD v.heap.size w w') : Ext v w' := hv.trans3 t.below
set_option maxRecDepth 100000 in
set_option maxHeartbeats 4000000 in
theorem rings_any (w : World) (p : Option Addr) (c : Nat) (K : List ByteArray) (hP : TextsP w p K) (hl : K.length ≤ 140737488355328) :
    Calls Tryz.prog 21 #[.slice p K.length c] w fun e w' => Rings w w' (ringOf K (min K.length 8)) e := by
  have HP := Lib.hid hP
  have zA := f32B_size ⟨#[107]⟩
  have HF := Lib.hid (fun u => fullK_any ⟨#[107]⟩ u)
  have h0 : ringOf K 0 = [(1, f32B ⟨#[107]⟩)] := rfl
  have H0 := Lib.hid h0
  clear hP h0
  generalize hA : f32B ⟨#[107]⟩ = A at *
  clear hA
  go_enter Tryz.func21, Tryz.ntmps21
  go_wp2_with (first
    | (go_at_call 10; refine (HF.out _).mono ?_; rintro e w1 ⟨rfl, x1⟩)
    | (go_at_call 9; refine (newK_yes _ A zA).mono ?_; rintro e w2 ⟨r, b, rfl, i2, q2, p2, x2⟩; have I2 := Lib.hid i2; have Q2 := Lib.hid (Nat.le_trans x1.size q2); have P2 := Lib.hid (Nat.le_trans x1.size p2); have X2 := Lib.hid (x1.trans x2); clear i2 q2 p2 x1 x2)
    | (go_at_call 11; refine (rnewK_any _ A).mono ?_; rintro e w3 ⟨d, pd, rfl, i3, x3⟩; have D3 := Lib.hid i3; have I3 := Lib.hid (I2.out.ext x3); have X3 := Lib.hid (X2.out.trans x3); clear i3 x3))
  have hD3 : IsR w3 w.heap.size d pd 1 [(1, A)] := ⟨D3.out.ring, D3.out.ents, Nat.le_trans X2.out.size D3.out.low, fun g hg => Nat.le_trans X2.out.size (D3.out.lowp g hg), D3.out.apart⟩
  have D4 := Lib.hid hD3
  clear hD3 D3 I2 X2
  go_loopw [4, 8] (fun kv iv wr => ∃ (i : Nat) (kb : ByteArray) (pd : Option Addr) (cd : Nat), i ≤ min K.length 8 ∧ iv = .int .i64 (i : Int) ∧ kv = .string kb ∧ Hid (IsK wr r b (ringOf K i)) ∧ Hid (IsR wr w.heap.size d pd cd (ringOf K i)) ∧ Hid (Ext w wr)) (fun _ iv _ => 8 - (intOf iv).toNat)
  case atStart => exact ⟨0, A, pd, 1, Nat.zero_le _, rfl, rfl, by rw [H0.out]; exact I3, by rw [H0.out]; exact D4, X3⟩
  case round =>
    obtain ⟨i, kb, pd, cd, hi, rfl, rfl, HK, HD, HX⟩ := hrel
    clear I3 X3 D4
    by_cases hlt : i < min K.length 8
    · have h1 : i < K.length := by omega
      have h1i : (i : Int) < (K.length : Int) := by omega
      have h2i : (i : Int) < 8 := by omega
      obtain ⟨x, hx⟩ : ∃ x, K[i]? = some x := ⟨_, List.getElem?_eq_getElem h1⟩
      obtain ⟨a, rfl, ha, hc⟩ := (HP.out.ext HX.out) i x hx
      have hgd : K.getD i ⟨#[]⟩ = x := by simp [List.getD, hx]
      have hs : ringOf K (i + 1) = ringOf K i ++ [(i + 2, f32B x)] := by rw [ringOf, hgd]
      have HS := Lib.hid hs
      have HFx := Lib.hid (fun u => fullK_any x u)
      have hz := f32B_size x
      have htp := ringOf_top K i
      have hln := ringOf_length K i
      have HRo := Lib.hid (fun u (hu : IsK u r b (ringOf K i)) => by
        have := rotate_yes u r b _ hu (f32B x) hz (by rw [hln]; omega) (by rw [htp]; omega)
        rw [htp] at this
        exact this)
      have HRd := Lib.hid (fun u (hB : w.heap.size ≤ u.heap.size) (hG : GoodK (ringOf K i)) (hu : IsR u w.heap.size d pd cd (ringOf K i)) => by
        have := rrotate_yes u w.heap.size d pd cd _ hB hu hG (f32B x) hz (by rw [hln]; omega) (by rw [htp]; omega)
        rw [htp] at this
        exact this)
      clear hx hgd hs hz htp hln ha
      rw [show i + 1 + 1 = i + 2 from rfl, ← HS.out] at HRo HRd
      generalize f32B x = Bx at *
      generalize hL2 : ringOf K (i + 1) = L2 at *
      have HL2 := Lib.hid hL2
      clear hL2
      generalize ringOf K i = L1 at *
      go_wp2_with (first
        | (go_at_call 10; refine (HFx.out _).mono ?_; rintro e w4 ⟨rfl, x4⟩; have K4 := Lib.hid (HK.out.ext x4); have D4 := Lib.hid (HD.out.ext x4); have X4 := Lib.hid (HX.out.trans x4); clear x4)
        | (go_at_call 14; refine (HRo.out _ K4.out).mono ?_; rintro e w5 ⟨rfl, i5, g5⟩; have K5 := Lib.hid i5; have D5 := Lib.hid (D4.out.grown K4.out.map g5); have X5 := Lib.hid (X4.out.grownBack g5 P2.out); clear i5 g5)
        | (go_at_call 15; refine (HRd.out _ X5.out.size K4.out.good D5.out).mono ?_; rintro e w6 ⟨p6, c6, rfl, i6, t6⟩; have D6 := Lib.hid i6; have K6 := Lib.hid (K5.out.turnD t6); have X6 := Lib.hid (X5.out.turnedD t6); clear i6 t6))
      go_roundw
      case rel => exact ⟨i + 1, Bx, p6, c6, by omega, by go_num, rfl, by rw [HL2.out]; exact K6, by rw [HL2.out]; exact D6, X6⟩
      case measure => simp [intOf]; omega
    · have he : i = min K.length 8 := by omega
      have HE := Lib.hid he
      by_cases h1 : i < K.length
      · have h1i : (i : Int) < (K.length : Int) := by omega
        have h2i : ¬ (i : Int) < 8 := by omega
        clear he
        go_wp2
        go_ret2
        exact ⟨⟨r, b, d, pd, cd, rfl, by rw [← HE.out]; exact HK.out, by rw [← HE.out]; exact HD.out, Q2.out, P2.out⟩, HX.out⟩
      · have h1i : ¬ (i : Int) < (K.length : Int) := by omega
        clear he
        go_wp2
        go_ret2
        exact ⟨⟨r, b, d, pd, cd, rfl, by rw [← HE.out]; exact HK.out, by rw [← HE.out]; exact HD.out, Q2.out, P2.out⟩, HX.out⟩
end Go.Proofs.YtdnpgmoiapkhnaaGreatDoor
end
