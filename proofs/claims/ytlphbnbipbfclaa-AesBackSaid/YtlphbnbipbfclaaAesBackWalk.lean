/- The walk of AesBack. -/
import Derived.Test.YtlphbnbipbfclaaBoxUn
import Derived.Test.YtlphbnbipbfclaaAesWorks
import Derived.Test.YtlphbnbipbfclaaNatOf
import Derived.Test.YtlphbnbipbfclaaDec
import Derived.Test.YtlphbnbipbfclaaRoundsP
namespace Go.Proofs.Ytlphbnbipbfclaa
open Go.RowKit
attribute [local irreducible] rkey expand enc dec keyTexts

/-- What a cipher of key k does to texts of 16 bytes, there and back. -/
structure There (k : List UInt8) (X U : ByteArray) : Prop where
  block : ∀ u c, IsCipher u c k → Calls Try.prog 19 #[.pointer (some ⟨c, 0, none⟩), .string X] u fun e w' => e = .returned (.tuple #[.string U, .bool true]) ∧ Ext u w'
structure Back (k : List UInt8) (X U : ByteArray) : Prop where
  block : ∀ u c, IsCipher u c k → Calls Try.prog 20 #[.pointer (some ⟨c, 0, none⟩), .string X] u fun e w' => e = .returned (.tuple #[.string U, .bool true]) ∧ Ext u w'
theorem there_of (k x : List UInt8) (hx : x.length = 16) : There k ⟨x.toArray⟩ ⟨(enc (rkey k) x).toArray⟩ := ⟨fun u c h => Block_yes u c k ⟨x.toArray⟩ h (by simpa [ByteArray.size] using hx)⟩
theorem back_of (k x : List UInt8) (hx : x.length = 16) : Back k ⟨x.toArray⟩ ⟨(dec (rkey k) x).toArray⟩ := ⟨fun u c h => Back_yes u c k ⟨x.toArray⟩ h (by simpa [ByteArray.size] using hx)⟩
theorem text_eq (x y : List UInt8) : ((⟨x.toArray⟩ : ByteArray).toList == (⟨y.toArray⟩ : ByteArray).toList) = (x == y) := by rw [ByteArray.toList_mk, ByteArray.toList_mk]
/-- All that is asked of the texts. -/
theorem texts_back (k x y : List UInt8) (hk : k.length = 16) (hx : x.length = 16) (hy : y.length = 16) : ∃ U V Z : ByteArray, ∃ d : Bool, There k ⟨x.toArray⟩ U ∧ There k ⟨y.toArray⟩ V ∧ Back k U ⟨x.toArray⟩ ∧ Back k ⟨x.toArray⟩ Z ∧ There k Z ⟨x.toArray⟩ ∧
    (U.toList == V.toList) = d ∧ ((⟨x.toArray⟩ : ByteArray).toList == (⟨y.toArray⟩ : ByteArray).toList) = d := by
  have hK : ∀ n, n ≤ 10 → (rkey k n).length = 16 := fun n hn => rkey_length hk n hn
  refine ⟨⟨(enc (rkey k) x).toArray⟩, ⟨(enc (rkey k) y).toArray⟩, ⟨(dec (rkey k) x).toArray⟩, _, there_of k x hx, there_of k y hy, ?_, back_of k x hx, ?_, rfl, ?_⟩
  · have h := back_of k (enc (rkey k) x) (enc_length hK x)
    rw [dec_enc hK hx] at h
    exact h
  · have h := there_of k (dec (rkey k) x) (dec_length hK)
    rw [enc_dec hK hx] at h
    exact h
  · rw [text_eq, text_eq]
    by_cases e : x = y
    · subst e; simp
    · have : enc (rkey k) x ≠ enc (rkey k) y := fun h => e (enc_inj hK hx hy h)
      have e1 : (x == y) = false := by simpa using e
      have e2 : (enc (rkey k) x == enc (rkey k) y) = false := by simpa using this
      rw [e1, e2]
theorem tm_byte_one (a : Nat) (ha : a < 256) (u : World) : Calls Try.prog 7 #[.int .u8 (a : Int), .int .u8 1] u fun e w' => e = .returned (.int .u8 (a : Int)) ∧ u = w' := by
  have h := Times_any a 1 ha (by decide) u
  rw [tm_one a ha] at h
  exact h
theorem un_box (a : Nat) (ha : a < 256) : (unboxB (UInt8.ofNat (boxB (UInt8.ofNat a)).toNat)).toNat = a := by
  rw [UInt8.ofNat_toNat, unbox_box, UInt8.toNat_ofNat', Nat.mod_eq_of_lt ha]
set_option maxRecDepth 100000 in
set_option maxHeartbeats 4000000 in
theorem AesBack_walk (s0 s1 s2 : ByteArray) (a3 a4 a5 : Int) (z0 : s0.size ≤ 140737488351232) (z1 : s1.size ≤ 140737488351232) (z2 : s2.size ≤ 140737488351232) (w3 : (Lit.int .u8 a3).wf = true) (w4 : (Lit.int .u8 a4).wf = true) (w5 : (Lit.int .u8 a5).wf = true) (w : World) :
    Calls Try.prog 5 #[.string s0, .string s1, .string s2, .int .u8 a3, .int .u8 a4, .int .u8 a5] w fun e w' => e = .returned (.bool true) ∧ Ext w w' := by
  obtain ⟨a, rfl, ha⟩ := nat_of_u8 w3
  obtain ⟨b, rfl, hb⟩ := nat_of_u8 w4
  obtain ⟨d, rfl, hd⟩ := nat_of_u8 w5
  clear w3 w4 w5
  by_cases h1 : 1024 < s0.size + s1.size + s2.size
  · have h1i : (1024 : Int) < (s0.size : Int) + (s1.size : Int) + (s2.size : Int) := by omega
    go_enter Try.func5, Try.ntmps5
    go_wp2_with (go_at_call 13; refine (aes_works _).mono ?_; rintro e w7 ⟨rfl, h7⟩)
    go_ret
    exact ⟨rfl, h7⟩
  · have h1i : ¬ (1024 : Int) < (s0.size : Int) + (s1.size : Int) + (s2.size : Int) := by omega
    have F0 := Lib.hid (fun u => full_any s0 u); have F1 := Lib.hid (fun u => full_any s1 u); have F2 := Lib.hid (fun u => full_any s2 u)
    have hk := fullL_length s0; have hx := fullL_length s1; have hy := fullL_length s2
    generalize fullL s0 = k at *
    generalize fullL s1 = x at *
    generalize fullL s2 = y at *
    obtain ⟨U, V, Z, q, B1, B2, D1, D2, B3, q1, q2⟩ := texts_back k x y hk hx hy
    have HN : Hid (∀ u, Calls Try.prog 15 #[.string ⟨k.toArray⟩] u fun e w' => ∃ c, e = .returned (.tuple #[.pointer (some ⟨c, 0, none⟩), .int .i64 0]) ∧ IsCipher w' c k ∧ Ext u w') := Lib.hid (fun u => New_yes u ⟨k.toArray⟩ (by simpa [ByteArray.size] using hk))
    generalize (⟨k.toArray⟩ : ByteArray) = K at *
    generalize (⟨x.toArray⟩ : ByteArray) = X at *
    generalize (⟨y.toArray⟩ : ByteArray) = Y at *
    clear hk hx hy
    have lbd : b ^^^ d < 256 := xor_lt256 hb hd
    have lab := tm_lt ha b; have lad := tm_lt ha d; have lb := tm_lt hb d
    have x1 := u8_xor_nat b d hb hd
    have x2 := u8_xor_nat (tm a b) (tm a d) lab lad
    rw [← tm_right] at x2
    have T1 := Lib.hid (fun u => Times_any a b ha hb u)
    have T2 := Lib.hid (fun u => Times_any b a hb ha u)
    rw [tm_comm hb ha] at T2
    have T3 := Lib.hid (fun u => Times_any a (b ^^^ d) ha lbd u)
    have T4 := Lib.hid (fun u => Times_any a d ha hd u)
    have T5 := Lib.hid (fun u => Times_any b d hb hd u)
    have T6 := Lib.hid (fun u => Times_any a (tm b d) ha lb u)
    have T7 := Lib.hid (fun u => Times_any (tm a b) d lab hd u)
    rw [← tm_assoc ha hb hd] at T7
    have T8 := Lib.hid (fun u => tm_byte_one a ha u)
    have T9 := Lib.hid (fun u => Box_any a ha u)
    have T10 := Lib.hid (fun u => Unbox_any _ (boxB (UInt8.ofNat a)).toNat_lt u)
    rw [un_box a ha] at T10
    clear lbd lab lad lb
    generalize (boxB (UInt8.ofNat a)).toNat = bx at *
    generalize tm a (tm b d) = m6 at *
    generalize tm a (b ^^^ d) = m3 at *
    generalize b ^^^ d = e1 at *
    generalize tm b d = m5 at *
    generalize tm a b = m1 at *
    generalize tm a d = m4 at *
    have h00 := Ext.refl w
    go_enter Try.func5, Try.ntmps5
    go_wp2_with (first
      | (go_at_call 14; with_reducible refine (F0.out _).mono ?_; rintro e w1 ⟨rfl, h1⟩; have xw := Ext.trans (a := w) (by assumption) h1)
      | (go_at_call 14; with_reducible refine (F1.out _).mono ?_; rintro e w1 ⟨rfl, h1⟩; have xw := Ext.trans (a := w) (by assumption) h1; have hc := IsCipher.ext (c := c) (key := k) (by assumption) h1)
      | (go_at_call 14; with_reducible refine (F2.out _).mono ?_; rintro e w1 ⟨rfl, h1⟩; have xw := Ext.trans (a := w) (by assumption) h1; have hc := IsCipher.ext (c := c) (key := k) (by assumption) h1)
      | (go_at_call 15; refine (HN.out _).mono ?_; rintro e w2 ⟨c, rfl, hc, x2⟩; have xw := Ext.trans (a := w) (by assumption) x2)
      | (go_at_call 19; with_reducible refine (B1.block _ c (by assumption)).mono ?_; rintro e w3 ⟨rfl, h3⟩; have xw := Ext.trans (a := w) (by assumption) h3; have hc := IsCipher.ext (c := c) (key := k) (by assumption) h3)
      | (go_at_call 19; with_reducible refine (B2.block _ c (by assumption)).mono ?_; rintro e w3 ⟨rfl, h3⟩; have xw := Ext.trans (a := w) (by assumption) h3; have hc := IsCipher.ext (c := c) (key := k) (by assumption) h3)
      | (go_at_call 19; with_reducible refine (B3.block _ c (by assumption)).mono ?_; rintro e w3 ⟨rfl, h3⟩; have xw := Ext.trans (a := w) (by assumption) h3; have hc := IsCipher.ext (c := c) (key := k) (by assumption) h3)
      | (go_at_call 20; with_reducible refine (D1.block _ c (by assumption)).mono ?_; rintro e w3 ⟨rfl, h3⟩; have xw := Ext.trans (a := w) (by assumption) h3; have hc := IsCipher.ext (c := c) (key := k) (by assumption) h3)
      | (go_at_call 20; with_reducible refine (D2.block _ c (by assumption)).mono ?_; rintro e w3 ⟨rfl, h3⟩; have xw := Ext.trans (a := w) (by assumption) h3; have hc := IsCipher.ext (c := c) (key := k) (by assumption) h3)
      | (go_at_call 19; with_reducible refine (Block_nil _ _).mono ?_; rintro e w3 ⟨rfl, rfl⟩)
      | (go_at_call 20; with_reducible refine (Back_nil _ _).mono ?_; rintro e w3 ⟨rfl, rfl⟩)
      | (go_at_call 17; with_reducible refine (Rounds_nil _).mono ?_; rintro e w3 ⟨rfl, rfl⟩)
      | (go_at_call 7; with_reducible refine (T1.out _).mono ?_; rintro e w3 ⟨rfl, rfl⟩)
      | (go_at_call 7; with_reducible refine (T2.out _).mono ?_; rintro e w3 ⟨rfl, rfl⟩)
      | (go_at_call 7; with_reducible refine (T3.out _).mono ?_; rintro e w3 ⟨rfl, rfl⟩)
      | (go_at_call 7; with_reducible refine (T4.out _).mono ?_; rintro e w3 ⟨rfl, rfl⟩)
      | (go_at_call 7; with_reducible refine (T5.out _).mono ?_; rintro e w3 ⟨rfl, rfl⟩)
      | (go_at_call 7; with_reducible refine (T6.out _).mono ?_; rintro e w3 ⟨rfl, rfl⟩)
      | (go_at_call 7; with_reducible refine (T7.out _).mono ?_; rintro e w3 ⟨rfl, rfl⟩)
      | (go_at_call 7; with_reducible refine (T8.out _).mono ?_; rintro e w3 ⟨rfl, rfl⟩)
      | (go_at_call 9; with_reducible refine (T9.out _).mono ?_; rintro e w3 ⟨rfl, h3⟩; have xw := Ext.trans (a := w) (by assumption) h3)
      | (go_at_call 11; with_reducible refine (T10.out _).mono ?_; rintro e w3 ⟨rfl, h3⟩; have xw := Ext.trans (a := w) (by assumption) h3)
      | (go_at_call 13; refine (aes_works _).mono ?_; rintro e w9 ⟨rfl, h9⟩; have xw9 := Ext.trans (a := w) (by assumption) h9))
    go_ret
    exact ⟨rfl, xw9⟩
end Go.Proofs.Ytlphbnbipbfclaa
