/- Contracts: texts, either or all of them; a share's bytes: by the program. -/
import Derived.Test.YtadincbeimfakaaShareL
import Derived.Test.YtadincbeimfakaaTextsP
import Derived.Test.YtadincbeimfakaaRSplit
namespace Go.Proofs.Ytadincbeimfakaa
open Go.RowKit
attribute [local irreducible] xorL xorAll

theorem shareBytes_any (i n : Nat) (s : ByteArray) (hi : i < 256) (hn : n < 256) (hs : s.size ≤ 1048576) (w : World) :
    Calls Try.prog 23 #[.int .i64 (i : Int), .int .i64 (n : Int), .string s] w fun e w' => e = .returned (.string (shareT i n s)) ∧ Ext w w' := by
  obtain ⟨x, hx⟩ : ∃ x, x = UInt8.ofNat i := ⟨_, rfl⟩
  obtain ⟨y, hy⟩ : ∃ y, y = UInt8.ofNat n := ⟨_, rfl⟩
  have hcv := fun u => two_text (i : Int) (n : Int) x y (by rw [hx]; simp; omega) (by rw [hy]; simp; omega) 5 u
  have hcat := share_cat i n x y s hx hy
  have hw1 : IntKind.u8.wrap (i : Int) = (i : Int) := IntWalk.u8_in _ ⟨by omega, by omega⟩
  have hw2 : IntKind.u8.wrap (n : Int) = (n : Int) := IntWalk.u8_in _ ⟨by omega, by omega⟩
  have hs64 : ¬ 9223372036854775807 < 2 + s.size := by omega
  generalize shareT i n s = T at *
  clear hx hy
  go_enter Try.func23, Try.ntmps23
  go_wp2
  go_ret
  exact ⟨rfl, (Ext.refl w).alloc _⟩
/-- One text's round. -/
theorem xor_round (secret : ByteArray) (l : List ByteArray) (j : Nat) (s : ByteArray) (hs : l[j]? = some s) (h2 : secret.size ≤ 1048576) (hl : ∀ i t, i ≤ j → l[i]? = some t → t.size = secret.size) (u : World) :
    Calls Try.prog 27 #[.string ⟨(xorAll secret.data.toList (l.take j)).toArray⟩, .string s] u fun e w' => e = .returned (.tuple #[.string ⟨(xorAll secret.data.toList (l.take (j + 1))).toArray⟩, .bool true]) ∧ Ext u w' := by
  have hlen : (xorAll secret.data.toList (l.take j)).length = secret.size := xorAll_length _ _ (size_list _) (fun b hb => by
    obtain ⟨i, hi⟩ := List.getElem?_of_mem hb
    rw [List.getElem?_take] at hi
    split at hi
    · exact hl i b (by omega) hi
    · cases hi)
  have h := xor_yes ⟨(xorAll secret.data.toList (l.take j)).toArray⟩ s (by rw [txt_size, hlen, hl j s (Nat.le_refl _) hs]) (by rw [txt_size, hlen]; omega) u
  have exd : (⟨(xorAll secret.data.toList (l.take j)).toArray⟩ : ByteArray).data.toList = xorAll secret.data.toList (l.take j) := by simp
  rw [exd, ← xorAll_step _ _ _ _ hs] at h
  exact h
set_option maxRecDepth 100000 in
set_option maxHeartbeats 2000000 in
theorem mixed_yes (w : World) (secret : ByteArray) (p : Option Addr) (c : Nat) (l : List ByteArray) (h2 : secret.size ≤ 1048576) (h3 : l.length ≤ 1000000) (h : TextsP w p l) (hl : ∀ s, s ∈ l → s.size = secret.size) :
    Calls Try.prog 22 #[.string secret, .slice p l.length c] w fun e w' => e = .returned (.tuple #[.string ⟨(xorAll secret.data.toList l).toArray⟩, .bool true]) ∧ Ext w w' := by
  have HH := Lib.hid (fun u (hu : Ext w u) => h.ext hu)
  have hX0 : xorAll secret.data.toList (l.take 0) = secret.data.toList := by rw [List.take_zero]; unfold xorAll; rfl
  have HX0 := Lib.hid hX0
  clear h hX0
  go_enter Try.func22, Try.ntmps22
  go_wp2
  go_loopw [0, 12] (fun last i wr => ∃ j : Nat, j ≤ l.length ∧ i = .int .i64 (j : Int) ∧ last = .string ⟨(xorAll secret.data.toList (l.take j)).toArray⟩ ∧ Ext w wr) (fun _ i _ => l.length - (intOf i).toNat)
  case atStart => exact ⟨0, Nat.zero_le _, rfl, by rw [HX0.out], Ext.refl _⟩
  case round =>
    obtain ⟨j, hj, rfl, rfl, hext⟩ := hrel
    have HE := Lib.hid hext
    by_cases hlt : j < l.length
    · obtain ⟨s, hs⟩ : ∃ s, l[j]? = some s := ⟨_, List.getElem?_eq_getElem hlt⟩
      obtain ⟨a, rfl, hab, hc1⟩ := HH.out _ hext j s hs
      have HXr := Lib.hid (fun u => xor_round secret l j s hs h2 (fun i t _ ht => hl t (List.mem_of_getElem? ht)) u)
      clear hext hs hab
      generalize (⟨(xorAll secret.data.toList (l.take j)).toArray⟩ : ByteArray) = L0 at *
      go_wp2_with (go_at_call 27; refine (HXr.out _).mono ?_; rintro e w2 ⟨rfl, x2⟩)
      go_roundw
      case rel => exact ⟨j + 1, hlt, by go_num, rfl, HE.out.trans x2⟩
      case measure => simp [intOf]; omega
    · obtain rfl : j = l.length := by omega
      rw [List.take_of_length_le (Nat.le_refl l.length)]
      go_wp2
      go_ret2
      exact ⟨rfl, hext⟩
set_option maxRecDepth 100000 in
set_option maxHeartbeats 2000000 in
theorem mixed_no (w : World) (secret : ByteArray) (p : Option Addr) (c : Nat) (l : List ByteArray) (h2 : secret.size ≤ 1048576) (h3 : l.length ≤ 1000000) (h : TextsP w p l) (k : Nat) (t : ByteArray) (hk : l[k]? = some t) (ht : ¬ t.size = secret.size) (hl : ∀ i s, i < k → l[i]? = some s → s.size = secret.size) :
    Calls Try.prog 22 #[.string secret, .slice p l.length c] w fun e w' => e = .returned (.tuple #[.string ⟨#[]⟩, .bool false]) ∧ Ext w w' := by
  have HH := Lib.hid (fun u (hu : Ext w u) => h.ext hu)
  have hX0 : xorAll secret.data.toList (l.take 0) = secret.data.toList := by rw [List.take_zero]; unfold xorAll; rfl
  have HX0 := Lib.hid hX0
  have hkl : k < l.length := (List.getElem?_eq_some_iff.1 hk).1
  have hlen : (xorAll secret.data.toList (l.take k)).length = secret.size := xorAll_length _ _ (size_list _) (fun b hb => by
    obtain ⟨i, hi⟩ := List.getElem?_of_mem hb
    rw [List.getElem?_take] at hi
    split at hi
    · exact hl i b (by omega) hi
    · cases hi)
  have HXn := Lib.hid (fun u => xor_no ⟨(xorAll secret.data.toList (l.take k)).toArray⟩ t (by rw [txt_size, hlen]; omega) u)
  have HK := Lib.hid hk
  clear h hX0 hlen ht hk
  go_enter Try.func22, Try.ntmps22
  go_wp2
  go_loopw [0, 12] (fun last i wr => ∃ j : Nat, j ≤ k ∧ i = .int .i64 (j : Int) ∧ last = .string ⟨(xorAll secret.data.toList (l.take j)).toArray⟩ ∧ Ext w wr) (fun _ i _ => l.length - (intOf i).toNat)
  case atStart => exact ⟨0, Nat.zero_le _, rfl, by rw [HX0.out], Ext.refl _⟩
  case round =>
    obtain ⟨j, hj, rfl, rfl, hext⟩ := hrel
    have HE := Lib.hid hext
    have hlt : j < l.length := by omega
    by_cases hjk : j < k
    · obtain ⟨s, hs⟩ : ∃ s, l[j]? = some s := ⟨_, List.getElem?_eq_getElem hlt⟩
      obtain ⟨a, rfl, hab, hc1⟩ := HH.out _ hext j s hs
      have HXr := Lib.hid (fun u => xor_round secret l j s hs h2 (fun i t hi ht => hl i t (by omega) ht) u)
      clear hext hs hab
      generalize (⟨(xorAll secret.data.toList (l.take j)).toArray⟩ : ByteArray) = L0 at *
      go_wp2_with (go_at_call 27; refine (HXr.out _).mono ?_; rintro e w2 ⟨rfl, x2⟩)
      go_roundw
      case rel => exact ⟨j + 1, by omega, by go_num, rfl, HE.out.trans x2⟩
      case measure => simp [intOf]; omega
    · obtain rfl : j = k := by omega
      obtain ⟨a, rfl, hab, hc1⟩ := HH.out _ hext j t HK.out
      clear hext hab
      generalize (⟨(xorAll secret.data.toList (l.take j)).toArray⟩ : ByteArray) = L0 at *
      go_wp2_with (go_at_call 27; refine (HXn.out _).mono ?_; rintro e w2 ⟨rfl, x2⟩)
      go_ret2
      exact ⟨rfl, HE.out.trans x2⟩
/-- The first that is of another length. -/
theorem first_other (secret : ByteArray) : ∀ (l : List ByteArray), (∀ s, s ∈ l → s.size = secret.size) ∨ ∃ (k : Nat) (t : ByteArray), l[k]? = some t ∧ ¬ t.size = secret.size ∧ ∀ (i : Nat) (s : ByteArray), i < k → l[i]? = some s → s.size = secret.size
  | [] => .inl (by simp)
  | a :: r => by
    by_cases ha : a.size = secret.size
    · rcases first_other secret r with h | ⟨k, t, h1, h2, h3⟩
      · exact .inl fun s hs => by
          rcases List.mem_cons.1 hs with rfl | hs
          · exact ha
          · exact h s hs
      · refine .inr ⟨k + 1, t, h1, h2, fun i s hi hs => ?_⟩
        cases i with
        | zero => simp at hs; rw [← hs]; exact ha
        | succ i => exact h3 i s (by omega) (by simpa using hs)
    · exact .inr ⟨0, a, rfl, ha, fun i s hi => by omega⟩
end Go.Proofs.Ytadincbeimfakaa
