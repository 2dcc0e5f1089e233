/- Contracts: which tags are right, by the program and by the reference. -/
import Derived.Test.YtciiooeblknnoaaDoorTag
import Derived.Test.YtciiooeblknnoaaDoorRMac
import Derived.Test.YtciiooeblknnoaaDoorSame
namespace Go.Proofs.YtciiooeblknnoaaDoor
open Go.RowKit

/-- Whether t is right for the tag m. -/
def chk (t m : List UInt8) : Bool := decide (16 ≤ t.length ∧ t.length ≤ 32 ∧ t = m.take t.length)
theorem chk_short {t m : List UInt8} (h : t.length < 16) : chk t m = false := by unfold chk; simp; omega
theorem chk_long {t m : List UInt8} (h : 32 < t.length) : chk t m = false := by unfold chk; simp; omega
theorem str_eq (a : ByteArray) (l : List UInt8) : a = ⟨l.toArray⟩ ↔ a.data.toList = l := by
  constructor
  · rintro rfl; rfl
  · intro h
    cases a
    simp only [ByteArray.mk.injEq]
    exact Array.toList_inj.1 h
theorem chk_fit {t : ByteArray} {m : List UInt8} (h16 : 16 ≤ t.size) (h32 : t.size ≤ 32) : decide (t = ⟨(m.take t.size).toArray⟩) = chk t.data.toList m := by
  unfold chk
  rw [size_list]
  simp [str_eq, h16, h32]
theorem equal_cut (tag : ByteArray) (m : List UInt8) (hm : m.length = 32) (h16 : 16 ≤ tag.size) (h32 : tag.size ≤ 32) (w : World) :
    Calls Tryd.prog 21 #[.string tag, .string ⟨(m.take tag.size).toArray⟩] w fun e w' => e = .returned (.bool (chk tag.data.toList m)) ∧ Ext w w' := by
  have h := equal_like tag ⟨(m.take tag.size).toArray⟩ (by show tag.size = ByteArray.size ⟨(m.take tag.size).toArray⟩; rw [txt_size (m.take tag.size), List.length_take]; omega) (by omega) w
  rw [chk_fit h16 h32] at h
  exact h
theorem eq_comm_dec (a b : ByteArray) : decide (a = b) = decide (b = a) := by
  by_cases h : a = b
  · simp [h]
  · simp [h, Ne.symm h]
set_option maxRecDepth 100000 in
theorem Check_any (w : World) (key tag : ByteArray) (v : Value) (l : List ByteArray) (hL : Laid w) (hk : key.size ≤ 1099511627776) (ht : tag.size ≤ 140737488351232) (hT : TextsV w v l) (hs : (joinL l).length ≤ 1099511627776) :
    Calls Tryd.prog 12 #[.string key, .string tag, v] w fun e w' => e = .returned (.bool (chk tag.data.toList (macL key.data.toList (joinL l)))) ∧ Ext w w' := by
  by_cases h16 : tag.size < 16
  · rw [chk_short (by rw [size_list]; exact h16)]
    go_enter Tryd.func12, Tryd.ntmps12
    go_wp2
    go_ret
    exact ⟨rfl, Ext.refl _⟩
  · by_cases h32 : 32 < tag.size
    · rw [chk_long (by rw [size_list]; exact h32)]
      have HC := Lib.hid (fun u => Cut_no u key tag.size v (.inr (by omega)))
      go_enter Tryd.func12, Tryd.ntmps12
      go_wp2_with (go_at_call 10; refine (HC.out _).mono ?_; rintro e w1 ⟨rfl, rfl⟩)
      go_ret
      exact ⟨rfl, Ext.refl _⟩
    · have HC := Lib.hid (fun u (hu : Ext w u) => Cut_yes u key tag.size v l (hL.ext hu) hk (hT.ext hu) hs (by omega) (by omega))
      have HE := Lib.hid (equal_cut tag (macL key.data.toList (joinL l)) (macL_length _ _) (by omega) (by omega))
      clear hL hT
      generalize (⟨((macL key.data.toList (joinL l)).take tag.size).toArray⟩ : ByteArray) = C at *
      go_enter Tryd.func12, Tryd.ntmps12
      go_wp2_with (first
        | (go_at_call 10; refine (HC.out _ (Ext.refl w)).mono ?_; rintro e w1 ⟨rfl, h1⟩)
        | (go_at_call 21; refine (HE.out _).mono ?_; rintro e w2 ⟨rfl, h2⟩))
      go_ret
      exact ⟨rfl, h1.trans h2⟩
set_option maxRecDepth 100000 in
theorem rCheck_any (w : World) (key tag s : ByteArray) (hk : key.size ≤ 1099511627776) (ht : tag.size ≤ 140737488351232) (hs : s.size ≤ 549755813888) :
    Calls Tryd.prog 13 #[.string key, .string tag, .string s] w fun e w' => e = .returned (.bool (chk tag.data.toList (macL key.data.toList s.data.toList))) ∧ Ext w w' := by
  by_cases h16 : tag.size < 16
  · rw [chk_short (by rw [size_list]; exact h16)]
    go_enter Tryd.func13, Tryd.ntmps13
    go_wp2
    go_ret
    exact ⟨rfl, Ext.refl _⟩
  · by_cases h32 : 32 < tag.size
    · rw [chk_long (by rw [size_list]; exact h32)]
      go_enter Tryd.func13, Tryd.ntmps13
      go_wp2
      go_ret
      exact ⟨rfl, Ext.refl _⟩
    · have HR := Lib.hid (rMac_any key s hk hs)
      have hz : ByteArray.size ⟨(macL key.data.toList s.data.toList).toArray⟩ = 32 := by rw [txt_size, macL_length]
      have hc := cut_text (macL key.data.toList s.data.toList) tag.size
      have hf := chk_fit (t := tag) (m := macL key.data.toList s.data.toList) (by omega) (by omega)
      rw [← hc, eq_comm_dec, same_test] at hf
      have HF := Lib.hid hf
      clear hc hf
      generalize (⟨(macL key.data.toList s.data.toList).toArray⟩ : ByteArray) = T at *
      go_enter Tryd.func13, Tryd.ntmps13
      go_wp2_with (go_at_call 9; refine (HR.out _).mono ?_; rintro e w1 ⟨rfl, h1⟩)
      go_ret
      exact ⟨by rw [← HF.out]; rfl, h1⟩
end Go.Proofs.YtciiooeblknnoaaDoor
