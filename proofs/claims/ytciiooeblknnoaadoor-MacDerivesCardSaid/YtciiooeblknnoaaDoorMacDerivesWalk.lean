/- The walk of MacDerives. -/
import Derived.Test.YtciiooeblknnoaaDoorTags
import Derived.Test.YtciiooeblknnoaaDoorRDer
import Derived.Test.YtciiooeblknnoaaDoorMacWorks
import Derived.Test.YtciiooeblknnoaaDoorSame
namespace Go.Proofs.YtciiooeblknnoaaDoor
open Go.RowKit

theorem not_empty (D : ByteArray) (h : 1 ≤ D.size) : ¬ D.toList = [] := by
  rw [ByteArray.toList_eq]
  intro e
  have := size_list D
  rw [e] at this
  simp at this
  omega
set_option maxRecDepth 100000 in
set_option maxHeartbeats 1000000 in
theorem MacDerives_walk (key label : ByteArray) (n : Int) (w : World) (hL : Laid w) :
    Calls Tryd.prog 4 #[.string key, .string label, .int .i64 n] w fun e w' => e = .returned (.bool true) ∧ Ext w w' := by
  have HW := Lib.hid (fun u (hu : Ext w u) => mac_works u (hL.ext hu))
  have HL := Lib.hid hL
  clear hL
  by_cases h1 : 300 < key.size
  · go_enter Tryd.func4, Tryd.ntmps4
    go_wp2_with (go_at_call 8; refine (HW.out _ (Ext.refl w)).mono ?_; rintro e w1 ⟨rfl, h1⟩)
    go_ret
    exact ⟨rfl, h1⟩
  by_cases h2 : 300 < label.size
  · go_enter Tryd.func4, Tryd.ntmps4
    go_wp2_with (go_at_call 8; refine (HW.out _ (Ext.refl w)).mono ?_; rintro e w1 ⟨rfl, h1⟩)
    go_ret
    exact ⟨rfl, h1⟩
  by_cases h3 : 1000 < n ∧ n ≤ 8160
  · obtain ⟨h3, h4⟩ := h3
    go_enter Tryd.func4, Tryd.ntmps4
    go_wp2_with (go_at_call 8; refine (HW.out _ (Ext.refl w)).mono ?_; rintro e w1 ⟨rfl, h1⟩)
    go_ret
    exact ⟨rfl, h1⟩
  by_cases h4 : n < 1 ∨ 8160 < n
  · have HD := Lib.hid (derive_no key label n w h4)
    have HR := Lib.hid (fun u => rder_no key label n u h4)
    have h5 : decide (1000 < n) = false ∨ decide (n ≤ 8160) = false := by
      rcases h4 with h | h
      · left; simp; omega
      · right; simp; omega
    go_enter Tryd.func4, Tryd.ntmps4
    rcases h5 with h5 | h5
    all_goals
      simp only [decide_eq_false_iff_not] at h5
      clear h3 h4
      go_wp2_with (first
        | (go_at_call 14; refine (HD.out).mono ?_; rintro e w1 ⟨rfl, h1x⟩)
        | (go_at_call 15; refine (HR.out _).mono ?_; rintro e w2 ⟨rfl, h2x⟩)
        | (go_at_call 8; refine (HW.out _ (h1x.trans h2x)).mono ?_; rintro e w3 ⟨rfl, h3x⟩))
      go_ret
      exact ⟨rfl, (h1x.trans h2x).trans h3x⟩
  obtain ⟨m, rfl⟩ : ∃ m : Nat, n = (m : Int) := ⟨n.toNat, by omega⟩
  have HD := Lib.hid (derive_yes key label m w HL.out (by omega) (by omega) (by omega) (by omega))
  have HR := Lib.hid (fun u => rder_yes key label m u (by omega) (by omega) (by omega) (by omega))
  have hz : ByteArray.size ⟨(derL key.data.toList label.data.toList m).toArray⟩ = m := by rw [txt_size, derL_length _ _ _ (by omega)]
  have hne := not_empty ⟨(derL key.data.toList label.data.toList m).toArray⟩ (by omega)
  have i1 : (m : Int) ≤ 1000 := by omega
  have hne2 : (ByteArray.mk (derL key.data.toList label.data.toList m).toArray).toList.isEmpty = false := by simpa using hne
  generalize (⟨(derL key.data.toList label.data.toList m).toArray⟩ : ByteArray) = D at *
  clear h3 h4
  go_enter Tryd.func4, Tryd.ntmps4
  go_wp2_with (first
    | (go_at_call 14; refine (HD.out).mono ?_; rintro e w1 ⟨rfl, h1x⟩)
    | (go_at_call 15; refine (HR.out _).mono ?_; rintro e w2 ⟨rfl, h2x⟩)
    | (go_at_call 8; refine (HW.out _ (h1x.trans h2x)).mono ?_; rintro e w3 ⟨rfl, h3x⟩))
  go_ret
  exact ⟨rfl, (h1x.trans h2x).trans h3x⟩
end Go.Proofs.YtciiooeblknnoaaDoor
