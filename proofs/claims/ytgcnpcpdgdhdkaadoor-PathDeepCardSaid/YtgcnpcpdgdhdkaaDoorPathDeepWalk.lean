/- The walk of PathDeep. -/
import Derived.Test.YtgcnpcpdgdhdkaaDoorPathWk
import Derived.Test.YtgcnpcpdgdhdkaaDoorHeavy16
namespace Go.Proofs.YtgcnpcpdgdhdkaaDoor
open Go.RowKit

theorem heavy_three (w : World) (p s t : ByteArray) (hp : p.size ≤ 140737488351232) (hs : s.size ≤ 140737488351232) (ht : t.size ≤ 140737488351232) (b : Bool) (hb : b = true ↔ Heavy [p, s, t]) : Calls Tryd.prog 7 #[.slice (some ⟨w.heap.size, 0, none⟩) 3 3] (w.alloc (.cells #[.string p, .string s, .string t] 9)) fun e w' =>
    e = .returned (.bool b) ∧ Ext w w' :=
  (heavy_is _ (some ⟨w.heap.size, 0, none⟩) 3 [p, s, t] (blk_texts (Blk.new w ([p, s, t].map Value.string) 9)) (by intro x hx; simp only [List.mem_cons, List.mem_nil_iff, or_false] at hx; rcases hx with rfl | rfl | rfl <;> assumption) (by simp) b hb).mono fun _ _ ⟨he, hx⟩ => ⟨he, by subst hx; exact (Ext.refl w).alloc _⟩
theorem namesB_one (a c : ByteArray) (h : underT a c = true) : namesB a [c] = [childB a c] := by
  unfold namesB dataL
  rw [List.map_cons, List.map_nil, names_one]
  unfold underT at h
  rw [if_pos h]; rfl
theorem namesB_two (a c : ByteArray) (h : underT a c = true) : namesB a [c, c] = [childB a c] := by
  unfold namesB dataL
  rw [List.map_cons, List.map_cons, List.map_nil, names_two]
  unfold underT at h
  rw [if_pos h]; rfl
/-- The end of a call that answers one text. -/
def OneR (C : ByteArray) (w : World) (e : Ending) (w' : World) : Prop := ∃ g cap, e = .returned (.slice (some ⟨g, 0, none⟩) 1 cap) ∧ w'.cell? ⟨g, 0, none⟩ = some (.string C) ∧ Ext w w'
theorem names1_lit (w : World) (a c : ByteArray) (ha : a.size ≤ 140737488351232) (hc : c.size ≤ 140737488351232) (h : underT a c = true) : Calls Tryd.prog 19 #[.string a, .slice (some ⟨w.heap.size, 0, none⟩) 1 1] (w.alloc (.cells #[.string c] 9)) (OneR (childB a c) w) := by
  have hh := Names_any a ha (some ⟨w.heap.size, 0, none⟩) 1 [c] _ (blk_texts (Blk.new w ([c].map Value.string) 9)) (by simp) (by intro x hx; simp only [List.mem_cons, List.mem_nil_iff, or_false] at hx; subst hx; exact hc)
  refine Calls.mono hh ?_
  rintro e w' ⟨v, rfl, hb, hx⟩
  rw [namesB_one a c h] at hb
  obtain ⟨g, cap, rfl, _, hcell⟩ := hb.sl (by simp)
  exact ⟨g, cap, rfl, hcell 0 _ rfl, ((Ext.refl w).alloc _).trans hx⟩
theorem names2_lit (w : World) (a c : ByteArray) (ha : a.size ≤ 140737488351232) (hc : c.size ≤ 140737488351232) (h : underT a c = true) : Calls Tryd.prog 19 #[.string a, .slice (some ⟨w.heap.size, 0, none⟩) 2 2] (w.alloc (.cells #[.string c, .string c] 9)) (OneR (childB a c) w) := by
  have hh := Names_any a ha (some ⟨w.heap.size, 0, none⟩) 2 [c, c] _ (blk_texts (Blk.new w ([c, c].map Value.string) 9)) (by simp) (by intro x hx; simp only [List.mem_cons, List.mem_nil_iff, or_false] at hx; rcases hx with rfl | rfl <;> exact hc)
  refine Calls.mono hh ?_
  rintro e w' ⟨v, rfl, hb, hx⟩
  rw [namesB_two a c h] at hb
  obtain ⟨g, cap, rfl, _, hcell⟩ := hb.sl (by simp)
  exact ⟨g, cap, rfl, hcell 0 _ rfl, ((Ext.refl w).alloc _).trans hx⟩
theorem child_size (p s : ByteArray) (h : underT p s = true) : 1 ≤ (childB p s).size ∧ (childB p s).size ≤ s.size := by
  have h1 : (childB p s).size = (childL p.data.toList s.data.toList).length := by unfold childB; rw [toB_size]
  have h2 := child_ne (p := p.data.toList) (s := s.data.toList) h
  have hf := first_take (restL p.data.toList s.data.toList)
  have e : childL p.data.toList s.data.toList = firstL (restL p.data.toList s.data.toList) := by unfold childL; unfold underT at h; rw [if_pos h]
  have h3 := rest_size p s
  unfold restB at h3
  rw [toB_size] at h3
  rw [h1]
  refine ⟨List.length_pos_iff.2 h2, ?_⟩
  rw [e]
  omega
set_option maxRecDepth 100000 in
set_option maxHeartbeats 40000000 in
theorem deep_core (w : World) (a b c : ByteArray) (ha : a.size ≤ 140737488351232) (hb : b.size ≤ 140737488351232) (hc : c.size ≤ 140737488351232) (hh : ¬ Heavy [a, b, c])
    (uab ubc uac uba ea eb q : Bool) (h1 : underT a b = uab) (h2 : underT b c = ubc) (h3 : underT a c = uac) (h4 : underT b a = uba) (e1 : a.toList.isEmpty = ea) (e2 : b.toList.isEmpty = eb) (e3 : (a.toList == b.toList) = q)
    (k1 : (uab && ubc && !uac) = false) (k2 : (uab && uba) = false) (k3 : (!ea && !eb && uac && ubc && !q && !uab && !uba) = false) :
    Calls Tryd.prog 6 #[.string a, .string b, .string c] w fun e w' => e = .returned (.bool true) ∧ Ext w w' := by
  have HW := Lib.hid (fun u => works16 u)
  have HV := Lib.hid (fun u => heavy_three u a b c ha hb hc false (by simp [hh]))
  have hab := fun u => Under_any a b ha hb u
  have hbc := fun u => Under_any b c hb hc u
  have hac := fun u => Under_any a c ha hc u
  have hba := fun u => Under_any b a hb ha u
  have haa := fun u => Under_any a a ha ha u
  have hch := fun u => Child_any a c ha hc u
  have hN1 : uac = true → ∀ u, _ := fun h u => names1_lit u a c ha hc (h3.trans h)
  have hN2 : uac = true → ∀ u, _ := fun h u => names2_lit u a c ha hc (h3.trans h)
  have hcz : uac = true → 1 ≤ (childB a c).size ∧ (childB a c).size ≤ c.size := fun h => child_size a c (h3.trans h)
  rw [h1] at hab
  rw [h2] at hbc
  rw [h3] at hac hch
  rw [h4] at hba
  rw [show underT a a = false from under_irr _] at haa
  have HAB := Lib.hid hab; have HBC := Lib.hid hbc; have HAC := Lib.hid hac; have HBA := Lib.hid hba; have HAA := Lib.hid haa; have HCH := Lib.hid hch; have HN1 := Lib.hid hN1; have HN2 := Lib.hid hN2; have HCZ := Lib.hid hcz
  clear hab hbc hac hba haa hch hN1 hN2 hcz h1 h2 h3 h4 hh
  generalize childB a c = C at *
  cases uab <;> cases uba <;> cases uac <;> cases ubc
  all_goals by_cases hea : ea = true
  all_goals first
    | (obtain rfl := hea)
    | (obtain rfl : ea = false := by simpa using hea
       clear hea
       cases eb)
  all_goals first
    | (exfalso; clear e1 e2 e3; revert k1 k2 k3; revert q; first | decide | (revert eb; decide))
    | (clear k1 k2 k3
       have hC := HCZ.out
       first
       | (obtain ⟨hC1, hC2⟩ := hC rfl; clear hC; have HQ1 := Lib.hid (HN1.out rfl); have HQ2 := Lib.hid (HN2.out rfl))
       | (clear hC; have HQ1 := True.intro; have HQ2 := True.intro)
       clear HN1 HN2 HCZ
       go_enter Tryd.func6, Tryd.ntmps6
       go_wp2_with (first
         | (go_at_call 7; refine (HV.out _).mono ?_; rintro e w1 ⟨rfl, x1⟩; have X := Lib.hid x1; clear x1)
         | (go_at_call 17; ((with_reducible refine (HAB.out _).mono ?_); rintro e w2 ⟨rfl, x2⟩; have Y := Lib.hid (X.out.trans x2); clear x2 X; have X := Y; clear Y))
         | (go_at_call 17; ((with_reducible refine (HBC.out _).mono ?_); rintro e w2 ⟨rfl, x2⟩; have Y := Lib.hid (X.out.trans x2); clear x2 X; have X := Y; clear Y))
         | (go_at_call 17; ((with_reducible refine (HAC.out _).mono ?_); rintro e w2 ⟨rfl, x2⟩; have Y := Lib.hid (X.out.trans x2); clear x2 X; have X := Y; clear Y))
         | (go_at_call 17; ((with_reducible refine (HBA.out _).mono ?_); rintro e w2 ⟨rfl, x2⟩; have Y := Lib.hid (X.out.trans x2); clear x2 X; have X := Y; clear Y))
         | (go_at_call 17; ((with_reducible refine (HAA.out _).mono ?_); rintro e w2 ⟨rfl, x2⟩; have Y := Lib.hid (X.out.trans x2); clear x2 X; have X := Y; clear Y))
         | (go_at_call 10; refine (HCH.out _).mono ?_; rintro e w3 ⟨rfl, x3⟩; have Y := Lib.hid (X.out.trans x3); clear x3 X; have X := Y; clear Y)
         | (go_at_call 19; ((with_reducible refine (HQ1.out _).mono ?_); rintro e w4 ⟨g1, cap1, rfl, hc1, x4⟩; have Y := Lib.hid (X.out.trans x4); clear x4 X hc1; have X := Y; clear Y))
         | (go_at_call 19; ((with_reducible refine (HQ2.out _).mono ?_); rintro e w5 ⟨g2, cap2, rfl, hc2, x5⟩; have Y := Lib.hid (X.out.trans x5); clear x5 X; have X := Y; clear Y))
         | (go_at_call 8; refine (HW.out _).mono ?_; rintro e w6 ⟨rfl, x6⟩; have Y := Lib.hid (X.out.trans x6); clear x6 X; have X := Y; clear Y))
       go_ret
       exact ⟨rfl, X.out⟩
       done)
    | (cases q
       all_goals first
       | (exfalso; revert k1 k2 k3; decide)
       | (clear k1 k2 k3
          have hC := HCZ.out
          first
          | (obtain ⟨hC1, hC2⟩ := hC rfl; clear hC; have HQ1 := Lib.hid (HN1.out rfl); have HQ2 := Lib.hid (HN2.out rfl))
          | (clear hC; have HQ1 := True.intro; have HQ2 := True.intro)
          clear HN1 HN2 HCZ
          go_enter Tryd.func6, Tryd.ntmps6
          go_wp2_with (first
            | (go_at_call 7; refine (HV.out _).mono ?_; rintro e w1 ⟨rfl, x1⟩; have X := Lib.hid x1; clear x1)
            | (go_at_call 17; ((with_reducible refine (HAB.out _).mono ?_); rintro e w2 ⟨rfl, x2⟩; have Y := Lib.hid (X.out.trans x2); clear x2 X; have X := Y; clear Y))
            | (go_at_call 17; ((with_reducible refine (HBC.out _).mono ?_); rintro e w2 ⟨rfl, x2⟩; have Y := Lib.hid (X.out.trans x2); clear x2 X; have X := Y; clear Y))
            | (go_at_call 17; ((with_reducible refine (HAC.out _).mono ?_); rintro e w2 ⟨rfl, x2⟩; have Y := Lib.hid (X.out.trans x2); clear x2 X; have X := Y; clear Y))
            | (go_at_call 17; ((with_reducible refine (HBA.out _).mono ?_); rintro e w2 ⟨rfl, x2⟩; have Y := Lib.hid (X.out.trans x2); clear x2 X; have X := Y; clear Y))
            | (go_at_call 17; ((with_reducible refine (HAA.out _).mono ?_); rintro e w2 ⟨rfl, x2⟩; have Y := Lib.hid (X.out.trans x2); clear x2 X; have X := Y; clear Y))
            | (go_at_call 10; refine (HCH.out _).mono ?_; rintro e w3 ⟨rfl, x3⟩; have Y := Lib.hid (X.out.trans x3); clear x3 X; have X := Y; clear Y)
            | (go_at_call 19; ((with_reducible refine (HQ1.out _).mono ?_); rintro e w4 ⟨g1, cap1, rfl, hc1, x4⟩; have Y := Lib.hid (X.out.trans x4); clear x4 X hc1; have X := Y; clear Y))
            | (go_at_call 19; ((with_reducible refine (HQ2.out _).mono ?_); rintro e w5 ⟨g2, cap2, rfl, hc2, x5⟩; have Y := Lib.hid (X.out.trans x5); clear x5 X; have X := Y; clear Y))
            | (go_at_call 8; refine (HW.out _).mono ?_; rintro e w6 ⟨rfl, x6⟩; have Y := Lib.hid (X.out.trans x6); clear x6 X; have X := Y; clear Y))
          go_ret
          exact ⟨rfl, X.out⟩))
theorem PathDeep_walk (w : World) (a b c : ByteArray) (ha : a.size ≤ 140737488351232) (hb : b.size ≤ 140737488351232) (hc : c.size ≤ 140737488351232) :
    Calls Tryd.prog 6 #[.string a, .string b, .string c] w fun e w' => e = .returned (.bool true) ∧ Ext w w' := by
  by_cases hh : Heavy [a, b, c]
  · have HW := Lib.hid (fun u => works16 u)
    have HV := Lib.hid (fun u => heavy_three u a b c ha hb hc true (by simp [hh]))
    clear hh
    go_enter Tryd.func6, Tryd.ntmps6
    go_wp2_with (first
      | (go_at_call 7; refine (HV.out _).mono ?_; rintro e w1 ⟨rfl, x1⟩; have X1 := Lib.hid x1; clear x1)
      | (go_at_call 8; refine (HW.out _).mono ?_; rintro e w2 ⟨rfl, x2⟩; have X2 := Lib.hid x2; clear x2))
    go_ret
    exact ⟨rfl, X1.out.trans X2.out⟩
  · refine deep_core w a b c ha hb hc hh _ _ _ _ _ _ _ rfl rfl rfl rfl rfl rfl rfl ?_ ?_ ?_
    · cases h1 : underT a b
      · simp
      · cases h2 : underT b c
        · simp
        · rw [show underT a c = true from under_trans h1 h2]; rfl
    · cases h1 : underT a b
      · simp
      · cases h2 : underT b a
        · simp
        · have := under_trans h1 h2
          rw [under_irr] at this
          cases this
    · rw [← Bool.not_eq_true]
      intro h
      simp only [Bool.and_eq_true, Bool.not_eq_true'] at h
      obtain ⟨⟨⟨⟨⟨⟨h1, h2⟩, h3⟩, h4⟩, h5⟩, h6⟩, h7⟩ := h
      have na : a.data.toList ≠ [] := by intro e; rw [Lib.toList_data, e] at h1; cases h1
      have nb : b.data.toList ≠ [] := by intro e; rw [Lib.toList_data, e] at h2; cases h2
      rcases under_beside na nb h3 h4 with e | e | e
      · rw [Lib.toList_data, Lib.toList_data, e] at h5
        simp at h5
      · exact absurd (show underT a b = true from e) (by simp [h6])
      · exact absurd (show underT b a = true from e) (by simp [h7])
end Go.Proofs.YtgcnpcpdgdhdkaaDoor
