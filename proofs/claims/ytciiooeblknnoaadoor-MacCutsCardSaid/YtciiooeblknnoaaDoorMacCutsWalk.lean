/- The walk of MacCuts. -/
import Derived.Test.YtciiooeblknnoaaDoorLit
import Derived.Test.YtciiooeblknnoaaDoorTags
import Derived.Test.YtciiooeblknnoaaDoorMacWorks
import Derived.Test.YtciiooeblknnoaaDoorSame
import Derived.Test.YtciiooeblknnoaaDoorBRow
namespace Go.Proofs.YtciiooeblknnoaaDoor
open Go.RowKit

theorem slice_to (s : ByteArray) (i : Nat) (h : i ≤ s.size) (u : World) : (Instr.slice 9 (.string s) none (some (.int .i64 (i : Int))) none).run Tryd.prog u = .ok (.string (s.extract 0 i)) u := by
  have hj : (0 : Int) ≤ (i : Int) ∧ (i : Int) ≤ (s.size : Int) := by omega
  simp [Instr.slice, Instr.sliceBounds, Instr.sliceBound, asIntOf, run_underlying Tryd.underlying9, hj]
  intro hgt
  omega
theorem slice_from (s : ByteArray) (i : Nat) (h : i ≤ s.size) (u : World) : (Instr.slice 9 (.string s) (some (.int .i64 (i : Int))) none none).run Tryd.prog u = .ok (.string (s.extract i s.size)) u := by
  have hj : (0 : Int) ≤ (i : Int) ∧ (i : Int) ≤ (s.size : Int) := by omega
  simp [Instr.slice, Instr.sliceBounds, Instr.sliceBound, asIntOf, run_underlying Tryd.underlying9, hj]
  intro hgt
  omega
set_option maxRecDepth 100000 in
set_option maxHeartbeats 2000000 in
theorem MacCuts_walk (key s : ByteArray) (cut : Nat) (label : ByteArray) (n k pos : Nat) (y : UInt8) (w : World) (hL : Laid w) (hcut : cut < 65536) (hn : n < 256) (hk : k < 256) (hp : pos < 256) :
    Calls Tryd.prog 5 #[.string key, .string s, .int .u16 (cut : Int), .string label, .int .u8 (n : Int), .int .u8 (k : Int), .int .u8 (pos : Int), .int .u8 (y.toNat : Int)] w fun e w' => e = .returned (.bool true) ∧ Ext w w' := by
  have HW := Lib.hid (fun u (hu : Ext w u) => mac_works u (hL.ext hu))
  have HL := Lib.hid hL
  clear hL
  by_cases h1 : 300 < key.size
  · go_enter Tryd.func5, Tryd.ntmps5
    go_wp2_with (go_at_call 8; refine (HW.out _ (Ext.refl w)).mono ?_; rintro e w1 ⟨rfl, h1⟩)
    go_ret
    exact ⟨rfl, h1⟩
  by_cases h2 : 1024 < s.size
  · go_enter Tryd.func5, Tryd.ntmps5
    go_wp2_with (go_at_call 8; refine (HW.out _ (Ext.refl w)).mono ?_; rintro e w1 ⟨rfl, h1⟩)
    go_ret
    exact ⟨rfl, h1⟩
  by_cases h3 : 300 < label.size
  · go_enter Tryd.func5, Tryd.ntmps5
    go_wp2_with (go_at_call 8; refine (HW.out _ (Ext.refl w)).mono ?_; rintro e w1 ⟨rfl, h1⟩)
    go_ret
    exact ⟨rfl, h1⟩
  have k1 : key.size ≤ 1099511627776 := by omega
  obtain ⟨i, hi⟩ : ∃ i : Nat, (cut : Int) % ((s.size : Int) + 1) = (i : Int) := ⟨((cut : Int) % ((s.size : Int) + 1)).toNat, by have := Int.emod_nonneg (cut : Int) (show ((s.size : Int) + 1) ≠ 0 by omega); omega⟩
  have his : i ≤ s.size := by
    have h : (cut : Int) % ((s.size : Int) + 1) < (s.size : Int) + 1 := Int.emod_lt_of_pos _ (by omega)
    omega
  have hisi : (i : Int) ≤ (s.size : Int) := by omega
  have js : joinL [s] = s.data.toList := joinL_one s
  have j2 := joinL_split s i
  have j4 := joinL_split4 s i
  have bs : s.data.toList.length ≤ 1099511627776 := by rw [size_list]; omega
  have O1 := fun (t : TypeId) (u : World) (g : Nat) (hg : g = u.heap.size) (hu : Ext w u) => Of_lit key [s] t u g hg (HL.out.ext hu) k1 (by simp) (by rw [js]; exact bs)
  have O2 := fun (t : TypeId) (u : World) (g : Nat) (hg : g = u.heap.size) (hu : Ext w u) => Of_lit_drew key [s.extract 0 i, s.extract i s.size] t u g hg (HL.out.ext hu) k1 (by simp) (by rw [j2]; exact bs)
  have O4 := fun (t : TypeId) (u : World) (g : Nat) (hg : g = u.heap.size) (hu : Ext w u) => Of_lit key [⟨#[]⟩, s.extract 0 i, ⟨#[]⟩, s.extract i s.size] t u g hg (HL.out.ext hu) k1 (by simp) (by rw [j4]; exact bs)
  have C1 := fun (tag : ByteArray) (ht : tag.size ≤ 32) (t : TypeId) (u : World) (g : Nat) (hg : g = u.heap.size) (hu : Ext w u) => Check_lit key tag [s] t u g hg (HL.out.ext hu) k1 (by omega) (by simp) (by rw [js]; exact bs)
  rw [js] at O1 C1
  rw [j2] at O2
  rw [j4] at O4
  obtain ⟨a, ha⟩ : ∃ a : Nat, (1 : Int) + (n : Int) = (a : Int) := ⟨1 + n, by omega⟩
  obtain ⟨b, hb⟩ : ∃ b : Nat, (a : Int) + (k : Int) = (b : Int) := ⟨a + k, by omega⟩
  have ha1 : 1 ≤ a := by omega
  have hab : a ≤ b := by omega
  have hb5 : b ≤ 600 := by omega
  have HD1 := Lib.hid (fun u (hu : Ext w u) => derive_yes key label a u (HL.out.ext hu) k1 (by omega) (by omega) (by omega))
  have HD2 := Lib.hid (fun u (hu : Ext w u) => derive_yes key label b u (HL.out.ext hu) k1 (by omega) (by omega) (by omega))
  have hA : ByteArray.size ⟨(derL key.data.toList label.data.toList a).toArray⟩ = a := by rw [txt_size, derL_length _ _ _ (by omega)]
  have hB : ByteArray.size ⟨(derL key.data.toList label.data.toList b).toArray⟩ = b := by rw [txt_size, derL_length _ _ _ (by omega)]
  have hAB : (⟨(derL key.data.toList label.data.toList b).toArray⟩ : ByteArray).extract 0 a = ⟨(derL key.data.toList label.data.toList a).toArray⟩ := by
    rw [cut_text, derL_take _ _ _ _ hab]
  have hm : (macL key.data.toList s.data.toList).length = 32 := macL_length _ _
  generalize macL key.data.toList s.data.toList = M at *
  have hz : ByteArray.size ⟨M.toArray⟩ = 32 := by rw [txt_size, hm]
  have hMd : (⟨M.toArray⟩ : ByteArray).data.toList = M := rfl
  -- the three checks
  have c16 := C1 ⟨(M.take 16).toArray⟩ (by rw [txt_size, List.length_take]; omega)
  have c15 := C1 ⟨(M.take 15).toArray⟩ (by rw [txt_size, List.length_take]; omega)
  have e16 : chk (⟨(M.take 16).toArray⟩ : ByteArray).data.toList M = true := chk_take M 16 hm (by decide) (by decide)
  have e15 : chk (⟨(M.take 15).toArray⟩ : ByteArray).data.toList M = false := chk_short (by show (M.take 15).length < 16; rw [List.length_take]; omega)
  rw [e16, ← cut_text] at c16
  rw [e15, ← cut_text] at c15
  obtain ⟨yn, hyn⟩ : ∃ yn : Nat, y.toNat = yn := ⟨_, rfl⟩
  have hyb : yn < 256 := by rw [← hyn]; exact y.toNat_lt
  obtain ⟨z, hzz⟩ : ∃ z, z = y ||| 1 := ⟨_, rfl⟩
  have hzn : z ≠ 0 := by rw [hzz]; exact or_one_ne y
  have hor := or_byte y
  rw [← hzz, hyn] at hor
  obtain ⟨zn, hzn2⟩ : ∃ zn : Nat, z.toNat = zn := ⟨_, rfl⟩
  obtain ⟨q, hq⟩ : ∃ q : Nat, (pos : Int) % 32 = (q : Int) := ⟨pos % 32, by omega⟩
  have hq32 : q < 32 := by omega
  have hql : q < M.length := by rw [hm]; exact hq32
  obtain ⟨bb, hbb⟩ : ∃ bb, M[q]? = some bb := ⟨_, List.getElem?_eq_getElem hql⟩
  have hxor := xor_byte bb z
  obtain ⟨x, hx⟩ : ∃ x, x = bb ^^^ z := ⟨_, rfl⟩
  have e32 : chk (M.set q x) M = false := by rw [hx]; exact chk_turned M q bb z hbb hzn hm
  rw [← hx, hzn2] at hxor
  rw [hzn2] at hor
  have cC := C1 ⟨(M.set q x).toArray⟩ (by rw [txt_size, List.length_set, hm]; decide)
  have eC : (⟨(M.set q x).toArray⟩ : ByteArray).data.toList = M.set q x := rfl
  rw [eC, e32] at cC
  have hqi : (q : Int) < 32 := by omega
  have HBt := Lib.hid (fun (u : World) => bytes_of_text u ⟨M.toArray⟩)
  obtain ⟨C, hC⟩ : ∃ C, (⟨(M.set q x).toArray⟩ : ByteArray) = C := ⟨_, rfl⟩
  rw [hC] at cC
  have HC := Lib.hid hC; have HQ := Lib.hid hbb; have HM := Lib.hid hm; have HQL := Lib.hid hql
  obtain ⟨T, hT⟩ : ∃ T, (⟨M.toArray⟩ : ByteArray) = T := ⟨_, rfl⟩
  rw [hT] at O1 O2 O4 c16 c15 hz hMd HBt
  have HMd := Lib.hid hMd
  have H1 := Lib.hid O1; have H2 := Lib.hid O2; have H4 := Lib.hid O4; have HCC0 := Lib.hid cC
  have H16 : Hid (∀ t u g, g = u.heap.size → Ext w u → Calls Tryd.prog 12 #[.string key, .string (T.extract 0 16), .slice (some ⟨g, 0, none⟩) 1 1] (u.alloc (.cells #[.string s] t)) fun e w' => e = .returned (.bool true) ∧ Ext u w') := Lib.hid c16
  have H15 : Hid (∀ t u g, g = u.heap.size → Ext w u → Calls Tryd.prog 12 #[.string key, .string (T.extract 0 15), .slice (some ⟨g, 0, none⟩) 1 1] (u.alloc (.cells #[.string s] t)) fun e w' => e = .returned (.bool false) ∧ Ext u w') := Lib.hid c15
  have HCC : Hid (∀ t u g, g = u.heap.size → Ext w u → Calls Tryd.prog 12 #[.string key, .string C, .slice (some ⟨g, 0, none⟩) 1 1] (u.alloc (.cells #[.string s] t)) fun e w' => e = .returned (.bool false) ∧ Ext u w') := Lib.hid HCC0.out
  have HAB := Lib.hid hAB
  rw [hyn]
  clear O1 O2 O4 c16 c15 cC C1 e16 e15 e32 eC hMd hT hC hm hql hbb hzn hzz hx hyn hzn2 js j2 j4 bs hAB
  generalize (⟨(derL key.data.toList label.data.toList a).toArray⟩ : ByteArray) = DA at *
  generalize (⟨(derL key.data.toList label.data.toList b).toArray⟩ : ByteArray) = DB at *
  go_enter Tryd.func5, Tryd.ntmps5
  go_wp2_with (go_at_call 11; refine (H1.out _ _ _ rfl (Ext.refl w)).mono ?_; rintro e w1 ⟨rfl, h1x⟩)
  have hsl1 : ∀ u : World, (Instr.slice 9 (.string s) none (some (.int .i64 (i : Int))) none).run Tryd.prog u = .ok (.string (s.extract 0 i)) u := fun u => slice_to s i his u
  have hsl2 : ∀ u : World, (Instr.slice 9 (.string s) (some (.int .i64 (i : Int))) none none).run Tryd.prog u = .ok (.string (s.extract i s.size)) u := fun u => slice_from s i his u
  have x0 : Ext w1 w1.drew := (Ext.refl w1).drew
  have K2 : Hid (∀ t, Calls Tryd.prog 11 #[.string key, .slice (some ⟨w1.heap.size, 0, none⟩) 2 2] (w1.alloc (.cells #[.string (s.extract 0 i), .string (s.extract i s.size)] t)).drew fun e w' => e = .returned (.string T) ∧ Ext w1 w') := Lib.hid (fun t => H2.out t w1 _ rfl h1x)
  have K4 : Hid (∀ t u, Ext w1 u → Calls Tryd.prog 11 #[.string key, .slice (some ⟨u.heap.size, 0, none⟩) 4 4] (u.alloc (.cells #[.string ⟨#[]⟩, .string (s.extract 0 i), .string ⟨#[]⟩, .string (s.extract i s.size)] t)) fun e w' => e = .returned (.string T) ∧ Ext u w') := Lib.hid (fun t u hu => H4.out t u _ rfl (h1x.trans hu))
  go_region_held3 (fun u => Ext w1 u) (first | exact x0 | assumption | exact Ext.alloc (by assumption) _ | go_keep) (first
    | (go_at_call 11; ((with_reducible refine (K2.out _).mono ?_); rintro e w2 ⟨rfl, h2x⟩))
    | (go_at_call 11; ((with_reducible refine (K4.out _ _ h2x).mono ?_); rintro e w3 ⟨rfl, h3x⟩; have x3 := h2x.trans h3x)))
  have hsl3 : ∀ u : World, (Instr.slice 9 (.string DB) none (some (.int .i64 (a : Int))) none).run Tryd.prog u = .ok (.string DA) u := fun u => by
    rw [← HAB.out]
    exact slice_to DB a (by omega) u
  have x3w := Ext.trans h1x x3
  clear K2 K4 H2 H4 H1 x0 hi
  go_wp2_with (first
    | (go_at_call 14; ((with_reducible refine (HD1.out _ x3w).mono ?_); rintro e w4 ⟨rfl, h4x⟩))
    | (go_at_call 14; ((with_reducible refine (HD2.out _ (x3w.trans h4x)).mono ?_); rintro e w5 ⟨rfl, h5x⟩; have x5 := (x3w.trans h4x).trans h5x; obtain ⟨cap, w6, hcv, hcap, hx6, hrow⟩ := HBt.out w5; have hcell := hrow.cell q bb (by rw [HMd.out]; exact HQ.out); have hfz := hrow.frozen q (by rw [HMd.out]; exact HQL.out); have hrow7 := Lib.hid (hrow.set_ q (by rw [HMd.out]; exact HQL.out) _ x rfl); have x7 := (x5.trans hx6).setCell (p := ⟨w5.heap.size, q, none⟩) x5.size (.int .u8 (x.toNat : Int)); clear hrow hcap))
    | (go_at_call 12; ((with_reducible refine (H16.out _ _ _ (by simp) x7).mono ?_); rintro e w8 ⟨rfl, h8x⟩))
    | (go_at_call 12; ((with_reducible refine (H15.out _ _ _ rfl (x7.trans h8x)).mono ?_); rintro e w9 ⟨rfl, h9x⟩; have htx := ((hrow7.out.ext h8x).ext h9x).text 32 cap (by rw [List.length_set, HMd.out, HM.out]; exact Nat.le_refl _); rw [HMd.out, List.take_of_length_le (by rw [List.length_set, HM.out]; exact Nat.le_refl _), HC.out] at htx))
    | (go_at_call 12; ((with_reducible refine (HCC.out _ _ _ rfl ((x7.trans h8x).trans h9x)).mono ?_); rintro e w10 ⟨rfl, h10x⟩))
    | (go_at_call 8; refine (HW.out _ (((x7.trans h8x).trans h9x).trans h10x)).mono ?_; rintro e w11 ⟨rfl, h11x⟩))
  go_ret
  exact ⟨rfl, (((x7.trans h8x).trans h9x).trans h10x).trans h11x⟩
end Go.Proofs.YtciiooeblknnoaaDoor
