/- What three readers of one text take, and that it is written as it was: for layer 8's statement WireSame. -/
import Derived.Test.YtcmmcaoidmldkaaWireAlive
import Derived.Test.YtcmmcaoidmldkaaBacks
import Derived.Test.YtcmmcaoidmldkaaSameL
import Derived.Outline
namespace Go.Proofs.Ytcmmcaoidmldkaa
open Go.RowKit
attribute [local irreducible] wnF numG

theorem one_uint (x : Nat) (hx : x < 18446744073709551616) (u : World) : Calls Try.prog 12 #[.slice (some ⟨u.heap.size, 0, none⟩) 1 1] (u.alloc (.cells #[.int .u64 (x : Int)] 29)) fun e w' => e = .returned (.string ⟨(wn x).toArray⟩) ∧ Ext u w' := by
  have hb := Blk.new u [.int .u64 (x : Int)] 29
  have e : ([x] : List Nat).flatMap wn = wn x := by simp
  have h := Uints_any _ (some ⟨u.heap.size, 0, none⟩) 1 1 [x] rfl (Blk.vals (l := vU [x]) hb) (by simpa using hx) (by rw [e]; have := wn_length x; omega) (by decide)
  rw [e] at h
  exact h.mono fun e w' ⟨h1, h2⟩ => ⟨h1, ((Ext.refl u).alloc _).trans h2⟩
theorem one_int (x : Int) (hx : -9223372036854775808 ≤ x ∧ x ≤ 9223372036854775807) (u : World) : Calls Try.prog 13 #[.slice (some ⟨u.heap.size, 0, none⟩) 1 1] (u.alloc (.cells #[.int .i64 x] 2)) fun e w' => e = .returned (.string ⟨(wn (zig x)).toArray⟩) ∧ Ext u w' := by
  have hb := Blk.new u [.int .i64 x] 2
  have e : ([x] : List Int).flatMap (fun n => wn (zig n)) = wn (zig x) := by simp
  have h := Ints_any _ (some ⟨u.heap.size, 0, none⟩) 1 1 [x] rfl (Blk.vals (l := vI [x]) hb) (by simpa using hx) (by rw [e]; have := wn_length (zig x); omega) (by decide)
  rw [e] at h
  exact h.mono fun e w' ⟨h1, h2⟩ => ⟨h1, ((Ext.refl u).alloc _).trans h2⟩
theorem one_text (x : ByteArray) (hx : x.size ≤ 4096) (u : World) : Calls Try.prog 14 #[.slice (some ⟨u.heap.size, 0, none⟩) 1 1] (u.alloc (.cells #[.string x] 9)) fun e w' => e = .returned (.string ⟨(wt x).toArray⟩) ∧ Ext u w' := by
  have hb := Blk.new u [.string x] 9
  have e : ([x] : List ByteArray).flatMap wt = wt x := by simp
  have h := Texts_any _ (some ⟨u.heap.size, 0, none⟩) 1 1 [x] rfl (Blk.vals (l := vS [x]) hb) (by simp; omega) (by rw [e, wt_length]; have := wn_length x.size; omega) (by decide)
  rw [e] at h
  exact h.mono fun e w' ⟨h1, h2⟩ => ⟨h1, ((Ext.refl u).alloc _).trans h2⟩
/-- The front of a text and its last bytes. -/
theorem front_rest (s : ByteArray) (a : List UInt8) (sz : Nat) (h : s.data.toList.take sz = a) (hs : sz ≤ s.size) : (⟨a.toArray⟩ : ByteArray) ++ s.extract (s.size - (s.extract sz s.size).size) s.size = s := by
  have e1 : (s.extract sz s.size).size = s.size - sz := by simp
  rw [e1, show s.size - (s.size - sz) = sz by omega]
  have e2 : s.extract sz s.size = ⟨(s.data.toList.drop sz).toArray⟩ := by
    apply txt_ext
    rw [Lib.extract_data]
    show (s.data.toList.drop sz).take (s.size - sz) = (s.data.toList.drop sz).toArray.toList
    rw [List.take_of_length_le (by rw [List.length_drop, size_list]; exact Nat.le_refl _)]
  rw [e2, str_append, ← h, List.take_append_drop, txt_mk]
/-- What reading s as a number leaves. -/
theorem key_uint (s : ByteArray) (hs : s.size ≤ 4096) : ∃ (v : Nat) (L : ByteArray) (f : Nat),
    (∀ u r, IsR u r s 0 → Calls Try.prog 18 #[.pointer (some ⟨r, 0, none⟩), .int .u64 18446744073709551615] u fun e w' => e = .returned (.int .u64 (v : Int)) ∧ IsR w' r L f ∧ Mod r u w') ∧
    ((f = 0 ∧ ∃ WA RA : ByteArray, Hid (∀ u : World, Calls Try.prog 12 #[.slice (some ⟨u.heap.size, 0, none⟩) 1 1] (u.alloc (.cells #[.int .u64 (v : Int)] 29)) fun e w' => e = .returned (.string WA) ∧ Ext u w') ∧ Hid (∀ u : World, Calls Try.prog 27 #[.string s, .int .i64 (L.size : Int)] u fun e w' => e = .returned (.string RA) ∧ u = w') ∧ WA ++ RA = s ∧ WA.size ≤ 5000 ∧ RA.size ≤ 5000) ∨ ((f : Int) == 0) = false) := by
  have e0 : ((18446744073709551615 : Nat) : Int) = 18446744073709551615 := by omega
  rcases numR_or s.data.toList with ⟨v, sz, h, h1, h2, h3, h4, h5⟩ | h | h
  · rw [size_list] at h5
    refine ⟨v, s.extract sz s.size, 0, fun u r hr => ?_, .inl ⟨rfl, _, _, Lib.hid (one_uint v h2), Lib.hid (fun u => rest_any s _ (by simp) (by omega) u), front_rest s _ sz h1 h5, by rw [txt_size]; have := wn_length v; omega, by simp; omega⟩⟩
    have := Uint_ok u r s hr (by omega) 18446744073709551615 v sz h (by omega)
    rw [e0] at this
    exact this
  · exact ⟨0, s, 6, fun u r hr => Uint_bad u r s hr (by omega) _ 6 h (by decide), .inr (by decide)⟩
  · exact ⟨0, s, 7, fun u r hr => Uint_bad u r s hr (by omega) _ 7 h (by decide), .inr (by decide)⟩
theorem key_int (s : ByteArray) (hs : s.size ≤ 4096) : ∃ (v : Int) (L : ByteArray) (f : Nat),
    (∀ u r, IsR u r s 0 → Calls Try.prog 21 #[.pointer (some ⟨r, 0, none⟩), .int .i64 (-9223372036854775808), .int .i64 9223372036854775807] u fun e w' => e = .returned (.int .i64 v) ∧ IsR w' r L f ∧ Mod r u w') ∧
    ((f = 0 ∧ ∃ WA RA : ByteArray, Hid (∀ u : World, Calls Try.prog 13 #[.slice (some ⟨u.heap.size, 0, none⟩) 1 1] (u.alloc (.cells #[.int .i64 v] 2)) fun e w' => e = .returned (.string WA) ∧ Ext u w') ∧ Hid (∀ u : World, Calls Try.prog 27 #[.string s, .int .i64 (L.size : Int)] u fun e w' => e = .returned (.string RA) ∧ u = w') ∧ WA ++ RA = s ∧ WA.size ≤ 5000 ∧ RA.size ≤ 5000) ∨ ((f : Int) == 0) = false) := by
  rcases numR_or s.data.toList with ⟨v, sz, h, h1, h2, h3, h4, h5⟩ | h | h
  · rw [size_list] at h5
    have hz := zag_range v h2
    refine ⟨zag v, s.extract sz s.size, 0, fun u r hr => Int_ok u r s hr (by omega) _ _ v sz h hz.1 hz.2, .inl ⟨rfl, _, _, Lib.hid (one_int (zag v) hz), Lib.hid (fun u => rest_any s _ (by simp) (by omega) u), ?_, by rw [txt_size]; have := wn_length (zig (zag v)); omega, by simp; omega⟩⟩
    rw [zig_zag]
    exact front_rest s _ sz h1 h5
  · exact ⟨0, s, 6, fun u r hr => Int_bad u r s hr (by omega) _ _ 6 h (by decide), .inr (by decide)⟩
  · exact ⟨0, s, 7, fun u r hr => Int_bad u r s hr (by omega) _ _ 7 h (by decide), .inr (by decide)⟩
theorem key_text (s : ByteArray) (hs : s.size ≤ 4096) : ∃ (v L : ByteArray) (f : Nat),
    (∀ u r, IsR u r s 0 → Calls Try.prog 23 #[.pointer (some ⟨r, 0, none⟩), .int .i64 4096] u fun e w' => e = .returned (.string v) ∧ IsR w' r L f ∧ Mod r u w') ∧
    ((f = 0 ∧ ∃ WA RA : ByteArray, Hid (∀ u : World, Calls Try.prog 14 #[.slice (some ⟨u.heap.size, 0, none⟩) 1 1] (u.alloc (.cells #[.string v] 9)) fun e w' => e = .returned (.string WA) ∧ Ext u w') ∧ Hid (∀ u : World, Calls Try.prog 27 #[.string s, .int .i64 (L.size : Int)] u fun e w' => e = .returned (.string RA) ∧ u = w') ∧ WA ++ RA = s ∧ WA.size ≤ 5000 ∧ RA.size ≤ 5000) ∨ ((f : Int) == 0) = false) := by
  rcases lenR_or s.data.toList 4096 with ⟨v, sz, h, hn, h1, h2⟩ | h | h | h
  · rw [size_list] at h2
    obtain ⟨hw, _, _, _, _⟩ := numR_from _ _ _ hn
    refine ⟨s.extract sz (sz + v), s.extract (sz + v) s.size, 0, fun u r hr => Text_ok u r s hr (by omega) 4096 v sz (by decide) (by decide) h h2, .inl ⟨rfl, _, _, Lib.hid (one_text _ (by simp; omega)), Lib.hid (fun u => rest_any s _ (by simp) (by omega) u), ?_, by rw [txt_size, wt_length]; have := wn_length (s.extract sz (sz + v)).size; simp at this ⊢; omega, by simp; omega⟩⟩
    refine front_rest s _ (sz + v) ?_ h2
    have e1 : (s.extract sz (sz + v)).size = v := by simp; omega
    have e2 : (s.extract sz (sz + v)).data.toList = (s.data.toList.drop sz).take v := by rw [Lib.extract_data]; congr 1; omega
    unfold wt
    rw [e1, e2, ← hw]
    rw [List.take_add]
  · exact ⟨⟨#[]⟩, s, 5, fun u r hr => Text_bad u r s hr (by omega) _ 5 (by decide) (by decide) h (by decide), .inr (by decide)⟩
  · exact ⟨⟨#[]⟩, s, 6, fun u r hr => Text_bad u r s hr (by omega) _ 6 (by decide) (by decide) h (by decide), .inr (by decide)⟩
  · exact ⟨⟨#[]⟩, s, 7, fun u r hr => Text_bad u r s hr (by omega) _ 7 (by decide) (by decide) h (by decide), .inr (by decide)⟩
/-- No number's bytes begin with another one's. -/
theorem apart (x y : Nat) (hx : x < 18446744073709551616) (hy : y < 18446744073709551616) (hxy : ¬ x = y) : ¬ (⟨(wn y).toArray⟩ : ByteArray).extract 0 (wn x).length = ⟨(wn x).toArray⟩ := by
  intro h
  rw [txt_extract] at h
  have h2 : (wn y).take (wn x).length = wn x := by
    have := congrArg (fun b : ByteArray => b.data.toList) h
    simpa using this
  have h3 : wn y ++ [] = wn x ++ (wn y).drop (wn x).length := by
    rw [List.append_nil]
    conv => lhs; rw [← List.take_append_drop (wn x).length (wn y), h2]
  exact hxy (wn_inj y x _ _ hy hx h3).1.symm
end Go.Proofs.Ytcmmcaoidmldkaa
