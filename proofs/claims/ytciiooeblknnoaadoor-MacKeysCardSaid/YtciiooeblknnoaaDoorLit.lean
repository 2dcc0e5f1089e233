/- Contracts: tags of texts handed in a new row, by the program. -/
import Derived.Test.YtciiooeblknnoaaDoorChk
namespace Go.Proofs.YtciiooeblknnoaaDoor
open Go.RowKit

theorem texts_lit (w : World) (l : List ByteArray) (t : TypeId) : Texts (w.alloc (.cells (l.map Value.string).toArray t)) ⟨w.heap.size, 0, none⟩ l := by
  refine fun i v hv => ⟨by simp, ?_⟩
  rw [Addr.add_mid]
  rw [cell_of_row _ _ _ _ _ _ (heap_alloc_new w _)]
  simp [hv]
theorem textsV_lit (w : World) (l : List ByteArray) (t : TypeId) (g : Nat) (hg : g = w.heap.size) (hn : l.length ≤ 100) : TextsV (w.alloc (.cells (l.map Value.string).toArray t)) (.slice (some ⟨g, 0, none⟩) l.length l.length) l := by
  subst hg
  exact .inr ⟨_, _, rfl, texts_lit w l t, by omega⟩
theorem Of_lit (key : ByteArray) (l : List ByteArray) (t : TypeId) (u : World) (g : Nat) (hg : g = u.heap.size) (hL : Laid u) (hk : key.size ≤ 1099511627776) (hn : l.length ≤ 100) (hs : (joinL l).length ≤ 1099511627776) :
    Calls Tryd.prog 11 #[.string key, .slice (some ⟨g, 0, none⟩) l.length l.length] (u.alloc (.cells (l.map Value.string).toArray t)) fun e w' => e = .returned (.string ⟨(macL key.data.toList (joinL l)).toArray⟩) ∧ Ext u w' :=
  (Of_mac _ key _ l (hL.ext ((Ext.refl u).alloc _)) hk (textsV_lit u l t g hg hn) hs).mono fun _ _ he => ⟨he.1, ((Ext.refl u).alloc _).trans he.2⟩
theorem Of_lit_drew (key : ByteArray) (l : List ByteArray) (t : TypeId) (u : World) (g : Nat) (hg : g = u.heap.size) (hL : Laid u) (hk : key.size ≤ 1099511627776) (hn : l.length ≤ 100) (hs : (joinL l).length ≤ 1099511627776) :
    Calls Tryd.prog 11 #[.string key, .slice (some ⟨g, 0, none⟩) l.length l.length] (u.alloc (.cells (l.map Value.string).toArray t)).drew fun e w' => e = .returned (.string ⟨(macL key.data.toList (joinL l)).toArray⟩) ∧ Ext u w' := by
  have hx : Ext u (u.alloc (.cells (l.map Value.string).toArray t)).drew := ((Ext.refl u).alloc _).drew
  have hy : Ext (u.alloc (.cells (l.map Value.string).toArray t)) (u.alloc (.cells (l.map Value.string).toArray t)).drew := (Ext.refl _).drew
  exact (Of_mac _ key _ l (hL.ext hx) hk ((textsV_lit u l t g hg hn).ext hy) hs).mono fun _ _ he => ⟨he.1, hx.trans he.2⟩
theorem Check_lit (key tag : ByteArray) (l : List ByteArray) (t : TypeId) (u : World) (g : Nat) (hg : g = u.heap.size) (hL : Laid u) (hk : key.size ≤ 1099511627776) (ht : tag.size ≤ 140737488351232) (hn : l.length ≤ 100) (hs : (joinL l).length ≤ 1099511627776) :
    Calls Tryd.prog 12 #[.string key, .string tag, .slice (some ⟨g, 0, none⟩) l.length l.length] (u.alloc (.cells (l.map Value.string).toArray t)) fun e w' => e = .returned (.bool (chk tag.data.toList (macL key.data.toList (joinL l)))) ∧ Ext u w' :=
  (Check_any _ key tag _ l (hL.ext ((Ext.refl u).alloc _)) hk ht (textsV_lit u l t g hg hn) hs).mono fun _ _ he => ⟨he.1, ((Ext.refl u).alloc _).trans he.2⟩
theorem joinL_split (s : ByteArray) (i : Nat) : joinL [s.extract 0 i, s.extract i s.size] = s.data.toList := by
  rw [joinL_pair, Lib.extract_data, Lib.extract_data]
  simp only [Nat.sub_zero, List.drop_zero]
  rw [List.take_of_length_le (l := s.data.toList.drop i) (by rw [List.length_drop, size_list]; omega), List.take_append_drop]
theorem joinL_split4 (s : ByteArray) (i : Nat) : joinL [⟨#[]⟩, s.extract 0 i, ⟨#[]⟩, s.extract i s.size] = s.data.toList := by
  have h := joinL_split s i
  simp only [joinL, List.flatMap_cons, List.flatMap_nil] at h ⊢
  simpa using h
/-- A tag in which a byte is another one. -/
theorem chk_turned (m : List UInt8) (q : Nat) (b z : UInt8) (hb : m[q]? = some b) (hz : z ≠ 0) (hm : m.length = 32) : chk (m.set q (b ^^^ z)) m = false := by
  unfold chk
  rw [List.length_set, hm, ← hm, List.take_length]
  simp only [decide_eq_false_iff_not]
  rintro ⟨_, _, e⟩
  have hq : q < m.length := (List.getElem?_eq_some_iff.1 hb).1
  have h1 : (m.set q (b ^^^ z))[q]? = some (b ^^^ z) := by simp [hq]
  rw [e, hb] at h1
  have h2 := Option.some.inj h1
  apply hz
  have h3 : b ^^^ b = b ^^^ (b ^^^ z) := by rw [← h2]
  rw [UInt8.xor_self, ← UInt8.xor_assoc, UInt8.xor_self, UInt8.zero_xor] at h3
  exact h3.symm
theorem or_one_ne (y : UInt8) : y ||| 1 ≠ 0 := by
  intro h
  have := (or_zero y 1).1 h
  exact absurd this.2 (by decide)
theorem or_byte (y : UInt8) : bits BinOp.or IntKind.u8 (y.toNat : Int) 1 = ((y ||| 1).toNat : Int) := by
  have h : (1 : Int) = ((1 : UInt8).toNat : Int) := rfl
  rw [h, u8_or_nat _ _ y.toNat_lt (1 : UInt8).toNat_lt, UInt8.toNat_or]
theorem chk_take (m : List UInt8) (n : Nat) (hm : m.length = 32) (h16 : 16 ≤ n) (h32 : n ≤ 32) : chk (m.take n) m = true := by
  unfold chk
  have : (m.take n).length = n := by rw [List.length_take]; omega
  rw [this]
  simp [h16, h32]
end Go.Proofs.YtciiooeblknnoaaDoor
