/- Contracts: whether texts are the same, by the program. Contracts: which tags are right, by the program. Contracts: tags of texts handed in a new row, by the program. -/
import Derived.Test.YtdnpgmoiapkhnaaDoorM17
import Derived.Test.YtdnpgmoiapkhnaaDoorM35
section
namespace Go.Proofs.YtdnpgmoiapkhnaaDoor
open Go.RowKit

/-! ### Equal -/
theorem sizes_of {a b : ByteArray} (h : a = b) : a.size = b.size := by rw [h]
theorem or_zero (x y : UInt8) : (x ||| y = 0) ↔ x = 0 ∧ y = 0 := by
  constructor
  · intro h
    have h2 := congrArg UInt8.toNat h
    rw [UInt8.toNat_or] at h2
    have l1 : x.toNat ≤ x.toNat ||| y.toNat := Nat.left_le_or
    have l2 : y.toNat ≤ x.toNat ||| y.toNat := Nat.right_le_or
    have z : (0 : UInt8).toNat = 0 := rfl
    exact ⟨UInt8.toNat_inj.1 (by omega), UInt8.toNat_inj.1 (by omega)⟩
  · rintro ⟨rfl, rfl⟩; rfl
theorem xor_zero (x y : UInt8) : (x ^^^ y = 0) ↔ x = y := by
  constructor
  · intro h
    have : x ^^^ y ^^^ y = y := by rw [h]; simp
    rwa [UInt8.xor_assoc, UInt8.xor_self, UInt8.xor_zero] at this
  · rintro rfl; simp
/-- What is unlike among the first j bytes, put together. -/
def unl (a b : List UInt8) : Nat → UInt8
  | 0 => 0
  | j + 1 => unl a b j ||| (a.getD j 0 ^^^ b.getD j 0)
theorem unl_zero (a b : List UInt8) : ∀ j, unl a b j = 0 ↔ ∀ i, i < j → a.getD i 0 = b.getD i 0
  | 0 => by simp [unl]
  | j + 1 => by
    rw [unl, or_zero, unl_zero a b j, xor_zero]
    constructor
    · rintro ⟨h1, h2⟩ i hi
      rcases Nat.lt_or_eq_of_le (Nat.le_of_lt_succ hi) with h | rfl
      · exact h1 i h
      · exact h2
    · exact fun h => ⟨fun i hi => h i (by omega), h j (by omega)⟩
theorem unl_same {a b : ByteArray} (hab : a.size = b.size) : unl a.data.toList b.data.toList a.size = 0 ↔ a = b := by
  rw [unl_zero]
  constructor
  · intro h
    have e : a.data.toList = b.data.toList := by
      apply List.ext_getElem (by rw [size_list, size_list, hab])
      intro i h1 h2
      have := h i (by rw [← size_list]; exact h1)
      rwa [List.getD_eq_getElem?_getD, List.getD_eq_getElem?_getD, List.getElem?_eq_getElem h1, List.getElem?_eq_getElem h2] at this
    cases a; cases b
    congr
    exact Array.toList_inj.1 e
  · rintro rfl i _; rfl
theorem getD_byte (a : ByteArray) (j : Nat) (h : j < a.size) : a.data.toList.getD j 0 = a[j] := by
  rw [List.getD_eq_getElem?_getD, byte_at a j h]; rfl
theorem unl_step {a b : ByteArray} {j : Nat} (h1 : j < a.size) (h2 : j < b.size) :
    bits BinOp.or IntKind.u8 ((unl a.data.toList b.data.toList j).toNat : Int) (bits BinOp.xor IntKind.u8 (a[j].toNat : Int) (b[j].toNat : Int)) = ((unl a.data.toList b.data.toList (j + 1)).toNat : Int) := by
  rw [xor_byte, u8_or_nat _ _ (UInt8.toNat_lt _) (UInt8.toNat_lt _), unl, getD_byte a j h1, getD_byte b j h2, UInt8.toNat_or]

theorem unl_test {a b : ByteArray} (hab : a.size = b.size) : (((unl a.data.toList b.data.toList a.size).toNat : Int) == 0) = decide (a = b) := by
  have h := unl_same hab
  by_cases e : a = b
  · rw [h.2 e]; simp [e]
  · have : unl a.data.toList b.data.toList a.size ≠ 0 := fun h0 => e (h.1 h0)
    have : (unl a.data.toList b.data.toList a.size).toNat ≠ 0 := fun h0 => this (UInt8.toNat_inj.1 h0)
    simp [e]; omega
theorem equal_like (a b : ByteArray) (hab : a.size = b.size) (ha : a.size ≤ 140737488351232) (w : World) :
    Calls Tryd.prog 66 #[.string a, .string b] w fun e w' => e = .returned (.bool (decide (a = b))) ∧ Ext w w' := by
  have hne : ((a.size : Int) != (b.size : Int)) = false := by rw [hab]; simp
  have Hab := Lib.hid hab; clear hab
  go_enter Tryd.func66, Tryd.ntmps66
  go_wp2
  go_loopw [5, 14] (fun u i wr => ∃ j : Nat, j ≤ a.size ∧ i = .int .i64 j ∧ u = .int .u8 ((unl a.data.toList b.data.toList j).toNat : Int) ∧ Ext w wr) (fun _ i _ => a.size - (intOf i).toNat)
  case atStart => exact ⟨0, Nat.zero_le _, rfl, rfl, Ext.refl w⟩
  case round =>
    obtain ⟨j, hj, rfl, rfl, hext⟩ := hrel
    by_cases hlt : j < a.size
    · have hlt2 : j < b.size := by have := Hab.out; omega
      have hval := unl_step hlt hlt2
      have Hval := Lib.hid hval; clear hval
      go_wp2
      go_region
      go_wp2
      go_roundw
      case rel => exact ⟨j + 1, by omega, by go_num, int_eq Hval.out, hext.drew⟩
      case measure => simp [intOf]; omega
    · obtain rfl : j = a.size := by omega
      have Hv := Lib.hid (unl_test Hab.out)
      generalize unl a.data.toList b.data.toList a.size = x at *
      go_wp2
      go_ret
      exact ⟨congrArg (fun t => Ending.returned (.bool t)) Hv.out, hext⟩
theorem equal_not (a b : ByteArray) (hab : ¬ a.size = b.size) (w : World) :
    Calls Tryd.prog 66 #[.string a, .string b] w fun e w' => e = .returned (.bool false) ∧ Ext w w' := by
  have hne : ((a.size : Int) != (b.size : Int)) = true := by simp; omega
  go_enter Tryd.func66, Tryd.ntmps66
  go_wp2
  go_ret
  exact ⟨rfl, Ext.refl _⟩
end Go.Proofs.YtdnpgmoiapkhnaaDoor
end

section
namespace Go.Proofs.YtdnpgmoiapkhnaaDoor
open Go.RowKit

/-- Whether t is right for the tag m. -/
def chk (t m : List UInt8) : Bool := decide (16 ≤ t.length ∧ t.length ≤ 32 ∧ t = m.take t.length)
theorem chk_short {t m : List UInt8} (h : t.length < 16) : chk t m = false := by unfold chk; simp; omega
theorem chk_long {t m : List UInt8} (h : 32 < t.length) : chk t m = false := by unfold chk; simp; omega
theorem str_eq (a : ByteArray) (l : List UInt8) : a = ⟨l.toArray⟩ ↔ a.data.toList = l := by
  constructor
  · rintro rfl; rfl
  · intro h
    cases a
    simp only [ByteArray.mk.injEq]
    exact Array.toList_inj.1 h
theorem chk_fit {t : ByteArray} {m : List UInt8} (h16 : 16 ≤ t.size) (h32 : t.size ≤ 32) : decide (t = ⟨(m.take t.size).toArray⟩) = chk t.data.toList m := by
  unfold chk
  rw [size_list]
  simp [str_eq, h16, h32]
theorem equal_cut (tag : ByteArray) (m : List UInt8) (hm : m.length = 32) (h16 : 16 ≤ tag.size) (h32 : tag.size ≤ 32) (w : World) :
    Calls Tryd.prog 66 #[.string tag, .string ⟨(m.take tag.size).toArray⟩] w fun e w' => e = .returned (.bool (chk tag.data.toList m)) ∧ Ext w w' := by
  have h := equal_like tag ⟨(m.take tag.size).toArray⟩ (by show tag.size = ByteArray.size ⟨(m.take tag.size).toArray⟩; rw [txt_size (m.take tag.size), List.length_take]; omega) (by omega) w
  rw [chk_fit h16 h32] at h
  exact h
theorem eq_comm_dec (a b : ByteArray) : decide (a = b) = decide (b = a) := by
  by_cases h : a = b
  · simp [h]
  · simp [h, Ne.symm h]
set_option maxRecDepth 100000 in
theorem Check_any (w : World) (key tag : ByteArray) (v : Value) (l : List ByteArray) (hL : Laid w) (hk : key.size ≤ 1099511627776) (ht : tag.size ≤ 140737488351232) (hT : TextsV w v l) (hs : (joinL l).length ≤ 1099511627776) :
    Calls Tryd.prog 47 #[.string key, .string tag, v] w fun e w' => e = .returned (.bool (chk tag.data.toList (macL key.data.toList (joinL l)))) ∧ Ext w w' := by
  by_cases h16 : tag.size < 16
  · rw [chk_short (by rw [size_list]; exact h16)]
    go_enter Tryd.func47, Tryd.ntmps47
    go_wp2
    go_ret
    exact ⟨rfl, Ext.refl _⟩
  · by_cases h32 : 32 < tag.size
    · rw [chk_long (by rw [size_list]; exact h32)]
      have HC := Lib.hid (fun u => Cut_no u key tag.size v (.inr (by omega)))
      go_enter Tryd.func47, Tryd.ntmps47
      go_wp2_with (go_at_call 65; refine (HC.out _).mono ?_; rintro e w1 ⟨rfl, rfl⟩)
      go_ret
      exact ⟨rfl, Ext.refl _⟩
    · have HC := Lib.hid (fun u (hu : Ext w u) => Cut_yes u key tag.size v l (hL.ext hu) hk (hT.ext hu) hs (by omega) (by omega))
      have HE := Lib.hid (equal_cut tag (macL key.data.toList (joinL l)) (macL_length _ _) (by omega) (by omega))
      clear hL hT
      generalize (⟨((macL key.data.toList (joinL l)).take tag.size).toArray⟩ : ByteArray) = C at *
      go_enter Tryd.func47, Tryd.ntmps47
      go_wp2_with (first
        | (go_at_call 65; refine (HC.out _ (Ext.refl w)).mono ?_; rintro e w1 ⟨rfl, h1⟩)
        | (go_at_call 66; refine (HE.out _).mono ?_; rintro e w2 ⟨rfl, h2⟩))
      go_ret
      exact ⟨rfl, h1.trans h2⟩
end Go.Proofs.YtdnpgmoiapkhnaaDoor
end

section
namespace Go.Proofs.YtdnpgmoiapkhnaaDoor
open Go.RowKit

theorem texts_lit (w : World) (l : List ByteArray) (t : TypeId) : Texts (w.alloc (.cells (l.map Value.string).toArray t)) ⟨w.heap.size, 0, none⟩ l := by
  refine fun i v hv => ⟨by simp, ?_⟩
  rw [Addr.add_mid]
  rw [cell_of_row _ _ _ _ _ _ (heap_alloc_new w _)]
  simp [hv]
theorem textsV_lit (w : World) (l : List ByteArray) (t : TypeId) (g : Nat) (hg : g = w.heap.size) (hn : l.length ≤ 100) : TextsV (w.alloc (.cells (l.map Value.string).toArray t)) (.slice (some ⟨g, 0, none⟩) l.length l.length) l := by
  subst hg
  exact .inr ⟨_, _, rfl, texts_lit w l t, by omega⟩
theorem Of_lit (key : ByteArray) (l : List ByteArray) (t : TypeId) (u : World) (g : Nat) (hg : g = u.heap.size) (hL : Laid u) (hk : key.size ≤ 1099511627776) (hn : l.length ≤ 100) (hs : (joinL l).length ≤ 1099511627776) :
    Calls Tryd.prog 41 #[.string key, .slice (some ⟨g, 0, none⟩) l.length l.length] (u.alloc (.cells (l.map Value.string).toArray t)) fun e w' => e = .returned (.string ⟨(macL key.data.toList (joinL l)).toArray⟩) ∧ Ext u w' :=
  (Of_mac _ key _ l (hL.ext ((Ext.refl u).alloc _)) hk (textsV_lit u l t g hg hn) hs).mono fun _ _ he => ⟨he.1, ((Ext.refl u).alloc _).trans he.2⟩
theorem Of_lit_drew (key : ByteArray) (l : List ByteArray) (t : TypeId) (u : World) (g : Nat) (hg : g = u.heap.size) (hL : Laid u) (hk : key.size ≤ 1099511627776) (hn : l.length ≤ 100) (hs : (joinL l).length ≤ 1099511627776) :
    Calls Tryd.prog 41 #[.string key, .slice (some ⟨g, 0, none⟩) l.length l.length] (u.alloc (.cells (l.map Value.string).toArray t)).drew fun e w' => e = .returned (.string ⟨(macL key.data.toList (joinL l)).toArray⟩) ∧ Ext u w' := by
  have hx : Ext u (u.alloc (.cells (l.map Value.string).toArray t)).drew := ((Ext.refl u).alloc _).drew
  have hy : Ext (u.alloc (.cells (l.map Value.string).toArray t)) (u.alloc (.cells (l.map Value.string).toArray t)).drew := (Ext.refl _).drew
  exact (Of_mac _ key _ l (hL.ext hx) hk ((textsV_lit u l t g hg hn).ext hy) hs).mono fun _ _ he => ⟨he.1, hx.trans he.2⟩
theorem Check_lit (key tag : ByteArray) (l : List ByteArray) (t : TypeId) (u : World) (g : Nat) (hg : g = u.heap.size) (hL : Laid u) (hk : key.size ≤ 1099511627776) (ht : tag.size ≤ 140737488351232) (hn : l.length ≤ 100) (hs : (joinL l).length ≤ 1099511627776) :
    Calls Tryd.prog 47 #[.string key, .string tag, .slice (some ⟨g, 0, none⟩) l.length l.length] (u.alloc (.cells (l.map Value.string).toArray t)) fun e w' => e = .returned (.bool (chk tag.data.toList (macL key.data.toList (joinL l)))) ∧ Ext u w' :=
  (Check_any _ key tag _ l (hL.ext ((Ext.refl u).alloc _)) hk ht (textsV_lit u l t g hg hn) hs).mono fun _ _ he => ⟨he.1, ((Ext.refl u).alloc _).trans he.2⟩
theorem joinL_split (s : ByteArray) (i : Nat) : joinL [s.extract 0 i, s.extract i s.size] = s.data.toList := by
  rw [joinL_pair, Lib.extract_data, Lib.extract_data]
  simp only [Nat.sub_zero, List.drop_zero]
  rw [List.take_of_length_le (l := s.data.toList.drop i) (by rw [List.length_drop, size_list]; omega), List.take_append_drop]
theorem joinL_split4 (s : ByteArray) (i : Nat) : joinL [⟨#[]⟩, s.extract 0 i, ⟨#[]⟩, s.extract i s.size] = s.data.toList := by
  have h := joinL_split s i
  simp only [joinL, List.flatMap_cons, List.flatMap_nil] at h ⊢
  simpa using h
/-- A tag in which a byte is another one. -/
theorem chk_turned (m : List UInt8) (q : Nat) (b z : UInt8) (hb : m[q]? = some b) (hz : z ≠ 0) (hm : m.length = 32) : chk (m.set q (b ^^^ z)) m = false := by
  unfold chk
  rw [List.length_set, hm, ← hm, List.take_length]
  simp only [decide_eq_false_iff_not]
  rintro ⟨_, _, e⟩
  have hq : q < m.length := (List.getElem?_eq_some_iff.1 hb).1
  have h1 : (m.set q (b ^^^ z))[q]? = some (b ^^^ z) := by simp [hq]
  rw [e, hb] at h1
  have h2 := Option.some.inj h1
  apply hz
  have h3 : b ^^^ b = b ^^^ (b ^^^ z) := by rw [← h2]
  rw [UInt8.xor_self, ← UInt8.xor_assoc, UInt8.xor_self, UInt8.zero_xor] at h3
  exact h3.symm
theorem or_one_ne (y : UInt8) : y ||| 1 ≠ 0 := by
  intro h
  have := (or_zero y 1).1 h
  exact absurd this.2 (by decide)
theorem or_byte (y : UInt8) : bits BinOp.or IntKind.u8 (y.toNat : Int) 1 = ((y ||| 1).toNat : Int) := by
  have h : (1 : Int) = ((1 : UInt8).toNat : Int) := rfl
  rw [h, u8_or_nat _ _ y.toNat_lt (1 : UInt8).toNat_lt, UInt8.toNat_or]
theorem chk_take (m : List UInt8) (n : Nat) (hm : m.length = 32) (h16 : 16 ≤ n) (h32 : n ≤ 32) : chk (m.take n) m = true := by
  unfold chk
  have : (m.take n).length = n := by rw [List.length_take]; omega
  rw [this]
  simp [h16, h32]
end Go.Proofs.YtdnpgmoiapkhnaaDoor
end
