/- Contracts: a tag cut to its first bytes. Contracts: whether texts are the same, by the program. Contracts: which tags are right, by the program. Contracts: tags of texts handed in a new row, by the program. Contracts: envelopes: what an envelope's tag is of; its parts in a row; its bytes: by the program. -/
import Derived.Test.YtcjdnifckngcfaaGreatDoorM12
import Derived.Test.YtcjdnifckngcfaaGreatDoorM08
import Derived.Test.YtcjdnifckngcfaaGreatDoorM05
import Derived.Test.YtcjdnifckngcfaaGreatDoorM06
import Derived.Test.YtcjdnifckngcfaaGreatDoorM09
import Derived.Deep.RegionHeld3
section
namespace Go.Proofs.YtcjdnifckngcfaaGreatDoor
open Go.RowKit
theorem Of_mac (w : World) (key : ByteArray) (v : Value) (l : List ByteArray) (hL : Laid w) (hk : key.size ≤ 1099511627776) (hT : TextsV w v l) (hs : (joinL l).length ≤ 1099511627776) :
    Calls Tryz.prog 80 #[.string key, v] w fun e w' => e = .returned (.string ⟨(macL key.data.toList (joinL l)).toArray⟩) ∧ Ext w w' := by
  have HK := Lib.hid (keysOf_any key w hL hk)
  have HT := Lib.hid (fun u (hu : Ext w u) => tag_keys u v l key.data.toList (hL.ext hu) (hT.ext hu) hs)
  clear hL hT
  go_enter Tryz.func80, Tryz.ntmps80
  go_wp2_with (first
    | (go_at_call 115; refine (HK.out).mono ?_; rintro e w1 ⟨rfl, h1⟩)
    | (go_at_call 116; refine (HT.out _ h1).mono ?_; rintro e w2 ⟨rfl, h2⟩))
  go_ret
  exact ⟨rfl, h1.trans h2⟩
theorem cut_text (l : List UInt8) (n : Nat) : (⟨l.toArray⟩ : ByteArray).extract 0 n = ⟨(l.take n).toArray⟩ := by
  apply ByteArray.ext
  apply Array.toList_inj.1
  simp
theorem Cut_yes (w : World) (key : ByteArray) (n : Nat) (v : Value) (l : List ByteArray) (hL : Laid w) (hk : key.size ≤ 1099511627776) (hT : TextsV w v l) (hs : (joinL l).length ≤ 1099511627776) (h1 : 1 ≤ n) (h32 : n ≤ 32) :
    Calls Tryz.prog 122 #[.string key, .int .i64 (n : Int), v] w fun e w' => e = .returned (.tuple #[.string ⟨((macL key.data.toList (joinL l)).take n).toArray⟩, .bool true]) ∧ Ext w w' := by
  have HO := Lib.hid (Of_mac w key v l hL hk hT hs)
  have hz : ByteArray.size ⟨(macL key.data.toList (joinL l)).toArray⟩ = 32 := by rw [txt_size, macL_length]
  have HC := Lib.hid (cut_text (macL key.data.toList (joinL l)) n)
  clear hL hT
  generalize (⟨(macL key.data.toList (joinL l)).toArray⟩ : ByteArray) = T at *
  go_enter Tryz.func122, Tryz.ntmps122
  go_wp2_with (go_at_call 80; refine (HO.out).mono ?_; rintro e w1 ⟨rfl, h1⟩)
  go_ret2
  exact ⟨by rw [← HC.out]; rfl, h1⟩
theorem Cut_no (w : World) (key : ByteArray) (n : Int) (v : Value) (h : n < 1 ∨ 32 < n) :
    Calls Tryz.prog 122 #[.string key, .int .i64 n, v] w fun e w' => e = .returned (.tuple #[.string ⟨#[]⟩, .bool false]) ∧ w = w' := by
  go_enter Tryz.func122, Tryz.ntmps122
  rcases h with h | h
  · go_wp2
    go_ret2
    exact ⟨rfl, rfl⟩
  · by_cases h0 : n < 1
    · omega
    · go_wp2
      go_ret2
      exact ⟨rfl, rfl⟩
end Go.Proofs.YtcjdnifckngcfaaGreatDoor
end

section
namespace Go.Proofs.YtcjdnifckngcfaaGreatDoor
open Go.RowKit

/-! ### Equal -/
theorem sizes_of {a b : ByteArray} (h : a = b) : a.size = b.size := by rw [h]
theorem or_zero (x y : UInt8) : (x ||| y = 0) ↔ x = 0 ∧ y = 0 := by
  constructor
  · intro h
    have h2 := congrArg UInt8.toNat h
    rw [UInt8.toNat_or] at h2
    have l1 : x.toNat ≤ x.toNat ||| y.toNat := Nat.left_le_or
    have l2 : y.toNat ≤ x.toNat ||| y.toNat := Nat.right_le_or
    have z : (0 : UInt8).toNat = 0 := rfl
    exact ⟨UInt8.toNat_inj.1 (by omega), UInt8.toNat_inj.1 (by omega)⟩
  · rintro ⟨rfl, rfl⟩; rfl
theorem xor_zero (x y : UInt8) : (x ^^^ y = 0) ↔ x = y := by
  constructor
  · intro h
    have : x ^^^ y ^^^ y = y := by rw [h]; simp
    rwa [UInt8.xor_assoc, UInt8.xor_self, UInt8.xor_zero] at this
  · rintro rfl; simp
/-- What is unlike among the first j bytes, put together. -/
def unl (a b : List UInt8) : Nat → UInt8
  | 0 => 0
  | j + 1 => unl a b j ||| (a.getD j 0 ^^^ b.getD j 0)
theorem unl_zero (a b : List UInt8) : ∀ j, unl a b j = 0 ↔ ∀ i, i < j → a.getD i 0 = b.getD i 0
  | 0 => by simp [unl]
  | j + 1 => by
    rw [unl, or_zero, unl_zero a b j, xor_zero]
    constructor
    · rintro ⟨h1, h2⟩ i hi
      rcases Nat.lt_or_eq_of_le (Nat.le_of_lt_succ hi) with h | rfl
      · exact h1 i h
      · exact h2
    · exact fun h => ⟨fun i hi => h i (by omega), h j (by omega)⟩
theorem unl_same {a b : ByteArray} (hab : a.size = b.size) : unl a.data.toList b.data.toList a.size = 0 ↔ a = b := by
  rw [unl_zero]
  constructor
  · intro h
    have e : a.data.toList = b.data.toList := by
      apply List.ext_getElem (by rw [size_list, size_list, hab])
      intro i h1 h2
      have := h i (by rw [← size_list]; exact h1)
      rwa [List.getD_eq_getElem?_getD, List.getD_eq_getElem?_getD, List.getElem?_eq_getElem h1, List.getElem?_eq_getElem h2] at this
    cases a; cases b
    congr
    exact Array.toList_inj.1 e
  · rintro rfl i _; rfl
theorem getD_byte (a : ByteArray) (j : Nat) (h : j < a.size) : a.data.toList.getD j 0 = a[j] := by
  rw [List.getD_eq_getElem?_getD, byte_at a j h]; rfl
theorem unl_step {a b : ByteArray} {j : Nat} (h1 : j < a.size) (h2 : j < b.size) :
    bits BinOp.or IntKind.u8 ((unl a.data.toList b.data.toList j).toNat : Int) (bits BinOp.xor IntKind.u8 (a[j].toNat : Int) (b[j].toNat : Int)) = ((unl a.data.toList b.data.toList (j + 1)).toNat : Int) := by
  rw [xor_byte, u8_or_nat _ _ (UInt8.toNat_lt _) (UInt8.toNat_lt _), unl, getD_byte a j h1, getD_byte b j h2, UInt8.toNat_or]

theorem unl_test {a b : ByteArray} (hab : a.size = b.size) : (((unl a.data.toList b.data.toList a.size).toNat : Int) == 0) = decide (a = b) := by
  have h := unl_same hab
  by_cases e : a = b
  · rw [h.2 e]; simp [e]
  · have : unl a.data.toList b.data.toList a.size ≠ 0 := fun h0 => e (h.1 h0)
    have : (unl a.data.toList b.data.toList a.size).toNat ≠ 0 := fun h0 => this (UInt8.toNat_inj.1 h0)
    simp [e]; omega
theorem equal_like (a b : ByteArray) (hab : a.size = b.size) (ha : a.size ≤ 140737488351232) (w : World) :
    Calls Tryz.prog 123 #[.string a, .string b] w fun e w' => e = .returned (.bool (decide (a = b))) ∧ Ext w w' := by
  have hne : ((a.size : Int) != (b.size : Int)) = false := by rw [hab]; simp
  have Hab := Lib.hid hab; clear hab
  go_enter Tryz.func123, Tryz.ntmps123
  go_wp2
  go_loopw [5, 14] (fun u i wr => ∃ j : Nat, j ≤ a.size ∧ i = .int .i64 j ∧ u = .int .u8 ((unl a.data.toList b.data.toList j).toNat : Int) ∧ Ext w wr) (fun _ i _ => a.size - (intOf i).toNat)
  case atStart => exact ⟨0, Nat.zero_le _, rfl, rfl, Ext.refl w⟩
  case round =>
    obtain ⟨j, hj, rfl, rfl, hext⟩ := hrel
    by_cases hlt : j < a.size
    · have hlt2 : j < b.size := by have := Hab.out; omega
      have hval := unl_step hlt hlt2
      have Hval := Lib.hid hval; clear hval
      go_wp2
      go_region
      go_wp2
      go_roundw
      case rel => exact ⟨j + 1, by omega, by go_num, int_eq Hval.out, hext.drew⟩
      case measure => simp [intOf]; omega
    · obtain rfl : j = a.size := by omega
      have Hv := Lib.hid (unl_test Hab.out)
      generalize unl a.data.toList b.data.toList a.size = x at *
      go_wp2
      go_ret
      exact ⟨congrArg (fun t => Ending.returned (.bool t)) Hv.out, hext⟩
theorem equal_not (a b : ByteArray) (hab : ¬ a.size = b.size) (w : World) :
    Calls Tryz.prog 123 #[.string a, .string b] w fun e w' => e = .returned (.bool false) ∧ Ext w w' := by
  have hne : ((a.size : Int) != (b.size : Int)) = true := by simp; omega
  go_enter Tryz.func123, Tryz.ntmps123
  go_wp2
  go_ret
  exact ⟨rfl, Ext.refl _⟩
end Go.Proofs.YtcjdnifckngcfaaGreatDoor
end

section
namespace Go.Proofs.YtcjdnifckngcfaaGreatDoor
open Go.RowKit

/-- Whether t is right for the tag m. -/
def chk (t m : List UInt8) : Bool := decide (16 ≤ t.length ∧ t.length ≤ 32 ∧ t = m.take t.length)
theorem chk_short {t m : List UInt8} (h : t.length < 16) : chk t m = false := by unfold chk; simp; omega
theorem chk_long {t m : List UInt8} (h : 32 < t.length) : chk t m = false := by unfold chk; simp; omega
theorem str_eq (a : ByteArray) (l : List UInt8) : a = ⟨l.toArray⟩ ↔ a.data.toList = l := by
  constructor
  · rintro rfl; rfl
  · intro h
    cases a
    simp only [ByteArray.mk.injEq]
    exact Array.toList_inj.1 h
theorem chk_fit {t : ByteArray} {m : List UInt8} (h16 : 16 ≤ t.size) (h32 : t.size ≤ 32) : decide (t = ⟨(m.take t.size).toArray⟩) = chk t.data.toList m := by
  unfold chk
  rw [size_list]
  simp [str_eq, h16, h32]
theorem equal_cut (tag : ByteArray) (m : List UInt8) (hm : m.length = 32) (h16 : 16 ≤ tag.size) (h32 : tag.size ≤ 32) (w : World) :
    Calls Tryz.prog 123 #[.string tag, .string ⟨(m.take tag.size).toArray⟩] w fun e w' => e = .returned (.bool (chk tag.data.toList m)) ∧ Ext w w' := by
  have h := equal_like tag ⟨(m.take tag.size).toArray⟩ (by show tag.size = ByteArray.size ⟨(m.take tag.size).toArray⟩; rw [txt_size (m.take tag.size), List.length_take]; omega) (by omega) w
  rw [chk_fit h16 h32] at h
  exact h
theorem eq_comm_dec (a b : ByteArray) : decide (a = b) = decide (b = a) := by
  by_cases h : a = b
  · simp [h]
  · simp [h, Ne.symm h]
set_option maxRecDepth 100000 in
theorem Check_any (w : World) (key tag : ByteArray) (v : Value) (l : List ByteArray) (hL : Laid w) (hk : key.size ≤ 1099511627776) (ht : tag.size ≤ 140737488351232) (hT : TextsV w v l) (hs : (joinL l).length ≤ 1099511627776) :
    Calls Tryz.prog 88 #[.string key, .string tag, v] w fun e w' => e = .returned (.bool (chk tag.data.toList (macL key.data.toList (joinL l)))) ∧ Ext w w' := by
  by_cases h16 : tag.size < 16
  · rw [chk_short (by rw [size_list]; exact h16)]
    go_enter Tryz.func88, Tryz.ntmps88
    go_wp2
    go_ret
    exact ⟨rfl, Ext.refl _⟩
  · by_cases h32 : 32 < tag.size
    · rw [chk_long (by rw [size_list]; exact h32)]
      have HC := Lib.hid (fun u => Cut_no u key tag.size v (.inr (by omega)))
      go_enter Tryz.func88, Tryz.ntmps88
      go_wp2_with (go_at_call 122; refine (HC.out _).mono ?_; rintro e w1 ⟨rfl, rfl⟩)
      go_ret
      exact ⟨rfl, Ext.refl _⟩
    · have HC := Lib.hid (fun u (hu : Ext w u) => Cut_yes u key tag.size v l (hL.ext hu) hk (hT.ext hu) hs (by omega) (by omega))
      have HE := Lib.hid (equal_cut tag (macL key.data.toList (joinL l)) (macL_length _ _) (by omega) (by omega))
      clear hL hT
      generalize (⟨((macL key.data.toList (joinL l)).take tag.size).toArray⟩ : ByteArray) = C at *
      go_enter Tryz.func88, Tryz.ntmps88
      go_wp2_with (first
        | (go_at_call 122; refine (HC.out _ (Ext.refl w)).mono ?_; rintro e w1 ⟨rfl, h1⟩)
        | (go_at_call 123; refine (HE.out _).mono ?_; rintro e w2 ⟨rfl, h2⟩))
      go_ret
      exact ⟨rfl, h1.trans h2⟩
end Go.Proofs.YtcjdnifckngcfaaGreatDoor
end

section
namespace Go.Proofs.YtcjdnifckngcfaaGreatDoor
open Go.RowKit

theorem texts_lit (w : World) (l : List ByteArray) (t : TypeId) : Texts (w.alloc (.cells (l.map Value.string).toArray t)) ⟨w.heap.size, 0, none⟩ l := by
  refine fun i v hv => ⟨by simp, ?_⟩
  rw [Addr.add_mid]
  rw [cell_of_row _ _ _ _ _ _ (heap_alloc_new w _)]
  simp [hv]
theorem textsV_lit (w : World) (l : List ByteArray) (t : TypeId) (g : Nat) (hg : g = w.heap.size) (hn : l.length ≤ 100) : TextsV (w.alloc (.cells (l.map Value.string).toArray t)) (.slice (some ⟨g, 0, none⟩) l.length l.length) l := by
  subst hg
  exact .inr ⟨_, _, rfl, texts_lit w l t, by omega⟩
theorem Of_lit (key : ByteArray) (l : List ByteArray) (t : TypeId) (u : World) (g : Nat) (hg : g = u.heap.size) (hL : Laid u) (hk : key.size ≤ 1099511627776) (hn : l.length ≤ 100) (hs : (joinL l).length ≤ 1099511627776) :
    Calls Tryz.prog 80 #[.string key, .slice (some ⟨g, 0, none⟩) l.length l.length] (u.alloc (.cells (l.map Value.string).toArray t)) fun e w' => e = .returned (.string ⟨(macL key.data.toList (joinL l)).toArray⟩) ∧ Ext u w' :=
  (Of_mac _ key _ l (hL.ext ((Ext.refl u).alloc _)) hk (textsV_lit u l t g hg hn) hs).mono fun _ _ he => ⟨he.1, ((Ext.refl u).alloc _).trans he.2⟩
theorem Of_lit_drew (key : ByteArray) (l : List ByteArray) (t : TypeId) (u : World) (g : Nat) (hg : g = u.heap.size) (hL : Laid u) (hk : key.size ≤ 1099511627776) (hn : l.length ≤ 100) (hs : (joinL l).length ≤ 1099511627776) :
    Calls Tryz.prog 80 #[.string key, .slice (some ⟨g, 0, none⟩) l.length l.length] (u.alloc (.cells (l.map Value.string).toArray t)).drew fun e w' => e = .returned (.string ⟨(macL key.data.toList (joinL l)).toArray⟩) ∧ Ext u w' := by
  have hx : Ext u (u.alloc (.cells (l.map Value.string).toArray t)).drew := ((Ext.refl u).alloc _).drew
  have hy : Ext (u.alloc (.cells (l.map Value.string).toArray t)) (u.alloc (.cells (l.map Value.string).toArray t)).drew := (Ext.refl _).drew
  exact (Of_mac _ key _ l (hL.ext hx) hk ((textsV_lit u l t g hg hn).ext hy) hs).mono fun _ _ he => ⟨he.1, hx.trans he.2⟩
theorem Check_lit (key tag : ByteArray) (l : List ByteArray) (t : TypeId) (u : World) (g : Nat) (hg : g = u.heap.size) (hL : Laid u) (hk : key.size ≤ 1099511627776) (ht : tag.size ≤ 140737488351232) (hn : l.length ≤ 100) (hs : (joinL l).length ≤ 1099511627776) :
    Calls Tryz.prog 88 #[.string key, .string tag, .slice (some ⟨g, 0, none⟩) l.length l.length] (u.alloc (.cells (l.map Value.string).toArray t)) fun e w' => e = .returned (.bool (chk tag.data.toList (macL key.data.toList (joinL l)))) ∧ Ext u w' :=
  (Check_any _ key tag _ l (hL.ext ((Ext.refl u).alloc _)) hk ht (textsV_lit u l t g hg hn) hs).mono fun _ _ he => ⟨he.1, ((Ext.refl u).alloc _).trans he.2⟩
theorem joinL_split (s : ByteArray) (i : Nat) : joinL [s.extract 0 i, s.extract i s.size] = s.data.toList := by
  rw [joinL_pair, Lib.extract_data, Lib.extract_data]
  simp only [Nat.sub_zero, List.drop_zero]
  rw [List.take_of_length_le (l := s.data.toList.drop i) (by rw [List.length_drop, size_list]; omega), List.take_append_drop]
theorem joinL_split4 (s : ByteArray) (i : Nat) : joinL [⟨#[]⟩, s.extract 0 i, ⟨#[]⟩, s.extract i s.size] = s.data.toList := by
  have h := joinL_split s i
  simp only [joinL, List.flatMap_cons, List.flatMap_nil] at h ⊢
  simpa using h
/-- A tag in which a byte is another one. -/
theorem chk_turned (m : List UInt8) (q : Nat) (b z : UInt8) (hb : m[q]? = some b) (hz : z ≠ 0) (hm : m.length = 32) : chk (m.set q (b ^^^ z)) m = false := by
  unfold chk
  rw [List.length_set, hm, ← hm, List.take_length]
  simp only [decide_eq_false_iff_not]
  rintro ⟨_, _, e⟩
  have hq : q < m.length := (List.getElem?_eq_some_iff.1 hb).1
  have h1 : (m.set q (b ^^^ z))[q]? = some (b ^^^ z) := by simp [hq]
  rw [e, hb] at h1
  have h2 := Option.some.inj h1
  apply hz
  have h3 : b ^^^ b = b ^^^ (b ^^^ z) := by rw [← h2]
  rw [UInt8.xor_self, ← UInt8.xor_assoc, UInt8.xor_self, UInt8.zero_xor] at h3
  exact h3.symm
theorem or_one_ne (y : UInt8) : y ||| 1 ≠ 0 := by
  intro h
  have := (or_zero y 1).1 h
  exact absurd this.2 (by decide)
theorem or_byte (y : UInt8) : bits BinOp.or IntKind.u8 (y.toNat : Int) 1 = ((y ||| 1).toNat : Int) := by
  have h : (1 : Int) = ((1 : UInt8).toNat : Int) := rfl
  rw [h, u8_or_nat _ _ y.toNat_lt (1 : UInt8).toNat_lt, UInt8.toNat_or]
theorem chk_take (m : List UInt8) (n : Nat) (hm : m.length = 32) (h16 : 16 ≤ n) (h32 : n ≤ 32) : chk (m.take n) m = true := by
  unfold chk
  have : (m.take n).length = n := by rw [List.length_take]; omega
  rw [this]
  simp [h16, h32]
end Go.Proofs.YtcjdnifckngcfaaGreatDoor
end

section
namespace Go.Proofs.YtcjdnifckngcfaaGreatDoor
open Go.RowKit

theorem infoS14 : (Tryz.prog.info? 9).map (fun i => (i.zero, i.size, i.bytes)) = some (some (.string ⟨#[]⟩), 1, 16) := by kernel_rfl
theorem strs_one (l : List ByteArray) : ∀ u ∈ l.map Value.string, u.oneCell' = true := by
  intro u hu
  obtain ⟨_, _, rfl⟩ := List.mem_map.1 hu
  rfl
theorem Sl.textsR {w : World} {κ : Foot} {k n c g : Nat} {l : List ByteArray} (h : Sl w κ k 1 9 (some ⟨g, 0, none⟩) n c (l.map Value.string)) : Texts w ⟨g, 0, none⟩ l := by
  intro i s hs
  obtain ⟨g', e, hlt, _, hc, _⟩ := h.cell (j := i) (u := .string s) (by rw [List.getElem?_map, hs]; rfl)
  cases e
  refine ⟨hlt, ?_⟩
  rw [Addr.add_mid, Nat.zero_add]
  exact hc
/-- append of texts to a slice of texts without room. -/
theorem run_app_texts {v w : World} {g g2 : Nat} {l l2 : List ByteArray} (hv : Ext v w) (hg : v.heap.size ≤ g) (hb : Blk w g 9 (l.map Value.string)) (hb2 : Blk w g2 9 (l2.map Value.string)) (hl : l.length ≤ 1000) (hl2 : l2.length ≤ 1000) (ty : TypeId) :
    ∃ g' c' w', (Builtin.append_ #[35, 35] ty #[.slice (some ⟨g, 0, none⟩) l.length l.length, .slice (some ⟨g2, 0, none⟩) l2.length l2.length]).run Tryz.prog w = .ok (.slice (some ⟨g', 0, none⟩) (l.length + l2.length) c') w' ∧ Texts w' ⟨g', 0, none⟩ (l ++ l2) ∧ l.length + l2.length ≤ c' ∧ Ext v w' := by
  have hs : Sl w (kp (some ⟨g, 0, none⟩)) 1 1 9 (some ⟨g, 0, none⟩) l.length l.length (l.map Value.string) := Sl.ofBlkR hb (by simp) (by simp [kp])
  have hsrc : Src Tryz.prog 1 35 (.slice (some ⟨g2, 0, none⟩) l2.length l2.length) l2.length (l2.map Value.string) w := (Sl.ofBlkR (κ := fun _ => 0) (z := 1) hb2 (by simp) rfl).src Tryz.underlying35 (strs_one l2)
  obtain ⟨p', c', w', κ', hr, hsl, hf, hp, _, _⟩ := run_append_sl hs 35 35 ty _ _ Tryz.underlying35 infoS14 rfl _ _ _ hsrc (strs_one l) (by omega) (by decide)
  obtain ⟨g', rfl⟩ : ∃ g', p' = some ⟨g', 0, none⟩ := by
    rcases hp with e | e
    · exact ⟨_, e⟩
    · exact ⟨_, e⟩
  refine ⟨g', c', w', hr, Sl.textsR (by rw [List.map_append]; exact hsl), hsl.2.1, ⟨hf.os.trans hv.os, hf.tape.trans hv.tape, hf.output.trans hv.output, Nat.le_trans hv.size hf.size, fun x hx => (hf.other x (Nat.lt_of_lt_of_le hx hv.size) (fun q => ?_)).trans (hv.block x hx)⟩⟩
  have := kp_one q
  simp at this
section
variable {v w : World} {ops : Array Oper} {rest : List Oper} {o : Oper} {a : Act}
theorem wpList_app_texts {Q : Exit → Act → World → Prop} (hgd : o.guard = none) (s x : Operand) (ho : o.op = .call { callee := .builtin .append, args := #[s, x], argTypes := #[35, 35] })
    {g g2 : Nat} {l l2 : List ByteArray} (hs : a.eval s = .slice (some ⟨g, 0, none⟩) l.length l.length) (hx : a.eval x = .slice (some ⟨g2, 0, none⟩) l2.length l2.length) (hv : Ext v w) (hg : v.heap.size ≤ g) (hb : Blk w g 9 (l.map Value.string)) (hb2 : Blk w g2 9 (l2.map Value.string)) (hl : l.length ≤ 1000) (hl2 : l2.length ≤ 1000)
    (hQ : ∀ g' c' w', Texts w' ⟨g', 0, none⟩ (l ++ l2) → l.length + l2.length ≤ c' → Ext v w' → wpList Tryz.prog ops Q rest (a.put o.dst (.slice (some ⟨g', 0, none⟩) (l.length + l2.length) c')) w') : wpList Tryz.prog ops Q (o :: rest) a w := by
  obtain ⟨g', c', w', hr, k1, k2, k3⟩ := run_app_texts hv hg hb hb2 hl hl2 o.type
  refine wpList_plain hgd fun K hK => ?_
  unfold Oper.wp execOp
  simp only [ho, resolve, invoke, builtin, Sem.run_bind, Sem.run_pure, Result.andThen_ok, List.map_toArray, List.map_cons, List.map_nil, hs, hx, hr]
  exact hK _ _ (hQ g' c' w' k1 k2 k3)
theorem step_app_texts {K : Act → World → Prop} {Q : Exit → Act → World → Prop} {E : Prop} (hgd : o.guard = none) (s x : Operand) (ho : o.op = .call { callee := .builtin .append, args := #[s, x], argTypes := #[35, 35] })
    {g g2 : Nat} {l l2 : List ByteArray} (hs : a.eval s = .slice (some ⟨g, 0, none⟩) l.length l.length) (hx : a.eval x = .slice (some ⟨g2, 0, none⟩) l2.length l2.length) (hv : Ext v w) (hg : v.heap.size ≤ g) (hb : Blk w g 9 (l.map Value.string)) (hb2 : Blk w g2 9 (l2.map Value.string)) (hl : l.length ≤ 1000) (hl2 : l2.length ≤ 1000)
    (hQ : ∀ g' c' w', Texts w' ⟨g', 0, none⟩ (l ++ l2) → l.length + l2.length ≤ c' → Ext v w' → K (a.put o.dst (.slice (some ⟨g', 0, none⟩) (l.length + l2.length) c')) w') : if Region.wanted o (yielded ops a.tmps) = true then Oper.wp Tryz.prog o a w K Q else E := by
  have hw : Region.wanted o (yielded ops a.tmps) = true := by simp [Region.wanted, hgd]
  rw [if_pos hw]
  obtain ⟨g', c', w', hr, k1, k2, k3⟩ := run_app_texts hv hg hb hb2 hl hl2 o.type
  unfold Oper.wp execOp
  simp only [ho, resolve, invoke, builtin, Sem.run_bind, Sem.run_pure, Result.andThen_ok, List.map_toArray, List.map_cons, List.map_nil, hs, hx, hr]
  exact hQ g' c' w' k1 k2 k3
end
/-! ### Parts in a row -/
theorem ahead_any (w : World) (A B C D T : ByteArray) :
    Calls Tryz.prog 82 #[.agg #[.string A, .string B, .string C, .string D, .string T]] w fun e w' => ∃ g, e = .returned (.slice (some ⟨g, 0, none⟩) 4 4) ∧ Blk w' g 9 [.string A, .string B, .string C, .string D] ∧ w.heap.size ≤ g ∧ Ext w w' := by
  obtain ⟨W0, hW0⟩ : ∃ W0, w.alloc (.cells #[.string A, .string B, .string C, .string D, .string T] 120) = W0 := ⟨_, rfl⟩
  have hx0 : Ext w W0 := by rw [← hW0]; exact (Ext.refl w).alloc _
  have hb0 : Blk W0 w.heap.size 120 [.string A, .string B, .string C, .string D, .string T] := by rw [← hW0]; exact Blk.new w _ _
  have c0 := hb0.cell 0 _ rfl
  have c1 := hb0.cell 1 _ rfl
  have c2 := hb0.cell 2 _ rfl
  have c3 := hb0.cell 3 _ rfl
  have HX := Lib.hid hx0
  clear hb0 hx0
  go_enter Tryz.func82, Tryz.ntmps82
  go_wp2
  go_ret
  exact ⟨_, rfl, Blk.new _ _ _, HX.out.size, HX.out.alloc _⟩
/-! ### What the tag is of -/
def t4 (n : Nat) : ByteArray := ⟨(be 4 n).toArray⟩
def t8 (n : Nat) : ByteArray := ⟨(be 8 n).toArray⟩
theorem tagged_any (w : World) (path : ByteArray) (v : Nat) (g : Nat) (l : List ByteArray) (hp : path.size ≤ 1048576) (hb : Blk w g 9 (l.map Value.string)) (hl : l.length = 4) :
    Calls Tryz.prog 81 #[.string path, .int .u64 (v : Int), .slice (some ⟨g, 0, none⟩) 4 4] w fun e w' => ∃ g' c', e = .returned (.slice (some ⟨g', 0, none⟩) 7 c') ∧ Texts w' ⟨g', 0, none⟩ ([t4 path.size, path, t8 v] ++ l) ∧ Ext w w' := by
  have HP4 := Lib.hid (fun u => Put32_any path.size u)
  have HP8 := Lib.hid (fun u => Put64_any v u)
  have HB := Lib.hid hb
  have hw : IntKind.u32.wrap (path.size : Int) = (path.size : Int) := by simp [IntKind.wrap, IntKind.signed, IntKind.bits]; omega
  clear hb
  unfold t4 t8
  generalize (⟨(be 4 path.size).toArray⟩ : ByteArray) = A at *
  generalize (⟨(be 8 v).toArray⟩ : ByteArray) = B at *
  go_enter Tryz.func81, Tryz.ntmps81
  go_wp2_with (first
    | (go_at_call 79; refine (HP4.out _).mono ?_; rintro e w1 ⟨rfl, x1⟩)
    | (go_at_call 117; refine (HP8.out _).mono ?_; rintro e w2 ⟨rfl, x2⟩; have x3 := x1.trans x2)
    | (refine wpList_app_texts (v := w) (l := [A, path, B]) (l2 := l) (g := w2.heap.size) (g2 := g) rfl (.tmp 16) (.tmp 17) rfl rfl (by rw [hl]; rfl) (x3.alloc _) x3.size (Blk.new _ _ _) (HB.out.ext (x3.alloc _)) (by simp) (by omega) ?_; intro g' c' w4 k1 k2 k3; rw [show ([A, path, B].length + l.length) = 7 by rw [hl]; rfl]; have K1 := Lib.hid k1; clear k1))
  go_ret
  exact ⟨g', c', rfl, K1.out, k3⟩
end Go.Proofs.YtcjdnifckngcfaaGreatDoor
end
