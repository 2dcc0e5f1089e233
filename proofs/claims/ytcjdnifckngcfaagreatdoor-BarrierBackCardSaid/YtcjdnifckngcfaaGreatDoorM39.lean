/- Plain: slices of texts, nil or not, under one word. Two bytes as a text. Contracts: texts, either or all of them; a share's bytes: by the program. Contracts: the secret whose shares came, by the program. -/
import Derived.Test.YtcjdnifckngcfaaGreatDoorM07
import Derived.Test.YtcjdnifckngcfaaGreatDoorM38
import Derived.Test.YtcjdnifckngcfaaGreatDoorM35
import Derived.Deep.RegionLaw
import Derived.StillTailTactics
import Derived.Outline
import Derived.Test.YtcjdnifckngcfaaGreatDoorM37
import Derived.Deep.Slices
section
namespace Go.Proofs.YtcjdnifckngcfaaGreatDoor
open Go.RowKit
/-- The cells from the address on, if there are any, are these texts. -/
def TextsP (w : World) (p : Option Addr) (l : List ByteArray) : Prop := ∀ i s, l[i]? = some s → ∃ a, p = some a ∧ a.block < w.heap.size ∧ w.cell? (a.add i) = some (.string s)
theorem TextsP.ext {w w' : World} {p : Option Addr} {l : List ByteArray} (h : TextsP w p l) (hx : Ext w w') : TextsP w' p l := fun i s hs => by
  obtain ⟨a, h1, h2, h3⟩ := h i s hs
  exact ⟨a, h1, Nat.lt_of_lt_of_le h2 hx.below.size, by rw [hx.below.cell (p := a.add i) (by rw [add_block]; exact h2)]; exact h3⟩
theorem TextsP.below {B : Nat} {w w' : World} {p : Option Addr} {l : List ByteArray} (h : TextsP w p l) (hx : Below B w w') (hb : ∀ a, p = some a → a.block < B) : TextsP w' p l := fun i s hs => by
  obtain ⟨a, h1, h2, h3⟩ := h i s hs
  exact ⟨a, h1, Nat.lt_of_lt_of_le h2 hx.size, by rw [hx.cell (p := a.add i) (by rw [add_block]; exact hb a h1)]; exact h3⟩
theorem TextsP.grown {w w' : World} {b : Nat} {p : Option Addr} {l : List ByteArray} (h : TextsP w p l) (hx : w.grownBy w' (some b)) (hb : ∀ a, p = some a → a.block ≠ b) : TextsP w' p l := fun i s hs => by
  obtain ⟨a, h1, h2, h3⟩ := h i s hs
  have e : w'.heap[(a.add i).block]? = w.heap[(a.add i).block]? := hx.block _ (by rw [add_block]; exact h2) (by rw [add_block]; simpa using hb a h1)
  exact ⟨a, h1, Nat.lt_of_lt_of_le h2 hx.size, by rw [World.cell?_of_block (w := w) e]; exact h3⟩
theorem TextsP.none (w : World) : TextsP w none [] := fun i s hs => by simp at hs
theorem Texts.p {w : World} {a : Addr} {l : List ByteArray} (h : Texts w a l) : TextsP w (some a) l := fun i s hs => ⟨a, rfl, (h i s hs).1, (h i s hs).2⟩
theorem TextsP.alloc {w : World} {p : Option Addr} {l : List ByteArray} (h : TextsP w p l) (o : Obj) : TextsP (w.alloc o) p l := h.ext ((Ext.refl w).alloc o)
theorem TextsP.drew {w : World} {p : Option Addr} {l : List ByteArray} (h : TextsP w p l) : TextsP w.drew p l := h
/-- A slice that was grown by append, as a row of texts: nil, or not. -/
theorem BufS.texts {w : World} {B : Nat} {v : Value} {l : List ByteArray} (h : BufS w B v l) : ∃ p c, v = .slice p l.length c ∧ TextsP w p l ∧ (∀ a, p = some a → B ≤ a.block ∧ a.block < w.heap.size ∧ ∃ cur T fz, w.heap[a.block]? = some (.cells cur T fz)) ∧ (∀ a, p = some a → a = ⟨a.block, 0, .none⟩ ∧ l.length ≤ c) := by
  unfold BufS at h
  rcases h.2 with ⟨hv, h0⟩ | ⟨g, cap, cur, hv, hB, hg, hle, _, hsz, ht⟩
  · have : l = [] := List.length_eq_zero_iff.1 h0
    subst this
    exact ⟨.none, 0, hv, TextsP.none w, by simp, by simp⟩
  · refine ⟨some ⟨g, 0, .none⟩, cap, hv, fun i s hs => ⟨_, rfl, heap_lt hg, ?_⟩, fun a ha => ?_, fun a ha => ?_⟩
    · have hi : i < l.length := (List.getElem?_eq_some_iff.1 hs).1
      have e0 : ((⟨g, 0, .none⟩ : Addr).add i) = ⟨g, i, .none⟩ := by unfold Addr.add; split <;> simp_all
      rw [e0, cell_of_row w g i cur _ (0, 0) hg]
      have e : cur.toList[i]? = (l.map Value.string)[i]? := by
        rw [← ht, List.getElem?_take, if_pos (by omega)]
      rw [← Array.getElem?_toList, e]
      simp [hs]
    · cases ha
      exact ⟨hB, heap_lt hg, cur, _, _, hg⟩
    · cases ha
      exact ⟨rfl, hle⟩
end Go.Proofs.YtcjdnifckngcfaaGreatDoor
end

section
namespace Go.Proofs.YtcjdnifckngcfaaGreatDoor
open Go.RowKit

theorem two_text (x y : Int) (a b : UInt8) (hx : x = (a.toNat : Int)) (hy : y = (b.toNat : Int)) (t : TypeId) (u : World) : (convert 43 9 (.slice (some ⟨u.heap.size, 0, none⟩) 2 2)).run Tryz.prog (u.alloc (.cells #[.int .u8 x, .int .u8 y] t)) = .ok (.string ⟨#[a, b]⟩) (u.alloc (.cells #[.int .u8 x, .int .u8 y] t)) := by
  subst hx hy
  have hr : Row (u.alloc (.cells #[.int .u8 (a.toNat : Int), .int .u8 (b.toNat : Int)] t)) u.heap.size t [a, b] := heap_alloc_new u _
  exact hr.text (P := Tryz.prog) 43 5 9 Tryz.underlying43 Tryz.underlying5 Tryz.underlying9 2 2 rfl
theorem two_textD (x y : Int) (a b : UInt8) (hx : x = (a.toNat : Int)) (hy : y = (b.toNat : Int)) (t : TypeId) (u : World) : (convert 43 9 (.slice (some ⟨u.heap.size, 0, none⟩) 2 2)).run Tryz.prog (u.alloc (.cells #[.int .u8 x, .int .u8 y] t)).drew = .ok (.string ⟨#[a, b]⟩) (u.alloc (.cells #[.int .u8 x, .int .u8 y] t)).drew := by
  subst hx hy
  have hr : Row (u.alloc (.cells #[.int .u8 (a.toNat : Int), .int .u8 (b.toNat : Int)] t)) u.heap.size t [a, b] := heap_alloc_new u _
  exact hr.drew.text (P := Tryz.prog) 43 5 9 Tryz.underlying43 Tryz.underlying5 Tryz.underlying9 2 2 rfl
end Go.Proofs.YtcjdnifckngcfaaGreatDoor
end

section
namespace Go.Proofs.YtcjdnifckngcfaaGreatDoor
open Go.RowKit
attribute [local irreducible] xorL xorAll

theorem shareBytes_any (i n : Nat) (s : ByteArray) (hi : i < 256) (hn : n < 256) (hs : s.size ≤ 1048576) (w : World) :
    Calls Tryz.prog 72 #[.int .i64 (i : Int), .int .i64 (n : Int), .string s] w fun e w' => e = .returned (.string (shareT i n s)) ∧ Ext w w' := by
  obtain ⟨x, hx⟩ : ∃ x, x = UInt8.ofNat i := ⟨_, rfl⟩
  obtain ⟨y, hy⟩ : ∃ y, y = UInt8.ofNat n := ⟨_, rfl⟩
  have hcv := fun u => two_text (i : Int) (n : Int) x y (by rw [hx]; simp; omega) (by rw [hy]; simp; omega) 5 u
  have hcat := share_cat i n x y s hx hy
  have hw1 : IntKind.u8.wrap (i : Int) = (i : Int) := IntWalk.u8_in _ ⟨by omega, by omega⟩
  have hw2 : IntKind.u8.wrap (n : Int) = (n : Int) := IntWalk.u8_in _ ⟨by omega, by omega⟩
  have hs64 : ¬ 9223372036854775807 < 2 + s.size := by omega
  generalize shareT i n s = T at *
  clear hx hy
  go_enter Tryz.func72, Tryz.ntmps72
  go_wp2
  go_ret
  exact ⟨rfl, (Ext.refl w).alloc _⟩
/-- One text's round. -/
theorem xor_round (secret : ByteArray) (l : List ByteArray) (j : Nat) (s : ByteArray) (hs : l[j]? = some s) (h2 : secret.size ≤ 1048576) (hl : ∀ i t, i ≤ j → l[i]? = some t → t.size = secret.size) (u : World) :
    Calls Tryz.prog 108 #[.string ⟨(xorAll secret.data.toList (l.take j)).toArray⟩, .string s] u fun e w' => e = .returned (.tuple #[.string ⟨(xorAll secret.data.toList (l.take (j + 1))).toArray⟩, .bool true]) ∧ Ext u w' := by
  have hlen : (xorAll secret.data.toList (l.take j)).length = secret.size := xorAll_length _ _ (size_list _) (fun b hb => by
    obtain ⟨i, hi⟩ := List.getElem?_of_mem hb
    rw [List.getElem?_take] at hi
    split at hi
    · exact hl i b (by omega) hi
    · cases hi)
  have h := xor_yes ⟨(xorAll secret.data.toList (l.take j)).toArray⟩ s (by rw [txt_size, hlen, hl j s (Nat.le_refl _) hs]) (by rw [txt_size, hlen]; omega) u
  have exd : (⟨(xorAll secret.data.toList (l.take j)).toArray⟩ : ByteArray).data.toList = xorAll secret.data.toList (l.take j) := by simp
  rw [exd, ← xorAll_step _ _ _ _ hs] at h
  exact h
set_option maxRecDepth 100000 in
set_option maxHeartbeats 2000000 in
theorem mixed_yes (w : World) (secret : ByteArray) (p : Option Addr) (c : Nat) (l : List ByteArray) (h2 : secret.size ≤ 1048576) (h3 : l.length ≤ 1000000) (h : TextsP w p l) (hl : ∀ s, s ∈ l → s.size = secret.size) :
    Calls Tryz.prog 71 #[.string secret, .slice p l.length c] w fun e w' => e = .returned (.tuple #[.string ⟨(xorAll secret.data.toList l).toArray⟩, .bool true]) ∧ Ext w w' := by
  have HH := Lib.hid (fun u (hu : Ext w u) => h.ext hu)
  have hX0 : xorAll secret.data.toList (l.take 0) = secret.data.toList := by rw [List.take_zero]; unfold xorAll; rfl
  have HX0 := Lib.hid hX0
  clear h hX0
  go_enter Tryz.func71, Tryz.ntmps71
  go_wp2
  go_loopw [0, 12] (fun last i wr => ∃ j : Nat, j ≤ l.length ∧ i = .int .i64 (j : Int) ∧ last = .string ⟨(xorAll secret.data.toList (l.take j)).toArray⟩ ∧ Ext w wr) (fun _ i _ => l.length - (intOf i).toNat)
  case atStart => exact ⟨0, Nat.zero_le _, rfl, by rw [HX0.out], Ext.refl _⟩
  case round =>
    obtain ⟨j, hj, rfl, rfl, hext⟩ := hrel
    have HE := Lib.hid hext
    by_cases hlt : j < l.length
    · obtain ⟨s, hs⟩ : ∃ s, l[j]? = some s := ⟨_, List.getElem?_eq_getElem hlt⟩
      obtain ⟨a, rfl, hab, hc1⟩ := HH.out _ hext j s hs
      have HXr := Lib.hid (fun u => xor_round secret l j s hs h2 (fun i t _ ht => hl t (List.mem_of_getElem? ht)) u)
      clear hext hs hab
      generalize (⟨(xorAll secret.data.toList (l.take j)).toArray⟩ : ByteArray) = L0 at *
      go_wp2_with (go_at_call 108; refine (HXr.out _).mono ?_; rintro e w2 ⟨rfl, x2⟩)
      go_roundw
      case rel => exact ⟨j + 1, hlt, by go_num, rfl, HE.out.trans x2⟩
      case measure => simp [intOf]; omega
    · obtain rfl : j = l.length := by omega
      rw [List.take_of_length_le (Nat.le_refl l.length)]
      go_wp2
      go_ret2
      exact ⟨rfl, hext⟩
set_option maxRecDepth 100000 in
set_option maxHeartbeats 2000000 in
theorem mixed_no (w : World) (secret : ByteArray) (p : Option Addr) (c : Nat) (l : List ByteArray) (h2 : secret.size ≤ 1048576) (h3 : l.length ≤ 1000000) (h : TextsP w p l) (k : Nat) (t : ByteArray) (hk : l[k]? = some t) (ht : ¬ t.size = secret.size) (hl : ∀ i s, i < k → l[i]? = some s → s.size = secret.size) :
    Calls Tryz.prog 71 #[.string secret, .slice p l.length c] w fun e w' => e = .returned (.tuple #[.string ⟨#[]⟩, .bool false]) ∧ Ext w w' := by
  have HH := Lib.hid (fun u (hu : Ext w u) => h.ext hu)
  have hX0 : xorAll secret.data.toList (l.take 0) = secret.data.toList := by rw [List.take_zero]; unfold xorAll; rfl
  have HX0 := Lib.hid hX0
  have hkl : k < l.length := (List.getElem?_eq_some_iff.1 hk).1
  have hlen : (xorAll secret.data.toList (l.take k)).length = secret.size := xorAll_length _ _ (size_list _) (fun b hb => by
    obtain ⟨i, hi⟩ := List.getElem?_of_mem hb
    rw [List.getElem?_take] at hi
    split at hi
    · exact hl i b (by omega) hi
    · cases hi)
  have HXn := Lib.hid (fun u => xor_no ⟨(xorAll secret.data.toList (l.take k)).toArray⟩ t (by rw [txt_size, hlen]; omega) u)
  have HK := Lib.hid hk
  clear h hX0 hlen ht hk
  go_enter Tryz.func71, Tryz.ntmps71
  go_wp2
  go_loopw [0, 12] (fun last i wr => ∃ j : Nat, j ≤ k ∧ i = .int .i64 (j : Int) ∧ last = .string ⟨(xorAll secret.data.toList (l.take j)).toArray⟩ ∧ Ext w wr) (fun _ i _ => l.length - (intOf i).toNat)
  case atStart => exact ⟨0, Nat.zero_le _, rfl, by rw [HX0.out], Ext.refl _⟩
  case round =>
    obtain ⟨j, hj, rfl, rfl, hext⟩ := hrel
    have HE := Lib.hid hext
    have hlt : j < l.length := by omega
    by_cases hjk : j < k
    · obtain ⟨s, hs⟩ : ∃ s, l[j]? = some s := ⟨_, List.getElem?_eq_getElem hlt⟩
      obtain ⟨a, rfl, hab, hc1⟩ := HH.out _ hext j s hs
      have HXr := Lib.hid (fun u => xor_round secret l j s hs h2 (fun i t hi ht => hl i t (by omega) ht) u)
      clear hext hs hab
      generalize (⟨(xorAll secret.data.toList (l.take j)).toArray⟩ : ByteArray) = L0 at *
      go_wp2_with (go_at_call 108; refine (HXr.out _).mono ?_; rintro e w2 ⟨rfl, x2⟩)
      go_roundw
      case rel => exact ⟨j + 1, by omega, by go_num, rfl, HE.out.trans x2⟩
      case measure => simp [intOf]; omega
    · obtain rfl : j = k := by omega
      obtain ⟨a, rfl, hab, hc1⟩ := HH.out _ hext j t HK.out
      clear hext hab
      generalize (⟨(xorAll secret.data.toList (l.take j)).toArray⟩ : ByteArray) = L0 at *
      go_wp2_with (go_at_call 108; refine (HXn.out _).mono ?_; rintro e w2 ⟨rfl, x2⟩)
      go_ret2
      exact ⟨rfl, HE.out.trans x2⟩
/-- The first that is of another length. -/
theorem first_other (secret : ByteArray) : ∀ (l : List ByteArray), (∀ s, s ∈ l → s.size = secret.size) ∨ ∃ (k : Nat) (t : ByteArray), l[k]? = some t ∧ ¬ t.size = secret.size ∧ ∀ (i : Nat) (s : ByteArray), i < k → l[i]? = some s → s.size = secret.size
  | [] => .inl (by simp)
  | a :: r => by
    by_cases ha : a.size = secret.size
    · rcases first_other secret r with h | ⟨k, t, h1, h2, h3⟩
      · exact .inl fun s hs => by
          rcases List.mem_cons.1 hs with rfl | hs
          · exact ha
          · exact h s hs
      · refine .inr ⟨k + 1, t, h1, h2, fun i s hi hs => ?_⟩
        cases i with
        | zero => simp at hs; rw [← hs]; exact ha
        | succ i => exact h3 i s (by omega) (by simpa using hs)
    · exact .inr ⟨0, a, rfl, ha, fun i s hi => by omega⟩
end Go.Proofs.YtcjdnifckngcfaaGreatDoor
end

section
namespace Go.Proofs.YtcjdnifckngcfaaGreatDoor
open Go.RowKit
attribute [local irreducible] xorL xorAll

theorem slice_tail (a : Addr) (n c : Nat) (h1 : 1 ≤ n) (u : World) : (Instr.slice 35 (.slice (some a) n c) (some (.int .i64 1)) none none).run Tryz.prog u = .ok (.slice (some (if c = 1 then a else a.add 1)) (n - 1) (c - 1)) u := by
  have hj : (1 : Int) ≤ (n : Int) := by omega
  have hs := Tryz.sizeOf9 u
  simp [Instr.slice, Instr.sliceBounds, Instr.sliceBound, asIntOf, run_underlying Tryz.underlying35, hj, hs, Result.andThen]
  split <;> simp_all
/-- The texts behind the first. -/
theorem TextsP.tail {w : World} {a : Addr} {s : ByteArray} {l : List ByteArray} (h : TextsP w (some a) (s :: l)) (c : Nat) (hc : (s :: l).length ≤ c) : TextsP w (some (if c = 1 then a else a.add 1)) l := fun i t ht => by
  have h1 : ¬ c = 1 := by
    have := (List.getElem?_eq_some_iff.1 ht).1
    simp at hc; omega
  rw [if_neg h1]
  obtain ⟨a', e, hb, hcell⟩ := h (i + 1) t (by simpa using ht)
  cases e
  refine ⟨_, rfl, by rw [add_block]; exact hb, ?_⟩
  have e : (a.add 1).add i = a.add (i + 1) := by rw [Go.Deep.add_add, Nat.add_comm]
  rw [e]; exact hcell
theorem secret_nil (w : World) :
    Calls Tryz.prog 51 #[.pointer none] w fun e w' => e = .returned (.tuple #[.string ⟨#[]⟩, .bool false]) ∧ w = w' := by
  go_enter Tryz.func51, Tryz.ntmps51
  go_wp2_with (go_at_call 55; refine (have_nil _).mono ?_; rintro e w1 ⟨rfl, rfl⟩)
  go_ret2
  exact ⟨rfl, rfl⟩
theorem secret_no (w : World) (g b n m : Nat) (L : List (Nat × ByteArray)) (h : IsG w g b n m L) (hl : L.length < n) :
    Calls Tryz.prog 51 #[.pointer (some ⟨g, 0, none⟩)] w fun e w' => e = .returned (.tuple #[.string ⟨#[]⟩, .bool false]) ∧ Ext w w' := by
  by_cases h0 : L = []
  · subst h0
    have HH := Lib.hid (fun u (hu : IsG u g b n m []) => have_any u g b n m [] hu)
    have HG := Lib.hid h
    clear h
    go_enter Tryz.func51, Tryz.ntmps51
    go_wp2_with (go_at_call 55; refine (HH.out _ HG.out).mono ?_; rintro e w1 ⟨rfl, x1⟩)
    go_ret2
    exact ⟨rfl, x1⟩
  · have HH := Lib.hid (fun u (hu : IsG u g b n m L) => have_any u g b n m L hu)
    rw [haveN_some h0] at HH
    have HG := Lib.hid h
    have hpos : 0 < L.length := List.length_pos_iff.2 h0
    have e1 : ((L.length : Int) == 0) = false := by rw [beq_eq_false_iff_ne]; omega
    clear h h0
    go_enter Tryz.func51, Tryz.ntmps51
    go_wp2_with (go_at_call 55; refine (HH.out _ HG.out).mono ?_; rintro e w1 ⟨rfl, x1⟩)
    go_ret2
    exact ⟨rfl, x1⟩
theorem field_share (n : Int) (s : ByteArray) (u : World) : (Instr.field 129 (.agg #[.int .i64 n, .string s]) 1).run Tryz.prog u = .ok (.string s) u := by kernel_rfl
theorem wpList_field_share {w : World} {ops : Array Oper} {rest : List Oper} {o : Oper} {a : Act} {Q : Exit → Act → World → Prop} (hg : o.guard = none) (x : Operand) (hop : o.op = Op.field 129 x 1) (n : Int) (s : ByteArray)
    (hx : a.eval x = .agg #[.int .i64 n, .string s]) (h : wpList Tryz.prog ops Q rest (a.put o.dst (.string s)) w) : wpList Tryz.prog ops Q (o :: rest) a w := by
  refine wpList_plain hg fun K' hK' => ?_
  have hf := field_share n s w
  unfold Oper.wp
  simp only [execOp, hop, hx]
  rw [Sem.run_bind, hf]
  exact hK' _ _ h
set_option maxRecDepth 100000 in
set_option maxHeartbeats 4000000 in
theorem secret_yes (w : World) (g b n m : Nat) (L : List (Nat × ByteArray)) (h : IsG w g b n m L) (hl : L.length = n) (s0 : ByteArray) (St : List ByteArray) (hS : St.length + 1 = n) (hall : ∀ (j : Nat) (s : ByteArray), (s0 :: St)[j]? = some s → (j + 1, s) ∈ L) :
    Calls Tryz.prog 51 #[.pointer (some ⟨g, 0, none⟩)] w fun e w' => e = .returned (.tuple #[.string ⟨(xorAll s0.data.toList St).toArray⟩, .bool true]) ∧ Ext w w' := by
  have h0 : L ≠ [] := by intro e; rw [e] at hl; simp at hl; omega
  have HH := Lib.hid (fun u (hu : IsG u g b n m L) => have_any u g b n m L hu)
  rw [haveN_some h0, hl] at HH
  have HG := Lib.hid h
  have e1 : ((n : Int) == 0) = false := by rw [beq_eq_false_iff_ne]; omega
  have n16 := h.alike.n16
  have hmk := make_texts n (by omega)
  obtain ⟨C, hC⟩ : ∃ C, madeCells #[Value.string ⟨#[]⟩] n = C := ⟨_, rfl⟩
  rw [hC] at hmk
  have HMade := Lib.hid (fun u (hu : w.heap.size ≤ u.heap.size) => BufS.made u n (by unfold maxLen; omega) hu)
  rw [hC] at HMade
  have HAll := Lib.hid hall
  have hsz : ∀ s, s ∈ s0 :: St → s.size = m := fun s hs => by
    obtain ⟨j, hj⟩ := List.getElem?_of_mem hs
    exact (h.alike.each _ (hall j s hj)).2.2
  have hm64 := h.alike.m64
  have HMx := Lib.hid (fun u p c (ht : TextsP u p St) => mixed_yes u s0 p c St (by rw [hsz s0 (by simp)]; omega) (by omega) ht (fun s hs => by rw [hsz s (by simp [hs]), hsz s0 (by simp)]))
  clear h h0 hall hsz hC hl
  go_enter Tryz.func51, Tryz.ntmps51
  go_wp2_with (go_at_call 55; refine (HH.out _ HG.out).mono ?_; rintro e w1 ⟨rfl, x1⟩)
  have HX1 := Lib.hid (x1.alloc (.cells C 9))
  have HB0 : Hid (BufS (w1.alloc (.cells C 9)) w.heap.size (.slice (some ⟨w1.heap.size, 0, none⟩) 0 n) []) := Lib.hid (HMade.out w1 x1.size)
  clear x1
  go_loopw [6, 23] (fun v i wr => ∃ j : Nat, j ≤ n ∧ i = .int .i64 (j : Int) ∧ BufS wr w.heap.size v ((s0 :: St).take j) ∧ Ext w wr) (fun _ i _ => n - (intOf i).toNat)
  case atStart => exact ⟨0, Nat.zero_le _, rfl, by rw [List.take_zero]; exact HB0.out, HX1.out⟩
  case round =>
    obtain ⟨j, hj, rfl, hb, hext⟩ := hrel
    have HB := Lib.hid hb; have HE := Lib.hid hext
    have hcg := (HG.out.ext hext).cell
    clear hb hext
    by_cases hlt : j < n
    · obtain ⟨s, hs⟩ : ∃ s, (s0 :: St)[j]? = some s := ⟨_, List.getElem?_eq_getElem (by simp; omega)⟩
      have hlk := (HG.out.ext HE.out).map.look keyI Tryz.underlying95 false (v := .agg #[.int .i64 (n : Int), .string s]) (key_at (j + 1) (by omega)) (List.mem_map.2 ⟨_, HAll.out j s hs, rfl⟩)
      have ek : ((j + 1 : Nat) : Int) = (j : Int) + 1 := by omega
      simp only [Bool.false_eq_true, if_false, ek] at hlk
      clear ek
      have HTj : Hid ((s0 :: St).take (j + 1) = (s0 :: St).take j ++ [s]) := Lib.hid (by rw [List.take_add_one, hs]; rfl)
      have HX3 := Lib.hid ((Ext.refl wr).alloc (.cells #[.string s] 9))
      have HCl : Hid ((wr.alloc (.cells #[.string s] 9)).cell? ⟨wr.heap.size, 0, none⟩ = some (.string s)) := Lib.hid ((Blk.new wr [.string s] 9).cell 0 _ rfl)
      have HLe : Hid (((s0 :: St).take j).length ≤ 1000000) := Lib.hid (by rw [List.length_take]; omega)
      clear hs
      go_wp2_with (first | (refine wpList_field_share rfl (.tmp 33) rfl _ _ rfl ?_) | (at_builtin; refine append_text rfl (.tmp 26) (.tmp 35) rfl w.heap.size _ _ rfl (HB.out.ext HX3.out) wr.heap.size s rfl HCl.out HLe.out (HE.out.trans HX3.out).size ?_; intro v1 w2 hb1 hx4; have x5 : Ext w w2 := Below.trans (HE.out.trans HX3.out) hx4))
      go_roundw
      case rel => exact ⟨j + 1, hlt, by go_num, by rw [HTj.out]; exact hb1, x5⟩
      case measure => simp [intOf]; omega
    · obtain rfl : j = n := by omega
      have hb := HB.out
      rw [List.take_of_length_le (by simp; omega)] at hb
      obtain ⟨p, c, rfl, ht, hp1, hp2⟩ := hb.texts
      obtain ⟨a, rfl, _, hc0⟩ := ht 0 s0 rfl
      have hcc := (hp2 a rfl).2
      have hln : (s0 :: St).length = j := by simp; omega
      have hsl := fun u => slice_tail a (s0 :: St).length c (by simp) u
      have HTt := Lib.hid (ht.tail c hcc)
      rw [show (s0 :: St).length - 1 = St.length by simp] at hsl
      have ha0 : a.add 0 = a := by simp [Addr.add]
      rw [ha0] at hc0
      generalize (if c = 1 then a else a.add 1) = a1 at *
      clear hb ht hp1 hp2 hcc ha0 HB
      have hlq : 0 < (s0 :: St).length := by simp
      have hlp : (0 : Int) < ((s0 :: St).length : Int) := by omega
      clear hln
      generalize (s0 :: St).length = q at *
      go_wp2
      go_region_with (go_at_call 71; refine (HMx.out _ _ _ HTt.out.drew).mono ?_; rintro e w2 ⟨rfl, x2⟩)
      all_goals
        go_wp2
        go_ret2
        exact ⟨rfl, HE.out.drew.trans x2⟩
end Go.Proofs.YtcjdnifckngcfaaGreatDoor
end
