/- Contracts: keys by epochs: a new ring, an epoch's key forgotten: by the program. Plain: a byte of a text. Texts cut: from, up to, between. Contracts: keys by epochs: how many keys a text tells of; a piece taken off what is left: by the program. Texts spelt as lists: how long; one behind another. Plain: a ring's bytes. Contracts: bytes read as numbers, by the program. Contracts: bytes read as numbers, by the document's answer. Plain: numbers out of their bytes. -/
import Derived.Test.YtcjdnifckngcfaaGreatDoorM03
import Derived.Test.YtcjdnifckngcfaaGreatDoorProg
import Derived.Test.YtcjdnifckngcfaaGreatDoorM00
import Derived.WalkSpells
import Derived.Test.YtcjdnifckngcfaaGreatDoorM02
import Derived.WalkKit
import Derived.Laws.BitsAllLaws
section
namespace Go.Proofs.YtcjdnifckngcfaaGreatDoor
open Go.RowKit

theorem GoodK.one (s : ByteArray) (hs : s.size = 32) : GoodK [(1, s)] := by
  refine ⟨by simp, by simp, by simp [eps], fun x hx => ?_⟩
  rw [List.mem_singleton] at hx
  subst hx
  exact ⟨Nat.le_refl _, by simp, hs⟩
set_option maxRecDepth 100000 in
set_option maxHeartbeats 2000000 in
theorem newK_yes (w : World) (s : ByteArray) (hs : s.size = 32) :
    Calls Tryz.prog 39 #[.string s] w fun e w' => ∃ r b, e = .returned (.tuple #[.pointer (some ⟨r, 0, none⟩), .int .i64 0]) ∧ IsK w' r b [(1, s)] ∧ w.heap.size ≤ r ∧ w.heap.size ≤ b ∧ Ext w w' := by
  have hs2 : (s.size : Int) = 32 := by omega
  have HC := Lib.hid (fun u => rootKeyOf_any s hs u)
  have HG := Lib.hid (GoodK.one s hs)
  obtain ⟨W0, hW0⟩ : ∃ W0, w.alloc (.map #[] 0) = W0 := ⟨_, rfl⟩
  have hx0 : Ext w W0 := by rw [← hW0]; exact (Ext.refl w).alloc _
  have hM0 : IsM W0 w.heap.size [] := by rw [← hW0]; exact IsM.made w
  have hmk : ∀ t, (Instr.makeMap t none).run Tryz.prog w = .ok (.map (some w.heap.size)) W0 := fun t => by rw [← hW0]; exact run_makeMap t w
  have HX := Lib.hid hx0; have HM := Lib.hid hM0
  have HP := Lib.hid (fun u (hu : IsM u w.heap.size []) => hu.put (e := 1) (s := s) (by omega) (by simp [eps]))
  clear hx0 hM0 hW0
  go_enter Tryz.func39, Tryz.ntmps39
  go_wp2_with (go_at_call 73; refine (HC.out _).mono ?_; rintro e w1 ⟨rfl, x1⟩; obtain ⟨w4, hrun, hm4, ht4⟩ := HP.out _ (HM.out.ext x1); rw [show ((1 : Nat) : Int) = 1 from rfl] at hrun)
  have g := ht4.grown
  have x4 : Ext w w4 := Ext.grown (HX.out.trans x1) g (fun k hk => by cases hk; exact Nat.le_refl _)
  go_ret2
  refine ⟨w4.heap.size, w.heap.size, rfl, ⟨Blk.new _ _ _, ?_, HG.out⟩, x4.size, Nat.le_refl _, x4.alloc _⟩
  simpa using hm4.alloc _
theorem newK_no (w : World) (s : ByteArray) (hs : s.size ≠ 32) :
    Calls Tryz.prog 39 #[.string s] w fun e w' => e = .returned (.tuple #[.pointer none, .int .i64 2]) ∧ w = w' := by
  have hs2 : (s.size : Int) ≠ 32 := by omega
  have hs3 : ((s.size : Int) == 32) = false := by simpa using hs2
  go_enter Tryz.func39, Tryz.ntmps39
  go_wp2
  go_ret2
  exact ⟨rfl, rfl⟩
/-! ### Retire -/
theorem retire_nil (w : World) (e : Int) :
    Calls Tryz.prog 58 #[.pointer none, .int .u32 e] w fun x w' => x = .returned (.int .i64 1) ∧ w = w' := by
  go_enter Tryz.func58, Tryz.ntmps58
  go_wp2_with (go_at_call 84; refine (thereK_no _).mono ?_; rintro e w1 ⟨rfl, rfl⟩)
  go_ret
  exact ⟨rfl, rfl⟩
theorem retire_top (w : World) (r b : Nat) (L : List (Nat × ByteArray)) (h : IsK w r b L) :
    Calls Tryz.prog 58 #[.pointer (some ⟨r, 0, none⟩), .int .u32 (top (eps L) : Int)] w fun x w' => x = .returned (.int .i64 2) ∧ Ext w w' := by
  have HK := Lib.hid h
  have HN := Lib.hid (fun u hu => newest_any u r b L hu)
  have hc := h.cell
  clear h
  generalize top (eps L) = t at *
  go_enter Tryz.func58, Tryz.ntmps58
  go_wp2_with (first
    | (go_at_call 76; refine (HN.out _ HK.out).mono ?_; rintro e w1 ⟨rfl, x1⟩)
    | (go_at_call 84; refine (thereK_yes _ r b hc).mono ?_; rintro e w2 ⟨rfl, rfl⟩))
  go_ret
  exact ⟨rfl, x1⟩
theorem retire_none (w : World) (r b : Nat) (L : List (Nat × ByteArray)) (h : IsK w r b L) (e : Nat) (h32 : e < 4294967296) (he : e ∉ eps L) :
    Calls Tryz.prog 58 #[.pointer (some ⟨r, 0, none⟩), .int .u32 (e : Int)] w fun x w' => x = .returned (.int .i64 3) ∧ Ext w w' := by
  have HK := Lib.hid h
  have HN := Lib.hid (fun u hu => newest_any u r b L hu)
  have hne : e ≠ top (eps L) := fun q => he (q ▸ h.good.top_in)
  have HH := Lib.hid (fun u (hu : IsK u r b L) => has_no u r b L e hu h32 he)
  have hc := h.cell
  clear h he
  generalize top (eps L) = t at *
  have hne2 : (e : Int) ≠ (t : Int) := by omega
  have hne3 : ((e : Int) == (t : Int)) = false := by simpa using hne2
  go_enter Tryz.func58, Tryz.ntmps58
  go_wp2_with (first
    | (go_at_call 76; refine (HN.out _ HK.out).mono ?_; rintro e w1 ⟨rfl, x1⟩)
    | (go_at_call 95; refine (HH.out _ (HK.out.ext x1)).mono ?_; rintro e w3 ⟨rfl, x3⟩)
    | (go_at_call 84; refine (thereK_yes _ r b hc).mono ?_; rintro e w2 ⟨rfl, rfl⟩))
  go_ret
  exact ⟨rfl, x1.trans x3⟩
set_option maxRecDepth 100000 in
set_option maxHeartbeats 2000000 in
theorem retire_yes (w : World) (r b : Nat) (L : List (Nat × ByteArray)) (h : IsK w r b L) (e : Nat) (hne : e ≠ top (eps L)) (he : e ∈ eps L) :
    Calls Tryz.prog 58 #[.pointer (some ⟨r, 0, none⟩), .int .u32 (e : Int)] w fun x w' => x = .returned (.int .i64 0) ∧ IsK w' r b (outK L e) ∧ w.grownBy w' (some b) := by
  have HK := Lib.hid h
  have h32 := (h.good.eps_each e he).2
  have HN := Lib.hid (fun u hu => newest_any u r b L hu)
  have HH := Lib.hid (fun u (hu : IsK u r b L) => has_yes u r b L e hu he)
  have HD := Lib.hid (fun u (hu : IsM u b L) => hu.drop h32 h.good.up)
  have HG := Lib.hid (h.good.out hne)
  have hc := h.cell
  clear h he
  generalize top (eps L) = t at *
  have hne2 : (e : Int) ≠ (t : Int) := by omega
  have hne3 : ((e : Int) == (t : Int)) = false := by simpa using hne2
  go_enter Tryz.func58, Tryz.ntmps58
  go_wp2_with (first
    | (go_at_call 76; refine (HN.out _ HK.out).mono ?_; rintro e w1 ⟨rfl, x1⟩)
    | (go_at_call 95; refine (HH.out _ (HK.out.ext x1)).mono ?_; rintro e w3 ⟨rfl, x3⟩; have x13 := x1.trans x3; have c3 := (HK.out.ext x13).cell; obtain ⟨w4, hrun, hm4, ht4⟩ := HD.out _ (HK.out.ext x13).map)
    | (go_at_call 84; refine (thereK_yes _ r b hc).mono ?_; rintro e w2 ⟨rfl, rfl⟩))
  go_ret
  have hh := HK.out.turned x13 ht4 hm4 HG.out
  exact ⟨rfl, hh.1, hh.2⟩
end Go.Proofs.YtcjdnifckngcfaaGreatDoor
end

section
namespace Go.Proofs.YtcjdnifckngcfaaGreatDoor
open Go.RowKit
theorem text_get (s : ByteArray) (i : Nat) (b : UInt8) (hb : s.data.toList[i]? = some b) : s[i]? = some b := by
  have hi : i < s.data.toList.length := (List.getElem?_eq_some_iff.1 hb).1
  have h2 : i < s.size := by rw [← size_list]; exact hi
  rw [getElem?_pos s i h2]
  rw [List.getElem?_eq_getElem hi] at hb
  exact hb
theorem text_at (s : ByteArray) (i : Nat) (b : UInt8) (hb : s.data.toList[i]? = some b) (h : i < s.size) : s[i] = b := by
  have e := text_get s i b hb
  rw [getElem?_pos s i h] at e
  exact Option.some.inj e
theorem index_text (s : ByteArray) (i : Nat) (b : UInt8) (hb : s.data.toList[i]? = some b) (w : World) :
    (Instr.index 9 (.string s) (.int .i64 (i : Int))).run Tryz.prog w = .ok (.int .u8 (b.toNat : Int)) w := by
  have h := text_get s i b hb
  have hu := Tryz.underlying9
  have h0 : (0 : Int) ≤ (i : Int) := by omega
  simp [Instr.index, run_underlying hu, asIntOf, go_sem, h0, h]
end Go.Proofs.YtcjdnifckngcfaaGreatDoor
end

section
namespace Go.Proofs.YtcjdnifckngcfaaGreatDoor
open Go.RowKit

theorem cut_to (X : ByteArray) (c : Nat) (h : c ≤ X.size) (u : World) : (Instr.slice 9 (.string X) none (some (.int .i64 (c : Int))) none).run Tryz.prog u = .ok (.string (X.extract 0 c)) u := by
  have hj : (0 : Int) ≤ (c : Int) ∧ (c : Int) ≤ (X.size : Int) := by omega
  simp [Instr.slice, Instr.sliceBounds, Instr.sliceBound, asIntOf, run_underlying Tryz.underlying9, hj]
  intro hgt
  omega
theorem cut_from (X : ByteArray) (c : Nat) (h : c ≤ X.size) (u : World) : (Instr.slice 9 (.string X) (some (.int .i64 (c : Int))) none none).run Tryz.prog u = .ok (.string (X.extract c X.size)) u := by
  have hj : (0 : Int) ≤ (c : Int) ∧ (c : Int) ≤ (X.size : Int) := by omega
  simp [Instr.slice, Instr.sliceBounds, Instr.sliceBound, asIntOf, run_underlying Tryz.underlying9, hj]
  intro hgt
  omega
theorem cut_mid (X : ByteArray) (a c : Nat) (ha : a ≤ c) (h : c ≤ X.size) (u : World) : (Instr.slice 9 (.string X) (some (.int .i64 (a : Int))) (some (.int .i64 (c : Int))) none).run Tryz.prog u = .ok (.string (X.extract a c)) u := by
  have hj : (0 : Int) ≤ (c : Int) ∧ (c : Int) ≤ (X.size : Int) := by omega
  have hk : (0 : Int) ≤ (a : Int) ∧ (a : Int) ≤ (c : Int) := by omega
  simp [Instr.slice, Instr.sliceBounds, Instr.sliceBound, asIntOf, run_underlying Tryz.underlying9, hj, hk]
  rw [if_pos h, if_pos ha]
theorem cut_list (X : ByteArray) (a c : Nat) : (X.extract a c).data.toList = (X.data.toList.drop a).take (c - a) := by
  rw [ByteArray.data_extract, Array.toList_extract, List.extract_eq_take_drop]
end Go.Proofs.YtcjdnifckngcfaaGreatDoor
end

section
namespace Go.Proofs.YtcjdnifckngcfaaGreatDoor
open Go.RowKit

theorem count_yes (s : ByteArray) (n : Nat) (h0 : 0 < s.size) (hb : s[0].toNat = n) (h1 : 1 ≤ n) (h64 : n ≤ 64) (hs : s.size = 1 + n * 36) (w : World) :
    Calls Tryz.prog 147 #[.string s] w fun e w' => e = .returned (.tuple #[.int .i64 (n : Int), .bool true]) ∧ w = w' := by
  have hemp : s.toList.isEmpty = false := by
    have hl : s.toList.length = s.size := by rw [ByteArray.toList_eq, size_list]
    cases hq : s.toList with
    | nil => rw [hq] at hl; simp at hl; omega
    | cons => rfl
  have hw : wrap64 (s[0].toNat : Int) = (n : Int) := by rw [hb]; simp [wrap64]; omega
  have hsi : (s.size : Int) = 1 + (n : Int) * 36 := by omega
  have h1i : ¬ ((n : Int) < 1) := by omega
  have h1j : 1 ≤ (n : Int) := by omega
  have h64i : ¬ (64 : Int) < (n : Int) := by omega
  have h64j : (n : Int) ≤ 64 := by omega
  have hsz := Lib.hid hs; have HB := Lib.hid hb
  have h0i : (0 : Int) < (s.size : Int) := by omega
  clear hs hb
  go_enter Tryz.func147, Tryz.ntmps147
  go_wp2
  go_ret2
  exact ⟨rfl, rfl⟩
theorem takeK_any (w : World) (c : Nat) (X : ByteArray) (k : Nat) (hk : k ≤ X.size) (hB : Blk w c 9 [.string X]) :
    Calls Tryz.prog 148 #[.int .i64 (k : Int), .pointer (some ⟨c, 0, none⟩)] w fun e w' => e = .returned (.string (X.extract 0 k)) ∧ w' = w.setCell ⟨c, 0, none⟩ (.string (X.extract k X.size)) := by
  have h1 := fun u => cut_to X k hk u
  have h2 := fun u => cut_from X k hk u
  have c0 := hB.cell 0 _ rfl
  have f0 := hB.frozen 0
  clear hB
  go_enter Tryz.func148, Tryz.ntmps148
  go_wp2
  go_ret
  exact ⟨rfl, rfl⟩
end Go.Proofs.YtcjdnifckngcfaaGreatDoor
end

section
namespace Go.Proofs.YtcjdnifckngcfaaGreatDoor
open Go.RowKit

theorem txt_size (l : List UInt8) : ((⟨l.toArray⟩ : ByteArray)).size = l.length := by simp [ByteArray.size]
theorem str_append (a b : List UInt8) : (⟨a.toArray⟩ : ByteArray) ++ ⟨b.toArray⟩ = ⟨(a ++ b).toArray⟩ := by
  apply ByteArray.ext
  rw [ByteArray.data_append]
  simp
theorem txt_cat (s : ByteArray) (b : List UInt8) : s ++ ⟨b.toArray⟩ = ⟨(s.data.toList ++ b).toArray⟩ := by
  apply ByteArray.ext
  rw [ByteArray.data_append]
  simp
theorem txt_extract (l : List UInt8) (n : Nat) : (⟨l.toArray⟩ : ByteArray).extract 0 n = ⟨(l.take n).toArray⟩ := by
  apply ByteArray.ext
  simp
/-- The first n bytes of a text. -/
theorem slice_upto (X : ByteArray) (c : Nat) (h : c ≤ X.size) (u : World) : (Instr.slice 9 (.string X) none (some (.int .i64 (c : Int))) none).run Tryz.prog u = .ok (.string (X.extract 0 c)) u := by
  have hj : (0 : Int) ≤ (c : Int) ∧ (c : Int) ≤ (X.size : Int) := by omega
  simp [Instr.slice, Instr.sliceBounds, Instr.sliceBound, asIntOf, run_underlying Tryz.underlying9, hj]
  intro hgt
  omega
end Go.Proofs.YtcjdnifckngcfaaGreatDoor
end

section
namespace Go.Proofs.YtcjdnifckngcfaaGreatDoor
open Go.RowKit

/-- The rows of keys. -/
def rowsL : List (Nat × ByteArray) → List UInt8
  | [] => []
  | x :: r => (be 4 x.1 ++ x.2.data.toList) ++ rowsL r
theorem rowsL_append : ∀ (l m : List (Nat × ByteArray)), rowsL (l ++ m) = rowsL l ++ rowsL m
  | [], _ => rfl
  | x :: r, m => by rw [List.cons_append, rowsL, rowsL_append r m, rowsL, List.append_assoc (be 4 x.1 ++ x.2.data.toList)]
theorem rowsL_succ {L : List (Nat × ByteArray)} {j e : Nat} {s : ByteArray} (h : L[j]? = some (e, s)) : rowsL (L.take (j + 1)) = rowsL (L.take j) ++ be 4 e ++ s.data.toList := by
  rw [List.take_add_one, h, rowsL_append]
  simp [rowsL]
theorem rowsL_length : ∀ {L : List (Nat × ByteArray)}, (∀ x ∈ L, x.2.size = 32) → (rowsL L).length = 36 * L.length
  | [], _ => rfl
  | x :: r, h => by
    have h1 := h x (by simp)
    rw [rowsL, List.length_append, List.length_append, be_length, size_list, rowsL_length fun y hy => h y (by simp [hy]), List.length_cons]
    omega
/-- A ring's bytes. -/
def ringL (L : List (Nat × ByteArray)) : List UInt8 := UInt8.ofNat L.length :: rowsL L
end Go.Proofs.YtcjdnifckngcfaaGreatDoor
end

section
namespace Go.Proofs.YtcjdnifckngcfaaGreatDoor
open Go.RowKit

/-- k bytes of s from a on. -/
def sub (s : ByteArray) (a k : Nat) : List UInt8 := (s.data.toList.drop a).take k
theorem sub_zero (s : ByteArray) (a : Nat) : sub s a 0 = [] := by simp [sub]
theorem sub_length (s : ByteArray) (a k : Nat) (h : a + k ≤ s.size) : (sub s a k).length = k := by
  have : s.data.toList.length = s.size := by rw [Array.length_toList]; rfl
  simp only [sub, List.length_take, List.length_drop]; omega
theorem sub_snoc (s : ByteArray) (a k : Nat) (h : a + k < s.size) : sub s a (k + 1) = sub s a k ++ [s[a + k]] := by
  have hl : s.data.toList.length = s.size := by rw [Array.length_toList]; rfl
  unfold sub
  rw [List.take_succ_eq_append_getElem (by simp only [List.length_drop]; omega)]
  simp
  rfl
theorem num_sub_snoc (s : ByteArray) (a k : Nat) (h : a + k < s.size) : num (sub s a (k + 1)) = num (sub s a k) * 256 + s[a + k].toNat := by rw [sub_snoc s a k h, num_snoc]
/-- The number that stands in k bytes of s from a on; 0, if they are not all there. -/
def getv (s : ByteArray) (a : Int) (k : Nat) : Nat := if 0 ≤ a ∧ a ≤ (s.size : Int) - k then num (sub s a.toNat k) else 0
def gets (s : ByteArray) (a : Int) (k : Nat) : Bool := if 0 ≤ a ∧ a ≤ (s.size : Int) - k then true else false
theorem getv_yes {s : ByteArray} {b k : Nat} (h : 0 ≤ (b : Int) ∧ (b : Int) ≤ (s.size : Int) - k) : getv s b k = num (sub s b k) := by unfold getv; rw [if_pos h]; rfl
theorem gets_yes {s : ByteArray} {a : Int} {k : Nat} (h : 0 ≤ a ∧ a ≤ (s.size : Int) - k) : gets s a k = true := by unfold gets; rw [if_pos h]
theorem getv_no {s : ByteArray} {a : Int} {k : Nat} (h : ¬ (0 ≤ a ∧ a ≤ (s.size : Int) - k)) : getv s a k = 0 := by unfold getv; rw [if_neg h]
theorem gets_no {s : ByteArray} {a : Int} {k : Nat} (h : ¬ (0 ≤ a ∧ a ≤ (s.size : Int) - k)) : gets s a k = false := by unfold gets; rw [if_neg h]

theorem or_add (m c : Nat) (hc : c < 256) : m * 256 ||| c = m * 256 + c := by
  have := Nat.two_pow_add_eq_or_of_lt (i := 8) (b := c) hc m
  rw [Nat.mul_comm] at this
  exact this.symm
theorem pow_le (j : Nat) (n : Nat) (h : j ≤ n) : 256 ^ j ≤ 256 ^ n := Nat.pow_le_pow_right (by decide) h
theorem u64_or_step {s : ByteArray} {a j k m : Nat} (hk : k ≤ 8) (hlt : j < k) (hi : a + j < s.size) (hm : m = num (sub s a j)) :
    Value.int .u64 (bits BinOp.or .u64 (IntKind.u64.wrap ((m : Int) * 256)) (IntKind.u64.wrap (s[a + j].toNat : Int))) = Value.int .u64 ((num (sub s a (j + 1)) : Nat) : Int) := by
  have hl := num_lt j (sub s a j) (sub_length s a j (by omega))
  have hp := pow_le j 7 (by omega)
  have hc := s[a + j].toNat_lt
  have e1 : IntKind.u64.wrap ((m : Int) * 256) = ((m * 256 : Nat) : Int) := by have := u64_nat (x := m * 256) (by omega); simpa using this
  have e2 := u64_nat (x := s[a + j].toNat) (by omega)
  rw [e1, e2, u64_or_nat _ _ (by omega) (by omega), or_add _ _ hc, num_sub_snoc _ _ _ hi, hm]
theorem u32_nat {x : Nat} (h : x < 2 ^ 32) : IntKind.u32.wrap (x : Int) = (x : Int) := IntWalk.u32_in _ ⟨by omega, by omega⟩
theorem u32_or_step {s : ByteArray} {a j k m : Nat} (hk : k ≤ 4) (hlt : j < k) (hi : a + j < s.size) (hm : m = num (sub s a j)) :
    Value.int .u32 (bits BinOp.or .u32 (IntKind.u32.wrap ((m : Int) * 256)) (IntKind.u32.wrap (s[a + j].toNat : Int))) = Value.int .u32 ((num (sub s a (j + 1)) : Nat) : Int) := by
  have hl := num_lt j (sub s a j) (sub_length s a j (by omega))
  have hp := pow_le j 3 (by omega)
  have hc := s[a + j].toNat_lt
  have e1 : IntKind.u32.wrap ((m : Int) * 256) = ((m * 256 : Nat) : Int) := by have := u32_nat (x := m * 256) (by omega); simpa using this
  have e2 := u32_nat (x := s[a + j].toNat) (by omega)
  rw [e1, e2, u32_or_nat _ _ (by omega) (by omega), or_add _ _ hc, num_sub_snoc _ _ _ hi, hm]
theorem u64_add_step {s : ByteArray} {a j k m : Nat} (hk : k ≤ 8) (hlt : j < k) (hi : a + j < s.size) (hm : m = num (sub s a j)) :
    Value.int .u64 (IntKind.u64.wrap (IntKind.u64.wrap ((m : Int) * 256) + IntKind.u64.wrap (s[a + j].toNat : Int))) = Value.int .u64 ((num (sub s a (j + 1)) : Nat) : Int) := by
  have hl := num_lt j (sub s a j) (sub_length s a j (by omega))
  have hp := pow_le j 7 (by omega)
  have hc := s[a + j].toNat_lt
  have e1 : IntKind.u64.wrap ((m : Int) * 256) = ((m * 256 : Nat) : Int) := by have := u64_nat (x := m * 256) (by omega); simpa using this
  have e2 := u64_nat (x := s[a + j].toNat) (by omega)
  have e3 := u64_nat (x := m * 256 + s[a + j].toNat) (by omega)
  rw [e1, e2, num_sub_snoc _ _ _ hi, ← hm, ← e3]
  rfl

theorem get32_yes (s : ByteArray) (a k : Nat) (hk : k ≤ 4) (h : a + k ≤ s.size) (hs : s.size ≤ 140737488351232) (w : World) :
    Calls Tryz.prog 146 #[.string s, .int .i64 (a : Int), .int .i64 (k : Int)] w fun e w' => e = .returned (.tuple #[.int .u32 (num (sub s a k) : Int), .bool true]) ∧ w = w' := by
  go_enter Tryz.func146, Tryz.ntmps146
  go_wp2
  go_loop [8, 21] (fun n i => ∃ j : Nat, j ≤ k ∧ i = .int .i64 j ∧ n = .int .u32 (num (sub s a j) : Int)) (fun _ i => k - (intOf i).toNat)
  case atStart => exact ⟨0, Nat.zero_le _, rfl, by simp [sub_zero, num]⟩
  case round =>
    obtain ⟨j, hj, rfl, rfl⟩ := hrel
    by_cases hlt : j < k
    · obtain ⟨m, hm⟩ : ∃ m : Nat, m = num (sub s a j) := ⟨_, rfl⟩
      rw [← hm]
      have Hm := Lib.hid hm; clear hm
      have hi : a + j < s.size := by omega
      go_wp2
      go_round
      case rel => exact ⟨j + 1, by omega, by go_num, u32_or_step hk hlt hi Hm.out⟩
      case measure => simp [intOf]; omega
    · obtain rfl : j = k := by omega
      go_wp2
      go_ret2
      exact ⟨rfl, rfl⟩
theorem get32_no (s : ByteArray) (a : Int) (k : Nat) (hk : k ≤ 4) (h : a < 0 ∨ (s.size : Int) - k < a) (hs : s.size ≤ 140737488351232) (w : World) :
    Calls Tryz.prog 146 #[.string s, .int .i64 a, .int .i64 (k : Int)] w fun e w' => e = .returned (.tuple #[.int .u32 0, .bool false]) ∧ w = w' := by
  by_cases h0 : a < 0
  all_goals
    go_enter Tryz.func146, Tryz.ntmps146
    go_wp2
    go_ret2
    exact ⟨rfl, rfl⟩
theorem get32_any (s : ByteArray) (a : Int) (k : Nat) (hk : k ≤ 4) (hs : s.size ≤ 140737488351232) (w : World) :
    Calls Tryz.prog 146 #[.string s, .int .i64 a, .int .i64 (k : Int)] w fun e w' => e = .returned (.tuple #[.int .u32 (getv s a k : Int), .bool (gets s a k)]) ∧ w = w' := by
  by_cases h : 0 ≤ a ∧ a ≤ (s.size : Int) - k
  · obtain ⟨b, rfl⟩ : ∃ b : Nat, a = (b : Int) := ⟨a.toNat, by omega⟩
    rw [getv_yes h, gets_yes h]
    exact get32_yes s b k hk (by omega) hs w
  · rw [getv_no h, gets_no h]
    exact get32_no s a k hk (by omega) hs w

theorem Get32_any (s : ByteArray) (a : Int) (hs : s.size ≤ 140737488351232) (w : World) :
    Calls Tryz.prog 120 #[.string s, .int .i64 a] w fun e w' => e = .returned (.tuple #[.int .u32 (getv s a 4 : Int), .bool (gets s a 4)]) ∧ w = w' := by
  go_enter Tryz.func120, Tryz.ntmps120
  go_wp2_with (go_at_call 146; refine (get32_any s a 4 (by omega) hs _).mono ?_; rintro e w1 ⟨rfl, rfl⟩)
  go_ret2
  exact ⟨rfl, rfl⟩
end Go.Proofs.YtcjdnifckngcfaaGreatDoor
end

section
namespace Go.Proofs.YtcjdnifckngcfaaGreatDoor
open Go.RowKit

theorem rGet_yes (s : ByteArray) (a k : Nat) (hk : k ≤ 8) (h : a + k ≤ s.size) (hs : s.size ≤ 140737488351232) (w : World) :
    Calls Tryz.prog 98 #[.string s, .int .i64 (a : Int), .int .i64 (k : Int)] w fun e w' => e = .returned (.tuple #[.int .u64 (num (sub s a k) : Int), .bool true]) ∧ w = w' := by
  go_enter Tryz.func98, Tryz.ntmps98
  go_wp2
  go_loop [8, 9] (fun n i => ∃ j : Nat, j ≤ k ∧ i = .int .i64 j ∧ n = .int .u64 (num (sub s a j) : Int)) (fun _ i => k - (intOf i).toNat)
  case atStart => exact ⟨0, Nat.zero_le _, rfl, by simp [sub_zero, num]⟩
  case round =>
    obtain ⟨j, hj, rfl, rfl⟩ := hrel
    by_cases hlt : j < k
    · obtain ⟨m, hm⟩ : ∃ m : Nat, m = num (sub s a j) := ⟨_, rfl⟩
      rw [← hm]
      have Hm := Lib.hid hm; clear hm
      have hi : a + j < s.size := by omega
      go_wp2
      go_round
      case rel => exact ⟨j + 1, by omega, by go_num, u64_add_step hk hlt hi Hm.out⟩
      case measure => simp [intOf]; omega
    · obtain rfl : j = k := by omega
      go_wp2
      go_ret2
      exact ⟨rfl, rfl⟩
theorem rGet_no (s : ByteArray) (a : Int) (k : Nat) (hk : k ≤ 8) (h : a < 0 ∨ (s.size : Int) - k < a) (hs : s.size ≤ 140737488351232) (w : World) :
    Calls Tryz.prog 98 #[.string s, .int .i64 a, .int .i64 (k : Int)] w fun e w' => e = .returned (.tuple #[.int .u64 0, .bool false]) ∧ w = w' := by
  by_cases h0 : a < 0
  all_goals
    go_enter Tryz.func98, Tryz.ntmps98
    go_wp2
    go_ret2
    exact ⟨rfl, rfl⟩
theorem rGet_any (s : ByteArray) (a : Int) (k : Nat) (hk : k ≤ 8) (hs : s.size ≤ 140737488351232) (w : World) :
    Calls Tryz.prog 98 #[.string s, .int .i64 a, .int .i64 (k : Int)] w fun e w' => e = .returned (.tuple #[.int .u64 (getv s a k : Int), .bool (gets s a k)]) ∧ w = w' := by
  by_cases h : 0 ≤ a ∧ a ≤ (s.size : Int) - k
  · obtain ⟨b, rfl⟩ : ∃ b : Nat, a = (b : Int) := ⟨a.toNat, by omega⟩
    rw [getv_yes h, gets_yes h]
    exact rGet_yes s b k hk (by omega) hs w
  · rw [getv_no h, gets_no h]
    exact rGet_no s a k hk (by omega) hs w
end Go.Proofs.YtcjdnifckngcfaaGreatDoor
end

section
namespace Go.Proofs.YtcjdnifckngcfaaGreatDoor

theorem num_cons (b : UInt8) (l : List UInt8) : num (b :: l) = b.toNat * 256 ^ l.length + num l := by
  have key : ∀ (l : List UInt8) (x : Nat), l.foldl (fun n b => n * 256 + b.toNat) x = x * 256 ^ l.length + num l := by
    intro l
    induction l with
    | nil => intro x; simp [num]
    | cons c r ih =>
      intro x
      have e : num (c :: r) = c.toNat * 256 ^ r.length + num r := by
        show List.foldl _ (0 * 256 + c.toNat) r = _
        rw [ih]; simp
      rw [List.foldl_cons, ih, e, List.length_cons, Nat.pow_succ, Nat.add_mul, Nat.mul_assoc, Nat.mul_comm 256, Nat.add_assoc]
  show List.foldl _ (0 * 256 + b.toNat) l = _
  rw [key]; simp
theorem num_be (n : Nat) : ∀ k, num (be k n) = n % 256 ^ k
  | 0 => by simp [be, num, Nat.mod_one]
  | k + 1 => by
    rw [be, num_cons, num_be n k, be_length, Nat.mod_pow_succ, Nat.add_comm, Nat.mul_comm]
    rfl
end Go.Proofs.YtcjdnifckngcfaaGreatDoor
end
