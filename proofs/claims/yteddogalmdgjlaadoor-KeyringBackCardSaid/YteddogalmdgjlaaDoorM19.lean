/- Contracts: keys by epochs: a new ring, an epoch's key forgotten: by the program. Contracts: either or of two texts, by the program and by the document's answer; whether texts are the same. -/
import Derived.Test.YteddogalmdgjlaaDoorRotateK
import Derived.Test.YteddogalmdgjlaaDoorProg
import Derived.Test.YteddogalmdgjlaaDoorBytes
import Derived.Test.YteddogalmdgjlaaDoorM08
import Derived.WalkSpells
import Derived.Laws.BitsAllLaws
import Derived.RegionTactic
import Derived.ChangeAlike
import Derived.BigRegion
import Derived.Deep.QuietTactic
import Derived.BigQuiet
section
namespace Go.Proofs.YteddogalmdgjlaaDoor
open Go.RowKit

theorem GoodK.one (s : ByteArray) (hs : s.size = 32) : GoodK [(1, s)] := by
  refine ⟨by simp, by simp, by simp [eps], fun x hx => ?_⟩
  rw [List.mem_singleton] at hx
  subst hx
  exact ⟨Nat.le_refl _, by simp, hs⟩
set_option maxRecDepth 100000 in
set_option maxHeartbeats 2000000 in
theorem newK_yes (w : World) (s : ByteArray) (hs : s.size = 32) :
    Calls Tryd.prog 15 #[.string s] w fun e w' => ∃ r b, e = .returned (.tuple #[.pointer (some ⟨r, 0, none⟩), .int .i64 0]) ∧ IsK w' r b [(1, s)] ∧ w.heap.size ≤ r ∧ w.heap.size ≤ b ∧ Ext w w' := by
  have hs2 : (s.size : Int) = 32 := by omega
  have HC := Lib.hid (fun u => rootKeyOf_any s hs u)
  have HG := Lib.hid (GoodK.one s hs)
  obtain ⟨W0, hW0⟩ : ∃ W0, w.alloc (.map #[] 0) = W0 := ⟨_, rfl⟩
  have hx0 : Ext w W0 := by rw [← hW0]; exact (Ext.refl w).alloc _
  have hM0 : IsM W0 w.heap.size [] := by rw [← hW0]; exact IsM.made w
  have hmk : ∀ t, (Instr.makeMap t none).run Tryd.prog w = .ok (.map (some w.heap.size)) W0 := fun t => by rw [← hW0]; exact run_makeMap t w
  have HX := Lib.hid hx0; have HM := Lib.hid hM0
  have HP := Lib.hid (fun u (hu : IsM u w.heap.size []) => hu.put (e := 1) (s := s) (by omega) (by simp [eps]))
  clear hx0 hM0 hW0
  go_enter Tryd.func15, Tryd.ntmps15
  go_wp2_with (go_at_call 28; refine (HC.out _).mono ?_; rintro e w1 ⟨rfl, x1⟩; obtain ⟨w4, hrun, hm4, ht4⟩ := HP.out _ (HM.out.ext x1); rw [show ((1 : Nat) : Int) = 1 from rfl] at hrun)
  have g := ht4.grown
  have x4 : Ext w w4 := Ext.grown (HX.out.trans x1) g (fun k hk => by cases hk; exact Nat.le_refl _)
  go_ret2
  refine ⟨w4.heap.size, w.heap.size, rfl, ⟨Blk.new _ _ _, ?_, HG.out⟩, x4.size, Nat.le_refl _, x4.alloc _⟩
  simpa using hm4.alloc _
theorem newK_no (w : World) (s : ByteArray) (hs : s.size ≠ 32) :
    Calls Tryd.prog 15 #[.string s] w fun e w' => e = .returned (.tuple #[.pointer none, .int .i64 2]) ∧ w = w' := by
  have hs2 : (s.size : Int) ≠ 32 := by omega
  have hs3 : ((s.size : Int) == 32) = false := by simpa using hs2
  go_enter Tryd.func15, Tryd.ntmps15
  go_wp2
  go_ret2
  exact ⟨rfl, rfl⟩
/-! ### Retire -/
theorem retire_nil (w : World) (e : Int) :
    Calls Tryd.prog 16 #[.pointer none, .int .u32 e] w fun x w' => x = .returned (.int .i64 1) ∧ w = w' := by
  go_enter Tryd.func16, Tryd.ntmps16
  go_wp2_with (go_at_call 30; refine (thereK_no _).mono ?_; rintro e w1 ⟨rfl, rfl⟩)
  go_ret
  exact ⟨rfl, rfl⟩
theorem retire_top (w : World) (r b : Nat) (L : List (Nat × ByteArray)) (h : IsK w r b L) :
    Calls Tryd.prog 16 #[.pointer (some ⟨r, 0, none⟩), .int .u32 (top (eps L) : Int)] w fun x w' => x = .returned (.int .i64 2) ∧ Ext w w' := by
  have HK := Lib.hid h
  have HN := Lib.hid (fun u hu => newest_any u r b L hu)
  have hc := h.cell
  clear h
  generalize top (eps L) = t at *
  go_enter Tryd.func16, Tryd.ntmps16
  go_wp2_with (first
    | (go_at_call 20; refine (HN.out _ HK.out).mono ?_; rintro e w1 ⟨rfl, x1⟩)
    | (go_at_call 30; refine (thereK_yes _ r b hc).mono ?_; rintro e w2 ⟨rfl, rfl⟩))
  go_ret
  exact ⟨rfl, x1⟩
theorem retire_none (w : World) (r b : Nat) (L : List (Nat × ByteArray)) (h : IsK w r b L) (e : Nat) (h32 : e < 4294967296) (he : e ∉ eps L) :
    Calls Tryd.prog 16 #[.pointer (some ⟨r, 0, none⟩), .int .u32 (e : Int)] w fun x w' => x = .returned (.int .i64 3) ∧ Ext w w' := by
  have HK := Lib.hid h
  have HN := Lib.hid (fun u hu => newest_any u r b L hu)
  have hne : e ≠ top (eps L) := fun q => he (q ▸ h.good.top_in)
  have HH := Lib.hid (fun u (hu : IsK u r b L) => has_no u r b L e hu h32 he)
  have hc := h.cell
  clear h he
  generalize top (eps L) = t at *
  have hne2 : (e : Int) ≠ (t : Int) := by omega
  have hne3 : ((e : Int) == (t : Int)) = false := by simpa using hne2
  go_enter Tryd.func16, Tryd.ntmps16
  go_wp2_with (first
    | (go_at_call 20; refine (HN.out _ HK.out).mono ?_; rintro e w1 ⟨rfl, x1⟩)
    | (go_at_call 31; refine (HH.out _ (HK.out.ext x1)).mono ?_; rintro e w3 ⟨rfl, x3⟩)
    | (go_at_call 30; refine (thereK_yes _ r b hc).mono ?_; rintro e w2 ⟨rfl, rfl⟩))
  go_ret
  exact ⟨rfl, x1.trans x3⟩
set_option maxRecDepth 100000 in
set_option maxHeartbeats 2000000 in
theorem retire_yes (w : World) (r b : Nat) (L : List (Nat × ByteArray)) (h : IsK w r b L) (e : Nat) (hne : e ≠ top (eps L)) (he : e ∈ eps L) :
    Calls Tryd.prog 16 #[.pointer (some ⟨r, 0, none⟩), .int .u32 (e : Int)] w fun x w' => x = .returned (.int .i64 0) ∧ IsK w' r b (outK L e) ∧ w.grownBy w' (some b) := by
  have HK := Lib.hid h
  have h32 := (h.good.eps_each e he).2
  have HN := Lib.hid (fun u hu => newest_any u r b L hu)
  have HH := Lib.hid (fun u (hu : IsK u r b L) => has_yes u r b L e hu he)
  have HD := Lib.hid (fun u (hu : IsM u b L) => hu.drop h32 h.good.up)
  have HG := Lib.hid (h.good.out hne)
  have hc := h.cell
  clear h he
  generalize top (eps L) = t at *
  have hne2 : (e : Int) ≠ (t : Int) := by omega
  have hne3 : ((e : Int) == (t : Int)) = false := by simpa using hne2
  go_enter Tryd.func16, Tryd.ntmps16
  go_wp2_with (first
    | (go_at_call 20; refine (HN.out _ HK.out).mono ?_; rintro e w1 ⟨rfl, x1⟩)
    | (go_at_call 31; refine (HH.out _ (HK.out.ext x1)).mono ?_; rintro e w3 ⟨rfl, x3⟩; have x13 := x1.trans x3; have c3 := (HK.out.ext x13).cell; obtain ⟨w4, hrun, hm4, ht4⟩ := HD.out _ (HK.out.ext x13).map)
    | (go_at_call 30; refine (thereK_yes _ r b hc).mono ?_; rintro e w2 ⟨rfl, rfl⟩))
  go_ret
  have hh := HK.out.turned x13 ht4 hm4 HG.out
  exact ⟨rfl, hh.1, hh.2⟩
end Go.Proofs.YteddogalmdgjlaaDoor
end

section
namespace Go.Proofs.YteddogalmdgjlaaDoor
open Go.RowKit

/-- Either or of two texts, byte by byte, as far as the first goes. -/
def xorL (a b : List UInt8) : List UInt8 := List.zipWith (· ^^^ ·) a b

theorem xorL_length {a b : ByteArray} (h : a.size = b.size) : (xorL a.data.toList b.data.toList).length = a.size := by
  unfold xorL; rw [List.length_zipWith, size_list, size_list]; omega
theorem xorL_at {a b : ByteArray} {j : Nat} (h1 : j < a.size) (h2 : j < b.size) : (xorL a.data.toList b.data.toList)[j]? = some (a[j] ^^^ b[j]) := by
  unfold xorL; rw [List.getElem?_zipWith, byte_at a j h1, byte_at b j h2]
theorem xor_byte (x y : UInt8) : bits BinOp.xor IntKind.u8 (x.toNat : Int) (y.toNat : Int) = ((x ^^^ y).toNat : Int) := by
  rw [u8_xor_nat _ _ x.toNat_lt y.toNat_lt, UInt8.toNat_xor]
theorem or_is_sum (a b : Nat) (ha : a < 256) (hb : b < 256) : a ||| b = (a ^^^ b) + (a &&& b) := by
  let x := BitVec.ofNat 16 a
  let y := BitVec.ofNat 16 b
  have hx : x.toNat = a := Nat.mod_eq_of_lt (by omega)
  have hy : y.toNat = b := Nat.mod_eq_of_lt (by omega)
  have h0 : (x ^^^ y) &&& (x &&& y) = 0#16 := by
    apply BitVec.eq_of_getLsbD_eq
    intro i hi
    simp only [BitVec.getLsbD_and, BitVec.getLsbD_xor, BitVec.getLsbD_zero]
    cases x.getLsbD i <;> cases y.getLsbD i <;> rfl
  have h1 : (x ^^^ y) ||| (x &&& y) = x ||| y := by
    apply BitVec.eq_of_getLsbD_eq
    intro i hi
    simp only [BitVec.getLsbD_and, BitVec.getLsbD_xor, BitVec.getLsbD_or]
    cases x.getLsbD i <;> cases y.getLsbD i <;> rfl
  have h2 := BitVec.add_eq_or_of_and_eq_zero _ _ h0
  rw [h1] at h2
  have h3 := congrArg BitVec.toNat h2
  rw [BitVec.toNat_add, BitVec.toNat_and, BitVec.toNat_xor, BitVec.toNat_or, hx, hy] at h3
  have l1 : a ^^^ b < 2 ^ 8 := Nat.xor_lt_two_pow ha hb
  have l2 : a &&& b ≤ a := Nat.and_le_left
  omega
theorem or_sub_and (x y : UInt8) : (bits BinOp.or IntKind.u8 (x.toNat : Int) (y.toNat : Int) - bits BinOp.and IntKind.u8 (x.toNat : Int) (y.toNat : Int)) % 256 = ((x ^^^ y).toNat : Int) := by
  have hx := x.toNat_lt
  have hy := y.toNat_lt
  rw [u8_or_nat _ _ hx hy, u8_and_nat _ _ hx hy, UInt8.toNat_xor, or_is_sum _ _ hx hy]
  have l1 : x.toNat ^^^ y.toNat < 2 ^ 8 := Nat.xor_lt_two_pow hx hy
  omega

theorem xor_yes (a b : ByteArray) (hab : a.size = b.size) (ha : a.size ≤ 140737488351232) (w : World) :
    Calls Tryd.prog 74 #[.string a, .string b] w fun e w' => e = .returned (.tuple #[.string ⟨(xorL a.data.toList b.data.toList).toArray⟩, .bool true]) ∧ Ext w w' := by
  have hmk := make_bytes a.size (by omega)
  have hne : ((a.size : Int) != (b.size : Int)) = false := by rw [hab]; simp
  have Hab := Lib.hid hab; clear hab
  go_enter Tryd.func74, Tryd.ntmps74
  go_wp2
  go_loopw [18] (fun i wr => ∃ j : Nat, j ≤ a.size ∧ i = .int .i64 j ∧ Row wr w.heap.size 5 ((xorL a.data.toList b.data.toList).take j ++ List.replicate (a.size - j) 0) ∧ Ext w wr) (fun i _ => a.size - (intOf i).toNat)
  case atStart => exact ⟨0, Nat.zero_le _, rfl, by simpa using Row.made w 5 a.size, (Ext.refl w).alloc _⟩
  case round =>
    obtain ⟨j, hj, rfl, hrow, hext⟩ := hrel
    by_cases hlt : j < a.size
    · have hlt2 : j < b.size := by have := Hab.out; omega
      have hc := fill_cell hrow (xorL_length Hab.out) hlt
      have hf := hrow.frozen j
      go_wp2
      go_region
      go_wp2
      go_roundw
      case rel => exact ⟨j + 1, by omega, by go_num, (fill_step hrow (xorL_length Hab.out) hlt _ _ (xorL_at hlt hlt2) (xor_byte _ _)).drew, (hext.setCell (Nat.le_refl _) _).drew⟩
      case measure => simp [intOf]; omega
    · obtain rfl : j = a.size := by omega
      have ht := (fill_done hrow (xorL_length Hab.out)).text (P := Tryd.prog) 35 5 9 Tryd.underlying35 Tryd.underlying5 Tryd.underlying9 a.size a.size (xorL_length Hab.out)
      clear hrow
      go_wp2
      go_ret2
      exact ⟨rfl, hext⟩

theorem xor_no (a b : ByteArray) (hab : ¬ a.size = b.size) (w : World) :
    Calls Tryd.prog 74 #[.string a, .string b] w fun e w' => e = .returned (.tuple #[.string ⟨#[]⟩, .bool false]) ∧ Ext w w' := by
  have hne : ((a.size : Int) != (b.size : Int)) = true := by simp; omega
  go_enter Tryd.func74, Tryd.ntmps74
  go_wp2
  go_ret2
  exact ⟨rfl, Ext.refl _⟩

end Go.Proofs.YteddogalmdgjlaaDoor
end
