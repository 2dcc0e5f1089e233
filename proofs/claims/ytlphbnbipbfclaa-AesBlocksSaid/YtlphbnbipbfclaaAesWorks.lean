/- Contracts: the document's example of layer 4 answers as it says; a text of 16 bytes, out of any. -/
import Derived.Test.YtlphbnbipbfclaaAesEx
import Derived.Test.YtlphbnbipbfclaaNew
import Derived.Test.YtlphbnbipbfclaaRUnhex
import Derived.Test.YtlphbnbipbfclaaHex
import Derived.Test.YtlphbnbipbfclaaMake
namespace Go.Proofs.Ytlphbnbipbfclaa
open Go.RowKit

theorem ex_uk (w : World) : Calls Try.prog 25 #[.string ⟨#[50, 98, 55, 101, 49, 53, 49, 54, 50, 56, 97, 101, 100, 50, 97, 54, 97, 98, 102, 55, 49, 53, 56, 56, 48, 57, 99, 102, 52, 102, 51, 99]⟩] w fun e w' => e = .returned (.tuple #[.string ⟨exK.toArray⟩, .bool true]) ∧ Ext w w' := by
  have e1 : unhexB ⟨#[50, 98, 55, 101, 49, 53, 49, 54, 50, 56, 97, 101, 100, 50, 97, 54, 97, 98, 102, 55, 49, 53, 56, 56, 48, 57, 99, 102, 52, 102, 51, 99]⟩ = true := by decide +kernel
  have e2 : unhexV ⟨#[50, 98, 55, 101, 49, 53, 49, 54, 50, 56, 97, 101, 100, 50, 97, 54, 97, 98, 102, 55, 49, 53, 56, 56, 48, 57, 99, 102, 52, 102, 51, 99]⟩ = exK := by decide +kernel
  have := runhex_any ⟨#[50, 98, 55, 101, 49, 53, 49, 54, 50, 56, 97, 101, 100, 50, 97, 54, 97, 98, 102, 55, 49, 53, 56, 56, 48, 57, 99, 102, 52, 102, 51, 99]⟩ (by decide +kernel) w
  rw [e1, e2] at this
  exact this
theorem ex_ub (w : World) : Calls Try.prog 25 #[.string ⟨#[51, 50, 52, 51, 102, 54, 97, 56, 56, 56, 53, 97, 51, 48, 56, 100, 51, 49, 51, 49, 57, 56, 97, 50, 101, 48, 51, 55, 48, 55, 51, 52]⟩] w fun e w' => e = .returned (.tuple #[.string ⟨exB.toArray⟩, .bool true]) ∧ Ext w w' := by
  have e1 : unhexB ⟨#[51, 50, 52, 51, 102, 54, 97, 56, 56, 56, 53, 97, 51, 48, 56, 100, 51, 49, 51, 49, 57, 56, 97, 50, 101, 48, 51, 55, 48, 55, 51, 52]⟩ = true := by decide +kernel
  have e2 : unhexV ⟨#[51, 50, 52, 51, 102, 54, 97, 56, 56, 56, 53, 97, 51, 48, 56, 100, 51, 49, 51, 49, 57, 56, 97, 50, 101, 48, 51, 55, 48, 55, 51, 52]⟩ = exB := by decide +kernel
  have := runhex_any ⟨#[51, 50, 52, 51, 102, 54, 97, 56, 56, 56, 53, 97, 51, 48, 56, 100, 51, 49, 51, 49, 57, 56, 97, 50, 101, 48, 51, 55, 48, 55, 51, 52]⟩ (by decide +kernel) w
  rw [e1, e2] at this
  exact this
def exC : List UInt8 := [57, 37, 132, 29, 2, 220, 9, 251, 220, 17, 133, 151, 25, 106, 11, 50]
theorem ex_hx (w : World) : Calls Try.prog 26 #[.string ⟨exC.toArray⟩] w fun e w' => e = .returned (.string ⟨#[51, 57, 50, 53, 56, 52, 49, 100, 48, 50, 100, 99, 48, 57, 102, 98, 100, 99, 49, 49, 56, 53, 57, 55, 49, 57, 54, 97, 48, 98, 51, 50]⟩) ∧ Ext w w' := by
  have h := rHex_any ⟨exC.toArray⟩ (by decide +kernel) w
  have e : (⟨(hexL (ByteArray.mk exC.toArray).data.toList).toArray⟩ : ByteArray) = ⟨#[51, 57, 50, 53, 56, 52, 49, 100, 48, 50, 100, 99, 48, 57, 102, 98, 100, 99, 49, 49, 56, 53, 57, 55, 49, 57, 54, 97, 48, 98, 51, 50]⟩ := congrArg (fun l : List UInt8 => (⟨l.toArray⟩ : ByteArray)) (show hexL exC = [51, 57, 50, 53, 56, 52, 49, 100, 48, 50, 100, 99, 48, 57, 102, 98, 100, 99, 49, 49, 56, 53, 57, 55, 49, 57, 54, 97, 48, 98, 51, 50] from by decide +kernel)
  rw [e] at h
  exact h
theorem ex_new (w : World) : Calls Try.prog 15 #[.string ⟨exK.toArray⟩] w fun e w' => ∃ c, e = .returned (.tuple #[.pointer (some ⟨c, 0, none⟩), .int .i64 0]) ∧ IsCipher w' c exK ∧ Ext w w' :=
  New_yes w ⟨exK.toArray⟩ (by decide +kernel)
theorem ex_block (w : World) (c : Nat) (h : IsCipher w c exK) : Calls Try.prog 19 #[.pointer (some ⟨c, 0, none⟩), .string ⟨exB.toArray⟩] w fun e w' => e = .returned (.tuple #[.string ⟨exC.toArray⟩, .bool true]) ∧ Ext w w' := by
  have h2 := Block_yes w c exK ⟨exB.toArray⟩ h (by decide +kernel)
  have e : enc (rkey exK) (ByteArray.mk exB.toArray).data.toList = exC := ex_enc
  rw [e] at h2
  exact h2
attribute [local irreducible] exK exB
attribute [irreducible] exC
set_option maxRecDepth 100000 in
set_option maxHeartbeats 1000000 in
theorem aes_works (w : World) : Calls Try.prog 13 #[] w fun e w' => e = .returned (.bool true) ∧ Ext w w' := by
  go_enter Try.func13, Try.ntmps13
  go_wp2_with (first
    | (go_at_call 25; (with_reducible refine (ex_uk _).mono ?_); rintro e w1 ⟨rfl, h1⟩)
    | (go_at_call 25; (with_reducible refine (ex_ub _).mono ?_); rintro e w2 ⟨rfl, h2⟩)
    | (go_at_call 15; refine (ex_new _).mono ?_; rintro e w3 ⟨c, rfl, h3, x3⟩)
    | (go_at_call 19; refine (ex_block _ _ h3).mono ?_; rintro e w4 ⟨rfl, x4⟩)
    | (go_at_call 26; refine (ex_hx _).mono ?_; rintro e w5 ⟨rfl, x5⟩))
  go_ret
  exact ⟨rfl, (((h1.trans h2).trans x3).trans x4).trans x5⟩
/-- The first 16 bytes, with bytes 0 behind. -/
def fullL (s : ByteArray) : List UInt8 := (s.data.toList ++ List.replicate 16 0).take 16
theorem fullL_length (s : ByteArray) : (fullL s).length = 16 := by unfold fullL; rw [List.length_take, List.length_append, List.length_replicate]; omega
theorem make16 (u : World) : (Instr.makeSlice 31 (.int .i64 16) (.int .i64 16)).run Try.prog u = .ok (.slice (some ⟨u.heap.size, 0, none⟩) 16 16) (u.alloc (.cells (zc 16) 5)) := by
  have h := make_bytes 16 (by decide) u
  have e : madeCells #[Value.int .u8 0] 16 = zc 16 := by kernel_rfl
  rw [e] at h
  exact h
theorem full_any (s : ByteArray) (w : World) : Calls Try.prog 14 #[.string s] w fun e w' => e = .returned (.string ⟨(fullL s).toArray⟩) ∧ Ext w w' := by
  have hmk := make16
  have hr0 := Row.zero w 5 16
  obtain ⟨k, hk⟩ : ∃ k, k = min s.size 16 := ⟨_, rfl⟩
  have hcp := fun ty => run_copy_text (w.alloc (.cells (zc 16) 5)) ty w.heap.size 0 16 16 s _ 5 hr0.blk (by simp) k hk
  have e : ((List.replicate 16 (0 : UInt8)).map cellOf).take 0 ++ (s.data.toList.take k).map cellOf ++ ((List.replicate 16 (0 : UInt8)).map cellOf).drop (0 + k) = (fullL s).map cellOf := by
    rw [List.take_zero, List.nil_append, ← List.map_drop, ← List.map_append]
    congr 1
    unfold fullL
    rw [List.drop_replicate, List.take_append, size_list, List.take_replicate]
    congr 1
    · rcases Nat.le_total s.size 16 with h | h
      · rw [List.take_of_length_le (by rw [size_list]; omega), List.take_of_length_le (by rw [size_list]; omega)]
      · rw [show k = 16 by omega]
    · congr 1; omega
  rw [e] at hcp
  have hr1 : Row ((w.alloc (.cells (zc 16) 5)).setRow w.heap.size ((fullL s).map cellOf).toArray) w.heap.size 5 (fullL s) := setRow_heap _ _ _ _ _ _ hr0
  have ht := hr1.text (P := Try.prog) 31 5 9 Try.underlying31 Try.underlying5 Try.underlying9 16 16 (fullL_length s)
  have hx : Ext w ((w.alloc (.cells (zc 16) 5)).setRow w.heap.size ((fullL s).map cellOf).toArray) := ((Ext.refl w).alloc _).setRow (Nat.le_refl _) _
  have HX := Lib.hid hx
  clear hr0 hr1 e hk hx
  go_enter Try.func14, Try.ntmps14
  go_wp2
  go_ret
  exact ⟨rfl, HX.out⟩
end Go.Proofs.Ytlphbnbipbfclaa
