/- Contracts: the document's bytes of numbers, whole numbers and texts; whether two lists are the same. -/
import Derived.Test.YtcmmcaoidmldkaaFold
import Derived.Test.YtcmmcaoidmldkaaTextsP
import Derived.Test.YtcmmcaoidmldkaaTxt
import Derived.Deep.QuietTactic
import Derived.BigQuiet
import Derived.Outline
namespace Go.Proofs.Ytcmmcaoidmldkaa
open Go.RowKit
attribute [local irreducible] wnF

set_option maxRecDepth 100000 in
set_option maxHeartbeats 1000000 in
theorem rUint_any (n : Nat) (hn : n < 18446744073709551616) (w : World) :
    Calls Try.prog 9 #[.int .u64 (n : Int)] w fun e w' => e = .returned (.string ⟨(wn n).toArray⟩) ∧ Ext w w' := by
  have HN := Lib.hid hn
  clear hn
  go_enter Try.func9, Try.ntmps9
  go_wp2
  go_loopw [0, 3] (fun x v wr => ∃ (k m : Nat) (z : List UInt8), x = .int .u64 (m : Int) ∧ Hid (z ++ wnF k m = wn n ∧ m < 2 * 128 ^ k ∧ m < 18446744073709551616 ∧ z.length ≤ 9 - k ∧ k ≤ 9) ∧ Hid (Buf wr w.heap.size v z) ∧ Hid (Ext w wr)) (fun x _ _ => (intOf x).toNat)
  case atStart => exact ⟨9, n, [], rfl, Lib.hid ⟨rfl, by have := HN.out; omega, HN.out, by simp, by omega⟩, Lib.hid (Buf.nil _ _), Lib.hid (Ext.refl _)⟩
  case round =>
    obtain ⟨k, m, z, rfl, hk, hb, hx⟩ := hrel
    obtain ⟨hz, hm, hm64, hzl, hk9⟩ := hk.out
    clear hk
    by_cases h128 : m < 128
    · have h128i : (m : Int) < 128 := by omega
      rw [wnF_low _ _ h128] at hz
      have HZ := Lib.hid hz
      have HW := Lib.hid (show (m : Int) = ((UInt8.ofNat m).toNat : Int) by rw [ofNat_toNat _ (by omega)])
      have HL := Lib.hid (show z.length + 1 ≤ 140737488355328 by omega)
      clear hz
      go_wp2_with (at_builtin
                   have q1 := hx.out.alloc (.cells #[.int .u8 (m : Int)] 5)
                   have q2 := (hb.out.alloc (.cells #[.int .u8 (m : Int)] 5))
                   have q3 := Row.one wr 5 (m : Int) (UInt8.ofNat m) HW.out
                   have q4 := HL.out
                   refine append_bytes rfl (.tmp 15) (.tmp 18) rfl w.heap.size _ _ rfl q2 wr.heap.size 1 [UInt8.ofNat m] rfl rfl q3 q4 q1.size ?_
                   intro v1 w3 hb3 x3
                   have htx := hb3.text 55 9 Try.underlying55 Try.underlying5 Try.underlying9
                   rw [HZ.out] at htx
                   have X3 := Lib.hid (q1.trans3 x3)
                   clear hb3 x3 q1 q2 q3 q4)
      go_ret
      exact ⟨rfl, X3.out⟩
    · obtain ⟨k', rfl⟩ : ∃ k', k = k' + 1 := by
        cases k with
        | zero => simp at hm; omega
        | succ k' => exact ⟨k', rfl⟩
      rw [wnF_high _ _ h128] at hz
      have h128i : ¬ (m : Int) < 128 := by omega
      have HZ := Lib.hid hz
      have HW := Lib.hid (show (m : Int) % 128 + 128 = ((UInt8.ofNat (m % 128 + 128)).toNat : Int) by rw [ofNat_toNat _ (by omega)]; omega)
      have HL := Lib.hid (show z.length + 1 ≤ 140737488355328 by omega)
      clear hz
      generalize UInt8.ofNat (m % 128 + 128) = c at *
      go_wp2_with (at_builtin
                   have q1 := hx.out.alloc (.cells #[.int .u8 ((m : Int) % 128 + 128)] 5)
                   have q2 := (hb.out.alloc (.cells #[.int .u8 ((m : Int) % 128 + 128)] 5))
                   have q3 := Row.one wr 5 ((m : Int) % 128 + 128) c HW.out
                   have q4 := HL.out
                   refine append_bytes rfl (.tmp 6) (.tmp 11) rfl w.heap.size _ _ rfl q2 wr.heap.size 1 [c] rfl rfl q3 q4 q1.size ?_
                   intro v1 w3 hb3 x3
                   have HB3 := Lib.hid hb3
                   have X3 := Lib.hid (q1.trans3 x3)
                   clear hb3 x3 q1 q2 q3 q4)
      go_roundw
      case rel =>
        refine ⟨k', m / 128, z ++ [c], by go_num, Lib.hid ⟨?_, ?_, by omega, ?_, by omega⟩, HB3, X3⟩
        · rw [← HZ.out, List.append_assoc, List.singleton_append]
        · rw [pow_step] at hm; omega
        · rw [List.length_append, List.length_singleton]; omega
      case measure => simp [intOf]; omega
theorem rZig_any (n : Int) (h0 : -9223372036854775808 ≤ n) (h1 : n ≤ 9223372036854775807) (w : World) :
    Calls Try.prog 10 #[.int .i64 n] w fun e w' => e = .returned (.int .u64 (zig n : Int)) ∧ w = w' := by
  by_cases hn : 0 ≤ n
  · have e : (zig n : Int) = 2 * n := by unfold zig; rw [if_pos hn]; omega
    rw [e]
    clear e
    go_enter Try.func10, Try.ntmps10
    go_wp2
    go_ret
    exact ⟨rfl, rfl⟩
  · have e : (zig n : Int) = 2 * (-(n + 1)) + 1 := by unfold zig; rw [if_neg hn]; omega
    rw [e]
    clear e
    go_enter Try.func10, Try.ntmps10
    go_wp2
    go_ret
    exact ⟨rfl, rfl⟩
theorem rText_any (s : ByteArray) (hs : s.size ≤ 1000000) (w : World) :
    Calls Try.prog 11 #[.string s] w fun e w' => e = .returned (.string ⟨(wt s).toArray⟩) ∧ Ext w w' := by
  have HU := Lib.hid (rUint_any s.size (by omega) w)
  have e : (⟨(wn s.size).toArray⟩ : ByteArray) ++ s = ⟨(wt s).toArray⟩ := by
    apply ByteArray.ext
    rw [ByteArray.data_append]
    simp [wt]
  have hl : (⟨(wn s.size).toArray⟩ : ByteArray).size ≤ 10 := by rw [txt_size]; exact (wn_length _).2
  generalize (⟨(wn s.size).toArray⟩ : ByteArray) = A at *
  generalize (⟨(wt s).toArray⟩ : ByteArray) = B at *
  go_enter Try.func11, Try.ntmps11
  go_wp2_with (go_at_call 9; refine (HU.out).mono ?_; rintro e w1 ⟨rfl, x1⟩)
  go_ret
  exact ⟨rfl, x1⟩
end Go.Proofs.Ytcmmcaoidmldkaa
