/- Contracts: hex texts, by the program and by the document's answer. -/
import Derived.Test.YtlphbnbipbfclaaBuf
namespace Go.Proofs.Ytlphbnbipbfclaa
open Go.RowKit

/-- A hex digit of four bits. -/
def hexd (k : Nat) : UInt8 := UInt8.ofNat (if k < 10 then 48 + k else 87 + k)
def hexL : List UInt8 → List UInt8
  | [] => []
  | b :: r => hexd (b.toNat / 16) :: hexd (b.toNat % 16) :: hexL r
theorem hexL_snoc (l : List UInt8) (b : UInt8) : hexL (l ++ [b]) = hexL l ++ [hexd (b.toNat / 16), hexd (b.toNat % 16)] := by
  induction l with
  | nil => rfl
  | cons c r ih => simp [hexL, ih]
theorem hexL_length (l : List UInt8) : (hexL l).length = 2 * l.length := by
  induction l with
  | nil => rfl
  | cons c r ih => simp [hexL, ih]; omega

theorem hexd_at (k m : Nat) (h : k < ({ data := #[48, 49, 50, 51, 52, 53, 54, 55, 56, 57, 97, 98, 99, 100, 101, 102] } : ByteArray).size) (e : k = m) : ((({ data := #[48, 49, 50, 51, 52, 53, 54, 55, 56, 57, 97, 98, 99, 100, 101, 102] } : ByteArray)[k]'h).toNat : Int) = ((hexd m).toNat : Int) := by
  subst e
  have h16 : k < 16 := h
  have key : ∀ k : Fin 16, ((({ data := #[48, 49, 50, 51, 52, 53, 54, 55, 56, 57, 97, 98, 99, 100, 101, 102] } : ByteArray)[k.val]'(k.isLt)).toNat : Int) = ((hexd k.val).toNat : Int) := by decide
  exact key ⟨k, h16⟩
theorem hexL_take {s : ByteArray} {j : Nat} (h : j < s.size) : hexL (s.data.toList.take (j + 1)) = hexL (s.data.toList.take j) ++ [hexd (s[j].toNat / 16)] ++ [hexd (s[j].toNat % 16)] := by
  have hl : j < s.data.toList.length := by rw [size_list]; exact h
  have e : s.data.toList[j] = s[j] := rfl
  rw [List.take_succ_eq_append_getElem hl, hexL_snoc, e]
  simp

theorem rHex_any (s : ByteArray) (hs : s.size ≤ 1099511627776) (w : World) :
    Calls Try.prog 26 #[.string s] w fun e w' => e = .returned (.string ⟨(hexL s.data.toList).toArray⟩) ∧ Ext w w' := by
  have hmk := make_empty (2 * s.size) (by omega)
  have e2 : ((2 * s.size : Nat) : Int) = 2 * (s.size : Int) := by omega
  rw [e2] at hmk
  clear e2
  go_enter Try.func26, Try.ntmps26
  go_wp2
  go_loopw [4, 5] (fun v i wr => ∃ j : Nat, j ≤ s.size ∧ i = .int .i64 j ∧ Buf wr w.heap.size v (hexL (s.data.toList.take j)) ∧ Ext w wr) (fun _ i _ => s.size - (intOf i).toNat)
  case atStart => exact ⟨0, Nat.zero_le _, rfl, by simpa [hexL] using Buf.made w (2 * s.size) (by unfold maxLen; omega) (Nat.le_refl _), (Ext.refl w).alloc _⟩
  case round =>
    obtain ⟨j, hj, rfl, hbuf, hext⟩ := hrel
    clear hmk
    by_cases hlt : j < s.size
    · have hlen : (hexL (s.data.toList.take j)).length = 2 * j := by rw [hexL_length, List.length_take, size_list]; omega
      have Hlen := Lib.hid hlen; clear hlen
      have hb : s[j].toNat < 256 := s[j].toNat_lt
      have H2 : Hid ((hexL (s.data.toList.take j)).length + 1 ≤ 140737488355328) := by rw [Hlen.out]; show _ ≤ _; omega
      have H5 : Hid (∀ x : UInt8, (hexL (s.data.toList.take j) ++ [x]).length + 1 ≤ 140737488355328) := by
        intro x; rw [List.length_append, Hlen.out]; simp; omega
      go_wp2_with (first | (at_builtin; refine append_bytes rfl (.tmp 16) (.tmp 23) rfl w.heap.size _ _ rfl (hbuf.alloc _) wr.heap.size 1 [hexd (s[j].toNat / 16)] rfl rfl (Row.one _ _ _ _ (hexd_at _ _ _ rfl)) H2.out (hext.alloc _).size ?_; intro v1 w1 hbuf1 hb1; have hext1 : Ext w w1 := Below.trans (hext.alloc _) hb1; clear hb1) | (at_builtin; refine append_bytes rfl (.tmp 25) (.tmp 32) rfl w.heap.size _ _ rfl (hbuf1.alloc _) w1.heap.size 1 [hexd (s[j].toNat % 16)] rfl rfl (Row.one _ _ _ _ (hexd_at _ _ _ rfl)) (H5.out _) (hext1.alloc _).size ?_; intro v2 w2 hbuf2 hb2; have hext2 : Ext w w2 := Below.trans (hext1.alloc _) hb2; clear hb2))
      go_roundw
      case rel => exact ⟨j + 1, by omega, by go_num, by rw [hexL_take hlt]; exact hbuf2, hext2⟩
      case measure => simp [intOf]; omega
    · obtain rfl : j = s.size := by omega
      have ht := hbuf.text (P := Try.prog) 31 9 Try.underlying31 Try.underlying5 Try.underlying9
      rw [List.take_of_length_le (by rw [size_list]; omega)] at ht
      clear hbuf
      go_wp2
      go_ret
      exact ⟨rfl, hext⟩

end Go.Proofs.Ytlphbnbipbfclaa
