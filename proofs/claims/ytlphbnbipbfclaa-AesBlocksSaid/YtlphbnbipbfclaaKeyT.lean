/- Plain: the round keys as texts. -/
import Derived.Test.YtlphbnbipbfclaaKw
namespace Go.Proofs.Ytlphbnbipbfclaa
theorem rkey_text {key : List UInt8} (i : Nat) : ((expand key 40).drop (16 * i)).take 16 = rkey key i := by unfold rkey; rfl
def keyTexts (key : List UInt8) : List ByteArray := (List.range 11).map fun i => ⟨(rkey key i).toArray⟩
theorem keyTexts_length (key : List UInt8) : (keyTexts key).length = 11 := by simp [keyTexts]
theorem keyTexts_take (key : List UInt8) (i : Nat) (h : i < 11) : (keyTexts key).take (i + 1) = (keyTexts key).take i ++ [⟨(rkey key i).toArray⟩] := by
  have hl : i < (keyTexts key).length := by rw [keyTexts_length]; exact h
  rw [List.take_succ_eq_append_getElem hl]
  simp [keyTexts]
theorem keyTexts_at (key : List UInt8) (i : Nat) (h : i < 11) : (keyTexts key)[i]? = some ⟨(rkey key i).toArray⟩ := by unfold keyTexts; simp [h]
end Go.Proofs.Ytlphbnbipbfclaa
