/- Plain words: the document's example of layer 4, reckoned. -/
import Derived.Test.YtdnpgmoiapkhnaaDoorAesL
namespace Go.Proofs.YtdnpgmoiapkhnaaDoor

/-- f of a byte, the byte reckoned first. -/
def forceB {α : Type} (b : UInt8) (f : UInt8 → α) : α := match b.toNat with | 0 => f 0 | m + 1 => f (UInt8.ofNat (m + 1))
theorem forceB_eq {α : Type} (b : UInt8) (f : UInt8 → α) : forceB b f = f b := by
  unfold forceB
  have h : UInt8.ofNat b.toNat = b := UInt8.ofNat_toNat
  split
  · next h0 => rw [← h, h0]; rfl
  · next m h0 =>
    have h1 : b.toNat = m + 1 := h0
    rw [← h1, h]
/-- f of a row, each byte of it reckoned first. -/
def forceL {α : Type} : List UInt8 → (List UInt8 → α) → α
  | [], f => f []
  | b :: r, f => forceB b fun b' => forceL r fun r' => f (b' :: r')
theorem forceL_eq {α : Type} : ∀ (l : List UInt8) (f : List UInt8 → α), forceL l f = f l
  | [], _ => rfl
  | b :: r, f => by rw [forceL, forceB_eq, forceL_eq r]
def evalE : Nat → Nat → List UInt8 → List UInt8
  | 0, _, w => w
  | n + 1, i, w => forceL (w ++ nextW w i) fun x => evalE n (i + 1) x
theorem evalE_eq (key : List UInt8) : ∀ n m, evalE n (m + 4) (expand key m) = expand key (m + n)
  | 0, _ => rfl
  | n + 1, m => by
    rw [evalE, forceL_eq]
    have e : expand key m ++ nextW (expand key m) (m + 4) = expand key (m + 1) := rfl
    rw [e, show m + 4 + 1 = m + 1 + 4 by omega, evalE_eq key n (m + 1)]
    congr 1
    omega
def exK : List UInt8 := [43, 126, 21, 22, 40, 174, 210, 166, 171, 247, 21, 136, 9, 207, 79, 60]
def exB : List UInt8 := [50, 67, 246, 168, 136, 90, 48, 141, 49, 49, 152, 162, 224, 55, 7, 52]
def exE : List UInt8 := [43, 126, 21, 22, 40, 174, 210, 166, 171, 247, 21, 136, 9, 207, 79, 60, 160, 250, 254, 23, 136, 84, 44, 177, 35, 163, 57, 57, 42, 108, 118, 5, 242, 194, 149, 242, 122, 150, 185, 67, 89, 53, 128, 122, 115, 89, 246, 127, 61, 128, 71, 125, 71, 22, 254, 62, 30, 35, 126, 68, 109, 122, 136, 59, 239, 68, 165, 65, 168, 82, 91, 127, 182, 113, 37, 59, 219, 11, 173, 0, 212, 209, 198, 248, 124, 131, 157, 135, 202, 242, 184, 188, 17, 249, 21, 188, 109, 136, 163, 122, 17, 11, 62, 253, 219, 249, 134, 65, 202, 0, 147, 253, 78, 84, 247, 14, 95, 95, 201, 243, 132, 166, 79, 178, 78, 166, 220, 79, 234, 210, 115, 33, 181, 141, 186, 210, 49, 43, 245, 96, 127, 141, 41, 47, 172, 119, 102, 243, 25, 250, 220, 33, 40, 209, 41, 65, 87, 92, 0, 110, 208, 20, 249, 168, 201, 238, 37, 137, 225, 63, 12, 200, 182, 99, 12, 166]
theorem ex_expand : expand exK 40 = exE := by
  have h := evalE_eq exK 40 0
  rw [Nat.zero_add] at h
  rw [← h]
  decide +kernel
theorem ex_k0 : rkey exK 0 = [43, 126, 21, 22, 40, 174, 210, 166, 171, 247, 21, 136, 9, 207, 79, 60] := by unfold rkey; rw [ex_expand]; decide +kernel
theorem ex_k1 : rkey exK 1 = [160, 250, 254, 23, 136, 84, 44, 177, 35, 163, 57, 57, 42, 108, 118, 5] := by unfold rkey; rw [ex_expand]; decide +kernel
theorem ex_k2 : rkey exK 2 = [242, 194, 149, 242, 122, 150, 185, 67, 89, 53, 128, 122, 115, 89, 246, 127] := by unfold rkey; rw [ex_expand]; decide +kernel
theorem ex_k3 : rkey exK 3 = [61, 128, 71, 125, 71, 22, 254, 62, 30, 35, 126, 68, 109, 122, 136, 59] := by unfold rkey; rw [ex_expand]; decide +kernel
theorem ex_k4 : rkey exK 4 = [239, 68, 165, 65, 168, 82, 91, 127, 182, 113, 37, 59, 219, 11, 173, 0] := by unfold rkey; rw [ex_expand]; decide +kernel
theorem ex_k5 : rkey exK 5 = [212, 209, 198, 248, 124, 131, 157, 135, 202, 242, 184, 188, 17, 249, 21, 188] := by unfold rkey; rw [ex_expand]; decide +kernel
theorem ex_k6 : rkey exK 6 = [109, 136, 163, 122, 17, 11, 62, 253, 219, 249, 134, 65, 202, 0, 147, 253] := by unfold rkey; rw [ex_expand]; decide +kernel
theorem ex_k7 : rkey exK 7 = [78, 84, 247, 14, 95, 95, 201, 243, 132, 166, 79, 178, 78, 166, 220, 79] := by unfold rkey; rw [ex_expand]; decide +kernel
theorem ex_k8 : rkey exK 8 = [234, 210, 115, 33, 181, 141, 186, 210, 49, 43, 245, 96, 127, 141, 41, 47] := by unfold rkey; rw [ex_expand]; decide +kernel
theorem ex_k9 : rkey exK 9 = [172, 119, 102, 243, 25, 250, 220, 33, 40, 209, 41, 65, 87, 92, 0, 110] := by unfold rkey; rw [ex_expand]; decide +kernel
theorem ex_k10 : rkey exK 10 = [208, 20, 249, 168, 201, 238, 37, 137, 225, 63, 12, 200, 182, 99, 12, 166] := by unfold rkey; rw [ex_expand]; decide +kernel
theorem ex_s0 : encN (rkey exK) exB 0 = [25, 61, 227, 190, 160, 244, 226, 43, 154, 198, 141, 42, 233, 248, 72, 8] := by rw [encN, ex_k0]; decide +kernel
theorem ex_s1 : encN (rkey exK) exB 1 = [164, 156, 127, 242, 104, 159, 53, 43, 107, 91, 234, 67, 2, 106, 80, 73] := by rw [show 1 = 0 + 1 from rfl, encN, ex_s0, ex_k1]; decide +kernel
theorem ex_s2 : encN (rkey exK) exB 2 = [170, 143, 95, 3, 97, 221, 227, 239, 130, 210, 74, 210, 104, 50, 70, 154] := by rw [show 2 = 1 + 1 from rfl, encN, ex_s1, ex_k2]; decide +kernel
theorem ex_s3 : encN (rkey exK) exB 3 = [72, 108, 78, 238, 103, 29, 157, 13, 77, 227, 177, 56, 214, 95, 88, 231] := by rw [show 3 = 2 + 1 from rfl, encN, ex_s2, ex_k3]; decide +kernel
theorem ex_s4 : encN (rkey exK) exB 4 = [224, 146, 127, 232, 200, 99, 99, 192, 217, 177, 53, 80, 133, 184, 190, 1] := by rw [show 4 = 3 + 1 from rfl, encN, ex_s3, ex_k4]; decide +kernel
theorem ex_s5 : encN (rkey exK) exB 5 = [241, 0, 111, 85, 193, 146, 76, 239, 124, 200, 139, 50, 93, 181, 213, 12] := by rw [show 5 = 4 + 1 from rfl, encN, ex_s4, ex_k5]; decide +kernel
theorem ex_s6 : encN (rkey exK) exB 6 = [38, 14, 46, 23, 61, 65, 183, 125, 232, 100, 114, 169, 253, 210, 139, 37] := by rw [show 6 = 5 + 1 from rfl, encN, ex_s5, ex_k6]; decide +kernel
theorem ex_s7 : encN (rkey exK) exB 7 = [90, 65, 66, 177, 25, 73, 220, 31, 163, 224, 25, 101, 122, 140, 4, 12] := by rw [show 7 = 6 + 1 from rfl, encN, ex_s6, ex_k7]; decide +kernel
theorem ex_s8 : encN (rkey exK) exB 8 = [234, 131, 92, 240, 4, 69, 51, 45, 101, 93, 152, 173, 133, 150, 176, 197] := by rw [show 8 = 7 + 1 from rfl, encN, ex_s7, ex_k8]; decide +kernel
theorem ex_s9 : encN (rkey exK) exB 9 = [235, 64, 242, 30, 89, 46, 56, 132, 139, 161, 19, 231, 27, 195, 66, 210] := by rw [show 9 = 8 + 1 from rfl, encN, ex_s8, ex_k9]; decide +kernel
theorem ex_enc : enc (rkey exK) exB = [57, 37, 132, 29, 2, 220, 9, 251, 220, 17, 133, 151, 25, 106, 11, 50] := by unfold enc; rw [ex_s9, ex_k10]; decide +kernel
end Go.Proofs.YtdnpgmoiapkhnaaDoor
