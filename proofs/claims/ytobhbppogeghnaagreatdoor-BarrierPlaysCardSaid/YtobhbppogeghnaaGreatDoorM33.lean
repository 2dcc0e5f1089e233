/- Contracts: the document's answers of layer 3: a key's block, a text's tag, whether a tag is right, by the reference. Contracts: which bytes are derived, by the reference. Contracts: keys by epochs: the document's ring: where an epoch's key is; its two keys. Contracts: the table of boxes, and what bytes are boxes of, by the document's answer. -/
import Derived.Test.YtobhbppogeghnaaGreatDoorM29
import Derived.Test.YtobhbppogeghnaaGreatDoorM06
import Derived.Test.YtobhbppogeghnaaGreatDoorM32
import Derived.Test.YtobhbppogeghnaaGreatDoorM09
import Derived.Test.YtobhbppogeghnaaGreatDoorM23
import Derived.Test.YtobhbppogeghnaaGreatDoorM31
import Derived.Test.YtobhbppogeghnaaGreatDoorM10
import Derived.Deep.RegionHeld3
import Derived.Outline
import Derived.Test.YtobhbppogeghnaaGreatDoorM18
section
namespace Go.Proofs.YtobhbppogeghnaaGreatDoor
open Go.RowKit

theorem blockL_at (K : ByteArray) (k : List UInt8) (h : K.data.toList = keyL k) (j : Nat) (hj : j < 64) : (blockL k)[j]? = some (if hlt : j < K.size then K[j] else 0) := by
  unfold blockL
  rw [← h]
  by_cases hlt : j < K.size
  · rw [dif_pos hlt, List.getElem?_append_left (by rw [size_list]; exact hlt), byte_at K j hlt]
  · rw [dif_neg hlt, List.getElem?_append_right (by rw [size_list]; omega), List.getElem?_replicate, if_pos (by rw [size_list]; omega)]
theorem mix_text (k : List UInt8) (c : UInt8) : xorL (⟨(blockL k).toArray⟩ : ByteArray).data.toList (⟨(List.replicate 64 c).toArray⟩ : ByteArray).data.toList = mixL k c := by simp [mixL]
theorem rmix (k : List UInt8) (c : UInt8) (w : World) : Calls Tryz.prog 100 #[.string ⟨(blockL k).toArray⟩, .string ⟨Array.replicate 64 c⟩] w fun e w' => e = .returned (.string ⟨(mixL k c).toArray⟩) ∧ Ext w w' := by
  have h := rXor_yes ⟨(blockL k).toArray⟩ ⟨(List.replicate 64 c).toArray⟩ (by rw [txt_size, txt_size, blockL_length, List.length_replicate]) (by rw [txt_size, blockL_length]; decide) w
  rw [mix_text] at h
  simpa only [List.toArray_replicate] using h
theorem rep_take (c : UInt8) (j : Nat) (h : j < 64) : (List.replicate 64 c)[j]? = some c := by rw [List.getElem?_replicate, if_pos h]

set_option maxRecDepth 100000 in
set_option maxHeartbeats 2000000 in
theorem rblock_any (key : ByteArray) (hk : key.size ≤ 1099511627776) (c : UInt8) (w : World) :
    Calls Tryz.prog 153 #[.string key, .int .u8 (c.toNat : Int)] w fun e w' => e = .returned (.string ⟨(mixL key.data.toList c).toArray⟩) ∧ Ext w w' := by
  have hmk := make_bytes 64 (by omega)
  have e64 : ((64 : Nat) : Int) = 64 := rfl
  rw [e64] at hmk
  clear e64
  by_cases hlong : 64 < key.size
  · have hK : (⟨(shaL key.data.toList).toArray⟩ : ByteArray).data.toList = keyL key.data.toList := by unfold keyL; rw [if_pos (by rw [size_list]; exact hlong)]
    have hKs : (⟨(shaL key.data.toList).toArray⟩ : ByteArray).size = 32 := by rw [txt_size, shaL_length]
    have HS := Lib.hid (rOf_any key hk)
    generalize (⟨(shaL key.data.toList).toArray⟩ : ByteArray) = K at *
    obtain ⟨k, ek⟩ : ∃ k, k = key.data.toList := ⟨_, rfl⟩
    rw [← ek] at hK ⊢
    clear ek
    go_enter Tryz.func153, Tryz.ntmps153
    go_wp2_with (go_at_call 152; refine (HS.out _).mono ?_; rintro e w1 ⟨rfl, hx⟩)
    go_loopw [6] (fun i wr => ∃ j : Nat, j ≤ 64 ∧ i = .int .i64 j ∧ Row wr w1.heap.size 5 ((blockL k).take j ++ List.replicate (64 - j) 0) ∧ Ext w wr) (fun i _ => 64 - (intOf i).toNat)
    case atStart => exact ⟨0, Nat.zero_le _, rfl, by simpa using Row.made w1 5 64, hx.alloc _⟩
    case round =>
      obtain ⟨j, hj, rfl, hrow, hext⟩ := hrel
      by_cases hlt : j < 64
      · have hc := fill_cell hrow (blockL_length k) hlt
        have hf := hrow.frozen j
        have hat := blockL_at K k hK j hlt
        by_cases hin : j < K.size
        · rw [dif_pos hin] at hat
          have HAT := Lib.hid hat; clear hat
          go_wp2
          go_roundw
          case rel => exact ⟨j + 1, hlt, by go_num, fill_step hrow (blockL_length k) hlt _ _ HAT.out rfl, hext.setCell (Nat.le_trans hx.size (Nat.le_refl _)) _⟩
          case measure => simp [intOf]; omega
        · rw [dif_neg hin] at hat
          have HAT := Lib.hid hat; clear hat
          go_wp2
          go_roundw
          case rel => exact ⟨j + 1, hlt, by go_num, fill_step hrow (blockL_length k) hlt _ _ HAT.out rfl, hext.setCell (Nat.le_trans hx.size (Nat.le_refl _)) _⟩
          case measure => simp [intOf]; omega
      · obtain rfl : j = 64 := by omega
        have hrow1 := fill_done hrow (blockL_length k)
        have HR1 := Lib.hid hrow1
        clear hrow hrow1
        have hszr := hext.size
        go_wp2
        go_loopw [9] (fun i wr2 => ∃ j : Nat, j ≤ 64 ∧ i = .int .i64 j ∧ Row wr2 wr.heap.size 5 ((List.replicate 64 c).take j ++ List.replicate (64 - j) 0) ∧ Ext wr wr2) (fun i _ => 64 - (intOf i).toNat)
        case atStart => exact ⟨0, Nat.zero_le _, rfl, by simpa using Row.made wr 5 64, (Ext.refl wr).alloc _⟩
        case round =>
          obtain ⟨j, hj, rfl, hrow, hext2⟩ := hrel
          by_cases hlt : j < 64
          · have hc := fill_cell hrow (List.length_replicate) hlt
            have hf := hrow.frozen j
            go_wp2
            go_roundw
            case rel => exact ⟨j + 1, hlt, by go_num, fill_step hrow (List.length_replicate) hlt _ _ (rep_take c j hlt) rfl, hext2.setCell (Nat.le_refl _) _⟩
            case measure => simp [intOf]; omega
          · obtain rfl : j = 64 := by omega
            have ht1 := (HR1.out.ext hext2).text (P := Tryz.prog) 43 5 9 Tryz.underlying43 Tryz.underlying5 Tryz.underlying9 64 64 (blockL_length k)
            have ht2 := (fill_done hrow (List.length_replicate)).text (P := Tryz.prog) 43 5 9 Tryz.underlying43 Tryz.underlying5 Tryz.underlying9 64 64 (List.length_replicate)
            simp only [List.toArray_replicate] at ht2
            clear hrow
            go_wp2_with (go_at_call 100; refine (rmix k c _).mono ?_; rintro e w4 ⟨rfl, h4⟩)
            go_ret
            exact ⟨rfl, (hext.trans hext2).trans h4⟩
  · have hK0 : key.data.toList = keyL key.data.toList := by unfold keyL; rw [if_neg (by rw [size_list]; exact hlong)]
    have hK1 : ∀ k, k = key.data.toList → key.data.toList = keyL k := by rintro k rfl; exact hK0
    obtain ⟨k, ek⟩ : ∃ k, k = key.data.toList := ⟨_, rfl⟩
    have hK := hK1 k ek
    rw [← ek]
    clear ek hK0 hK1
    have hx : Ext w w := Ext.refl w
    generalize key = K at *
    go_enter Tryz.func153, Tryz.ntmps153
    go_wp2
    go_loopw [6] (fun i wr => ∃ j : Nat, j ≤ 64 ∧ i = .int .i64 j ∧ Row wr w.heap.size 5 ((blockL k).take j ++ List.replicate (64 - j) 0) ∧ Ext w wr) (fun i _ => 64 - (intOf i).toNat)
    case atStart => exact ⟨0, Nat.zero_le _, rfl, by simpa using Row.made w 5 64, hx.alloc _⟩
    case round =>
      obtain ⟨j, hj, rfl, hrow, hext⟩ := hrel
      by_cases hlt : j < 64
      · have hc := fill_cell hrow (blockL_length k) hlt
        have hf := hrow.frozen j
        have hat := blockL_at K k hK j hlt
        by_cases hin : j < K.size
        · rw [dif_pos hin] at hat
          have HAT := Lib.hid hat; clear hat
          go_wp2
          go_roundw
          case rel => exact ⟨j + 1, hlt, by go_num, fill_step hrow (blockL_length k) hlt _ _ HAT.out rfl, hext.setCell (Nat.le_trans hx.size (Nat.le_refl _)) _⟩
          case measure => simp [intOf]; omega
        · rw [dif_neg hin] at hat
          have HAT := Lib.hid hat; clear hat
          go_wp2
          go_roundw
          case rel => exact ⟨j + 1, hlt, by go_num, fill_step hrow (blockL_length k) hlt _ _ HAT.out rfl, hext.setCell (Nat.le_trans hx.size (Nat.le_refl _)) _⟩
          case measure => simp [intOf]; omega
      · obtain rfl : j = 64 := by omega
        have hrow1 := fill_done hrow (blockL_length k)
        have HR1 := Lib.hid hrow1
        clear hrow hrow1
        have hszr := hext.size
        go_wp2
        go_loopw [9] (fun i wr2 => ∃ j : Nat, j ≤ 64 ∧ i = .int .i64 j ∧ Row wr2 wr.heap.size 5 ((List.replicate 64 c).take j ++ List.replicate (64 - j) 0) ∧ Ext wr wr2) (fun i _ => 64 - (intOf i).toNat)
        case atStart => exact ⟨0, Nat.zero_le _, rfl, by simpa using Row.made wr 5 64, (Ext.refl wr).alloc _⟩
        case round =>
          obtain ⟨j, hj, rfl, hrow, hext2⟩ := hrel
          by_cases hlt : j < 64
          · have hc := fill_cell hrow (List.length_replicate) hlt
            have hf := hrow.frozen j
            go_wp2
            go_roundw
            case rel => exact ⟨j + 1, hlt, by go_num, fill_step hrow (List.length_replicate) hlt _ _ (rep_take c j hlt) rfl, hext2.setCell (Nat.le_refl _) _⟩
            case measure => simp [intOf]; omega
          · obtain rfl : j = 64 := by omega
            have ht1 := (HR1.out.ext hext2).text (P := Tryz.prog) 43 5 9 Tryz.underlying43 Tryz.underlying5 Tryz.underlying9 64 64 (blockL_length k)
            have ht2 := (fill_done hrow (List.length_replicate)).text (P := Tryz.prog) 43 5 9 Tryz.underlying43 Tryz.underlying5 Tryz.underlying9 64 64 (List.length_replicate)
            simp only [List.toArray_replicate] at ht2
            clear hrow
            go_wp2_with (go_at_call 100; refine (rmix k c _).mono ?_; rintro e w4 ⟨rfl, h4⟩)
            go_ret
            exact ⟨rfl, (hext.trans hext2).trans h4⟩

theorem rmac_in (k s : ByteArray) (c : UInt8) : (⟨(mixL k.data.toList c).toArray⟩ : ByteArray) ++ s = ⟨(mixL k.data.toList c ++ s.data.toList).toArray⟩ := by
  have : s = ⟨s.data.toList.toArray⟩ := rfl
  conv => lhs; rw [this]
  exact str_append _ _
theorem rOf_list (l : List UInt8) (hl : l.length ≤ 1099511627776) (w : World) :
    Calls Tryz.prog 152 #[.string ⟨l.toArray⟩] w fun e w' => e = .returned (.string ⟨(shaL l).toArray⟩) ∧ Ext w w' := by
  have := rOf_any ⟨l.toArray⟩ (by rw [txt_size]; exact hl) w
  simpa using this
set_option maxRecDepth 100000 in
theorem rMac_any (key s : ByteArray) (hk : key.size ≤ 1099511627776) (hs : s.size ≤ 549755813888) (w : World) :
    Calls Tryz.prog 130 #[.string key, .string s] w fun e w' => e = .returned (.string ⟨(macL key.data.toList s.data.toList).toArray⟩) ∧ Ext w w' := by
  have HB1 := Lib.hid (show ∀ u : World, Calls Tryz.prog 153 #[.string key, .int .u8 92] u fun e w' => e = .returned (.string ⟨(mixL key.data.toList 92).toArray⟩) ∧ Ext u w' from fun u => rblock_any key hk 92 u)
  have HB2 := Lib.hid (show ∀ u : World, Calls Tryz.prog 153 #[.string key, .int .u8 54] u fun e w' => e = .returned (.string ⟨(mixL key.data.toList 54).toArray⟩) ∧ Ext u w' from fun u => rblock_any key hk 54 u)
  have H1 := rmac_in key s 54
  have l1 : (mixL key.data.toList 54).length = 64 := mixL_length _ _
  have l2 : (mixL key.data.toList 92).length = 64 := mixL_length _ _
  have z1 : (⟨(mixL key.data.toList 54).toArray⟩ : ByteArray).size = 64 := by rw [txt_size, l1]
  have z2 : (⟨(mixL key.data.toList 92).toArray⟩ : ByteArray).size = 64 := by rw [txt_size, l2]
  have z3 : (⟨(shaL (mixL key.data.toList 54 ++ s.data.toList)).toArray⟩ : ByteArray).size = 32 := by rw [txt_size, shaL_length]
  have R1 := Lib.hid (rOf_list (mixL key.data.toList 54 ++ s.data.toList) (by rw [List.length_append, l1, size_list]; omega))
  have R2 := Lib.hid (rOf_list (mixL key.data.toList 92 ++ shaL (mixL key.data.toList 54 ++ s.data.toList)) (by rw [List.length_append, l2, shaL_length]; decide))
  have e2 : (⟨(mixL key.data.toList 92).toArray⟩ : ByteArray) ++ ⟨(shaL (mixL key.data.toList 54 ++ s.data.toList)).toArray⟩ = ⟨(mixL key.data.toList 92 ++ shaL (mixL key.data.toList 54 ++ s.data.toList)).toArray⟩ := str_append _ _
  have HE := Lib.hid (macL_eq key.data.toList s.data.toList)
  have H1' := Lib.hid H1
  have E2 := Lib.hid e2
  clear H1 e2 l1 l2
  generalize (⟨(mixL key.data.toList 54).toArray⟩ : ByteArray) = A1 at *
  generalize (⟨(mixL key.data.toList 92).toArray⟩ : ByteArray) = A2 at *
  generalize (⟨(shaL (mixL key.data.toList 54 ++ s.data.toList)).toArray⟩ : ByteArray) = A3 at *
  rw [← H1'.out] at R1
  rw [← E2.out, ← HE.out] at R2
  clear H1' E2 HE
  go_enter Tryz.func130, Tryz.ntmps130
  go_wp2_with (first
    | (go_at_call 153; ((with_reducible refine (HB1.out _).mono ?_); rintro e w1 ⟨rfl, h1⟩))
    | (go_at_call 153; ((with_reducible refine (HB2.out _).mono ?_); rintro e w2 ⟨rfl, h2⟩))
    | (go_at_call 152; ((with_reducible refine (R1.out _).mono ?_); rintro e w3 ⟨rfl, h3⟩))
    | (go_at_call 152; ((with_reducible refine (R2.out _).mono ?_); rintro e w4 ⟨rfl, h4⟩)))
  go_ret
  exact ⟨rfl, ((h1.trans h2).trans h3).trans h4⟩
end Go.Proofs.YtobhbppogeghnaaGreatDoor
end

section
namespace Go.Proofs.YtobhbppogeghnaaGreatDoor
open Go.RowKit

/-- The next tag, by the reference. -/
theorem rtag_next (u : World) (key label : ByteArray) (j : Nat) (b : UInt8) (hb : b = UInt8.ofNat (j + 1)) (hk : key.size ≤ 1099511627776) (hl : label.size ≤ 137438953472) :
    Calls Tryz.prog 130 #[.string key, .string ((⟨(tagL key.data.toList label.data.toList j).toArray⟩ : ByteArray) ++ label ++ ⟨#[b]⟩)] u fun e w' => e = .returned (.string ⟨(tagL key.data.toList label.data.toList (j + 1)).toArray⟩) ∧ Ext u w' := by
  subst hb
  have hle := tagL_le key.data.toList label.data.toList j
  have e1 : ((⟨(tagL key.data.toList label.data.toList j).toArray⟩ : ByteArray) ++ label ++ ⟨#[UInt8.ofNat (j + 1)]⟩) = ⟨(tagL key.data.toList label.data.toList j ++ label.data.toList ++ [UInt8.ofNat (j + 1)]).toArray⟩ := by
    rw [text_add, text_add]
  have h := rMac_any key ⟨(tagL key.data.toList label.data.toList j ++ label.data.toList ++ [UInt8.ofNat (j + 1)]).toArray⟩ hk (by rw [txt_size]; simp only [List.length_append, List.length_singleton, size_list]; omega) u
  rw [e1]
  have e2 : (⟨(tagL key.data.toList label.data.toList j ++ label.data.toList ++ [UInt8.ofNat (j + 1)]).toArray⟩ : ByteArray).data.toList = tagL key.data.toList label.data.toList j ++ label.data.toList ++ [UInt8.ofNat (j + 1)] := by simp
  rw [e2, ← tagL_succ] at h
  exact h
set_option maxRecDepth 100000 in
set_option maxHeartbeats 1000000 in
theorem rder_yes (key label : ByteArray) (n : Nat) (w : World) (hk : key.size ≤ 1099511627776) (hl : label.size ≤ 137438953472) (h1 : 1 ≤ n) (h2 : n ≤ 8160) :
    Calls Tryz.prog 129 #[.string key, .string label, .int .i64 (n : Int)] w fun e w' => e = .returned (.string ⟨(derL key.data.toList label.data.toList n).toArray⟩) ∧ Ext w w' := by
  have HT := Lib.hid (fun u j b (hb : b = UInt8.ofNat (j + 1)) => rtag_next u key label j b hb hk hl)
  have HL := Lib.hid (fun j => rowL_succ key.data.toList label.data.toList j)
  have HD := Lib.hid (fun j (h : n ≤ 32 * j) (hj : j ≤ 255) => derL_of key.data.toList label.data.toList n j h hj)
  have HZ := Lib.hid (fun j => rowL_length key.data.toList label.data.toList j)
  have HY := Lib.hid (fun j => tagL_length key.data.toList label.data.toList j)
  have HX := Lib.hid (fun j => tagL_le key.data.toList label.data.toList j)
  generalize derL key.data.toList label.data.toList n = D at *
  have T0 := Lib.hid (show tagL key.data.toList label.data.toList 0 = [] from rfl)
  have R0 := Lib.hid (show rowL key.data.toList label.data.toList 0 = [] from rfl)
  generalize tagL key.data.toList label.data.toList = T at *
  generalize rowL key.data.toList label.data.toList = R at *
  go_enter Tryz.func129, Tryz.ntmps129
  go_wp2
  go_loopw [7, 8, 9] (fun all t i wr => ∃ j : Nat, j ≤ 255 ∧ all = .string ⟨(R j).toArray⟩ ∧ t = .string ⟨(T j).toArray⟩ ∧ i = .int .i64 (j + 1 : Nat) ∧ Ext w wr) (fun _ _ i _ => 256 - (intOf i).toNat)
  case atStart => exact ⟨0, by omega, by rw [R0.out], by rw [T0.out], rfl, Ext.refl w⟩
  case round =>
    obtain ⟨j, hj, rfl, rfl, rfl, hext⟩ := hrel
    have hz : (⟨(R j).toArray⟩ : ByteArray).size = 32 * j := by rw [txt_size, HZ.out]
    by_cases hlt : 32 * j < n
    · have hy : (⟨(T (j + 1)).toArray⟩ : ByteArray).size = 32 := by rw [txt_size, HY.out]
      have hx : (⟨(T j).toArray⟩ : ByteArray).size ≤ 32 := by rw [txt_size]; exact HX.out j
      have hr : (⟨(R j).toArray⟩ : ByteArray) ++ ⟨(T (j + 1)).toArray⟩ = ⟨(R (j + 1)).toArray⟩ := by rw [str_append, HL.out j]
      obtain ⟨b, eb⟩ : ∃ b, b = UInt8.ofNat (j + 1) := ⟨_, rfl⟩
      have hcv := fun t u => one_text2 ((j : Int) + 1) b (by rw [eb]; simp; omega) t u
      have HN := Lib.hid (fun u => HT.out u j b eb)
      obtain ⟨T2, e2⟩ : ∃ x, (⟨(T (j + 1)).toArray⟩ : ByteArray) = x := ⟨_, rfl⟩
      rw [e2] at HN hy hr
      have Hr := Lib.hid hr; have E2 := Lib.hid e2; have HE := Lib.hid hext
      clear eb hr e2 hext
      generalize (⟨(T j).toArray⟩ : ByteArray) = T1 at *
      go_wp2_with (go_at_call 130; refine (HN.out _).mono ?_; rintro e w1 ⟨rfl, h3⟩)
      go_roundw
      case rel => exact ⟨j + 1, by omega, by rw [← Hr.out], by rw [E2.out], by go_num, (HE.out.alloc _).trans h3⟩
      case measure => simp [intOf]; omega
    · have hd := HD.out j (by omega) hj
      have hc := cut_text (R j) n
      have hnj : n ≤ 32 * j := by omega
      have HDc := Lib.hid (hd.trans rfl); have HC := Lib.hid hc
      clear hd hc
      generalize (⟨(R j).toArray⟩ : ByteArray) = R1 at *
      go_wp2
      go_ret
      exact ⟨by rw [HDc.out, ← HC.out]; rfl, hext⟩
end Go.Proofs.YtobhbppogeghnaaGreatDoor
end

section
namespace Go.Proofs.YtobhbppogeghnaaGreatDoor
open Go.RowKit
attribute [local irreducible] kd

theorem good_at {L : List (Nat × ByteArray)} (hG : GoodK L) {e : Nat} {s : ByteArray} (hm : (e, s) ∈ L) : ∃ k, k < 64 ∧ L[k]? = some (e, s) ∧ ∀ i x, i < k → L[i]? = some x → x.1 ≠ e := by
  obtain ⟨k, hk, he⟩ := List.getElem_of_mem hm
  have h64 := hG.few
  refine ⟨k, by omega, by rw [List.getElem?_eq_getElem hk, he], fun i x hi hx => ?_⟩
  obtain ⟨h1, h2⟩ := List.getElem?_eq_some_iff.1 hx
  have hp := List.pairwise_map.1 hG.up
  have := List.pairwise_iff_getElem.1 hp i k h1 hk hi
  rw [h2, he] at this
  simp at this
  omega
set_option maxRecDepth 100000 in
theorem rat_yes (w : World) (B d : Nat) (p : Option Addr) (c : Nat) (L : List (Nat × ByteArray)) (h : IsR w B d p c L) (h64 : L.length ≤ 64) (e k : Nat) (s : ByteArray) (hk : L[k]? = some (e, s)) (hf : ∀ i x, i < k → L[i]? = some x → x.1 ≠ e) :
    Calls Tryz.prog 106 #[.pointer (some ⟨d, 0, none⟩), .int .u32 (e : Int)] w fun x w' => x = .returned (.int .i64 (k : Int)) ∧ w = w' := by
  have hkl : k < L.length := (List.getElem?_eq_some_iff.1 hk).1
  have HR := Lib.hid h; have HK := Lib.hid hk; have HF := Lib.hid hf
  have c0 := h.ring.cell 0 _ rfl
  clear h hk hf
  go_enter Tryz.func106, Tryz.ntmps106
  go_wp2
  go_loopw [5] (fun iv wr => ∃ j : Nat, j ≤ k ∧ iv = .int .i64 (j : Int) ∧ w = wr) (fun iv _ => L.length - (intOf iv).toNat)
  case atStart => exact ⟨0, Nat.zero_le _, rfl, rfl⟩
  case round =>
    obtain ⟨j, hj, rfl, rfl⟩ := hrel
    have hlti : (j : Int) < (L.length : Int) := by omega
    obtain ⟨x, hx⟩ : ∃ x, L[j]? = some x := ⟨_, List.getElem?_eq_getElem (by omega)⟩
    obtain ⟨g, rfl, _, c1, _⟩ := HR.out.at_ hx
    by_cases he : j = k
    · subst he
      rw [HK.out] at hx
      cases hx
      go_wp2
      go_ret
      exact ⟨rfl, rfl⟩
    · have hne := HF.out j x (by omega) hx
      have hnei : ¬ (x.1 : Int) = (e : Int) := by omega
      clear hx hne
      generalize x.1 = y at *
      go_wp2
      go_roundw
      case rel => first | exact ⟨j + 1, by omega, by go_num, rfl⟩ | exact ⟨j + 1, by omega, by go_num, trivial⟩
      case measure => simp [intOf]; omega
set_option maxRecDepth 100000 in
theorem rat_no (w : World) (B d : Nat) (p : Option Addr) (c : Nat) (L : List (Nat × ByteArray)) (h : IsR w B d p c L) (h64 : L.length ≤ 64) (e : Nat) (hn : e ∉ eps L) :
    Calls Tryz.prog 106 #[.pointer (some ⟨d, 0, none⟩), .int .u32 (e : Int)] w fun x w' => x = .returned (.int .i64 (-1)) ∧ w = w' := by
  have HR := Lib.hid h
  have HF : Hid (∀ x ∈ L, x.1 ≠ e) := Lib.hid (fun x hx q => hn (List.mem_map.2 ⟨x, hx, q⟩))
  have c0 := h.ring.cell 0 _ rfl
  clear h hn
  go_enter Tryz.func106, Tryz.ntmps106
  go_wp2
  go_loopw [5] (fun iv wr => ∃ j : Nat, j ≤ L.length ∧ iv = .int .i64 (j : Int) ∧ w = wr) (fun iv _ => L.length - (intOf iv).toNat)
  case atStart => exact ⟨0, Nat.zero_le _, rfl, rfl⟩
  case round =>
    obtain ⟨j, hj, rfl, rfl⟩ := hrel
    by_cases hlt : j < L.length
    · have hlti : (j : Int) < (L.length : Int) := by omega
      obtain ⟨x, hx⟩ : ∃ x, L[j]? = some x := ⟨_, List.getElem?_eq_getElem hlt⟩
      obtain ⟨g, rfl, _, c1, _⟩ := HR.out.at_ hx
      have hne := HF.out x (List.mem_of_getElem? hx)
      have hnei : ¬ (x.1 : Int) = (e : Int) := by omega
      clear hx hne
      generalize x.1 = y at *
      go_wp2
      go_roundw
      case rel => first | exact ⟨j + 1, by omega, by go_num, rfl⟩ | exact ⟨j + 1, by omega, by go_num, trivial⟩
      case measure => simp [intOf]; omega
    · have hlti : ¬ (j : Int) < (L.length : Int) := by omega
      go_wp2
      go_ret
      exact ⟨rfl, rfl⟩
theorem rkeysK_no (w : World) (B d : Nat) (p : Option Addr) (c : Nat) (L : List (Nat × ByteArray)) (h : IsR w B d p c L) (h64 : L.length ≤ 64) (e : Nat) (hn : e ∉ eps L) :
    Calls Tryz.prog 101 #[.pointer (some ⟨d, 0, none⟩), .int .u32 (e : Int)] w fun x w' => x = .returned (.tuple #[.string ⟨#[]⟩, .string ⟨#[]⟩, .bool false]) ∧ Ext w w' := by
  have HA := Lib.hid (rat_no w B d p c L h h64 e hn)
  clear h hn
  go_enter Tryz.func101, Tryz.ntmps101
  go_wp2_with (go_at_call 106; refine (HA.out).mono ?_; rintro e w1 ⟨rfl, rfl⟩)
  go_ret3
  exact ⟨rfl, Ext.refl _⟩
set_option maxRecDepth 100000 in
set_option maxHeartbeats 2000000 in
theorem rkeysK_yes (w : World) (B d : Nat) (p : Option Addr) (c : Nat) (L : List (Nat × ByteArray)) (h : IsR w B d p c L) (hG : GoodK L) (e : Nat) (s : ByteArray) (hm : (e, s) ∈ L) :
    Calls Tryz.prog 101 #[.pointer (some ⟨d, 0, none⟩), .int .u32 (e : Int)] w fun x w' => x = .returned (.tuple #[.string (kd s cipB 16), .string (kd s tagB 32), .bool true]) ∧ Ext w w' := by
  obtain ⟨k, hk64, hk, hf⟩ := good_at hG hm
  have hs : s.size = 32 := (hG.each _ hm).2.2
  have HA := Lib.hid (rat_yes w B d p c L h hG.few e k s hk hf)
  have HD1 : Hid (∀ u, Calls Tryz.prog 129 #[.string s, .string ⟨#[99, 105, 112, 104, 101, 114]⟩, .int .i64 16] u fun x w' => x = .returned (.string (kd s cipB 16)) ∧ Ext u w') := Lib.hid (fun u => by
    have := rder_yes s cipB 16 u (by omega) (by decide) (by omega) (by omega)
    unfold kd
    exact this)
  have HD2 : Hid (∀ u, Calls Tryz.prog 129 #[.string s, .string ⟨#[116, 97, 103]⟩, .int .i64 32] u fun x w' => x = .returned (.string (kd s tagB 32)) ∧ Ext u w') := Lib.hid (fun u => by
    have := rder_yes s tagB 32 u (by omega) (by decide) (by omega) (by omega)
    unfold kd
    exact this)
  have c0 := h.ring.cell 0 _ rfl
  obtain ⟨g, rfl, _, _, c2⟩ := h.at_ hk
  have hkl : k < L.length := (List.getElem?_eq_some_iff.1 hk).1
  have hkli : (k : Int) < (L.length : Int) := by omega
  have hk0 : ¬ (k : Int) < 0 := by omega
  have hgb : g < w.heap.size := by
    obtain ⟨g', e', hlt, _⟩ := h.ents.cell (entL_at L k _ hk).1
    cases e'
    exact hlt
  have HKeep : Hid (∀ u, Ext w u → u.cell? ⟨d, 0, none⟩ = some (.slice (some ⟨g, 0, none⟩) L.length c) ∧ u.cell? ⟨g, k * 2 + 1, none⟩ = some (.string s) ∧ Ext w u) :=
    Lib.hid fun u hu => ⟨(h.ring.ext hu).cell 0 _ rfl, by rw [hu.below.cell (p := ⟨g, k * 2 + 1, none⟩) hgb]; exact c2, hu⟩
  have hS := HKeep.out w.drew (Ext.refl w).drew
  clear h hG hm hs hk hf hkl hgb
  generalize kd s cipB 16 = D1 at *
  generalize kd s tagB 32 = D2 at *
  go_enter Tryz.func101, Tryz.ntmps101
  go_upto_region 4 with (go_at_call 106; refine (HA.out).mono ?_; rintro e w1 ⟨rfl, rfl⟩)
  go_region_held3 (fun u => u.cell? ⟨d, 0, none⟩ = some (.slice (some ⟨g, 0, none⟩) L.length c) ∧ u.cell? ⟨g, k * 2 + 1, none⟩ = some (.string s) ∧ Ext w u) (first | exact hS | exact hS1 | exact hS2 | assumption | exact HKeep.out _ (by repeat' (first | assumption | exact Ext.refl _ | refine Ext.drew ?_ | refine Ext.alloc ?_ _)) | go_keep) (first
    | (go_at_call 129; (with_reducible refine (HD1.out _).mono ?_); rintro e w4 ⟨rfl, h4⟩; have y4 := Ext.trans (a := w) (by first | assumption | exact hS2.2.2 | (repeat' (first | assumption | exact Ext.refl _ | refine Ext.drew ?_ | refine Ext.alloc ?_ _))) h4; have hS1 := HKeep.out _ y4)
    | (go_at_call 129; (with_reducible refine (HD2.out _).mono ?_); rintro e w5 ⟨rfl, h5⟩; have y5 := Ext.trans (a := w) (by first | assumption | exact hS1.2.2 | (repeat' (first | assumption | exact Ext.refl _ | refine Ext.drew ?_ | refine Ext.alloc ?_ _))) h5; have hS2 := HKeep.out _ y5))
  all_goals
    go_wp2
    go_ret3
    exact ⟨rfl, by first | exact y5 | exact y4 | assumption⟩
end Go.Proofs.YtobhbppogeghnaaGreatDoor
end

section
namespace Go.Proofs.YtobhbppogeghnaaGreatDoor
open Go.RowKit

/-- A slice that reads as these bytes. -/
def BSl (w : World) (v : Value) (l : List UInt8) : Prop := ∃ g c, v = .slice (some ⟨g, 0, none⟩) l.length c ∧ g < w.heap.size ∧ ∀ (i : Nat) (b : UInt8), l[i]? = some b → w.cell? ⟨g, i, none⟩ = some (.int .u8 (b.toNat : Int))
theorem BSl.ext {w w' : World} {v : Value} {l : List UInt8} (h : BSl w v l) (hx : Ext w w') : BSl w' v l := by
  obtain ⟨g, c, h1, h2, h3⟩ := h
  exact ⟨g, c, h1, Nat.lt_of_lt_of_le h2 hx.size, fun i b hb => (hx.below.cell (p := ⟨g, i, none⟩) h2).trans (h3 i b hb)⟩
theorem Buf.sl {w : World} {B : Nat} {v : Value} {l : List UInt8} (h : Buf w B v l) (hl : l ≠ []) : BSl w v l := by
  unfold Buf at h
  rcases h.2 with ⟨_, h0⟩ | ⟨g, cap, cur, hv, _, hg, hle, _, hsz, ht⟩
  · exact absurd (List.length_eq_zero_iff.1 h0) hl
  · refine ⟨g, cap, hv, (Array.getElem?_eq_some_iff.1 hg).1, fun i b hb => ?_⟩
    have hi : i < l.length := (List.getElem?_eq_some_iff.1 hb).1
    rw [cell_of_row w g i cur _ (0, 0) hg]
    have e : cur.toList[i]? = (l.map cellOf)[i]? := by
      rw [← ht, List.getElem?_take, if_pos (by omega)]
    rw [← Array.getElem?_toList, e]
    simp [hb, cellOf]
theorem Row.sl {w : World} {g : Nat} {t : TypeId} {l : List UInt8} (h : Row w g t l) (c : Nat) : BSl w (.slice (some ⟨g, 0, none⟩) l.length c) l := ⟨g, c, rfl, h.lt, fun i b hb => h.cell i b hb⟩
set_option maxRecDepth 100000 in
set_option maxHeartbeats 1000000 in
theorem rtable_any (w : World) : Calls Tryz.prog 154 #[] w fun e w' => ∃ v, e = .returned v ∧ BSl w' v boxT ∧ Ext w w' := by
  have HB := Lib.hid (fun j (h : j < 256) u => rbox_any j h u)
  go_enter Tryz.func154, Tryz.ntmps154
  go_wp2
  go_loopw [1, 2] (fun v i wr => ∃ j : Nat, j ≤ 256 ∧ i = .int .i64 j ∧ Buf wr w.heap.size v (boxT.take j) ∧ Ext w wr) (fun _ i _ => 256 - (intOf i).toNat)
  case atStart => exact ⟨0, by omega, rfl, by simpa using Buf.nil w w.heap.size, Ext.refl w⟩
  case round =>
    obtain ⟨j, hj, rfl, hbuf, hext⟩ := hrel
    by_cases hlt : j < 256
    · have hji : (j : Int) < 256 := by omega
      have hwj : IntKind.u8.wrap (j : Int) = (j : Int) := IntWalk.u8_in _ ⟨by omega, by omega⟩
      have HJ := Lib.hid (HB.out j hlt)
      have HT := Lib.hid (boxT_take j hlt)
      have H2 : Hid ((boxT.take j).length + 1 ≤ 140737488355328) := Lib.hid (by rw [List.length_take]; omega)
      have HBf := Lib.hid hbuf; have HE := Lib.hid hext
      clear hbuf hext
      go_wp2_with (first
        | (go_at_call 182; (with_reducible refine (HJ.out _).mono ?_); rintro e w1 ⟨rfl, rfl⟩)
        | (at_builtin; refine append_bytes rfl (.tmp 7) (.tmp 11) rfl w.heap.size _ _ rfl (HBf.out.alloc _) wr.heap.size 1 [boxB (UInt8.ofNat j)] rfl rfl (Row.one _ _ _ _ rfl) H2.out (HE.out.alloc _).size ?_; intro v1 w2 hb1 hx1; have hext1 : Ext w w2 := Below.trans (HE.out.alloc _) hx1))
      go_roundw
      case rel => exact ⟨j + 1, by omega, by go_num, by rw [HT.out]; exact hb1, hext1⟩
      case measure => simp [intOf]; omega
    · obtain rfl : j = 256 := by omega
      have e256 : ((256 : Nat) : Int) = 256 := rfl
      rw [e256]
      clear e256
      rw [List.take_of_length_le (by rw [boxT_length]; exact Nat.le_refl _)] at hbuf
      have HS := Lib.hid (hbuf.sl (by intro h; have := boxT_length; rw [h] at this; cases this))
      clear hbuf
      go_wp2
      go_ret
      exact ⟨_, rfl, HS.out, hext⟩
end Go.Proofs.YtobhbppogeghnaaGreatDoor
end
