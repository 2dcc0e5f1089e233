/- Contracts: the document's answers of layer 3: a key's block, a text's tag, whether a tag is right, by the reference. -/
import Derived.Test.YtciiooeblknnoaaDoorMacL
import Derived.Test.YtciiooeblknnoaaDoorROf
namespace Go.Proofs.YtciiooeblknnoaaDoor
open Go.RowKit

theorem blockL_at (K : ByteArray) (k : List UInt8) (h : K.data.toList = keyL k) (j : Nat) (hj : j < 64) : (blockL k)[j]? = some (if hlt : j < K.size then K[j] else 0) := by
  unfold blockL
  rw [← h]
  by_cases hlt : j < K.size
  · rw [dif_pos hlt, List.getElem?_append_left (by rw [size_list]; exact hlt), byte_at K j hlt]
  · rw [dif_neg hlt, List.getElem?_append_right (by rw [size_list]; omega), List.getElem?_replicate, if_pos (by rw [size_list]; omega)]
theorem mix_text (k : List UInt8) (c : UInt8) : xorL (⟨(blockL k).toArray⟩ : ByteArray).data.toList (⟨(List.replicate 64 c).toArray⟩ : ByteArray).data.toList = mixL k c := by simp [mixL]
theorem rmix (k : List UInt8) (c : UInt8) (w : World) : Calls Tryd.prog 28 #[.string ⟨(blockL k).toArray⟩, .string ⟨Array.replicate 64 c⟩] w fun e w' => e = .returned (.string ⟨(mixL k c).toArray⟩) ∧ Ext w w' := by
  have h := rXor_yes ⟨(blockL k).toArray⟩ ⟨(List.replicate 64 c).toArray⟩ (by rw [txt_size, txt_size, blockL_length, List.length_replicate]) (by rw [txt_size, blockL_length]; decide) w
  rw [mix_text] at h
  simpa only [List.toArray_replicate] using h
theorem rep_take (c : UInt8) (j : Nat) (h : j < 64) : (List.replicate 64 c)[j]? = some c := by rw [List.getElem?_replicate, if_pos h]

set_option maxRecDepth 100000 in
set_option maxHeartbeats 2000000 in
theorem rblock_any (key : ByteArray) (hk : key.size ≤ 1099511627776) (c : UInt8) (w : World) :
    Calls Tryd.prog 18 #[.string key, .int .u8 (c.toNat : Int)] w fun e w' => e = .returned (.string ⟨(mixL key.data.toList c).toArray⟩) ∧ Ext w w' := by
  have hmk := make_bytes 64 (by omega)
  have e64 : ((64 : Nat) : Int) = 64 := rfl
  rw [e64] at hmk
  clear e64
  by_cases hlong : 64 < key.size
  · have hK : (⟨(shaL key.data.toList).toArray⟩ : ByteArray).data.toList = keyL key.data.toList := by unfold keyL; rw [if_pos (by rw [size_list]; exact hlong)]
    have hKs : (⟨(shaL key.data.toList).toArray⟩ : ByteArray).size = 32 := by rw [txt_size, shaL_length]
    have HS := Lib.hid (rOf_any key hk)
    generalize (⟨(shaL key.data.toList).toArray⟩ : ByteArray) = K at *
    obtain ⟨k, ek⟩ : ∃ k, k = key.data.toList := ⟨_, rfl⟩
    rw [← ek] at hK ⊢
    clear ek
    go_enter Tryd.func18, Tryd.ntmps18
    go_wp2_with (go_at_call 16; refine (HS.out _).mono ?_; rintro e w1 ⟨rfl, hx⟩)
    go_loopw [6] (fun i wr => ∃ j : Nat, j ≤ 64 ∧ i = .int .i64 j ∧ Row wr w1.heap.size 5 ((blockL k).take j ++ List.replicate (64 - j) 0) ∧ Ext w wr) (fun i _ => 64 - (intOf i).toNat)
    case atStart => exact ⟨0, Nat.zero_le _, rfl, by simpa using Row.made w1 5 64, hx.alloc _⟩
    case round =>
      obtain ⟨j, hj, rfl, hrow, hext⟩ := hrel
      by_cases hlt : j < 64
      · have hc := fill_cell hrow (blockL_length k) hlt
        have hf := hrow.frozen j
        have hat := blockL_at K k hK j hlt
        by_cases hin : j < K.size
        · rw [dif_pos hin] at hat
          have HAT := Lib.hid hat; clear hat
          go_wp2
          go_roundw
          case rel => exact ⟨j + 1, hlt, by go_num, fill_step hrow (blockL_length k) hlt _ _ HAT.out rfl, hext.setCell (Nat.le_trans hx.size (Nat.le_refl _)) _⟩
          case measure => simp [intOf]; omega
        · rw [dif_neg hin] at hat
          have HAT := Lib.hid hat; clear hat
          go_wp2
          go_roundw
          case rel => exact ⟨j + 1, hlt, by go_num, fill_step hrow (blockL_length k) hlt _ _ HAT.out rfl, hext.setCell (Nat.le_trans hx.size (Nat.le_refl _)) _⟩
          case measure => simp [intOf]; omega
      · obtain rfl : j = 64 := by omega
        have hrow1 := fill_done hrow (blockL_length k)
        have HR1 := Lib.hid hrow1
        clear hrow hrow1
        have hszr := hext.size
        go_wp2
        go_loopw [9] (fun i wr2 => ∃ j : Nat, j ≤ 64 ∧ i = .int .i64 j ∧ Row wr2 wr.heap.size 5 ((List.replicate 64 c).take j ++ List.replicate (64 - j) 0) ∧ Ext wr wr2) (fun i _ => 64 - (intOf i).toNat)
        case atStart => exact ⟨0, Nat.zero_le _, rfl, by simpa using Row.made wr 5 64, (Ext.refl wr).alloc _⟩
        case round =>
          obtain ⟨j, hj, rfl, hrow, hext2⟩ := hrel
          by_cases hlt : j < 64
          · have hc := fill_cell hrow (List.length_replicate) hlt
            have hf := hrow.frozen j
            go_wp2
            go_roundw
            case rel => exact ⟨j + 1, hlt, by go_num, fill_step hrow (List.length_replicate) hlt _ _ (rep_take c j hlt) rfl, hext2.setCell (Nat.le_refl _) _⟩
            case measure => simp [intOf]; omega
          · obtain rfl : j = 64 := by omega
            have ht1 := (HR1.out.ext hext2).text (P := Tryd.prog) 29 5 9 Tryd.underlying29 Tryd.underlying5 Tryd.underlying9 64 64 (blockL_length k)
            have ht2 := (fill_done hrow (List.length_replicate)).text (P := Tryd.prog) 29 5 9 Tryd.underlying29 Tryd.underlying5 Tryd.underlying9 64 64 (List.length_replicate)
            simp only [List.toArray_replicate] at ht2
            clear hrow
            go_wp2_with (go_at_call 28; refine (rmix k c _).mono ?_; rintro e w4 ⟨rfl, h4⟩)
            go_ret
            exact ⟨rfl, (hext.trans hext2).trans h4⟩
  · have hK0 : key.data.toList = keyL key.data.toList := by unfold keyL; rw [if_neg (by rw [size_list]; exact hlong)]
    have hK1 : ∀ k, k = key.data.toList → key.data.toList = keyL k := by rintro k rfl; exact hK0
    obtain ⟨k, ek⟩ : ∃ k, k = key.data.toList := ⟨_, rfl⟩
    have hK := hK1 k ek
    rw [← ek]
    clear ek hK0 hK1
    have hx : Ext w w := Ext.refl w
    generalize key = K at *
    go_enter Tryd.func18, Tryd.ntmps18
    go_wp2
    go_loopw [6] (fun i wr => ∃ j : Nat, j ≤ 64 ∧ i = .int .i64 j ∧ Row wr w.heap.size 5 ((blockL k).take j ++ List.replicate (64 - j) 0) ∧ Ext w wr) (fun i _ => 64 - (intOf i).toNat)
    case atStart => exact ⟨0, Nat.zero_le _, rfl, by simpa using Row.made w 5 64, hx.alloc _⟩
    case round =>
      obtain ⟨j, hj, rfl, hrow, hext⟩ := hrel
      by_cases hlt : j < 64
      · have hc := fill_cell hrow (blockL_length k) hlt
        have hf := hrow.frozen j
        have hat := blockL_at K k hK j hlt
        by_cases hin : j < K.size
        · rw [dif_pos hin] at hat
          have HAT := Lib.hid hat; clear hat
          go_wp2
          go_roundw
          case rel => exact ⟨j + 1, hlt, by go_num, fill_step hrow (blockL_length k) hlt _ _ HAT.out rfl, hext.setCell (Nat.le_trans hx.size (Nat.le_refl _)) _⟩
          case measure => simp [intOf]; omega
        · rw [dif_neg hin] at hat
          have HAT := Lib.hid hat; clear hat
          go_wp2
          go_roundw
          case rel => exact ⟨j + 1, hlt, by go_num, fill_step hrow (blockL_length k) hlt _ _ HAT.out rfl, hext.setCell (Nat.le_trans hx.size (Nat.le_refl _)) _⟩
          case measure => simp [intOf]; omega
      · obtain rfl : j = 64 := by omega
        have hrow1 := fill_done hrow (blockL_length k)
        have HR1 := Lib.hid hrow1
        clear hrow hrow1
        have hszr := hext.size
        go_wp2
        go_loopw [9] (fun i wr2 => ∃ j : Nat, j ≤ 64 ∧ i = .int .i64 j ∧ Row wr2 wr.heap.size 5 ((List.replicate 64 c).take j ++ List.replicate (64 - j) 0) ∧ Ext wr wr2) (fun i _ => 64 - (intOf i).toNat)
        case atStart => exact ⟨0, Nat.zero_le _, rfl, by simpa using Row.made wr 5 64, (Ext.refl wr).alloc _⟩
        case round =>
          obtain ⟨j, hj, rfl, hrow, hext2⟩ := hrel
          by_cases hlt : j < 64
          · have hc := fill_cell hrow (List.length_replicate) hlt
            have hf := hrow.frozen j
            go_wp2
            go_roundw
            case rel => exact ⟨j + 1, hlt, by go_num, fill_step hrow (List.length_replicate) hlt _ _ (rep_take c j hlt) rfl, hext2.setCell (Nat.le_refl _) _⟩
            case measure => simp [intOf]; omega
          · obtain rfl : j = 64 := by omega
            have ht1 := (HR1.out.ext hext2).text (P := Tryd.prog) 29 5 9 Tryd.underlying29 Tryd.underlying5 Tryd.underlying9 64 64 (blockL_length k)
            have ht2 := (fill_done hrow (List.length_replicate)).text (P := Tryd.prog) 29 5 9 Tryd.underlying29 Tryd.underlying5 Tryd.underlying9 64 64 (List.length_replicate)
            simp only [List.toArray_replicate] at ht2
            clear hrow
            go_wp2_with (go_at_call 28; refine (rmix k c _).mono ?_; rintro e w4 ⟨rfl, h4⟩)
            go_ret
            exact ⟨rfl, (hext.trans hext2).trans h4⟩

theorem rmac_in (k s : ByteArray) (c : UInt8) : (⟨(mixL k.data.toList c).toArray⟩ : ByteArray) ++ s = ⟨(mixL k.data.toList c ++ s.data.toList).toArray⟩ := by
  have : s = ⟨s.data.toList.toArray⟩ := rfl
  conv => lhs; rw [this]
  exact str_append _ _
theorem rOf_list (l : List UInt8) (hl : l.length ≤ 1099511627776) (w : World) :
    Calls Tryd.prog 16 #[.string ⟨l.toArray⟩] w fun e w' => e = .returned (.string ⟨(shaL l).toArray⟩) ∧ Ext w w' := by
  have := rOf_any ⟨l.toArray⟩ (by rw [txt_size]; exact hl) w
  simpa using this
set_option maxRecDepth 100000 in
theorem rMac_any (key s : ByteArray) (hk : key.size ≤ 1099511627776) (hs : s.size ≤ 549755813888) (w : World) :
    Calls Tryd.prog 9 #[.string key, .string s] w fun e w' => e = .returned (.string ⟨(macL key.data.toList s.data.toList).toArray⟩) ∧ Ext w w' := by
  have HB1 := Lib.hid (show ∀ u : World, Calls Tryd.prog 18 #[.string key, .int .u8 92] u fun e w' => e = .returned (.string ⟨(mixL key.data.toList 92).toArray⟩) ∧ Ext u w' from fun u => rblock_any key hk 92 u)
  have HB2 := Lib.hid (show ∀ u : World, Calls Tryd.prog 18 #[.string key, .int .u8 54] u fun e w' => e = .returned (.string ⟨(mixL key.data.toList 54).toArray⟩) ∧ Ext u w' from fun u => rblock_any key hk 54 u)
  have H1 := rmac_in key s 54
  have l1 : (mixL key.data.toList 54).length = 64 := mixL_length _ _
  have l2 : (mixL key.data.toList 92).length = 64 := mixL_length _ _
  have z1 : (⟨(mixL key.data.toList 54).toArray⟩ : ByteArray).size = 64 := by rw [txt_size, l1]
  have z2 : (⟨(mixL key.data.toList 92).toArray⟩ : ByteArray).size = 64 := by rw [txt_size, l2]
  have z3 : (⟨(shaL (mixL key.data.toList 54 ++ s.data.toList)).toArray⟩ : ByteArray).size = 32 := by rw [txt_size, shaL_length]
  have R1 := Lib.hid (rOf_list (mixL key.data.toList 54 ++ s.data.toList) (by rw [List.length_append, l1, size_list]; omega))
  have R2 := Lib.hid (rOf_list (mixL key.data.toList 92 ++ shaL (mixL key.data.toList 54 ++ s.data.toList)) (by rw [List.length_append, l2, shaL_length]; decide))
  have e2 : (⟨(mixL key.data.toList 92).toArray⟩ : ByteArray) ++ ⟨(shaL (mixL key.data.toList 54 ++ s.data.toList)).toArray⟩ = ⟨(mixL key.data.toList 92 ++ shaL (mixL key.data.toList 54 ++ s.data.toList)).toArray⟩ := str_append _ _
  have HE := Lib.hid (macL_eq key.data.toList s.data.toList)
  have H1' := Lib.hid H1
  have E2 := Lib.hid e2
  clear H1 e2 l1 l2
  generalize (⟨(mixL key.data.toList 54).toArray⟩ : ByteArray) = A1 at *
  generalize (⟨(mixL key.data.toList 92).toArray⟩ : ByteArray) = A2 at *
  generalize (⟨(shaL (mixL key.data.toList 54 ++ s.data.toList)).toArray⟩ : ByteArray) = A3 at *
  rw [← H1'.out] at R1
  rw [← E2.out, ← HE.out] at R2
  clear H1' E2 HE
  go_enter Tryd.func9, Tryd.ntmps9
  go_wp2_with (first
    | (go_at_call 18; ((with_reducible refine (HB1.out _).mono ?_); rintro e w1 ⟨rfl, h1⟩))
    | (go_at_call 18; ((with_reducible refine (HB2.out _).mono ?_); rintro e w2 ⟨rfl, h2⟩))
    | (go_at_call 16; ((with_reducible refine (R1.out _).mono ?_); rintro e w3 ⟨rfl, h3⟩))
    | (go_at_call 16; ((with_reducible refine (R2.out _).mono ?_); rintro e w4 ⟨rfl, h4⟩)))
  go_ret
  exact ⟨rfl, ((h1.trans h2).trans h3).trans h4⟩
end Go.Proofs.YtciiooeblknnoaaDoor
