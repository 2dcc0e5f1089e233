/- Contracts: which bytes are derived, by the reference. -/
import Derived.Test.YtciiooeblknnoaaDoorRMac
import Derived.Test.YtciiooeblknnoaaDoorTag
namespace Go.Proofs.YtciiooeblknnoaaDoor
open Go.RowKit

theorem text_add (a : List UInt8) (s : ByteArray) : (⟨a.toArray⟩ : ByteArray) ++ s = ⟨(a ++ s.data.toList).toArray⟩ := by
  have : s = ⟨s.data.toList.toArray⟩ := rfl
  conv => lhs; rw [this]
  exact str_append _ _
theorem one_text2 (x : Int) (b : UInt8) (hx : x = (b.toNat : Int)) (t : TypeId) (u : World) : (convert 29 9 (.slice (some ⟨u.heap.size, 0, none⟩) 1 1)).run Tryd.prog (u.alloc (.cells #[.int .u8 x] t)) = .ok (.string ⟨#[b]⟩) (u.alloc (.cells #[.int .u8 x] t)) := by
  subst hx
  have hr : Row (u.alloc (.cells #[.int .u8 (b.toNat : Int)] t)) u.heap.size t [b] := heap_alloc_new u _
  exact hr.text (P := Tryd.prog) 29 5 9 Tryd.underlying29 Tryd.underlying5 Tryd.underlying9 1 1 rfl
theorem rder_no (key label : ByteArray) (n : Int) (w : World) (h : n < 1 ∨ 8160 < n) :
    Calls Tryd.prog 15 #[.string key, .string label, .int .i64 n] w fun e w' => e = .returned (.string ⟨#[]⟩) ∧ Ext w w' := by
  go_enter Tryd.func15, Tryd.ntmps15
  rcases h with h | h
  · go_wp2
    go_ret
    exact ⟨rfl, Ext.refl w⟩
  · by_cases h0 : n < 1
    · omega
    · go_wp2
      go_ret
      exact ⟨rfl, Ext.refl w⟩
/-- The next tag, by the reference. -/
theorem rtag_next (u : World) (key label : ByteArray) (j : Nat) (b : UInt8) (hb : b = UInt8.ofNat (j + 1)) (hk : key.size ≤ 1099511627776) (hl : label.size ≤ 137438953472) :
    Calls Tryd.prog 9 #[.string key, .string ((⟨(tagL key.data.toList label.data.toList j).toArray⟩ : ByteArray) ++ label ++ ⟨#[b]⟩)] u fun e w' => e = .returned (.string ⟨(tagL key.data.toList label.data.toList (j + 1)).toArray⟩) ∧ Ext u w' := by
  subst hb
  have hle := tagL_le key.data.toList label.data.toList j
  have e1 : ((⟨(tagL key.data.toList label.data.toList j).toArray⟩ : ByteArray) ++ label ++ ⟨#[UInt8.ofNat (j + 1)]⟩) = ⟨(tagL key.data.toList label.data.toList j ++ label.data.toList ++ [UInt8.ofNat (j + 1)]).toArray⟩ := by
    rw [text_add, text_add]
  have h := rMac_any key ⟨(tagL key.data.toList label.data.toList j ++ label.data.toList ++ [UInt8.ofNat (j + 1)]).toArray⟩ hk (by rw [txt_size]; simp only [List.length_append, List.length_singleton, size_list]; omega) u
  rw [e1]
  have e2 : (⟨(tagL key.data.toList label.data.toList j ++ label.data.toList ++ [UInt8.ofNat (j + 1)]).toArray⟩ : ByteArray).data.toList = tagL key.data.toList label.data.toList j ++ label.data.toList ++ [UInt8.ofNat (j + 1)] := by simp
  rw [e2, ← tagL_succ] at h
  exact h
set_option maxRecDepth 100000 in
set_option maxHeartbeats 1000000 in
theorem rder_yes (key label : ByteArray) (n : Nat) (w : World) (hk : key.size ≤ 1099511627776) (hl : label.size ≤ 137438953472) (h1 : 1 ≤ n) (h2 : n ≤ 8160) :
    Calls Tryd.prog 15 #[.string key, .string label, .int .i64 (n : Int)] w fun e w' => e = .returned (.string ⟨(derL key.data.toList label.data.toList n).toArray⟩) ∧ Ext w w' := by
  have HT := Lib.hid (fun u j b (hb : b = UInt8.ofNat (j + 1)) => rtag_next u key label j b hb hk hl)
  have HL := Lib.hid (fun j => rowL_succ key.data.toList label.data.toList j)
  have HD := Lib.hid (fun j (h : n ≤ 32 * j) (hj : j ≤ 255) => derL_of key.data.toList label.data.toList n j h hj)
  have HZ := Lib.hid (fun j => rowL_length key.data.toList label.data.toList j)
  have HY := Lib.hid (fun j => tagL_length key.data.toList label.data.toList j)
  have HX := Lib.hid (fun j => tagL_le key.data.toList label.data.toList j)
  generalize derL key.data.toList label.data.toList n = D at *
  have T0 := Lib.hid (show tagL key.data.toList label.data.toList 0 = [] from rfl)
  have R0 := Lib.hid (show rowL key.data.toList label.data.toList 0 = [] from rfl)
  generalize tagL key.data.toList label.data.toList = T at *
  generalize rowL key.data.toList label.data.toList = R at *
  go_enter Tryd.func15, Tryd.ntmps15
  go_wp2
  go_loopw [7, 8, 9] (fun all t i wr => ∃ j : Nat, j ≤ 255 ∧ all = .string ⟨(R j).toArray⟩ ∧ t = .string ⟨(T j).toArray⟩ ∧ i = .int .i64 (j + 1 : Nat) ∧ Ext w wr) (fun _ _ i _ => 256 - (intOf i).toNat)
  case atStart => exact ⟨0, by omega, by rw [R0.out], by rw [T0.out], rfl, Ext.refl w⟩
  case round =>
    obtain ⟨j, hj, rfl, rfl, rfl, hext⟩ := hrel
    have hz : (⟨(R j).toArray⟩ : ByteArray).size = 32 * j := by rw [txt_size, HZ.out]
    by_cases hlt : 32 * j < n
    · have hy : (⟨(T (j + 1)).toArray⟩ : ByteArray).size = 32 := by rw [txt_size, HY.out]
      have hx : (⟨(T j).toArray⟩ : ByteArray).size ≤ 32 := by rw [txt_size]; exact HX.out j
      have hr : (⟨(R j).toArray⟩ : ByteArray) ++ ⟨(T (j + 1)).toArray⟩ = ⟨(R (j + 1)).toArray⟩ := by rw [str_append, HL.out j]
      obtain ⟨b, eb⟩ : ∃ b, b = UInt8.ofNat (j + 1) := ⟨_, rfl⟩
      have hcv := fun t u => one_text2 ((j : Int) + 1) b (by rw [eb]; simp; omega) t u
      have HN := Lib.hid (fun u => HT.out u j b eb)
      obtain ⟨T2, e2⟩ : ∃ x, (⟨(T (j + 1)).toArray⟩ : ByteArray) = x := ⟨_, rfl⟩
      rw [e2] at HN hy hr
      have Hr := Lib.hid hr; have E2 := Lib.hid e2; have HE := Lib.hid hext
      clear eb hr e2 hext
      generalize (⟨(T j).toArray⟩ : ByteArray) = T1 at *
      go_wp2_with (go_at_call 9; refine (HN.out _).mono ?_; rintro e w1 ⟨rfl, h3⟩)
      go_roundw
      case rel => exact ⟨j + 1, by omega, by rw [← Hr.out], by rw [E2.out], by go_num, (HE.out.alloc _).trans h3⟩
      case measure => simp [intOf]; omega
    · have hd := HD.out j (by omega) hj
      have hc := cut_text (R j) n
      have hnj : n ≤ 32 * j := by omega
      have HDc := Lib.hid (hd.trans rfl); have HC := Lib.hid hc
      clear hd hc
      generalize (⟨(R j).toArray⟩ : ByteArray) = R1 at *
      go_wp2
      go_ret
      exact ⟨by rw [HDc.out, ← HC.out]; rfl, hext⟩
end Go.Proofs.YtciiooeblknnoaaDoor
