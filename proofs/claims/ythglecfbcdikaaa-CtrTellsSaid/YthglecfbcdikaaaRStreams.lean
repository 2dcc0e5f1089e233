/- Contract: a stream, by the document's answer. Contract: a text, either or a stream, by the document's answer. -/
import Derived.Test.YthglecfbcdikaaaRBlock
import Derived.Test.YthglecfbcdikaaaRPut
import Derived.Test.YthglecfbcdikaaaCtrL
import Derived.Test.YthglecfbcdikaaaTxt
import Derived.StillTailTactics
import Derived.Deep.RegionLaw
import Derived.Outline
section
namespace Go.Proofs.Ythglecfbcdikaaa
open Go.RowKit
attribute [local irreducible] rkey expand enc dec ctrB ctrC ctrL

theorem ctr_block (w : World) (key nonce : ByteArray) (x : Nat) (hk : key.size = 16) (hn : nonce.size = 12) (v : Value) (hv : BSl w v boxT) :
    Calls Try.prog 18 #[.string key, .string ⟨(nonce.data.toList ++ be 4 x).toArray⟩, v] w fun e w' => e = .returned (.string ⟨(ctrB key.data.toList nonce.data.toList x).toArray⟩) ∧ Ext w w' := by
  have h := raes_any w key ⟨(nonce.data.toList ++ be 4 x).toArray⟩ hk (by rw [txt_size, List.length_append, size_list, be_length, hn]) v hv
  unfold ctrB
  exact h
set_option maxRecDepth 100000 in
set_option maxHeartbeats 2000000 in
theorem rstream_yes (key nonce : ByteArray) (f n : Nat) (hk : key.size = 16) (hn : nonce.size = 12) (hn2 : n ≤ 1048576) (hfl : f < 4294967296) (hf : f + blocksOf n ≤ 4294967296) (w : World) :
    Calls Try.prog 10 #[.string key, .string nonce, .int .u32 (f : Int), .int .i64 (n : Int)] w
      fun e w' => e = .returned (.tuple #[.string ⟨(ctrL key.data.toList nonce.data.toList f n).toArray⟩, .int .i64 0]) ∧ Ext w w' := by
  have hki : ((key.size : Int) != 16) = false := by simp [hk]
  have hni : ((nonce.size : Int) != 12) = false := by simp [hn]
  obtain ⟨b, hb⟩ : ∃ b, b = blocksOf n := ⟨_, rfl⟩
  have hbi : ((n : Int) + 15) / 16 = (b : Int) := by rw [hb]; unfold blocksOf; omega
  have hkl : key.data.toList.length = 16 := by rw [size_list]; exact hk
  have hbl : b ≤ 65536 := by rw [hb]; unfold blocksOf; omega
  have hCL := Lib.hid (fun j => ctrC_length hkl nonce.data.toList f j)
  have hCS := Lib.hid (fun j => ctrC_succ key.data.toList nonce.data.toList f j)
  have hCO := Lib.hid (ctrL_of hkl nonce.data.toList f n b (by rw [hb]; exact blocksOf_le n))
  have hC0 := Lib.hid (ctrC_zero key.data.toList nonce.data.toList f)
  have HB := Lib.hid hb
  have HBL := Lib.hid (fun i => ctrB_length hkl nonce.data.toList i)
  rw [← hb] at hf
  have hfi : (f : Int) + (b : Int) ≤ 4294967296 := by omega
  have HCB := Lib.hid (fun u x v (hv : BSl u v boxT) => ctr_block u key nonce x hk hn v hv)
  clear hb
  go_enter Try.func10, Try.ntmps10
  go_wp2_with (go_at_call 17; refine (rtable_any _).mono ?_; rintro e w1 ⟨v, rfl, hv, hx⟩)
  have HBS := Lib.hid hv
  clear hv hkl
  go_loopw [12, 13] (fun s i wr => ∃ j : Nat, j ≤ b ∧ i = .int .u64 (j : Int) ∧ s = .string ⟨(ctrC key.data.toList nonce.data.toList f j).toArray⟩ ∧ Ext w1 wr) (fun _ i _ => b - (intOf i).toNat)
  case atStart => exact ⟨0, Nat.zero_le _, rfl, by rw [hC0.out], Ext.refl _⟩
  case round =>
    obtain ⟨j, hj, rfl, rfl, hext⟩ := hrel
    by_cases hlt : j < b
    · have hS := str_append (ctrC key.data.toList nonce.data.toList f j) (ctrB key.data.toList nonce.data.toList (f + j))
      rw [← hCS.out j] at hS
      have hx2 : (f : Int) + (j : Int) = ((f + j : Nat) : Int) := by omega
      have hP := Lib.hid (fun u => rPut_any (f + j) (Lib.hid (by omega)) 4 (by omega) u)
      have hT := txt_cat nonce (be 4 (f + j))
      have HE := Lib.hid hext
      have HCBj := Lib.hid (fun u (hu : Ext wr u) => HCB.out u (f + j) v ((HBS.out.ext hext).ext hu))
      have hwj : IntKind.u64.wrap ((f : Int) + (j : Int)) = ((f + j : Nat) : Int) := by rw [hx2]; exact IntWalk.u64_in _ ⟨by omega, by omega⟩
      have l1 : (ctrC key.data.toList nonce.data.toList f j).length = 16 * j := hCL.out j
      have l2 : (ctrB key.data.toList nonce.data.toList (f + j)).length = 16 := HBL.out _
      have l3 : (be 4 (f + j)).length = 4 := be_length _ _
      clear hext
      generalize ctrC key.data.toList nonce.data.toList f j = C0 at *
      generalize hC1 : ctrC key.data.toList nonce.data.toList f (j + 1) = C1 at *
      generalize ctrB key.data.toList nonce.data.toList (f + j) = B at *
      generalize be 4 (f + j) = P at *
      generalize hm : f + j = m at *
      go_wp2_with (first
        | (go_at_call 19; refine (hP.out _).mono ?_; rintro e w2 ⟨rfl, h2⟩)
        | (go_at_call 18; refine (HCBj.out _ h2).mono ?_; rintro e w3 ⟨rfl, h3⟩))
      go_roundw
      case rel => exact ⟨j + 1, hlt, by go_num, by first | rfl | rw [hC1], (HE.out.trans h2).trans h3⟩
      case measure => simp [intOf]; omega
    · obtain rfl : j = b := by omega
      have hX := txt_extract (ctrC key.data.toList nonce.data.toList f j) n
      rw [hCO.out] at hX
      have hsl := slice_upto ⟨(ctrC key.data.toList nonce.data.toList f j).toArray⟩ n (by rw [txt_size, hCL.out, HB.out]; exact blocksOf_le n)
      rw [hX] at hsl
      clear hX
      generalize (⟨(ctrC key.data.toList nonce.data.toList f j).toArray⟩ : ByteArray) = X at *
      go_wp2
      go_ret2
      exact ⟨rfl, hx.trans hext⟩
set_option maxRecDepth 100000 in
set_option maxHeartbeats 2000000 in
theorem rstream_arg (key nonce : ByteArray) (f : Nat) (n : Int) (h : badArg key nonce n) (w : World) :
    Calls Try.prog 10 #[.string key, .string nonce, .int .u32 (f : Int), .int .i64 n] w
      fun e w' => e = .returned (.tuple #[.string ⟨#[]⟩, .int .i64 2]) ∧ Ext w w' := by
  go_enter Try.func10, Try.ntmps10
  by_cases hk : key.size = 16
  · have hki : ((key.size : Int) != 16) = false := by simp [hk]
    by_cases hn : nonce.size = 12
    · have hni : ((nonce.size : Int) != 12) = false := by simp [hn]
      have hneg : n < 0 := by
        rcases h with h | h | h
        · exact absurd hk h
        · exact absurd hn h
        · exact h
      clear h hk hn
      go_wp2
      go_ret2
      exact ⟨rfl, Ext.refl _⟩
    · have hni : ((nonce.size : Int) != 12) = true := by simp; omega
      clear h hk hn
      go_wp2
      go_ret2
      exact ⟨rfl, Ext.refl _⟩
  · have hki : ((key.size : Int) != 16) = true := by simp; omega
    clear h hk
    go_wp2
    go_ret2
    exact ⟨rfl, Ext.refl _⟩
set_option maxRecDepth 100000 in
set_option maxHeartbeats 2000000 in
theorem rstream_long (key nonce : ByteArray) (f : Nat) (n : Int) (hk : key.size = 16) (hn : nonce.size = 12) (h0 : 0 ≤ n) (hm : n ≤ 9223372036854775807) (hfl : f < 4294967296) (h : tooLong f n) (w : World) :
    Calls Try.prog 10 #[.string key, .string nonce, .int .u32 (f : Int), .int .i64 n] w
      fun e w' => e = .returned (.tuple #[.string ⟨#[]⟩, .int .i64 5]) ∧ Ext w w' := by
  have hki : ((key.size : Int) != 16) = false := by simp [hk]
  have hni : ((nonce.size : Int) != 12) = false := by simp [hn]
  obtain ⟨b, hb⟩ : ∃ b : Nat, (n + 15) / 16 = (b : Int) := ⟨((n + 15) / 16).toNat, by omega⟩
  have hbl : b < 1152921504606846976 := by omega
  unfold tooLong at h
  rw [hb] at h
  clear hk hn
  have hfi : (f : Int) < 4294967296 := by omega
  obtain ⟨m, rfl⟩ : ∃ m : Nat, n = (m : Int) := ⟨n.toNat, by omega⟩
  clear h0 hfi
  go_enter Try.func10, Try.ntmps10
  by_cases h1 : 1048576 < (m : Int)
  · clear h
    go_wp2
    go_ret2
    exact ⟨rfl, Ext.refl _⟩
  · have h2 : 4294967296 < (f : Int) + (b : Int) := by
      rcases h with h | h
      · exact absurd h h1
      · exact h
    clear h
    go_wp2
    go_ret2
    exact ⟨rfl, Ext.refl _⟩
end Go.Proofs.Ythglecfbcdikaaa
end

section
namespace Go.Proofs.Ythglecfbcdikaaa
open Go.RowKit
attribute [local irreducible] rkey expand enc dec ctrB ctrC ctrL xorL

set_option maxRecDepth 100000 in
set_option maxHeartbeats 1000000 in
theorem rturn_yes (key nonce s : ByteArray) (f : Nat) (hk : key.size = 16) (hn : nonce.size = 12) (hn2 : s.size ≤ 1048576) (hfl : f < 4294967296) (hf : f + blocksOf s.size ≤ 4294967296) (w : World) :
    Calls Try.prog 12 #[.string key, .string nonce, .int .u32 (f : Int), .string s] w
      fun e w' => e = .returned (.tuple #[.string ⟨(turnL key.data.toList nonce.data.toList f s.data.toList).toArray⟩, .int .i64 0]) ∧ Ext w w' := by
  have HS := Lib.hid (fun u => rstream_yes key nonce f s.size hk hn hn2 hfl hf u)
  have hkl : key.data.toList.length = 16 := by rw [size_list]; exact hk
  have HX := Lib.hid (fun u => rXor_yes s ⟨(ctrL key.data.toList nonce.data.toList f s.size).toArray⟩ ((txt_size _).trans (ctrL_length hkl _ _ _)).symm (by omega) u)
  unfold turnL
  rw [size_list]
  clear hkl
  go_enter Try.func12, Try.ntmps12
  go_wp2_with (first
    | (go_at_call 10; refine (HS.out _).mono ?_; rintro e w1 ⟨rfl, h1⟩)
    | (go_at_call 21; refine (HX.out _).mono ?_; rintro e w2 ⟨rfl, h2⟩))
  go_ret2
  exact ⟨rfl, h1.trans h2⟩
theorem rturn_err (key nonce s : ByteArray) (f : Nat) (c : Int) (hc : (c == 0) = false) (w : World)
    (h : ∀ u, Calls Try.prog 10 #[.string key, .string nonce, .int .u32 (f : Int), .int .i64 (s.size : Int)] u fun e w' => e = .returned (.tuple #[.string ⟨#[]⟩, .int .i64 c]) ∧ Ext u w') :
    Calls Try.prog 12 #[.string key, .string nonce, .int .u32 (f : Int), .string s] w
      fun e w' => e = .returned (.tuple #[.string ⟨#[]⟩, .int .i64 c]) ∧ Ext w w' := by
  have hne : (c != 0) = true := by simp [bne, hc]
  clear hc
  go_enter Try.func12, Try.ntmps12
  go_wp2_with (go_at_call 10; refine (h _).mono ?_; rintro e w1 ⟨rfl, h1⟩)
  go_ret2
  exact ⟨rfl, h1⟩
end Go.Proofs.Ythglecfbcdikaaa
end
