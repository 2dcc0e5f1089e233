/- Contracts: steps, sums, products and joins, by the document's answer. -/
import Derived.Test.YtnecafoickjleaaProg
import Derived.Test.YtnecafoickjleaaCrcR
import Derived.Test.YtnecafoickjleaaMake
import Derived.Test.YtnecafoickjleaaTextAt
import Derived.WalkSpells
import Derived.Laws.BitsAllLaws
import Derived.Outline
namespace Go.Proofs.Ytnecafoickjleaa
open Go.RowKit

/-- A row of bits as a value. -/
def w32 (c : BitVec 32) : Value := .int .u32 (c.toNat : Int)
theorem bx (a b : BitVec 32) : bits .xor .u32 (a.toNat : Int) (b.toNat : Int) = ((a ^^^ b).toNat : Int) := by
  rw [u32_xor_nat _ _ a.isLt b.isLt, BitVec.toNat_xor]
theorem bx_ones (a : BitVec 32) : bits .xor .u32 (a.toNat : Int) 4294967295 = ((a ^^^ ones).toNat : Int) := bx a ones
theorem bx_poly (a : BitVec 32) : bits .xor .u32 (a.toNat : Int) 3988292384 = ((a ^^^ crcPoly).toNat : Int) := bx a crcPoly
theorem bt_nat (x : UInt8) : (bt x).toNat = x.toNat := by
  unfold bt
  rw [BitVec.toNat_ofNat]
  have := x.toNat_lt
  omega
theorem bx_byte (a : BitVec 32) (x : UInt8) : bits .xor .u32 (a.toNat : Int) (x.toNat : Int) = ((a ^^^ bt x).toNat : Int) := by
  rw [← bx, bt_nat]
theorem half_nat (c : BitVec 32) : (c >>> 1).toNat = c.toNat / 2 := by
  rw [BitVec.toNat_ushiftRight, Nat.shiftRight_eq_div_pow]
theorem half_int (c : BitVec 32) : (c.toNat : Int) / (2 : Int) = ((c >>> 1).toNat : Int) := by rw [half_nat]; omega
theorem bit_int (c : BitVec 32) (i : Nat) : ((c.toNat : Int) / 2 ^ i % 2 == 1) = c.getLsbD i := by
  have e : (c.toNat : Int) / 2 ^ i % 2 = ((c.toNat / 2 ^ i % 2 : Nat) : Int) := by simp
  rw [e]
  show _ = c.toNat.testBit i
  rw [Nat.testBit_eq_decide_div_mod_eq]
  rw [Bool.eq_iff_iff]
  simp
  omega
theorem bit_tmod (c : BitVec 32) (i : Nat) : (((c.toNat : Int) / 2 ^ i).tmod 2 == 1) = c.getLsbD i := by
  rw [Int.tmod_eq_emod_of_nonneg (Int.ediv_nonneg (by omega) (Int.pow_nonneg (by decide))), bit_int]
theorem bit0_int (c : BitVec 32) : ((c.toNat : Int) % 2 == 1) = c.getLsbD 0 := by
  have := bit_int c 0
  simpa using this
theorem rhalf_any (c : BitVec 32) (w : World) : Calls Try.prog 16 #[.int .u32 (c.toNat : Int)] w fun e w' => e = .returned (.int .u32 ((hf c).toNat : Int)) ∧ w = w' := by
  have hb := bit0_int c
  have hi := half_int c
  have hp := bx_poly (c >>> 1)
  rw [← hi] at hp
  have hlt := c.isLt
  cases hc : c.getLsbD 0
  · rw [hc] at hb
    have e : ((c.toNat : Int) / 2) = ((hf c).toNat : Int) := by rw [hi]; unfold hf; rw [hc]; simp
    clear hp hi hc
    generalize c.toNat = n at *
    generalize (hf c).toNat = m at *
    go_enter Try.func16, Try.ntmps16
    go_wp2
    go_ret
    exact ⟨rfl, rfl⟩
  · rw [hc] at hb
    have e : ((c >>> 1) ^^^ crcPoly) = hf c := by unfold hf; rw [hc]; simp
    rw [e] at hp
    clear e hi hc
    generalize c.toNat = n at *
    generalize (hf c).toNat = m at *
    go_enter Try.func16, Try.ntmps16
    go_wp2
    go_ret
    exact ⟨by rw [← hp]; rfl, rfl⟩
theorem rmore_any (c : BitVec 32) (s : ByteArray) (hs : s.size ≤ 140737488351232) (w : World) : Calls Try.prog 11 #[.int .u32 (c.toNat : Int), .string s] w fun e w' => e = .returned (.int .u32 ((moreC c s.data.toList).toNat : Int)) ∧ w = w' := by
  have h0 := bx_ones c
  have HS := Lib.hid (fun j x (h : s.data.toList[j]? = some x) => rowC_step (c ^^^ ones) s.data.toList j x h)
  have HE : Hid (moreC c s.data.toList = rowC (c ^^^ ones) s.data.toList ^^^ ones) := Lib.hid rfl
  have HZ : Hid (rowC (c ^^^ ones) (s.data.toList.take 0) = c ^^^ ones) := Lib.hid rfl
  have HL := Lib.hid (size_list s)
  generalize rowC (c ^^^ ones) = R at *
  generalize c ^^^ ones = c0 at *
  go_enter Try.func11, Try.ntmps11
  go_wp2
  go_loop [0, 5] (fun cv iv => ∃ j : Nat, j ≤ s.size ∧ iv = .int .i64 (j : Int) ∧ cv = w32 (R (s.data.toList.take j))) (fun _ iv => s.size - (intOf iv).toNat)
  case atStart => exact ⟨0, Nat.zero_le _, rfl, by rw [HZ.out]; rfl⟩
  case round =>
    obtain ⟨j, hj, rfl, rfl⟩ := hrel
    by_cases hlt : j < s.size
    · obtain ⟨x, hx⟩ : ∃ x, s.data.toList[j]? = some x := ⟨_, byte_at s j hlt⟩
      have hix := fun u => index_text s j x hx u
      have hbx := bx_byte (R (s.data.toList.take j)) x
      have HSj := Lib.hid (HS.out j x hx)
      have hx8 := x.toNat_lt
      clear hx
      have HD : Hid (R (s.data.toList.take (j + 1)) = hfN 8 (R (s.data.toList.take j) ^^^ bt x)) := HSj
      unfold w32
      generalize (R (s.data.toList.take j) ^^^ bt x) = D at *
      generalize (R (s.data.toList.take j)).toNat = n at *
      generalize x.toNat = b at *
      go_wp2
      go_loop [0, 6] (fun cv kv => ∃ k : Nat, k ≤ 8 ∧ kv = .int .i64 (k : Int) ∧ cv = .int .u32 ((hfN k D).toNat : Int)) (fun _ kv => 8 - (intOf kv).toNat)
      case atStart => exact ⟨0, Nat.zero_le _, rfl, rfl⟩
      case round =>
        obtain ⟨k, hk, rfl, rfl⟩ := hrel
        by_cases hk8 : k < 8
        · have HN := Lib.hid (hfN_succ k D)
          have HC := Lib.hid (rhalf_any (hfN k D))
          generalize (hfN k D).toNat = m at *
          go_wp2_with (go_at_call 16; refine (HC.out _).mono ?_; rintro e w1 ⟨rfl, rfl⟩)
          go_round
          case rel => exact ⟨k + 1, by omega, by go_num, by rw [HN.out]⟩
          case measure => simp [intOf]; omega
        · obtain rfl : k = 8 := by omega
          rw [← HD.out]
          go_wp2
          go_round
          case rel => exact ⟨j + 1, by omega, by go_num, rfl⟩
          case measure => simp [intOf]; omega
    · obtain rfl : j = s.size := by omega
      have ht := List.take_of_length_le (show s.data.toList.length ≤ s.size by rw [HL.out]; exact Nat.le_refl _)
      rw [ht]
      clear ht
      have h1 := bx_ones (R s.data.toList)
      rw [← HE.out] at h1
      unfold w32
      generalize (R s.data.toList).toNat = n at *
      go_wp2
      go_ret
      exact ⟨rfl, rfl⟩
theorem rsum_any (s : ByteArray) (hs : s.size ≤ 140737488351232) (w : World) : Calls Try.prog 9 #[.string s] w fun e w' => e = .returned (.int .u32 ((moreC 0#32 s.data.toList).toNat : Int)) ∧ w = w' := by
  have HM := Lib.hid (fun u => (show Calls Try.prog 11 #[.int .u32 0, .string s] u fun e w' => e = .returned (.int .u32 ((moreC 0#32 s.data.toList).toNat : Int)) ∧ u = w' from rmore_any 0#32 s hs u))
  go_enter Try.func9, Try.ntmps9
  go_wp2_with (go_at_call 11; refine (HM.out _).mono ?_; rintro e w1 ⟨rfl, rfl⟩)
  go_ret
  exact ⟨rfl, rfl⟩
theorem rprod_any (a b : BitVec 32) (w : World) : Calls Try.prog 20 #[.int .u32 (a.toNat : Int), .int .u32 (b.toNat : Int)] w fun e w' => e = .returned (.int .u32 ((pr a b).toNat : Int)) ∧ w = w' := by
  have HB := Lib.hid (bit_tmod a)
  have HP : Hid (pr a b = xsum (fun k => ifB (a.getLsbD (31 - k)) (hfN k b)) 32) := Lib.hid rfl
  have HS := Lib.hid (fun (k : Nat) => (show xsum (fun k => ifB (a.getLsbD (31 - k)) (hfN k b)) (k + 1) = xsum (fun k => ifB (a.getLsbD (31 - k)) (hfN k b)) k ^^^ ifB (a.getLsbD (31 - k)) (hfN k b) from rfl))
  have HZ : Hid (xsum (fun k => ifB (a.getLsbD (31 - k)) (hfN k b)) 0 = 0#32) := Lib.hid rfl
  generalize xsum (fun k => ifB (a.getLsbD (31 - k)) (hfN k b)) = X at *
  have hlt := a.isLt
  go_enter Try.func20, Try.ntmps20
  go_wp2
  go_loop [1, 5, 6] (fun bv sv iv => ∃ t k : Nat, t + k = 32 ∧ iv = .int .i64 ((t : Int) - 1) ∧ sv = .int .u32 ((X k).toNat : Int) ∧ bv = .int .u32 ((hfN k b).toNat : Int)) (fun _ _ iv => (intOf iv + 1).toNat)
  case atStart => exact ⟨32, 0, rfl, rfl, by rw [HZ.out]; rfl, rfl⟩
  case round =>
    obtain ⟨t, k, htk, rfl, rfl, rfl⟩ := hrel
    cases t with
    | zero =>
      obtain rfl : k = 32 := by omega
      have e : ((0 : Nat) : Int) - 1 = -1 := rfl
      rw [e]
      clear e
      go_wp2
      go_ret
      exact ⟨congrArg (fun c : BitVec 32 => Ending.returned (Value.int .u32 (c.toNat : Int))) HP.out.symm, rfl⟩
    | succ u =>
      have e : ((u + 1 : Nat) : Int) - 1 = (u : Int) := by omega
      rw [e]
      have hb := HB.out u
      have HK := Lib.hid (HS.out k)
      rw [show 31 - k = u by omega] at HK
      have HN := Lib.hid (hfN_succ k b)
      have HC := Lib.hid (rhalf_any (hfN k b))
      have hx := bx (X k) (hfN k b)
      clear e
      cases hbit : a.getLsbD u
      · rw [hbit] at hb HK
        have HK2 : Hid ((X (k + 1)).toNat = (X k).toNat) := Lib.hid (by rw [HK.out]; simp [ifB])
        clear hx hbit
        generalize (X k).toNat = n at *
        generalize (hfN k b).toNat = m at *
        generalize a.toNat = q at *
        go_wp2_with (go_at_call 16; refine (HC.out _).mono ?_; rintro e w1 ⟨rfl, rfl⟩)
        go_round
        case rel => exact ⟨u, k + 1, by omega, rfl, by rw [HK2.out], by rw [HN.out]⟩
        case measure => simp [intOf]
      · rw [hbit] at hb HK
        have HK2 : Hid (X (k + 1) = X k ^^^ hfN k b) := Lib.hid (by rw [HK.out]; simp [ifB])
        rw [← HK2.out] at hx
        clear hbit
        generalize (X k).toNat = n at *
        generalize (hfN k b).toNat = m at *
        generalize a.toNat = q at *
        go_wp2_with (go_at_call 16; refine (HC.out _).mono ?_; rintro e w1 ⟨rfl, rfl⟩)
        go_round
        case rel => exact ⟨u, k + 1, by omega, rfl, rfl, by rw [HN.out]⟩
        case measure => simp [intOf]
theorem xp_double (e : Nat) : pr (xp e) (xp e) = xp (e * 2) := by rw [xp_add]; congr 1; omega
theorem rjoin_any (a b : BitVec 32) (n : Nat) (hn : n < 18446744073709551616) (w : World) : Calls Try.prog 13 #[.int .u32 (a.toNat : Int), .int .u32 (b.toNat : Int), .int .u64 (n : Int)] w fun e w' => e = .returned (.int .u32 ((joinC a b n).toNat : Int)) ∧ w = w' := by
  have HP := Lib.hid (fun e u => by
    have h := rprod_any (xp e) (xp e) u
    rw [xp_double] at h
    exact h)
  have HM := Lib.hid (fun e c u => by
    have h := rprod_any (xp e) c u
    rw [pr_xp] at h
    exact h)
  have HX : Hid (((xp 1).toNat : Int) = 1073741824) := Lib.hid (by rw [xp_one]; rfl)
  have hx1 := HP.out 1
  rw [HX.out] at hx1
  have HX1 := Lib.hid hx1
  clear hx1
  have hb := fun c => bx c b
  have HJ : Hid (∀ c, c = hfN (8 * n) a → c ^^^ b = joinC a b n) := Lib.hid (fun c h => by rw [h]; rfl)
  go_enter Try.func13, Try.ntmps13
  go_wp2_with (first
    | (go_at_call 20; (with_reducible refine (HX1.out _).mono ?_); rintro e w1 ⟨rfl, rfl⟩)
    | (go_at_call 20; (with_reducible refine (HP.out (1 * 2) _).mono ?_); rintro e w1 ⟨rfl, rfl⟩)
    | (go_at_call 20; (with_reducible refine (HP.out (1 * 2 * 2) _).mono ?_); rintro e w1 ⟨rfl, rfl⟩))
  have HXE : Hid (1 * 2 * 2 * 2 = 8) := Lib.hid rfl
  go_loop [0, 2, 7] (fun av nv xv => ∃ (e k : Nat) (c : BitVec 32), k ≤ n ∧ hfN (e * k) c = hfN (8 * n) a ∧ nv = .int .u64 (k : Int) ∧ av = .int .u32 (c.toNat : Int) ∧ xv = .int .u32 ((xp e).toNat : Int)) (fun _ nv _ => (intOf nv).toNat)
  case atStart => exact ⟨1 * 2 * 2 * 2, n, a, Nat.le_refl _, by rw [HXE.out], rfl, rfl, rfl⟩
  case round =>
    obtain ⟨e, k, c, hk, hinv, rfl, rfl, rfl⟩ := hrel
    have HI := Lib.hid hinv
    clear hinv
    by_cases h0 : k = 0
    · subst h0
      have hJ := HJ.out c (by have := HI.out; rwa [Nat.mul_zero] at this)
      have hbc := hb c
      rw [hJ] at hbc
      clear hJ
      generalize c.toNat = m at *
      generalize (xp e).toNat = q at *
      go_wp2
      go_ret
      exact ⟨rfl, rfl⟩
    · have hk0 : 0 < k := by omega
      have hk0i : (0 : Int) < (k : Int) := by omega
      have HCp := Lib.hid (HP.out e)
      have HCm := Lib.hid (HM.out e c)
      cases hodd : decide (k % 2 = 1)
      · have ho : ((k : Int) % 2 == 1) = false := by
          have : ¬ k % 2 = 1 := by simpa using hodd
          simp; omega
        have HI2 : Hid (hfN (e * 2 * (k / 2)) c = hfN (8 * n) a) := Lib.hid (by
          have : ¬ k % 2 = 1 := by simpa using hodd
          have e1 : e * 2 * (k / 2) = e * k := by rw [Nat.mul_assoc]; congr 1; omega
          rw [e1]; exact HI.out)
        clear hodd
        generalize hm : c.toNat = m at *
        have Hm := Lib.hid hm
        clear hm
        generalize (xp e).toNat = q at *
        go_wp2_with (go_at_call 20; (with_reducible refine (HCp.out _).mono ?_); rintro e w1 ⟨rfl, rfl⟩)
        go_round
        case rel => exact ⟨_, k / 2, c, by omega, HI2.out, by go_num, by rw [Hm.out], rfl⟩
        case measure => simp [intOf]; omega
      · have ho : ((k : Int) % 2 == 1) = true := by
          have : k % 2 = 1 := by simpa using hodd
          simp; omega
        have HI2 : Hid (hfN (e * 2 * (k / 2)) (hfN e c) = hfN (8 * n) a) := Lib.hid (by
          have : k % 2 = 1 := by simpa using hodd
          have e1 : e + e * 2 * (k / 2) = e * k := by
            have e2 : k = 1 + 2 * (k / 2) := by omega
            conv => rhs; rw [e2]
            rw [Nat.mul_add, Nat.mul_one, Nat.mul_assoc]
          rw [← hfN_add, e1]; exact HI.out)
        clear hodd
        generalize c.toNat = m at *
        generalize (xp e).toNat = q at *
        go_wp2_with (first
          | (go_at_call 20; (with_reducible refine (HCm.out _).mono ?_); rintro e w1 ⟨rfl, rfl⟩)
          | (go_at_call 20; (with_reducible refine (HCp.out _).mono ?_); rintro e w1 ⟨rfl, rfl⟩))
        go_round
        case rel => exact ⟨_, k / 2, _, by omega, HI2.out, by go_num, rfl, rfl⟩
        case measure => simp [intOf]; omega
theorem rslow_any (a b : BitVec 32) (n : Nat) (hn : n ≤ 1048576) (w : World) : Calls Try.prog 14 #[.int .u32 (a.toNat : Int), .int .u32 (b.toNat : Int), .int .i64 (n : Int)] w fun e w' => e = .returned (.int .u32 ((joinC a b n).toNat : Int)) ∧ Ext w w' := by
  have hmk := make_bytes n (by omega)
  obtain ⟨C, hC⟩ : ∃ C, madeCells #[Value.int .u8 0] n = C := ⟨_, rfl⟩
  rw [hC] at hmk
  have hr := Row.made w 5 n
  rw [hC] at hr
  have ht := hr.text (P := Try.prog) 32 5 9 Try.underlying32 Try.underlying5 Try.underlying9 n n (by simp)
  have hsz : (⟨(List.replicate n (0 : UInt8)).toArray⟩ : ByteArray).size = n := by simp [ByteArray.size]
  have hl : (⟨(List.replicate n (0 : UInt8)).toArray⟩ : ByteArray).data.toList = List.replicate n 0 := by simp
  have HM := Lib.hid (fun c u => rmore_any c ⟨(List.replicate n (0 : UInt8)).toArray⟩ (by rw [hsz]; omega) u)
  rw [hl] at HM
  have HMa := Lib.hid (HM.out a)
  have HM0 := Lib.hid (fun u => (show Calls Try.prog 11 #[.int .u32 0, .string ⟨(List.replicate n (0 : UInt8)).toArray⟩] u fun e w' => e = .returned (.int .u32 ((moreC 0#32 (List.replicate n 0)).toNat : Int)) ∧ u = w' from HM.out 0#32 u))
  have hx1 := bx (moreC a (List.replicate n 0)) b
  have hx2 := bx (moreC a (List.replicate n 0) ^^^ b) (moreC 0#32 (List.replicate n 0))
  rw [join_slow] at hx2
  generalize (⟨(List.replicate n (0 : UInt8)).toArray⟩ : ByteArray) = Z at *
  generalize (moreC a (List.replicate n 0) ^^^ b).toNat = k1 at *
  generalize (moreC a (List.replicate n 0)).toNat = k2 at *
  generalize (moreC 0#32 (List.replicate n 0)).toNat = k3 at *
  generalize a.toNat = k4 at *
  generalize b.toNat = k5 at *
  clear hC hr hsz hl HM
  go_enter Try.func14, Try.ntmps14
  go_wp2_with (first
    | (go_at_call 11; (with_reducible refine (HMa.out _).mono ?_); rintro e w1 ⟨rfl, rfl⟩)
    | (go_at_call 11; (with_reducible refine (HM0.out _).mono ?_); rintro e w1 ⟨rfl, rfl⟩))
  go_ret
  exact ⟨rfl, (Ext.refl w).alloc _⟩
end Go.Proofs.Ytnecafoickjleaa
