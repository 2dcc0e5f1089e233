/- The walk of WordBack. -/
import Derived.Test.YtnboephjkiihiaaWordTurnsWalk
import Derived.WalkLawsBesides
import Derived.Deep.RegionWith
import Derived.Deep.DeepCutAuto
namespace Go.Proofs.Ytnboephjkiihiaa
open Go.RowKit

theorem num_cons (b : UInt8) (l : List UInt8) : num (b :: l) = b.toNat * 256 ^ l.length + num l := by
  have key : ∀ (l : List UInt8) (x : Nat), l.foldl (fun n b => n * 256 + b.toNat) x = x * 256 ^ l.length + num l := by
    intro l
    induction l with
    | nil => intro x; simp [num]
    | cons c r ih =>
      intro x
      have e : num (c :: r) = c.toNat * 256 ^ r.length + num r := by
        show List.foldl _ (0 * 256 + c.toNat) r = _
        rw [ih]; simp
      rw [List.foldl_cons, ih, e, List.length_cons, Nat.pow_succ, Nat.add_mul, Nat.mul_assoc, Nat.mul_comm 256, Nat.add_assoc]
  show List.foldl _ (0 * 256 + b.toNat) l = _
  rw [key]; simp
theorem num_be (n : Nat) : ∀ k, num (be k n) = n % 256 ^ k
  | 0 => by simp [be, num, Nat.mod_one]
  | k + 1 => by
    rw [be, num_cons, num_be n k, be_length, Nat.mod_pow_succ, Nat.add_comm, Nat.mul_comm]
    rfl
theorem sub_ahead (x y : ByteArray) (l : List UInt8) (k : Nat) (hl : l.length = k) : sub (x ++ ⟨l.toArray⟩ ++ y) x.size k = l := by
  unfold sub
  rw [ByteArray.data_append, ByteArray.data_append, Array.toList_append, Array.toList_append, List.append_assoc, List.drop_append_of_le_length (by rw [size_list]; omega), ← size_list, List.drop_length, List.nil_append, List.take_append_of_le_length (by simp [hl]), List.take_of_length_le (by simp [hl])]
theorem get_ahead (x y : ByteArray) (l : List UInt8) (k : Nat) (hl : l.length = k) : getv (x ++ ⟨l.toArray⟩ ++ y) x.size k = num l ∧ gets (x ++ ⟨l.toArray⟩ ++ y) x.size k = true := by
  have hz : (x ++ ⟨l.toArray⟩ ++ y).size = x.size + k + y.size := by rw [ByteArray.size_append, ByteArray.size_append]; show _ + l.length + _ = _; rw [hl]
  have h : 0 ≤ ((x.size : Nat) : Int) ∧ ((x.size : Nat) : Int) ≤ ((x ++ ⟨l.toArray⟩ ++ y).size : Int) - k := by rw [hz]; omega
  rw [getv_yes h, gets_yes h, sub_ahead x y l k hl]
  exact ⟨rfl, rfl⟩
theorem rot_back (m : Nat) (hm : m < 4294967296) (b : Int) : rot (rot m (places b)) (places (-b)) = m := by
  have hr := places_lt b
  have hr2 := places_lt (-b)
  apply Nat.eq_of_testBit_eq
  intro p
  rw [bit_rot _ _ (rot_lt m _ hm) hr2, bit_rot _ _ hm hr]
  by_cases hp : p < 32
  · have e : ((p + places (-b)) % 32 + places b) % 32 = p := by unfold places; omega
    have e2 : (p + places (-b)) % 32 < 32 := by omega
    simp [hp, e, e2]
  · simp [hp, high_bit hm (show 32 ≤ p by omega)]
theorem places_more (b : Int) : places (b + 32) = places b := by unfold places; omega

theorem back64 (x : ByteArray) (m : Nat) (hm : Hid (m < 2 ^ 64)) (hx : x.size ≤ 1024) (w : World) :
    Calls Try.prog 10 #[.string (x ++ ⟨(be 8 m).toArray⟩), .int .i64 (x.size : Int)] w fun e w' => e = .returned (.tuple #[.int .u64 (m : Int), .bool true]) ∧ w = w' := by
  have e0 : x ++ ⟨(be 8 m).toArray⟩ = x ++ ⟨(be 8 m).toArray⟩ ++ ByteArray.empty := by simp
  obtain ⟨e1, e2⟩ := get_ahead x ByteArray.empty (be 8 m) 8 (be_length 8 m)
  have hz : (x ++ ⟨(be 8 m).toArray⟩).size ≤ 140737488351232 := by rw [ByteArray.size_append]; show _ + (be 8 m).length ≤ _; rw [be_length]; omega
  have := Get64_any (x ++ ⟨(be 8 m).toArray⟩) x.size hz w
  rw [e0, e1, e2, num_be, Nat.mod_eq_of_lt hm.out, ← e0] at this
  exact this
theorem back32 (x y : ByteArray) (k : Nat) (hk : Hid (k < 4294967296)) (hx : x.size ≤ 1024) (hy : y.size ≤ 8192) (w : World) :
    Calls Try.prog 9 #[.string (x ++ ⟨(be 4 k).toArray⟩ ++ y), .int .i64 (x.size : Int)] w fun e w' => e = .returned (.tuple #[.int .u32 (k : Int), .bool true]) ∧ w = w' := by
  obtain ⟨e1, e2⟩ := get_ahead x y (be 4 k) 4 (be_length 4 k)
  have hz : (x ++ ⟨(be 4 k).toArray⟩ ++ y).size ≤ 140737488351232 := by rw [ByteArray.size_append, ByteArray.size_append]; show _ + (be 4 k).length + _ ≤ _; rw [be_length]; omega
  have := Get32_any (x ++ ⟨(be 4 k).toArray⟩ ++ y) x.size hz w
  rw [e1, e2, num_be, Nat.mod_eq_of_lt hk.out] at this
  exact this
theorem turn_back (k : Nat) (hk : Hid (k < 4294967296)) (b : Int) (w : World) :
    Calls Try.prog 19 #[.int .u32 (rot k (places b) : Int), .int .i64 (-b)] w fun e w' => e = .returned (.int .u32 (k : Int)) ∧ w = w' := by
  have := turn_any (rot k (places b)) (rot_lt k _ hk.out) (-b) w
  rwa [rot_back k hk.out] at this
theorem turn_more (k : Nat) (hk : Hid (k < 4294967296)) (b : Int) (w : World) :
    Calls Try.prog 19 #[.int .u32 (k : Int), .int .i64 (b + 32)] w fun e w' => e = .returned (.int .u32 (rot k (places b) : Int)) ∧ w = w' := by
  have := turn_any k hk.out (b + 32) w
  rwa [places_more] at this

theorem extract_size (a : ByteArray) (c : Nat) (h : c ≤ a.size) : (a.extract 0 c).size = c := by rw [ByteArray.size_extract]; omega
theorem take_list (a : ByteArray) (c : Nat) : (a.extract 0 c).data.toList = a.data.toList.take c := by simp
theorem xor_cut (a b : ByteArray) (c : Nat) (h1 : c ≤ a.size) (h2 : c ≤ b.size) (hs : a.size ≤ 8192) (w : World) :
    Calls Try.prog 15 #[.string (a.extract 0 c), .string (b.extract 0 c)] w fun e w' => e = .returned (.tuple #[.string ⟨(xorL (a.data.toList.take c) (b.data.toList.take c)).toArray⟩, .bool true]) ∧ Ext w w' := by
  have := xor_yes (a.extract 0 c) (b.extract 0 c) (by rw [extract_size a c h1, extract_size b c h2]) (by rw [extract_size a c h1]; omega) w
  rwa [take_list, take_list] at this
theorem xorL_xorL (a b : List UInt8) (h : a.length = b.length) : xorL (xorL a b) b = a := by
  unfold xorL
  induction a generalizing b with
  | nil => simp
  | cons x r ih =>
    cases b with
    | nil => simp at h
    | cons y t =>
      simp only [List.zipWith_cons_cons]
      rw [ih t (by simpa using h), UInt8.xor_assoc, UInt8.xor_self, UInt8.xor_zero]
theorem xor_again (a b : ByteArray) (c : Nat) (h1 : c ≤ a.size) (h2 : c ≤ b.size) (hs : a.size ≤ 8192) (w : World) :
    Calls Try.prog 15 #[.string ⟨(xorL (a.data.toList.take c) (b.data.toList.take c)).toArray⟩, .string (b.extract 0 c)] w fun e w' => e = .returned (.tuple #[.string (a.extract 0 c), .bool true]) ∧ Ext w w' := by
  have e1 := extract_size a c h1
  have e2 := extract_size b c h2
  have l1 := xorL_length (a := a.extract 0 c) (b := b.extract 0 c) (by rw [e1, e2])
  have := xor_yes ⟨(xorL (a.extract 0 c).data.toList (b.extract 0 c).data.toList).toArray⟩ (b.extract 0 c) (by show List.length _ = _; rw [l1, e1, e2]) (by show List.length _ ≤ _; rw [l1, e1]; omega) w
  rw [show (ByteArray.mk (xorL (a.extract 0 c).data.toList (b.extract 0 c).data.toList).toArray).data.toList = xorL (a.extract 0 c).data.toList (b.extract 0 c).data.toList from rfl, xorL_xorL _ _ (by rw [size_list, size_list, e1, e2])] at this
  rw [take_list, take_list] at this
  have em : ByteArray.mk (List.take c a.data.toList).toArray = a.extract 0 c := by rw [← take_list]
  rwa [em] at this
theorem dig_hexd (k : Nat) (h : k < 16) : dig (hexd k).toNat = k := by
  have key : ∀ k : Fin 16, dig (hexd k.val).toNat = k.val := by decide
  exact key ⟨k, h⟩
theorem hexL_at (l : List UInt8) : ∀ i, i < l.length → (hexL l).getD (2 * i) 0 = hexd ((l.getD i 0).toNat / 16) ∧ (hexL l).getD (2 * i + 1) 0 = hexd ((l.getD i 0).toNat % 16) := by
  induction l with
  | nil => intro i hi; simp at hi
  | cons b r ih =>
    intro i hi
    cases i with
    | zero => simp [hexL]
    | succ i =>
      have := ih i (by simpa using hi)
      have e1 : 2 * (i + 1) = 2 * i + 1 + 1 := by omega
      rw [e1]
      simpa [hexL] using this
theorem unhex_hex (a : ByteArray) (hs : a.size ≤ 8192) (w : World) :
    Calls Try.prog 17 #[.string ⟨(hexL a.data.toList).toArray⟩] w fun e w' => e = .returned (.tuple #[.string a, .bool true]) ∧ Ext w w' := by
  have hl : (hexL a.data.toList).length = 2 * a.size := by rw [hexL_length, size_list]
  have hb : ∀ i, i < a.size → dig (byt ⟨(hexL a.data.toList).toArray⟩ (2 * i)) = (a.data.toList.getD i 0).toNat / 16 ∧ dig (byt ⟨(hexL a.data.toList).toArray⟩ (2 * i + 1)) = (a.data.toList.getD i 0).toNat % 16 := by
    intro i hi
    obtain ⟨e1, e2⟩ := hexL_at a.data.toList i (by rw [size_list]; exact hi)
    have := (a.data.toList.getD i 0).toNat_lt
    unfold byt
    rw [show (ByteArray.mk (hexL a.data.toList).toArray).data.toList = hexL a.data.toList from rfl, e1, e2, dig_hexd _ (by omega), dig_hexd _ (by omega)]
    exact ⟨rfl, rfl⟩
  have hz : (ByteArray.mk (hexL a.data.toList).toArray).size = 2 * a.size := hl
  obtain ⟨e1, e2⟩ := unhex_yes (s := ⟨(hexL a.data.toList).toArray⟩) (n := a.size) hz (by
    intro i hi
    obtain ⟨f1, f2⟩ := hb i hi
    have := (a.data.toList.getD i 0).toNat_lt
    unfold good
    rw [f1, f2]; omega)
  have ho : outs ⟨(hexL a.data.toList).toArray⟩ a.size = a.data.toList := by
    apply List.ext_getElem?
    intro i
    by_cases hi : i < a.size
    · obtain ⟨f1, f2⟩ := hb i hi
      rw [outs_at _ hi, byte_at a i hi]
      unfold two
      rw [f1, f2, getD_byte a i hi]
      congr 1
      apply UInt8.toNat_inj.1
      have := a[i].toNat_lt
      simp; omega
    · rw [List.getElem?_eq_none (by rw [outs_length]; omega), List.getElem?_eq_none (by rw [size_list]; omega)]
  have := unhex_any ⟨(hexL a.data.toList).toArray⟩ (by rw [hz]; omega) w
  rw [e1, e2, ho] at this
  exact this
set_option maxRecDepth 100000 in
set_option maxHeartbeats 2000000 in
theorem WordBack_walk (a0 a1 : Int) (a2 a3 a4 : ByteArray) (w0 : (Lit.int .u64 a0).wf = true) (w1 : (Lit.int .i64 a1).wf = true) (z2 : a2.size ≤ 140737488351232) (z3 : a3.size ≤ 140737488351232) (z4 : a4.size ≤ 140737488351232) (w : World) :
    Calls Try.prog 5 #[.int .u64 a0, .int .i64 a1, .string a2, .string a3, .string a4] w fun e w' => e = .returned (.bool true) ∧ Ext w w' := by
  obtain ⟨m, rfl, hm⟩ := nat_of_u64 w0
  clear w0
  have hw1 : -9223372036854775808 ≤ a1 ∧ a1 ≤ 9223372036854775807 := by simpa [Lit.wf, IntKind.min, IntKind.max, IntKind.signed, IntKind.bits] using w1
  clear w1
  by_cases hg : 8192 < a2.size + a3.size ∨ 1024 < a4.size ∨ a1 < -1000 ∨ 1000 < a1
  · clear hw1
    by_cases hh : 8192 < a2.size + a3.size
    · clear hg
      go_enter Try.func5, Try.ntmps5
      go_wp2_with (first
        | (go_at_call 7; refine (heavy_yes a2 a3 _ z2 z3 hh).mono ?_; rintro e w1 ⟨rfl, rfl⟩)
        | (go_at_call 8; refine (works_any _).mono ?_; rintro e w1 ⟨rfl, h1⟩))
      go_ret
      exact ⟨rfl, h1⟩
    · have hg2 : 1024 < a4.size ∨ a1 < -1000 ∨ 1000 < a1 := by omega
      have Hh := Lib.hid hh
      clear hg hh
      by_cases h4 : 1024 < a4.size
      · go_enter Try.func5, Try.ntmps5
        go_wp2_with (first
          | (go_at_call 7; refine (heavy_no a2 a3 _ z2 z3 Hh.out).mono ?_; rintro e w1 ⟨rfl, rfl⟩)
          | (go_at_call 8; refine (works_any _).mono ?_; rintro e w1 ⟨rfl, h1⟩))
        go_ret
        exact ⟨rfl, h1⟩
      · have hg3 : a1 ≤ -1001 ∨ 1001 ≤ a1 := by omega
        have h5 : a4.size ≤ 1024 := by omega
        clear hg2 h4
        rcases hg3 with hg3 | hg3
        · go_enter Try.func5, Try.ntmps5
          go_wp2_with (first
            | (go_at_call 7; refine (heavy_no a2 a3 _ z2 z3 Hh.out).mono ?_; rintro e w1 ⟨rfl, rfl⟩)
            | (go_at_call 8; refine (works_any _).mono ?_; rintro e w1 ⟨rfl, h1⟩))
          go_ret
          exact ⟨rfl, h1⟩
        · have hg4 : -1000 ≤ a1 := by omega
          go_enter Try.func5, Try.ntmps5
          go_wp2_with (first
            | (go_at_call 7; refine (heavy_no a2 a3 _ z2 z3 Hh.out).mono ?_; rintro e w1 ⟨rfl, rfl⟩)
            | (go_at_call 8; refine (works_any _).mono ?_; rintro e w1 ⟨rfl, h1⟩))
          go_ret
          exact ⟨rfl, h1⟩
  · have hh : ¬ 8192 < a2.size + a3.size := by omega
    have h4 : a4.size ≤ 1024 := by omega
    have b1 : -1000 ≤ a1 := by omega
    have b2 : a1 ≤ 1000 := by omega
    have Hh := Lib.hid hh
    have y2 : a2.size ≤ 8192 := by omega
    have y3 : a3.size ≤ 8192 := by omega
    clear hg hh z2 z3 z4 hw1
    have hx := mask32 m hm.out
    have hk : m % 4294967296 < 4294967296 := by omega
    generalize m % 4294967296 = k at hx hk
    have hl8 := be_length 8 m
    have hl4 := be_length 4 k
    have hk2 : Hid (k < 4294967296) := hk
    go_enter Try.func5, Try.ntmps5
    go_upto_region 8 with (first
        | (go_at_call 7; refine (heavy_no a2 a3 _ (by omega) (by omega) Hh.out).mono ?_; rintro e w1 ⟨rfl, rfl⟩)
        | (go_at_call 12; refine (Put64_any _ _).mono ?_; rintro e w1 ⟨rfl, h1⟩)
        | (go_at_call 14; refine (Put32_any _ _).mono ?_; rintro e w2 ⟨rfl, h2⟩)
        | (go_at_call 10; refine (back64 a4 m hm h4 _).mono ?_; rintro e w3 ⟨rfl, rfl⟩)
        | (go_at_call 9; refine (back32 a4 a3 k hk2 h4 y3 _).mono ?_; rintro e w3 ⟨rfl, rfl⟩)
        | (go_at_call 19; (with_reducible refine (turn_any k hk2.out a1 _).mono ?_); rintro e w3 ⟨rfl, rfl⟩)
        | (go_at_call 19; (with_reducible refine (turn_back k hk2 a1 _).mono ?_); rintro e w3 ⟨rfl, rfl⟩)
        | (go_at_call 19; (with_reducible refine (turn_more k hk2 a1 _).mono ?_); rintro e w3 ⟨rfl, rfl⟩))
    go_cut [16] (fun s wx => ∃ c : Nat, s = .int .i64 (c : Int) ∧ c ≤ a2.size ∧ c ≤ a3.size ∧ Ext w wx)
    case first =>
      go_wp2
      all_goals
        go_meet
        refine ⟨_, rfl, by omega, by omega, h1.trans h2⟩
    case rest =>
      obtain ⟨c, rfl, c2, c3, hext⟩ := hcut
      clear h1 h2
      go_upto_region 9 with (fail)
      go_cut [17, 18] (fun x b wx => x = .string ⟨(xorL (a2.data.toList.take c) (a3.data.toList.take c)).toArray⟩ ∧ b = .bool true ∧ Ext w wx)
      case first =>
        go_region_with (go_at_call 15; refine (xor_cut a2 a3 c c2 c3 y2 _).mono ?_; rintro e w4 ⟨rfl, h4⟩)
        all_goals
          go_wp2
          go_meet
          exact ⟨rfl, rfl, hext.drew.trans h4⟩
      case rest =>
        obtain ⟨rfl, rfl, hext2⟩ := hcut
        clear hext
        go_wp2_with (first
          | (go_at_call 15; (with_reducible refine (xor_again a2 a3 c c2 c3 y2 _).mono ?_); rintro e w4 ⟨rfl, h4⟩)
          | (go_at_call 22; refine (hex_any a2 (by omega) _).mono ?_; rintro e w5 ⟨rfl, h5⟩)
          | (go_at_call 17; (with_reducible refine (unhex_hex a2 y2 _).mono ?_); rintro e w6 ⟨rfl, h6⟩)
          | (go_at_call 8; refine (works_any _).mono ?_; rintro e w7 ⟨rfl, h7⟩))
        go_ret
        exact ⟨rfl, (((hext2.trans h4).trans h5).trans h6).trans h7⟩
end Go.Proofs.Ytnboephjkiihiaa
