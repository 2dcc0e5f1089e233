/- The walk of WordOrder. -/
import Derived.Test.YtnboephjkiihiaaWordBackWalk
namespace Go.Proofs.Ytnboephjkiihiaa
open Go.RowKit

/-- Either or of two texts. -/
def XR (a b : ByteArray) : ByteArray := ⟨(xorL a.data.toList b.data.toList).toArray⟩
theorem XR_size {a b : ByteArray} (h : a.size = b.size) : (XR a b).size = a.size := xorL_length h
theorem xr_any (a b : ByteArray) (h : a.size = b.size) (hs : a.size ≤ 8192) (w : World) :
    Calls Try.prog 15 #[.string a, .string b] w fun e w' => e = .returned (.tuple #[.string (XR a b), .bool true]) ∧ Ext w w' := xor_yes a b h (by omega) w
theorem XR_comm (a b : ByteArray) : XR b a = XR a b := by
  unfold XR xorL
  congr 2
  rw [List.zipWith_comm]
  congr 1
  funext x y
  exact UInt8.xor_comm y x
theorem xorL_assoc (a b c : List UInt8) : xorL (xorL a b) c = xorL a (xorL b c) := by
  unfold xorL
  induction a generalizing b c with
  | nil => simp
  | cons x r ih =>
    cases b with
    | nil => simp
    | cons y t =>
      cases c with
      | nil => simp
      | cons z u => simp only [List.zipWith_cons_cons]; rw [ih, UInt8.xor_assoc]
theorem XR_assoc (a b c : ByteArray) : XR a (XR b c) = XR (XR a b) c := by
  unfold XR; congr 2; exact (xorL_assoc _ _ _).symm
theorem XR_self (a : ByteArray) : XR a a = ⟨(List.replicate a.size 0).toArray⟩ := by
  unfold XR xorL
  rw [← size_list]
  congr 2
  induction a.data.toList with
  | nil => rfl
  | cons x r ih => simp only [List.zipWith_cons_cons, List.length_cons, List.replicate_succ, UInt8.xor_self]; rw [ih]
theorem XR_zero {a b : ByteArray} (h : a.size = b.size) : decide (a = b) = ((XR a b).toList == (ByteArray.mk (List.replicate a.size 0).toArray).toList) := by
  rw [← same_test]
  by_cases e : a = b
  · subst e; rw [XR_self]; simp
  · rw [decide_eq_false e, decide_eq_false]
    intro h2
    apply e
    have h3 : xorL a.data.toList b.data.toList = List.replicate a.size 0 := congrArg (fun x : ByteArray => x.data.toList) h2
    have e1 : a.data.toList = b.data.toList := by
      have h4 := xorL_xorL a.data.toList b.data.toList (by rw [size_list, size_list, h])
      rw [h3] at h4
      rw [← h4]
      have hl : b.data.toList.length = a.size := by rw [size_list, h]
      unfold xorL
      rw [← hl]
      generalize b.data.toList = l
      induction l with
      | nil => rfl
      | cons x r ih => simp only [List.length_cons, List.replicate_succ, List.zipWith_cons_cons]; rw [ih]; simp
    cases a; cases b
    congr
    exact Array.toList_inj.1 e1
theorem less_be (m k : Nat) : ∀ j, Op.bytesLess (be j m) (be j k) = decide (m % 256 ^ j < k % 256 ^ j)
  | 0 => by simp [be, Op.bytesLess, Nat.mod_one]
  | j + 1 => by
    have hp : 0 < 256 ^ j := Nat.pow_pos (by decide)
    have hx := Nat.mod_lt m hp
    have hy := Nat.mod_lt k hp
    rw [be, be, Op.bytesLess, less_be m k j, Nat.mod_pow_succ, Nat.mod_pow_succ]
    have ea : (UInt8.ofNat (m / 256 ^ j)).toNat = m / 256 ^ j % 256 := by simp
    have eb : (UInt8.ofNat (k / 256 ^ j)).toNat = k / 256 ^ j % 256 := by simp
    generalize UInt8.ofNat (m / 256 ^ j) = a at ea ⊢
    generalize UInt8.ofNat (k / 256 ^ j) = b at eb ⊢
    rw [← ea, ← eb]
    generalize m % 256 ^ j = x at *
    generalize k % 256 ^ j = y at *
    generalize 256 ^ j = P at *
    rw [Bool.eq_iff_iff]
    simp only [Bool.or_eq_true, Bool.and_eq_true, decide_eq_true_eq, beq_iff_eq, UInt8.lt_iff_toNat_lt]
    rcases Nat.lt_trichotomy a.toNat b.toNat with h | h | h
    · have := Nat.mul_le_mul_left P (show a.toNat + 1 ≤ b.toNat from h)
      rw [Nat.mul_add, Nat.mul_one] at this
      constructor
      · intro _; omega
      · intro _; exact .inl h
    · have e : a = b := UInt8.toNat_inj.1 h
      subst e
      constructor
      · rintro (h1 | ⟨_, h1⟩)
        · omega
        · omega
      · intro h1; exact .inr ⟨rfl, by omega⟩
    · have := Nat.mul_le_mul_left P (show b.toNat + 1 ≤ a.toNat from h)
      rw [Nat.mul_add, Nat.mul_one] at this
      constructor
      · rintro (h1 | ⟨h1, _⟩)
        · omega
        · rw [h1] at h; omega
      · intro _; omega
theorem less_put (m k : Nat) (hm : Hid (m < 2 ^ 64)) (hk : Hid (k < 2 ^ 64)) :
    Op.bytesLess (be 8 m) (be 8 k) = decide (m < k) := by
  rw [less_be, Nat.mod_eq_of_lt hm.out, Nat.mod_eq_of_lt hk.out]
theorem zeros_text (c : Nat) (g : Nat) (u : World) (hg : g = u.heap.size) :
    (convert 43 9 (.slice (some ⟨g, 0, none⟩) c c)).run Try.prog (u.alloc (.cells (madeCells #[.int .u8 0] c) 5)) = .ok (.string ⟨(List.replicate c 0).toArray⟩) (u.alloc (.cells (madeCells #[.int .u8 0] c) 5)) := by
  subst hg
  exact (Row.made u 5 c).text 43 5 9 Try.underlying43 Try.underlying5 Try.underlying9 c c (by simp)

set_option maxRecDepth 100000 in
set_option maxHeartbeats 2000000 in
theorem WordOrder_walk (a0 a1 : Int) (a2 a3 a4 : ByteArray) (w0 : (Lit.int .u64 a0).wf = true) (w1 : (Lit.int .u64 a1).wf = true) (z2 : a2.size ≤ 140737488351232) (z3 : a3.size ≤ 140737488351232) (z4 : a4.size ≤ 140737488351232) (w : World) :
    Calls Try.prog 6 #[.int .u64 a0, .int .u64 a1, .string a2, .string a3, .string a4] w fun e w' => e = .returned (.bool true) ∧ Ext w w' := by
  obtain ⟨m, rfl, hm⟩ := nat_of_u64 w0
  obtain ⟨k, rfl, hk⟩ := nat_of_u64 w1
  clear w0 w1
  by_cases hg : 8192 < a2.size + a3.size + a4.size
  · go_enter Try.func6, Try.ntmps6
    go_wp2_with (go_at_call 8; refine (works_any _).mono ?_; rintro e w1 ⟨rfl, h1⟩)
    go_ret
    exact ⟨rfl, h1⟩
  · go_enter Try.func6, Try.ntmps6
    go_upto_region 3 with (fail)
    go_cut [11] (fun s wx => ∃ c : Nat, s = .int .i64 (c : Int) ∧ c ≤ a2.size ∧ c ≤ a3.size ∧ c ≤ a4.size ∧ Ext w wx)
    case first =>
      go_wp2
      all_goals
        go_meet
        refine ⟨_, rfl, by omega, by omega, by omega, Ext.refl _⟩
    case rest =>
      obtain ⟨c, rfl, c2, c3, c4, hext⟩ := hcut
      go_upto_region 4 with (fail)
      go_cut [12, 13, 14] (fun x y z wx => ∃ p q r : ByteArray, x = .string p ∧ y = .string q ∧ z = .string r ∧ p.size = c ∧ q.size = c ∧ r.size = c ∧ Ext w wx)
      case first =>
        go_region
        all_goals
          go_wp2
          go_meet
          exact ⟨_, _, _, rfl, rfl, rfl, extract_size _ _ c2, extract_size _ _ c3, extract_size _ _ c4, hext.drew⟩
      case rest =>
        obtain ⟨p, q, r, rfl, rfl, rfl, p1, q1, r1, hext2⟩ := hcut
        clear hext
        have b1 : p.size ≤ 8192 := by omega
        have CS := xr_any p q (by omega) b1
        have CT := xr_any q p (by omega) (by omega)
        have CU := xr_any (XR p q) r (by rw [XR_size (by omega)]; omega) (by rw [XR_size (by omega)]; omega)
        have CV := xr_any q r (by omega) (by omega)
        have CW := xr_any p (XR q r) (by rw [XR_size (by omega)]; omega) b1
        have CN := xr_any p p rfl b1
        have CE := equal_like p q (by omega) (by omega)
        have hz := XR_zero (a := p) (b := q) (by omega)
        rw [XR_comm] at CT
        rw [XR_assoc] at CW
        rw [XR_self, p1] at CN
        rw [p1] at hz
        rw [hz] at CE
        clear hz
        have hl := less_put m k hm hk
        have hmk := make_bytes c (by omega)
        have hzt := fun u => zeros_text c u.heap.size u rfl
        generalize XR p q = S at *
        generalize XR q r = V at *
        generalize XR S r = U at *
        generalize ByteArray.mk (List.replicate c 0).toArray = N at *
        have HS := Lib.hid CS; have HT := Lib.hid CT; have HU := Lib.hid CU; have HV := Lib.hid CV; have HW := Lib.hid CW; have HN := Lib.hid CN; have HE := Lib.hid CE
        clear CS CT CU CV CW CN CE
        clear p1 q1 r1 b1
        go_wp2_with (first
          | (go_at_call 15; (with_reducible refine (HS.out _).mono ?_); rintro e w1 ⟨rfl, g1⟩)
          | (go_at_call 15; (with_reducible refine (HT.out _).mono ?_); rintro e w2 ⟨rfl, g2⟩)
          | (go_at_call 15; (with_reducible refine (HU.out _).mono ?_); rintro e w3 ⟨rfl, g3⟩)
          | (go_at_call 15; (with_reducible refine (HV.out _).mono ?_); rintro e w4 ⟨rfl, g4⟩)
          | (go_at_call 15; (with_reducible refine (HW.out _).mono ?_); rintro e w5 ⟨rfl, g5⟩)
          | (go_at_call 15; (with_reducible refine (HN.out _).mono ?_); rintro e w6 ⟨rfl, g6⟩)
          | (go_at_call 12; (with_reducible refine (Put64_any m _).mono ?_); rintro e w7 ⟨rfl, g7⟩)
          | (go_at_call 12; (with_reducible refine (Put64_any k _).mono ?_); rintro e w8 ⟨rfl, g8⟩)
          | (go_at_call 21; (with_reducible refine (HE.out _).mono ?_); rintro e w9 ⟨rfl, g9⟩)
          | (go_at_call 8; refine (works_any _).mono ?_; rintro e w10 ⟨rfl, g10⟩))
        go_ret
        exact ⟨rfl, ((((((((((hext2.trans g1).trans g2).trans g3).trans g4).trans g5).trans g6).trans g7).trans g8).alloc _).trans g9).trans g10⟩
end Go.Proofs.Ytnboephjkiihiaa
