/- Plain: records in frames: which bytes a frame is, and what is read of bytes. No function of the program is named here. -/
import Derived.Test.YthnoegipadnmeaaCrcR
namespace Go.Proofs.Ythnoegipadnmeaa

theorem num_cons (b : UInt8) (l : List UInt8) : num (b :: l) = b.toNat * 256 ^ l.length + num l := by
  have key : ∀ (l : List UInt8) (x : Nat), l.foldl (fun n b => n * 256 + b.toNat) x = x * 256 ^ l.length + num l := by
    intro l
    induction l with
    | nil => intro x; simp [num]
    | cons c r ih =>
      intro x
      have e : num (c :: r) = c.toNat * 256 ^ r.length + num r := by
        show List.foldl _ (0 * 256 + c.toNat) r = _
        rw [ih]; simp
      rw [List.foldl_cons, ih, e, List.length_cons, Nat.pow_succ, Nat.add_mul, Nat.mul_assoc, Nat.mul_comm 256, Nat.add_assoc]
  show List.foldl _ (0 * 256 + b.toNat) l = _
  rw [key]; simp
theorem num_be (n : Nat) : ∀ k, num (be k n) = n % 256 ^ k
  | 0 => by simp [be, num, Nat.mod_one]
  | k + 1 => by
    rw [be, num_cons, num_be n k, be_length, Nat.mod_pow_succ, Nat.add_comm, Nat.mul_comm]
    rfl
theorem num_inj : ∀ (l r : List UInt8), l.length = r.length → num l = num r → l = r
  | [], [], _, _ => rfl
  | [], _ :: _, h, _ => by simp at h
  | _ :: _, [], h, _ => by simp at h
  | a :: l, b :: r, h, e => by
    have hl : l.length = r.length := by simpa using h
    rw [num_cons, num_cons, hl] at e
    have h1 := num_lt r.length l hl
    have h2 := num_lt r.length r rfl
    have hp : 0 < 256 ^ r.length := Nat.pow_pos (by decide)
    have ha : a.toNat = b.toNat := by
      have q1 : (a.toNat * 256 ^ r.length + num l) / 256 ^ r.length = a.toNat := by
        rw [Nat.add_comm, Nat.add_mul_div_right _ _ hp, Nat.div_eq_of_lt h1, Nat.zero_add]
      have q2 : (b.toNat * 256 ^ r.length + num r) / 256 ^ r.length = b.toNat := by
        rw [Nat.add_comm, Nat.add_mul_div_right _ _ hp, Nat.div_eq_of_lt h2, Nat.zero_add]
      rw [← q1, ← q2, e]
    have hb : a = b := UInt8.toNat_inj.1 ha
    subst hb
    rw [num_inj l r hl (by omega)]
theorem be_num (l : List UInt8) (k : Nat) (h : l.length = k) : be k (num l) = l :=
  num_inj _ _ (by rw [be_length, h]) (by rw [num_be, Nat.mod_eq_of_lt (num_lt k l h)])

/-- A record. -/
structure Rec where
  n : Nat
  t : ByteArray
theorem Rec.ext' {a b : Rec} (h1 : a.n = b.n) (h2 : a.t = b.t) : a = b := by cases a; cases b; cases h1; cases h2; rfl
/-- A record as a value. -/
def recV (r : Rec) : Value := .agg #[.int .u64 (r.n : Int), .string r.t]
def Rec.zero : Rec := ⟨0, ⟨#[]⟩⟩
/-- The sum of bytes, as a number. -/
def sumN (l : List UInt8) : Nat := (moreC 0#32 l).toNat
theorem sumN_lt (l : List UInt8) : sumN l < 4294967296 := (moreC 0#32 l).isLt
/-- What stands ahead of the sum. -/
def headL (k n : Nat) : List UInt8 := be 4 k ++ be 8 n
theorem headL_length (k n : Nat) : (headL k n).length = 12 := by simp [headL, be_length]
/-- What stands ahead of the text. -/
def headS (k n : Nat) (t : List UInt8) : List UInt8 := headL k n ++ be 4 (sumN (headL k n ++ t))
theorem headS_length (k n : Nat) (t : List UInt8) : (headS k n t).length = 16 := by simp [headS, headL_length, be_length]
def frameL (r : Rec) : List UInt8 := headS r.t.size r.n r.t.data.toList ++ r.t.data.toList
theorem frameL_length (r : Rec) : (frameL r).length = 16 + r.t.size := by unfold frameL; rw [List.length_append, headS_length, size_list]
def frameT (r : Rec) : ByteArray := ⟨(frameL r).toArray⟩
theorem frameT_size (r : Rec) : (frameT r).size = 16 + r.t.size := by rw [← frameL_length]; rfl
theorem frameT_list (r : Rec) : (frameT r).data.toList = frameL r := rfl
def encF (r : Rec) : ByteArray × Nat := if 65536 < r.t.size then (⟨#[]⟩, 5) else (frameT r, 0)
/-- The number that stands in a text. -/
def numAt (s : ByteArray) (a k : Nat) : Nat := num ((s.data.toList.drop a).take k)
theorem numAt_lt (s : ByteArray) (a k : Nat) (h : a + k ≤ s.size) : numAt s a k < 256 ^ k := num_lt k _ (by rw [List.length_take, List.length_drop, size_list]; omega)
def Sums (s : ByteArray) : Prop := numAt s 12 4 = sumN (s.data.toList.take 12 ++ (s.data.toList.drop 16).take (numAt s 0 4))
/-- The record in front of bytes, how many bytes its frame has, the fault. -/
noncomputable def decF (s : ByteArray) : Rec × Nat × Nat :=
  open Classical in
  if s.size < 16 then (Rec.zero, 0, 100)
  else if 65536 < numAt s 0 4 then (Rec.zero, 0, 5)
  else if s.size < 16 + numAt s 0 4 then (Rec.zero, 0, 100)
  else if Sums s then (⟨numAt s 4 8, s.extract 16 (16 + numAt s 0 4)⟩, 16 + numAt s 0 4, 0)
  else (Rec.zero, 0, 101)
section
variable {s : ByteArray}
theorem decF_short (h : s.size < 16) : decF s = (Rec.zero, 0, 100) := by unfold decF; rw [if_pos h]
theorem decF_long (h : ¬ s.size < 16) (h2 : 65536 < numAt s 0 4) : decF s = (Rec.zero, 0, 5) := by unfold decF; rw [if_neg h, if_pos h2]
theorem decF_torn (h : ¬ s.size < 16) (h2 : ¬ 65536 < numAt s 0 4) (h3 : s.size < 16 + numAt s 0 4) : decF s = (Rec.zero, 0, 100) := by unfold decF; rw [if_neg h, if_neg h2, if_pos h3]
theorem decF_sum (h : ¬ s.size < 16) (h2 : ¬ 65536 < numAt s 0 4) (h3 : ¬ s.size < 16 + numAt s 0 4) (h4 : ¬ Sums s) : decF s = (Rec.zero, 0, 101) := by unfold decF; rw [if_neg h, if_neg h2, if_neg h3, if_neg h4]
theorem decF_ok (h : ¬ s.size < 16) (h2 : ¬ 65536 < numAt s 0 4) (h3 : ¬ s.size < 16 + numAt s 0 4) (h4 : Sums s) : decF s = (⟨numAt s 4 8, s.extract 16 (16 + numAt s 0 4)⟩, 16 + numAt s 0 4, 0) := by unfold decF; rw [if_neg h, if_neg h2, if_neg h3, if_pos h4]
/-- Either a fault, or a record. -/
theorem decF_any (s : ByteArray) : (∃ e, decF s = (Rec.zero, 0, e) ∧ e ≠ 0 ∧ e ≤ 101) ∨
    (16 ≤ s.size ∧ numAt s 0 4 ≤ 65536 ∧ 16 + numAt s 0 4 ≤ s.size ∧ Sums s ∧ decF s = (⟨numAt s 4 8, s.extract 16 (16 + numAt s 0 4)⟩, 16 + numAt s 0 4, 0)) := by
  by_cases h : s.size < 16
  · exact .inl ⟨100, decF_short h, by decide, by decide⟩
  by_cases h2 : 65536 < numAt s 0 4
  · exact .inl ⟨5, decF_long h h2, by decide, by decide⟩
  by_cases h3 : s.size < 16 + numAt s 0 4
  · exact .inl ⟨100, decF_torn h h2 h3, by decide, by decide⟩
  by_cases h4 : Sums s
  · exact .inr ⟨by omega, by omega, by omega, h4, decF_ok h h2 h3 h4⟩
  · exact .inl ⟨101, decF_sum h h2 h3 h4, by decide, by decide⟩
end
/-- What an iterator hands out: a record, or a fault. -/
abbrev Itm := { x : Rec × Nat // x.1.t.size ≤ 65536 ∧ x.1.n < 18446744073709551616 ∧ x.2 ≤ 101 }
theorem decF_itm (s : ByteArray) : (decF s).1.t.size ≤ 65536 ∧ (decF s).1.n < 18446744073709551616 ∧ (decF s).2.2 ≤ 101 := by
  rcases decF_any s with ⟨e, h, _, h2⟩ | ⟨h0, h1, h2, h3, h⟩
  · rw [h]; exact ⟨Nat.zero_le _, Nat.zero_lt_succ _, h2⟩
  · rw [h]
    refine ⟨?_, numAt_lt s 4 8 (by omega), Nat.zero_le _⟩
    show (s.extract 16 (16 + numAt s 0 4)).size ≤ 65536
    rw [ByteArray.size_extract]; omega
noncomputable def itm (s : ByteArray) : Itm := ⟨((decF s).1, (decF s).2.2), decF_itm s⟩
noncomputable def items : Nat → ByteArray → List Itm
  | 0, _ => []
  | f + 1, s => if s.size = 0 then [] else itm s :: (if (decF s).2.2 = 0 then items f (s.extract (decF s).2.1 s.size) else [])
/-- The records of a row of items, their number, and the fault. -/
def scanI : List Itm → Nat → List Rec × Nat × Nat
  | [], _ => ([], 0, 0)
  | x :: l, first =>
    if x.1.2 ≠ 0 then ([], 0, x.1.2) else if x.1.1.n ≠ first then ([], 0, 7)
    else (x.1.1 :: (scanI l ((first + 1) % 18446744073709551616)).1, 16 + x.1.1.t.size + (scanI l ((first + 1) % 18446744073709551616)).2.1, (scanI l ((first + 1) % 18446744073709551616)).2.2)
noncomputable def scanF (s : ByteArray) (first : Nat) : List Rec × Nat × Nat := scanI (items s.size s) first
end Go.Proofs.Ythnoegipadnmeaa
