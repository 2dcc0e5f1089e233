/- Plain: numbers, whole numbers and texts as bytes; the number in front of bytes. Plain: segments: what their bytes are, which segment bytes are. No function of the program is named here. -/
import Derived.Test.YtbekdcpdfmfopaaGreatM00
import Derived.Test.YtbekdcpdfmfopaaGreatM04
section
namespace Go.Proofs.YtbekdcpdfmfopaaGreat

/-- A number's bytes: at most k + 1. -/
def wnF : Nat → Nat → List UInt8
  | 0, n => [UInt8.ofNat n]
  | k + 1, n => if n < 128 then [UInt8.ofNat n] else UInt8.ofNat (n % 128 + 128) :: wnF k (n / 128)
def wn (n : Nat) : List UInt8 := wnF 9 n
/-- The number in front of bytes, how many bytes it has, the fault; i bytes of it, worth acc, stand ahead. -/
def numG (i acc : Nat) : List UInt8 → Nat × Nat × Nat
  | [] => (0, 0, if i < 10 then 6 else 7)
  | b :: r => if i = 10 then (0, 0, 7) else if 128 ≤ b.toNat then numG (i + 1) (acc + b.toNat % 128 * 128 ^ i) r
      else if (0 < i ∧ b.toNat = 0) ∨ (i = 9 ∧ 1 < b.toNat) then (0, 0, 7) else (acc + b.toNat * 128 ^ i, i + 1, 0)
def numR (l : List UInt8) : Nat × Nat × Nat := numG 0 0 l

theorem wnF_low (k n : Nat) (h : n < 128) : wnF k n = [UInt8.ofNat n] := by
  cases k with
  | zero => rfl
  | succ k => rw [wnF, if_pos h]
theorem wnF_high (k n : Nat) (h : ¬ n < 128) : wnF (k + 1) n = UInt8.ofNat (n % 128 + 128) :: wnF k (n / 128) := by rw [wnF, if_neg h]
theorem wnF_length (k : Nat) : ∀ n, 1 ≤ (wnF k n).length ∧ (wnF k n).length ≤ k + 1 := by
  induction k with
  | zero => intro n; simp [wnF]
  | succ k ih =>
    intro n
    by_cases h : n < 128
    · rw [wnF_low _ _ h]; simp
    · rw [wnF_high _ _ h, List.length_cons]
      have := ih (n / 128)
      omega
theorem wn_length (n : Nat) : 1 ≤ (wn n).length ∧ (wn n).length ≤ 10 := wnF_length 9 n
theorem ofNat_toNat (n : Nat) (h : n < 256) : (UInt8.ofNat n).toNat = n := by simp; omega
theorem pow_step (i : Nat) : 128 ^ (i + 1) = 128 * 128 ^ i := by rw [Nat.pow_succ, Nat.mul_comm]
theorem digit_sum (n p : Nat) : n % 128 * p + n / 128 * (128 * p) = n * p := by
  have e : n / 128 * (128 * p) = (128 * (n / 128)) * p := by rw [← Nat.mul_assoc, Nat.mul_comm (n / 128) 128]
  rw [e, ← Nat.add_mul, Nat.mod_add_div]
/-- What was written is read. -/
theorem numG_back (k : Nat) : ∀ (i n acc : Nat) (r : List UInt8), i + k = 9 → n < 2 * 128 ^ k → (0 < i → 0 < n) → numG i acc (wnF k n ++ r) = (acc + n * 128 ^ i, i + (wnF k n).length, 0) := by
  induction k with
  | zero =>
    intro i n acc r hi hn hp
    have h2 : n < 2 := by simpa using hn
    obtain rfl : i = 9 := by omega
    have e := ofNat_toNat n (by omega)
    rw [wnF_low _ _ (by omega), List.singleton_append, numG, e, if_neg (by omega), if_neg (by omega), if_neg (by omega)]
    simp
  | succ k ih =>
    intro i n acc r hi hn hp
    by_cases h : n < 128
    · have e := ofNat_toNat n (by omega)
      rw [wnF_low _ _ h, List.singleton_append, numG, e, if_neg (by omega), if_neg (by omega), if_neg (by omega)]
      simp
    · have e := ofNat_toNat (n % 128 + 128) (by omega)
      rw [wnF_high _ _ h, List.cons_append, numG, e, if_neg (by omega), if_pos (by omega), ih (i + 1) (n / 128) _ r (by omega) (by rw [pow_step] at hn; omega) (by omega)]
      rw [pow_step, show (n % 128 + 128) % 128 = n % 128 by omega, Nat.add_assoc, digit_sum, List.length_cons]
      congr 2
      omega
theorem numR_back (n : Nat) (r : List UInt8) (h : n < 18446744073709551616) : numR (wn n ++ r) = (n, (wn n).length, 0) := by
  have := numG_back 9 0 n 0 r rfl (by omega) (by omega)
  simpa [numR, wn] using this
/-- What is read was written. -/
theorem numG_from (l : List UInt8) : ∀ (i acc v sz : Nat), i ≤ 10 → numG i acc l = (v, sz, 0) → ∃ n, i ≤ 9 ∧ l.take (sz - i) = wnF (9 - i) n ∧ v = acc + n * 128 ^ i ∧ i < sz ∧ sz ≤ 10 ∧ n < 2 * 128 ^ (9 - i) ∧ sz - i ≤ l.length ∧ (0 < i → 0 < n) := by
  induction l with
  | nil =>
    intro i acc v sz hi h
    simp only [numG, Prod.mk.injEq] at h
    split at h <;> omega
  | cons b r ih =>
    intro i acc v sz hi h
    have hb := b.toNat_lt
    rw [numG] at h
    by_cases h10 : i = 10
    · rw [if_pos h10] at h; simp at h
    · rw [if_neg h10] at h
      by_cases h128 : 128 ≤ b.toNat
      · rw [if_pos h128] at h
        obtain ⟨n, h1, h2, h3, h4, h5, h6, h7, h8⟩ := ih (i + 1) _ v sz (by omega) h
        have hn := h8 (by omega)
        have e9 : 9 - i = (9 - (i + 1)) + 1 := by omega
        have ew : sz - i = (sz - (i + 1)) + 1 := by omega
        have hnn : ¬ (b.toNat % 128 + 128 * n) < 128 := by omega
        refine ⟨b.toNat % 128 + 128 * n, by omega, ?_, ?_, by omega, h5, ?_, by rw [List.length_cons]; omega, by omega⟩
        · rw [ew, e9, List.take_succ_cons, wnF_high _ _ hnn, h2]
          congr 1
          · apply UInt8.toNat_inj.1
            rw [ofNat_toNat _ (by omega)]
            omega
          · congr 1
            omega
        · rw [h3, pow_step, Nat.add_assoc]
          congr 1
          rw [Nat.add_mul, ← Nat.mul_assoc, Nat.mul_comm n 128]
        · rw [e9, pow_step]
          omega
      · rw [if_neg h128] at h
        by_cases hbad : (0 < i ∧ b.toNat = 0) ∨ (i = 9 ∧ 1 < b.toNat)
        · rw [if_pos hbad] at h; simp at h
        · rw [if_neg hbad] at h
          simp only [Prod.mk.injEq] at h
          obtain ⟨rfl, rfl, _⟩ := h
          refine ⟨b.toNat, by omega, ?_, rfl, by omega, by omega, ?_, by rw [List.length_cons]; omega, by omega⟩
          · rw [show i + 1 - i = 1 by omega, wnF_low _ _ (by omega)]
            simp
          · by_cases h9 : i = 9
            · subst h9; simp; omega
            · have : 128 ^ (9 - i) = 128 * 128 ^ (8 - i) := by rw [← pow_step]; congr 1; omega
              have hp : 0 < 128 ^ (8 - i) := Nat.pow_pos (by decide)
              rw [this]
              omega
theorem numR_from (l : List UInt8) (v sz : Nat) (h : numR l = (v, sz, 0)) : l.take sz = wn v ∧ v < 18446744073709551616 ∧ 1 ≤ sz ∧ sz ≤ 10 ∧ sz ≤ l.length := by
  obtain ⟨n, _, h2, h3, h4, h5, h6, h7, _⟩ := numG_from l 0 0 v sz (by omega) h
  simp at h2 h3 h6 h7
  subst h3
  exact ⟨h2, by omega, by omega, h5, h7⟩
/-- Which answers there are. -/
theorem numG_kinds (l : List UInt8) : ∀ i acc, (numG i acc l).2.2 = 0 ∨ numG i acc l = (0, 0, 6) ∨ numG i acc l = (0, 0, 7) := by
  induction l with
  | nil => intro i acc; simp only [numG]; split <;> simp
  | cons b r ih =>
    intro i acc
    rw [numG]
    split
    · simp
    · split
      · exact ih _ _
      · split <;> simp
/-- What is read, or which fault there is. -/
theorem numR_or (l : List UInt8) : (∃ v sz, numR l = (v, sz, 0) ∧ l.take sz = wn v ∧ v < 18446744073709551616 ∧ 1 ≤ sz ∧ sz ≤ 10 ∧ sz ≤ l.length) ∨ numR l = (0, 0, 6) ∨ numR l = (0, 0, 7) := by
  rcases numG_kinds l 0 0 with h | h
  · left
    rcases hn : numR l with ⟨v, sz, f⟩
    have : f = 0 := by unfold numR at hn; rw [hn] at h; exact h
    subst this
    exact ⟨v, sz, rfl, numR_from l v sz hn⟩
  · exact .inr h
theorem wn_inj (a b : Nat) (r s : List UInt8) (ha : a < 18446744073709551616) (hb : b < 18446744073709551616) (h : wn a ++ r = wn b ++ s) : a = b ∧ r = s := by
  have h1 := numR_back a r ha
  rw [h, numR_back b s hb] at h1
  have e : b = a := congrArg Prod.fst h1
  subst e
  exact ⟨rfl, List.append_cancel_left h⟩

/-! ### Whole numbers -/
def zig (n : Int) : Nat := if 0 ≤ n then 2 * n.toNat else 2 * (-(n + 1)).toNat + 1
def zag (m : Nat) : Int := if m % 2 = 0 then (m / 2 : Nat) else -((m / 2 : Nat) : Int) - 1
theorem zag_zig (n : Int) : zag (zig n) = n := by
  unfold zig zag
  split
  · rw [if_pos (by omega)]; omega
  · rw [if_neg (by omega)]; omega
theorem zig_zag (m : Nat) : zig (zag m) = m := by
  unfold zig zag
  split
  · rw [if_pos (by omega)]; omega
  · rw [if_neg (by omega)]; omega
theorem zig_lt (n : Int) (h0 : -9223372036854775808 ≤ n) (h1 : n ≤ 9223372036854775807) : zig n < 18446744073709551616 := by
  unfold zig
  split <;> omega
theorem zag_range (m : Nat) (h : m < 18446744073709551616) : -9223372036854775808 ≤ zag m ∧ zag m ≤ 9223372036854775807 := by
  unfold zag
  split <;> omega

/-! ### Texts, lists -/
def wt (s : ByteArray) : List UInt8 := wn s.size ++ s.data.toList
def wb (b : Bool) : List UInt8 := [if b then 1 else 0]
def wl (l : List ByteArray) : List UInt8 := wn l.length ++ l.flatMap wt
theorem txt_ext {s t : ByteArray} (h : s.data.toList = t.data.toList) : s = t := by
  apply ByteArray.ext
  exact Array.toList_inj.1 h
theorem wt_inj (s t : ByteArray) (a b : List UInt8) (hs : s.size < 18446744073709551616) (ht : t.size < 18446744073709551616) (h : wt s ++ a = wt t ++ b) : s = t ∧ a = b := by
  unfold wt at h
  rw [List.append_assoc, List.append_assoc] at h
  obtain ⟨h1, h2⟩ := wn_inj _ _ _ _ hs ht h
  have hl : s.data.toList.length = t.data.toList.length := by rw [size_list, size_list, h1]
  obtain ⟨h3, h4⟩ := List.append_inj h2 hl
  exact ⟨txt_ext h3, h4⟩
theorem texts_inj : ∀ (l m : List ByteArray), l.length = m.length → (∀ s ∈ l, s.size < 18446744073709551616) → (∀ s ∈ m, s.size < 18446744073709551616) → l.flatMap wt = m.flatMap wt → l = m
  | [], [], _, _, _, _ => rfl
  | [], _ :: _, h, _, _, _ => by simp at h
  | _ :: _, [], h, _, _, _ => by simp at h
  | s :: l, t :: m, h, hl, hm, he => by
    rw [List.flatMap_cons, List.flatMap_cons] at he
    obtain ⟨h1, h2⟩ := wt_inj s t _ _ (hl s (by simp)) (hm t (by simp)) he
    rw [h1, texts_inj l m (by simpa using h) (fun x hx => hl x (by simp [hx])) (fun x hx => hm x (by simp [hx])) h2]
theorem wl_inj (l m : List ByteArray) (h1 : l.length < 18446744073709551616) (h2 : m.length < 18446744073709551616) (hl : ∀ s ∈ l, s.size < 18446744073709551616) (hm : ∀ s ∈ m, s.size < 18446744073709551616) (h : wl l = wl m) : l = m := by
  obtain ⟨h3, h4⟩ := wn_inj _ _ _ _ h1 h2 h
  exact texts_inj l m h3 hl hm h4
end Go.Proofs.YtbekdcpdfmfopaaGreat
end

section
namespace Go.Proofs.YtbekdcpdfmfopaaGreat

/-- A segment. -/
structure Seg where
  k : Nat
  g : Nat
  f : Nat
  t : ByteArray
  r : List ByteArray
  u : Int
  w : Bool
def Seg.zero : Seg := ⟨0, 0, 0, ⟨#[]⟩, [], 0, false⟩
/-- Its cells, where v is the slice of its records. -/
def segC (x : Seg) (v : Value) : List Value := [.int .u8 (x.k : Int), .int .u64 (x.g : Int), .int .u64 (x.f : Int), .string x.t, v, .int .i64 x.u, .bool x.w]
def segV (x : Seg) (v : Value) : Value := .agg #[.int .u8 (x.k : Int), .int .u64 (x.g : Int), .int .u64 (x.f : Int), .string x.t, v, .int .i64 x.u, .bool x.w]
/-- The numbers are such as their kinds can be. -/
structure Seg.Ok (x : Seg) : Prop where
  k : x.k < 256
  g : x.g < 18446744073709551616
  f : x.f < 18446744073709551616
  u : -9223372036854775808 ≤ x.u ∧ x.u ≤ 9223372036854775807
  t : x.t.size ≤ 140737488351232
  n : x.r.length ≤ 140737488355328
  r : ∀ s ∈ x.r, s.size ≤ 140737488351232
/-- What a statement looks at. -/
structure Seg.Light (x : Seg) : Prop where
  t : x.t.size ≤ 8192
  n : x.r.length ≤ 60
  r : ∀ s ∈ x.r, s.size ≤ 8192
def NumOk (n : Nat) : Prop := 1 ≤ n ∧ n ≤ 281474976710656
instance (n : Nat) : Decidable (NumOk n) := inferInstanceAs (Decidable (_ ∧ _))
/-- There may be such a head. -/
def MayB (k g f : Nat) (t : ByteArray) : Prop := (k = 1 ∨ (k = 0 ∧ t.size = 0)) ∧ NumOk g ∧ NumOk f
instance (k g f : Nat) (t : ByteArray) : Decidable (MayB k g f t) := inferInstanceAs (Decidable (_ ∧ _))
def headT (k g : Nat) (t : ByteArray) : ByteArray := ⟨(UInt8.ofNat k :: (wn g ++ t.data.toList)).toArray⟩
theorem headT_size (k g : Nat) (t : ByteArray) : (headT k g t).size = 1 + (wn g).length + t.size := by
  show (UInt8.ofNat k :: (wn g ++ t.data.toList)).length = _
  rw [List.length_cons, List.length_append, size_list]; omega
theorem headT_le (k g : Nat) (t : ByteArray) : (headT k g t).size ≤ 11 + t.size := by
  have := (wn_length g).2
  rw [headT_size]; omega
def headR (k g f : Nat) (t : ByteArray) : Rec := ⟨f, headT k g t⟩
/-- A head's bytes, and the fault. -/
def headF (k g f : Nat) (t : ByteArray) : ByteArray × Nat := if MayB k g f t then (frameT (headR k g f t), 0) else (⟨#[]⟩, 2)
theorem headF_or (k g f : Nat) (t : ByteArray) : (MayB k g f t ∧ headF k g f t = (frameT (headR k g f t), 0)) ∨ (¬ MayB k g f t ∧ headF k g f t = (⟨#[]⟩, 2)) := by
  unfold headF
  by_cases h : MayB k g f t
  · exact .inl ⟨h, if_pos h⟩
  · exact .inr ⟨h, if_neg h⟩
theorem enc_head (k g f : Nat) (t : ByteArray) (ht : t.size ≤ 8192) : encF (headR k g f t) = (frameT (headR k g f t), 0) := by
  have := headT_le k g t
  unfold encF
  rw [if_neg (by show ¬ 65536 < (headT k g t).size; omega)]
/-- A segment's bytes, and the fault. -/
def bytesL (x : Seg) : List UInt8 := frameL (headR x.k x.g x.f x.t) ++ rowF (recsF x.r x.f)
def bytesT (x : Seg) : ByteArray := ⟨(bytesL x).toArray⟩
def bytesF (x : Seg) : ByteArray × Nat := if MayB x.k x.g x.f x.t ∧ x.f + x.r.length ≤ 281474976710657 then (bytesT x, 0) else (⟨#[]⟩, 2)
theorem bytesF_ok {x : Seg} (h : (bytesF x).2 = 0) : MayB x.k x.g x.f x.t ∧ x.f + x.r.length ≤ 281474976710657 ∧ bytesF x = (bytesT x, 0) := by
  unfold bytesF at h ⊢
  by_cases hm : MayB x.k x.g x.f x.t ∧ x.f + x.r.length ≤ 281474976710657
  · rw [if_pos hm]; exact ⟨hm.1, hm.2, rfl⟩
  · rw [if_neg hm] at h; simp at h
theorem bytesF_or (x : Seg) : bytesF x = (bytesT x, 0) ∨ bytesF x = (⟨#[]⟩, 2) := by
  unfold bytesF
  split
  · exact .inl rfl
  · exact .inr rfl
theorem totF_light : ∀ (l : List ByteArray), (∀ s ∈ l, s.size ≤ 8192) → totF l ≤ l.length * 8208
  | [], _ => by simp [totF]
  | s :: l, h => by
    have h1 := h s (by simp)
    have h2 := totF_light l (fun x hx => h x (by simp [hx]))
    rw [totF, List.length_cons]; omega
theorem bytesL_length (x : Seg) : (bytesL x).length = 16 + (headT x.k x.g x.t).size + totF x.r := by
  unfold bytesL
  rw [List.length_append, frameL_length, rowF_length]; rfl
theorem bytesT_size (x : Seg) : (bytesT x).size = 16 + (headT x.k x.g x.t).size + totF x.r := bytesL_length x
theorem bytesT_le {x : Seg} (h : x.Light) : (bytesT x).size ≤ 900000 := by
  have h1 := totF_light x.r h.r
  have h2 := headT_le x.k x.g x.t
  have h3 := h.t
  have h4 := h.n
  rw [bytesT_size]; omega
theorem bytesT_head (x : Seg) : bytesT x = frameT (headR x.k x.g x.f x.t) ++ ⟨(rowF (recsF x.r x.f)).toArray⟩ := by
  unfold bytesT bytesL frameT
  apply ByteArray.ext
  rw [ByteArray.data_append]
  simp

/-! ### Which segment bytes are -/
/-- What a head's record tells: the kind, the generation, the text. -/
def begL (n : Nat) (t : ByteArray) : List UInt8 → Option (Nat × Nat × ByteArray)
  | [] => none
  | b :: l => if (numR l).2.2 = 0 then (if MayB b.toNat (numR l).1 n (t.extract (1 + (numR l).2.1) t.size) then some (b.toNat, (numR l).1, t.extract (1 + (numR l).2.1) t.size) else none) else none
def begF (r : Rec) : Option (Nat × Nat × ByteArray) := begL r.n r.t r.t.data.toList
/-- The records up to the last number. -/
def lowR (L : List Rec) : List Rec := L.takeWhile (fun r => decide (r.n ≤ 281474976710656))
def lenRs (L : List Rec) : Nat := (L.map fun r => 16 + r.t.size).sum
def txtR (L : List Rec) : List ByteArray := L.map (·.t)
theorem lenRs_snoc (L : List Rec) (x : Rec) : lenRs (L ++ [x]) = lenRs L + (16 + x.t.size) := by simp [lenRs]
theorem txtR_snoc (L : List Rec) (x : Rec) : txtR (L ++ [x]) = txtR L ++ [x.t] := by simp [txtR]
theorem txtR_length (L : List Rec) : (txtR L).length = L.length := by simp [txtR]
noncomputable def segP (s : ByteArray) (n used k g : Nat) (t : ByteArray) : Seg :=
  ⟨k, g, n, t, txtR (lowR (scanF (s.extract used s.size) n).1), ((used + lenRs (lowR (scanF (s.extract used s.size) n).1) : Nat) : Int), decide (used + lenRs (lowR (scanF (s.extract used s.size) n).1) = s.size)⟩
noncomputable def parseF (s : ByteArray) : Seg × Nat :=
  if (decF s).2.2 = 0 then
    match begF (decF s).1 with
    | none => (Seg.zero, 7)
    | some (k, g, t) => (segP s (decF s).1.n (decF s).2.1 k g t, 0)
  else (Seg.zero, (decF s).2.2)
section
variable {s : ByteArray}
theorem parseF_bad (h : ¬ (decF s).2.2 = 0) : parseF s = (Seg.zero, (decF s).2.2) := by unfold parseF; rw [if_neg h]
theorem parseF_form (h : (decF s).2.2 = 0) (hb : begF (decF s).1 = none) : parseF s = (Seg.zero, 7) := by unfold parseF; rw [if_pos h, hb]
theorem parseF_ok (h : (decF s).2.2 = 0) {k g : Nat} {t : ByteArray} (hb : begF (decF s).1 = some (k, g, t)) : parseF s = (segP s (decF s).1.n (decF s).2.1 k g t, 0) := by unfold parseF; rw [if_pos h, hb]
end
/-! ### What was written is read -/
theorem toNat_ofNat8 (k : Nat) (h : k < 256) : (UInt8.ofNat k).toNat = k := by simp; omega
theorem beg_head {k g f : Nat} {t : ByteArray} (h : MayB k g f t) : begF (headR k g f t) = some (k, g, t) := by
  have hg : g < 18446744073709551616 := by have := h.2.1.2; omega
  have hk : k < 256 := by rcases h.1 with h | ⟨h, _⟩ <;> omega
  have hn := numR_back g t.data.toList hg
  have hx : (headT k g t).extract (1 + (wn g).length) (headT k g t).size = t := by
    rw [headT_size]
    unfold headT
    rw [txt_extract', ← List.cons_append, List.drop_append_of_le_length (by simp; omega)]
    rw [List.drop_of_length_le (by simp; omega), List.nil_append, List.take_of_length_le (by rw [size_list]; omega)]
  show begL f (headT k g t) (UInt8.ofNat k :: (wn g ++ t.data.toList)) = _
  rw [begL, hn]
  simp only [if_true, toNat_ofNat8 k hk, hx, if_pos h]
theorem recs_low : ∀ (l : List ByteArray) (f n : Nat), f + l.length ≤ 281474976710657 → ∀ r ∈ (recsF l f).take n, r.n ≤ 281474976710656
  | [], _, _, _, r, hr => by simp [recsF] at hr
  | t :: l, f, 0, _, r, hr => by simp at hr
  | t :: l, f, n + 1, h, r, hr => by
    rw [List.length_cons] at h
    rw [recsF, List.take_succ_cons, List.mem_cons] at hr
    rcases hr with rfl | hr
    · show f ≤ _; omega
    · rw [Nat.mod_eq_of_lt (by omega)] at hr
      exact recs_low l (f + 1) n (by omega) r hr
theorem lowR_all {L : List Rec} (h : ∀ r ∈ L, r.n ≤ 281474976710656) : lowR L = L := by
  unfold lowR
  induction L with
  | nil => rfl
  | cons a r ih =>
    rw [List.takeWhile_cons, decide_eq_true (h a (by simp)), if_pos rfl, ih (fun x hx => h x (by simp [hx]))]
theorem recs_txt : ∀ (l : List ByteArray) (f n : Nat), txtR ((recsF l f).take n) = l.take n
  | [], _, _ => by simp [recsF, txtR]
  | t :: l, f, 0 => by simp [txtR]
  | t :: l, f, n + 1 => by
    have := recs_txt l ((f + 1) % 18446744073709551616) n
    rw [recsF, List.take_succ_cons, List.take_succ_cons, ← this]; rfl
theorem recs_cut : ∀ (l : List ByteArray) (f k : Nat), lenRs ((recsF l f).take (cutF l k).1) = (cutF l k).2
  | [], _, _ => by simp [recsF, cutF, lenRs]
  | t :: l, f, k => by
    have := recs_cut l ((f + 1) % 18446744073709551616) (k - (16 + t.size))
    rw [cutF]
    split
    · rw [recsF, List.take_succ_cons]
      show lenRs (_ :: _) = _
      unfold lenRs at this ⊢
      rw [List.map_cons, List.sum_cons, this]
      show 16 + t.size + _ = _
      omega
    · simp [lenRs]
/-- A segment as it is read where so many of its bytes are left. -/
def cutS (x : Seg) (k : Nat) : Seg × Nat :=
  if k < 16 + (headT x.k x.g x.t).size then (Seg.zero, 100)
  else (⟨x.k, x.g, x.f, x.t, x.r.take (cutF x.r (k - (16 + (headT x.k x.g x.t).size))).1, ((16 + (headT x.k x.g x.t).size + (cutF x.r (k - (16 + (headT x.k x.g x.t).size))).2 : Nat) : Int),
    decide (16 + (headT x.k x.g x.t).size + (cutF x.r (k - (16 + (headT x.k x.g x.t).size))).2 = k)⟩, 0)
theorem parse_cut {x : Seg} (hl : x.Light) (hm : MayB x.k x.g x.f x.t) (hf : x.f + x.r.length ≤ 281474976710657) (k : Nat) (hk : k ≤ (bytesT x).size) : parseF ((bytesT x).extract 0 k) = cutS x k := by
  have hh : (headR x.k x.g x.f x.t).t.size ≤ 65536 := by
    have := headT_le x.k x.g x.t
    have := hl.t
    show (headT x.k x.g x.t).size ≤ _; omega
  have hn : (headR x.k x.g x.f x.t).n < 18446744073709551616 := by
    have := hm.2.2.2
    show x.f < _; omega
  have hs := bytesT_size x
  have hL := frameL_length (headR x.k x.g x.f x.t)
  have e0 : (bytesT x).extract 0 k = ⟨((bytesL x).take k).toArray⟩ := by
    unfold bytesT
    rw [txt_extract', List.drop_zero, Nat.sub_zero]
  have hH : (headR x.k x.g x.f x.t).t = headT x.k x.g x.t := rfl
  rw [hH] at hL
  unfold cutS
  by_cases hc : k < 16 + (headT x.k x.g x.t).size
  · rw [if_pos hc, e0]
    unfold bytesL
    rw [List.take_append_of_le_length (by omega)]
    have := decF_cut (headR x.k x.g x.f x.t) hh k hc
    rw [parseF_bad (by rw [this]; simp), this]
  · rw [if_neg hc, e0]
    obtain ⟨j, rfl⟩ : ∃ j, k = 16 + (headT x.k x.g x.t).size + j := ⟨k - (16 + (headT x.k x.g x.t).size), by omega⟩
    have e1 : 16 + (headT x.k x.g x.t).size + j - (16 + (headT x.k x.g x.t).size) = j := by omega
    have e2 : (bytesL x).take (16 + (headT x.k x.g x.t).size + j) = frameL (headR x.k x.g x.f x.t) ++ (rowF (recsF x.r x.f)).take j := by
      unfold bytesL
      rw [← hL, List.take_length_add_append]
    rw [e1, e2]
    have hd := decF_frame (headR x.k x.g x.f x.t) ((rowF (recsF x.r x.f)).take j) hh hn
    have hx := extract_rest (frameL (headR x.k x.g x.f x.t)) ((rowF (recsF x.r x.f)).take j) (16 + (headT x.k x.g x.t).size) hL
    have hsc := scanF_cut x.r x.f j (fun t ht => Nat.le_trans (hl.r t ht) (by decide)) hn (by rw [hs] at hk; omega)
    have hb : begF (headR x.k x.g x.f x.t) = some (x.k, x.g, x.t) := beg_head hm
    rw [parseF_ok (k := x.k) (g := x.g) (t := x.t) (by rw [hd]) (by rw [hd]; exact hb), hd]
    have hsz : (⟨(frameL (headR x.k x.g x.f x.t) ++ (rowF (recsF x.r x.f)).take j).toArray⟩ : ByteArray).size = 16 + (headT x.k x.g x.t).size + j := by
      show (frameL (headR x.k x.g x.f x.t) ++ (rowF (recsF x.r x.f)).take j).length = _
      rw [List.length_append, hL, List.length_take, rowF_length]
      rw [hs] at hk
      omega
    show (segP _ x.f (16 + (headT x.k x.g x.t).size) x.k x.g x.t, 0) = _
    unfold segP
    rw [hx, hsc, hsz]
    show (Seg.mk _ _ _ _ (txtR (lowR ((recsF x.r x.f).take (cutF x.r j).1))) ((16 + (headT x.k x.g x.t).size + lenRs (lowR ((recsF x.r x.f).take (cutF x.r j).1)) : Nat) : Int) (decide (16 + (headT x.k x.g x.t).size + lenRs (lowR ((recsF x.r x.f).take (cutF x.r j).1)) = 16 + (headT x.k x.g x.t).size + j)), 0) = _
    rw [lowR_all (recs_low x.r x.f _ hf), recs_txt, recs_cut]
theorem cutF_full : ∀ (l : List ByteArray), cutF l (totF l) = (l.length, totF l)
  | [] => rfl
  | t :: l => by
    rw [cutF, totF, if_pos (by omega)]
    have e : 16 + t.size + totF l - (16 + t.size) = totF l := by omega
    rw [e, cutF_full l]
    show (l.length + 1, totF l + (16 + t.size)) = (l.length + 1, 16 + t.size + totF l)
    rw [Nat.add_comm (totF l)]
/-- What was written is read. -/
theorem parse_back {x : Seg} (hl : x.Light) (hm : MayB x.k x.g x.f x.t) (hf : x.f + x.r.length ≤ 281474976710657) : parseF (bytesT x) = (⟨x.k, x.g, x.f, x.t, x.r, (((bytesT x).size : Nat) : Int), true⟩, 0) := by
  have h := parse_cut hl hm hf (bytesT x).size (Nat.le_refl _)
  have hs := bytesT_size x
  have e : (bytesT x).extract 0 (bytesT x).size = bytesT x := by simp
  rw [e] at h
  rw [h]
  unfold cutS
  rw [if_neg (by omega), hs, show 16 + (headT x.k x.g x.t).size + totF x.r - (16 + (headT x.k x.g x.t).size) = totF x.r by omega, cutF_full]
  simp
end Go.Proofs.YtbekdcpdfmfopaaGreat
end
