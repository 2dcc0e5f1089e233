/- Plain: the records in front of bytes, one by one. No function of the program is named here. -/
import Derived.Test.YthnoegipadnmeaaFrameL
namespace Go.Proofs.Ythnoegipadnmeaa

theorem decF_used (s : ByteArray) (h : (decF s).2.2 = 0) : (decF s).2.1 = 16 + (decF s).1.t.size ∧ (decF s).2.1 ≤ s.size ∧ 16 ≤ s.size := by
  rcases decF_any s with ⟨e, he, h0, _⟩ | ⟨h0, h1, h2, h3, he⟩
  · rw [he] at h; exact absurd h h0
  · rw [he]
    refine ⟨?_, h2, h0⟩
    show 16 + numAt s 0 4 = 16 + (s.extract 16 (16 + numAt s 0 4)).size
    rw [ByteArray.size_extract]; omega
theorem rest_size (s : ByteArray) (n : Nat) : (s.extract n s.size).size = s.size - n := by rw [ByteArray.size_extract]; omega
theorem items_enough : ∀ (f g : Nat) (s : ByteArray), s.size ≤ f → s.size ≤ g → items f s = items g s
  | 0, 0, _, _, _ => rfl
  | 0, g + 1, s, h, _ => by
    have h0 : s.size = 0 := by omega
    simp [items, h0]
  | f + 1, 0, s, _, h => by
    have h0 : s.size = 0 := by omega
    simp [items, h0]
  | f + 1, g + 1, s, h, k => by
    rw [items, items]
    by_cases h0 : s.size = 0
    · rw [if_pos h0, if_pos h0]
    · rw [if_neg h0, if_neg h0]
      by_cases he : (decF s).2.2 = 0
      · rw [if_pos he, if_pos he]
        obtain ⟨h1, h2, h3⟩ := decF_used s he
        rw [items_enough f g _ (by rw [rest_size]; omega) (by rw [rest_size]; omega)]
      · rw [if_neg he, if_neg he]
/-- All that an iterator hands out of bytes. -/
noncomputable def allI (s : ByteArray) : List Itm := items s.size s
section
variable {s : ByteArray}
theorem allI_nil (h : s.size = 0) : allI s = [] := by unfold allI; rw [h]; rfl
theorem allI_bad (h : s.size ≠ 0) (he : (decF s).2.2 ≠ 0) : allI s = [itm s] := by
  unfold allI
  obtain ⟨n, hn⟩ : ∃ n, s.size = n + 1 := ⟨s.size - 1, by omega⟩
  rw [hn, items, if_neg h, if_neg he]
theorem allI_ok (h : s.size ≠ 0) (he : (decF s).2.2 = 0) : allI s = itm s :: allI (s.extract (decF s).2.1 s.size) := by
  obtain ⟨h1, h2, h3⟩ := decF_used s he
  obtain ⟨n, hn⟩ : ∃ n, s.size = n + 1 := ⟨s.size - 1, by omega⟩
  have e : allI s = itm s :: items n (s.extract (decF s).2.1 s.size) := by
    unfold allI
    conv => lhs; rw [hn]
    rw [items, if_neg h, if_pos he]
  rw [e]
  unfold allI
  rw [items_enough n _ _ (by rw [rest_size]; omega) (Nat.le_refl _)]
end
theorem allI_length : ∀ (k : Nat) (s : ByteArray), s.size ≤ k → (allI s).length ≤ s.size := by
  intro k
  induction k with
  | zero => intro s h; rw [allI_nil (by omega)]; simp
  | succ k ih =>
    intro s h
    by_cases h0 : s.size = 0
    · rw [allI_nil h0]; simp
    by_cases he : (decF s).2.2 = 0
    · obtain ⟨h1, h2, h3⟩ := decF_used s he
      rw [allI_ok h0 he, List.length_cons]
      have := ih (s.extract (decF s).2.1 s.size) (by rw [rest_size]; omega)
      rw [rest_size] at this
      omega
    · rw [allI_bad h0 he, List.length_singleton]; omega
def recsI (l : List Itm) : List Rec := l.map (·.1.1)
def lenI (l : List Itm) : Nat := (l.map fun x => 16 + x.1.1.t.size).sum
theorem recsI_snoc (l : List Itm) (x : Itm) : recsI (l ++ [x]) = recsI l ++ [x.1.1] := by simp [recsI]
theorem recsI_length (l : List Itm) : (recsI l).length = l.length := by simp [recsI]
theorem lenI_snoc (l : List Itm) (x : Itm) : lenI (l ++ [x]) = lenI l + (16 + x.1.1.t.size) := by simp [lenI]
theorem lenI_le (l : List Itm) : lenI l ≤ l.length * 65552 := by
  induction l with
  | nil => simp [lenI]
  | cons x r ih =>
    have := x.2.1
    simp only [lenI, List.map_cons, List.sum_cons, List.length_cons] at ih ⊢
    omega
/-- So many records, all there, numbered on. -/
def GoodI : List Itm → Nat → Prop
  | [], _ => True
  | x :: l, n => x.1.2 = 0 ∧ x.1.1.n = n ∧ GoodI l ((n + 1) % 18446744073709551616)
theorem scanI_good : ∀ (pre t : List Itm) (first : Nat), first < 18446744073709551616 → GoodI pre first →
    scanI (pre ++ t) first = (recsI pre ++ (scanI t ((first + pre.length) % 18446744073709551616)).1, lenI pre + (scanI t ((first + pre.length) % 18446744073709551616)).2.1, (scanI t ((first + pre.length) % 18446744073709551616)).2.2)
  | [], t, first, hf, _ => by
    rw [List.length_nil, Nat.add_zero, Nat.mod_eq_of_lt hf]
    simp [recsI, lenI]
  | x :: l, t, first, hf, hg => by
    obtain ⟨h1, h2, h3⟩ := hg
    have ih := scanI_good l t ((first + 1) % 18446744073709551616) (Nat.mod_lt _ (by decide)) h3
    have e : ((first + 1) % 18446744073709551616 + l.length) % 18446744073709551616 = (first + (x :: l).length) % 18446744073709551616 := by
      rw [Nat.mod_add_mod, List.length_cons]; congr 1; omega
    rw [e] at ih
    rw [List.cons_append, scanI, if_neg (by simp [h1]), if_neg (by simp [h2]), ih]
    simp [recsI, lenI, Nat.add_assoc]
theorem good_snoc : ∀ (pre : List Itm) (x : Itm) (first : Nat), first < 18446744073709551616 → GoodI pre first → x.1.2 = 0 → x.1.1.n = (first + pre.length) % 18446744073709551616 → GoodI (pre ++ [x]) first
  | [], x, first, hf, _, h0, hn => by
    rw [List.length_nil, Nat.add_zero, Nat.mod_eq_of_lt hf] at hn
    exact ⟨h0, hn, trivial⟩
  | y :: l, x, first, hf, hg, h0, hn => by
    obtain ⟨h1, h2, h3⟩ := hg
    refine ⟨h1, h2, good_snoc l x _ (Nat.mod_lt _ (by decide)) h3 h0 ?_⟩
    rw [hn, Nat.mod_add_mod, List.length_cons]; congr 1; omega
theorem scanI_all {pre : List Itm} {first : Nat} (hf : first < 18446744073709551616) (h : GoodI pre first) : scanI pre first = (recsI pre, lenI pre, 0) := by
  have := scanI_good pre [] first hf h
  rw [List.append_nil] at this
  rw [this]; simp [scanI]
theorem scanI_fault {pre : List Itm} {x : Itm} {t : List Itm} {first : Nat} (hf : first < 18446744073709551616) (h : GoodI pre first) (hx : x.1.2 ≠ 0) : scanI (pre ++ [x] ++ t) first = (recsI pre, lenI pre, x.1.2) := by
  rw [List.append_assoc, scanI_good pre _ first hf h, List.singleton_append, scanI, if_pos hx]; simp
theorem scanI_form {pre : List Itm} {x : Itm} {t : List Itm} {first : Nat} (hf : first < 18446744073709551616) (h : GoodI pre first) (hx : x.1.2 = 0) (hn : x.1.1.n ≠ (first + pre.length) % 18446744073709551616) : scanI (pre ++ [x] ++ t) first = (recsI pre, lenI pre, 7) := by
  rw [List.append_assoc, scanI_good pre _ first hf h, List.singleton_append, scanI, if_neg (by simp [hx]), if_pos hn]; simp
/-- Step by step. -/
theorem scanF_eq (s : ByteArray) (first : Nat) : scanF s first = scanI (allI s) first := rfl
section
variable {s : ByteArray} {first : Nat}
theorem scanF_nil (h : s.size = 0) : scanF s first = ([], 0, 0) := by rw [scanF_eq, allI_nil h]; rfl
theorem scanF_bad (h : s.size ≠ 0) (he : (decF s).2.2 ≠ 0) : scanF s first = ([], 0, (decF s).2.2) := by
  rw [scanF_eq, allI_bad h he, scanI, if_pos (show (itm s).1.2 ≠ 0 from he)]; rfl
theorem scanF_form (h : s.size ≠ 0) (he : (decF s).2.2 = 0) (hn : (decF s).1.n ≠ first) : scanF s first = ([], 0, 7) := by
  rw [scanF_eq, allI_ok h he, scanI, if_neg (by simp [itm, he]), if_pos (show (itm s).1.1.n ≠ first from hn)]
theorem scanF_more (h : s.size ≠ 0) (he : (decF s).2.2 = 0) (hn : (decF s).1.n = first) :
    scanF s first = ((decF s).1 :: (scanF (s.extract (decF s).2.1 s.size) ((first + 1) % 18446744073709551616)).1, (decF s).2.1 + (scanF (s.extract (decF s).2.1 s.size) ((first + 1) % 18446744073709551616)).2.1, (scanF (s.extract (decF s).2.1 s.size) ((first + 1) % 18446744073709551616)).2.2) := by
  rw [scanF_eq, allI_ok h he, scanI, if_neg (by simp [itm, he]), if_neg (by simp [itm, hn]), scanF_eq]
  simp only [itm]
  rw [(decF_used s he).1]
end
theorem rest_rest (s : ByteArray) (a n : Nat) : (s.extract a s.size).extract n (s.extract a s.size).size = s.extract (a + n) s.size := by
  rw [ByteArray.extract_extract, rest_size]
  congr 1
  omega
end Go.Proofs.Ythnoegipadnmeaa
