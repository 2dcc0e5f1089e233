/- Plain: the records in front of bytes, one by one. No function of the program is named here. Plain: frames and rows of frames, read again; frames that were cut off. No function of the program is named here. -/
import Derived.Test.YtbekdcpdfmfopaaGreatM03
section
namespace Go.Proofs.YtbekdcpdfmfopaaGreat

theorem decF_used (s : ByteArray) (h : (decF s).2.2 = 0) : (decF s).2.1 = 16 + (decF s).1.t.size ∧ (decF s).2.1 ≤ s.size ∧ 16 ≤ s.size := by
  rcases decF_any s with ⟨e, he, h0, _⟩ | ⟨h0, h1, h2, h3, he⟩
  · rw [he] at h; exact absurd h h0
  · rw [he]
    refine ⟨?_, h2, h0⟩
    show 16 + numAt s 0 4 = 16 + (s.extract 16 (16 + numAt s 0 4)).size
    rw [ByteArray.size_extract]; omega
theorem rest_size (s : ByteArray) (n : Nat) : (s.extract n s.size).size = s.size - n := by rw [ByteArray.size_extract]; omega
theorem items_enough : ∀ (f g : Nat) (s : ByteArray), s.size ≤ f → s.size ≤ g → items f s = items g s
  | 0, 0, _, _, _ => rfl
  | 0, g + 1, s, h, _ => by
    have h0 : s.size = 0 := by omega
    simp [items, h0]
  | f + 1, 0, s, _, h => by
    have h0 : s.size = 0 := by omega
    simp [items, h0]
  | f + 1, g + 1, s, h, k => by
    rw [items, items]
    by_cases h0 : s.size = 0
    · rw [if_pos h0, if_pos h0]
    · rw [if_neg h0, if_neg h0]
      by_cases he : (decF s).2.2 = 0
      · rw [if_pos he, if_pos he]
        obtain ⟨h1, h2, h3⟩ := decF_used s he
        rw [items_enough f g _ (by rw [rest_size]; omega) (by rw [rest_size]; omega)]
      · rw [if_neg he, if_neg he]
/-- All that an iterator hands out of bytes. -/
noncomputable def allI (s : ByteArray) : List Itm := items s.size s
section
variable {s : ByteArray}
theorem allI_nil (h : s.size = 0) : allI s = [] := by unfold allI; rw [h]; rfl
theorem allI_bad (h : s.size ≠ 0) (he : (decF s).2.2 ≠ 0) : allI s = [itm s] := by
  unfold allI
  obtain ⟨n, hn⟩ : ∃ n, s.size = n + 1 := ⟨s.size - 1, by omega⟩
  rw [hn, items, if_neg h, if_neg he]
theorem allI_ok (h : s.size ≠ 0) (he : (decF s).2.2 = 0) : allI s = itm s :: allI (s.extract (decF s).2.1 s.size) := by
  obtain ⟨h1, h2, h3⟩ := decF_used s he
  obtain ⟨n, hn⟩ : ∃ n, s.size = n + 1 := ⟨s.size - 1, by omega⟩
  have e : allI s = itm s :: items n (s.extract (decF s).2.1 s.size) := by
    unfold allI
    conv => lhs; rw [hn]
    rw [items, if_neg h, if_pos he]
  rw [e]
  unfold allI
  rw [items_enough n _ _ (by rw [rest_size]; omega) (Nat.le_refl _)]
end
theorem allI_length : ∀ (k : Nat) (s : ByteArray), s.size ≤ k → (allI s).length ≤ s.size := by
  intro k
  induction k with
  | zero => intro s h; rw [allI_nil (by omega)]; simp
  | succ k ih =>
    intro s h
    by_cases h0 : s.size = 0
    · rw [allI_nil h0]; simp
    by_cases he : (decF s).2.2 = 0
    · obtain ⟨h1, h2, h3⟩ := decF_used s he
      rw [allI_ok h0 he, List.length_cons]
      have := ih (s.extract (decF s).2.1 s.size) (by rw [rest_size]; omega)
      rw [rest_size] at this
      omega
    · rw [allI_bad h0 he, List.length_singleton]; omega
def recsI (l : List Itm) : List Rec := l.map (·.1.1)
def lenI (l : List Itm) : Nat := (l.map fun x => 16 + x.1.1.t.size).sum
theorem recsI_snoc (l : List Itm) (x : Itm) : recsI (l ++ [x]) = recsI l ++ [x.1.1] := by simp [recsI]
theorem recsI_length (l : List Itm) : (recsI l).length = l.length := by simp [recsI]
theorem lenI_snoc (l : List Itm) (x : Itm) : lenI (l ++ [x]) = lenI l + (16 + x.1.1.t.size) := by simp [lenI]
theorem lenI_le (l : List Itm) : lenI l ≤ l.length * 65552 := by
  induction l with
  | nil => simp [lenI]
  | cons x r ih =>
    have := x.2.1
    simp only [lenI, List.map_cons, List.sum_cons, List.length_cons] at ih ⊢
    omega
/-- So many records, all there, numbered on. -/
def GoodI : List Itm → Nat → Prop
  | [], _ => True
  | x :: l, n => x.1.2 = 0 ∧ x.1.1.n = n ∧ GoodI l ((n + 1) % 18446744073709551616)
theorem scanI_good : ∀ (pre t : List Itm) (first : Nat), first < 18446744073709551616 → GoodI pre first →
    scanI (pre ++ t) first = (recsI pre ++ (scanI t ((first + pre.length) % 18446744073709551616)).1, lenI pre + (scanI t ((first + pre.length) % 18446744073709551616)).2.1, (scanI t ((first + pre.length) % 18446744073709551616)).2.2)
  | [], t, first, hf, _ => by
    rw [List.length_nil, Nat.add_zero, Nat.mod_eq_of_lt hf]
    simp [recsI, lenI]
  | x :: l, t, first, hf, hg => by
    obtain ⟨h1, h2, h3⟩ := hg
    have ih := scanI_good l t ((first + 1) % 18446744073709551616) (Nat.mod_lt _ (by decide)) h3
    have e : ((first + 1) % 18446744073709551616 + l.length) % 18446744073709551616 = (first + (x :: l).length) % 18446744073709551616 := by
      rw [Nat.mod_add_mod, List.length_cons]; congr 1; omega
    rw [e] at ih
    rw [List.cons_append, scanI, if_neg (by simp [h1]), if_neg (by simp [h2]), ih]
    simp [recsI, lenI, Nat.add_assoc]
theorem good_snoc : ∀ (pre : List Itm) (x : Itm) (first : Nat), first < 18446744073709551616 → GoodI pre first → x.1.2 = 0 → x.1.1.n = (first + pre.length) % 18446744073709551616 → GoodI (pre ++ [x]) first
  | [], x, first, hf, _, h0, hn => by
    rw [List.length_nil, Nat.add_zero, Nat.mod_eq_of_lt hf] at hn
    exact ⟨h0, hn, trivial⟩
  | y :: l, x, first, hf, hg, h0, hn => by
    obtain ⟨h1, h2, h3⟩ := hg
    refine ⟨h1, h2, good_snoc l x _ (Nat.mod_lt _ (by decide)) h3 h0 ?_⟩
    rw [hn, Nat.mod_add_mod, List.length_cons]; congr 1; omega
theorem scanI_all {pre : List Itm} {first : Nat} (hf : first < 18446744073709551616) (h : GoodI pre first) : scanI pre first = (recsI pre, lenI pre, 0) := by
  have := scanI_good pre [] first hf h
  rw [List.append_nil] at this
  rw [this]; simp [scanI]
theorem scanI_fault {pre : List Itm} {x : Itm} {t : List Itm} {first : Nat} (hf : first < 18446744073709551616) (h : GoodI pre first) (hx : x.1.2 ≠ 0) : scanI (pre ++ [x] ++ t) first = (recsI pre, lenI pre, x.1.2) := by
  rw [List.append_assoc, scanI_good pre _ first hf h, List.singleton_append, scanI, if_pos hx]; simp
theorem scanI_form {pre : List Itm} {x : Itm} {t : List Itm} {first : Nat} (hf : first < 18446744073709551616) (h : GoodI pre first) (hx : x.1.2 = 0) (hn : x.1.1.n ≠ (first + pre.length) % 18446744073709551616) : scanI (pre ++ [x] ++ t) first = (recsI pre, lenI pre, 7) := by
  rw [List.append_assoc, scanI_good pre _ first hf h, List.singleton_append, scanI, if_neg (by simp [hx]), if_pos hn]; simp
/-- Step by step. -/
theorem scanF_eq (s : ByteArray) (first : Nat) : scanF s first = scanI (allI s) first := rfl
section
variable {s : ByteArray} {first : Nat}
theorem scanF_nil (h : s.size = 0) : scanF s first = ([], 0, 0) := by rw [scanF_eq, allI_nil h]; rfl
theorem scanF_bad (h : s.size ≠ 0) (he : (decF s).2.2 ≠ 0) : scanF s first = ([], 0, (decF s).2.2) := by
  rw [scanF_eq, allI_bad h he, scanI, if_pos (show (itm s).1.2 ≠ 0 from he)]; rfl
theorem scanF_form (h : s.size ≠ 0) (he : (decF s).2.2 = 0) (hn : (decF s).1.n ≠ first) : scanF s first = ([], 0, 7) := by
  rw [scanF_eq, allI_ok h he, scanI, if_neg (by simp [itm, he]), if_pos (show (itm s).1.1.n ≠ first from hn)]
theorem scanF_more (h : s.size ≠ 0) (he : (decF s).2.2 = 0) (hn : (decF s).1.n = first) :
    scanF s first = ((decF s).1 :: (scanF (s.extract (decF s).2.1 s.size) ((first + 1) % 18446744073709551616)).1, (decF s).2.1 + (scanF (s.extract (decF s).2.1 s.size) ((first + 1) % 18446744073709551616)).2.1, (scanF (s.extract (decF s).2.1 s.size) ((first + 1) % 18446744073709551616)).2.2) := by
  rw [scanF_eq, allI_ok h he, scanI, if_neg (by simp [itm, he]), if_neg (by simp [itm, hn]), scanF_eq]
  simp only [itm]
  rw [(decF_used s he).1]
end
theorem rest_rest (s : ByteArray) (a n : Nat) : (s.extract a s.size).extract n (s.extract a s.size).size = s.extract (a + n) s.size := by
  rw [ByteArray.extract_extract, rest_size]
  congr 1
  omega
end Go.Proofs.YtbekdcpdfmfopaaGreat
end

section
namespace Go.Proofs.YtbekdcpdfmfopaaGreat

theorem mid_of (A B C : List UInt8) (a b : Nat) (ha : A.length = a) (hb : B.length = b) : ((A ++ (B ++ C)).drop a).take b = B := by
  subst ha hb
  simp
/-- What stands in a frame, and behind it. -/
theorem frame_parts (r : Rec) (rest : List UInt8) : frameL r ++ rest = be 4 r.t.size ++ (be 8 r.n ++ (be 4 (sumN (headL r.t.size r.n ++ r.t.data.toList)) ++ (r.t.data.toList ++ rest))) := by
  simp only [frameL, headS, headL, List.append_assoc]
section
variable (r : Rec) (rest : List UInt8)
theorem fr_len (h : r.t.size ≤ 65536) : numAt ⟨(frameL r ++ rest).toArray⟩ 0 4 = r.t.size := by
  unfold numAt
  show num (((frameL r ++ rest).drop 0).take 4) = _
  rw [frame_parts, show ((be 4 r.t.size ++ (be 8 r.n ++ (be 4 (sumN (headL r.t.size r.n ++ r.t.data.toList)) ++ (r.t.data.toList ++ rest)))).drop 0).take 4 = be 4 r.t.size from by rw [List.drop_zero, List.take_append_of_le_length (by rw [be_length]; exact Nat.le_refl _), List.take_of_length_le (by rw [be_length]; exact Nat.le_refl _)], num_be, Nat.mod_eq_of_lt (by omega)]
theorem fr_num (h : r.n < 18446744073709551616) : numAt ⟨(frameL r ++ rest).toArray⟩ 4 8 = r.n := by
  unfold numAt
  show num (((frameL r ++ rest).drop 4).take 8) = _
  rw [frame_parts, mid_of (be 4 r.t.size) (be 8 r.n) _ 4 8 (be_length _ _) (be_length _ _), num_be, Nat.mod_eq_of_lt (by omega)]
theorem fr_sum : numAt ⟨(frameL r ++ rest).toArray⟩ 12 4 = sumN (headL r.t.size r.n ++ r.t.data.toList) := by
  unfold numAt
  show num (((frameL r ++ rest).drop 12).take 4) = _
  rw [frame_parts, ← List.append_assoc (be 4 r.t.size), mid_of (be 4 r.t.size ++ be 8 r.n) _ _ 12 4 (by simp [be_length]) (be_length _ _), num_be, Nat.mod_eq_of_lt (by have := sumN_lt (headL r.t.size r.n ++ r.t.data.toList); omega)]
theorem fr_head : (frameL r ++ rest).take 12 = headL r.t.size r.n := by
  rw [frame_parts, ← List.append_assoc (be 4 r.t.size), List.take_append_of_le_length (by simp [be_length]), List.take_of_length_le (by simp [be_length])]
  rfl
theorem fr_text {k : Nat} (h : r.t.size = k) : ((frameL r ++ rest).drop 16).take k = r.t.data.toList := by
  rw [frameL, List.append_assoc]
  exact mid_of _ _ _ _ _ (headS_length _ _ _) (by rw [size_list]; exact h)
theorem fr_size : (⟨(frameL r ++ rest).toArray⟩ : ByteArray).size = 16 + r.t.size + rest.length := by
  show (frameL r ++ rest).length = _
  rw [List.length_append, frameL_length]
theorem txt_extract' (l : List UInt8) (a b : Nat) : (⟨l.toArray⟩ : ByteArray).extract a b = ⟨((l.drop a).take (b - a)).toArray⟩ := by
  apply ByteArray.ext
  rw [ByteArray.data_extract]
  apply Array.toList_inj.1
  rw [Array.toList_extract, List.extract_eq_take_drop]
theorem txt_back (s : ByteArray) : (⟨s.data.toList.toArray⟩ : ByteArray) = s := by cases s; simp
/-- A frame in front is read as itself. -/
theorem decF_frame (h : r.t.size ≤ 65536) (hn : r.n < 18446744073709551616) : decF ⟨(frameL r ++ rest).toArray⟩ = (r, 16 + r.t.size, 0) := by
  have h1 := fr_len r rest h
  have h2 := fr_num r rest hn
  have h3 := fr_size r rest
  have hS : Sums ⟨(frameL r ++ rest).toArray⟩ := by
    unfold Sums
    rw [fr_sum, h1]
    show _ = sumN ((frameL r ++ rest).take 12 ++ ((frameL r ++ rest).drop 16).take r.t.size)
    rw [fr_head, fr_text r rest rfl]
  rw [decF_ok (by omega) (by omega) (by omega) hS, h1, h2]
  have e : (⟨(frameL r ++ rest).toArray⟩ : ByteArray).extract 16 (16 + r.t.size) = r.t := by
    rw [txt_extract', Nat.add_sub_cancel_left, fr_text r rest rfl, txt_back]
  rw [e]
/-- A frame that was cut off is torn. -/
theorem decF_cut (h : r.t.size ≤ 65536) (k : Nat) (hk : k < 16 + r.t.size) : decF ⟨((frameL r).take k).toArray⟩ = (Rec.zero, 0, 100) := by
  have hl := frameL_length r
  have hs : (⟨((frameL r).take k).toArray⟩ : ByteArray).size = k := by
    show ((frameL r).take k).length = k
    rw [List.length_take]; omega
  by_cases h16 : k < 16
  · exact decF_short (by omega)
  · have e : numAt ⟨((frameL r).take k).toArray⟩ 0 4 = r.t.size := by
      have := fr_len r [] h
      rw [List.append_nil] at this
      rw [← this]
      unfold numAt
      show num ((((frameL r).take k).drop 0).take 4) = num (((frameL r).drop 0).take 4)
      rw [List.drop_zero, List.drop_zero, List.take_take, Nat.min_eq_left (by omega)]
    exact decF_torn (by omega) (by omega) (by omega)
end
/-- What is read is the frame that stood there. -/
theorem decF_front (s : ByteArray) (h : (decF s).2.2 = 0) : s.data.toList.take (decF s).2.1 = frameL (decF s).1 ∧ (decF s).1.t.size ≤ 65536 ∧ (decF s).1.n < 18446744073709551616 := by
  rcases decF_any s with ⟨e, he, h0, _⟩ | ⟨h0, h1, h2, h3, he⟩
  · rw [he] at h; exact absurd h h0
  · rw [he]
    have hT : (s.extract 16 (16 + numAt s 0 4)).data.toList = (s.data.toList.drop 16).take (numAt s 0 4) := by
      rw [ByteArray.data_extract, Array.toList_extract, List.extract_eq_take_drop, Nat.add_sub_cancel_left]
    have hz : (s.extract 16 (16 + numAt s 0 4)).size = numAt s 0 4 := by rw [ByteArray.size_extract]; omega
    have hl := size_list s
    refine ⟨?_, by rw [hz]; exact h1, numAt_lt s 4 8 (by omega)⟩
    dsimp only
    unfold frameL headS
    rw [hz, hT]
    have q1 : be 4 (numAt s 0 4) = (s.data.toList.drop 0).take 4 := be_num _ 4 (by rw [List.length_take, List.length_drop]; omega)
    have q2 : be 8 (numAt s 4 8) = (s.data.toList.drop 4).take 8 := be_num _ 8 (by rw [List.length_take, List.length_drop]; omega)
    have q3 : be 4 (numAt s 12 4) = (s.data.toList.drop 12).take 4 := be_num _ 4 (by rw [List.length_take, List.length_drop]; omega)
    have q4 : headL (numAt s 0 4) (numAt s 4 8) = s.data.toList.take 12 := by
      unfold headL
      rw [q1, q2, List.drop_zero, ← List.take_add]
    rw [q4, ← h3, q3, ← List.take_add, ← List.take_add]
theorem frameT_data (r : Rec) : frameT r = ⟨(frameL r ++ []).toArray⟩ := by rw [List.append_nil]; rfl
/-- No frame begins with another one's. -/
theorem frame_front (x y : Rec) (hx : x.t.size ≤ 65536) (hxn : x.n < 18446744073709551616) (hy : y.t.size ≤ 65536) (hyn : y.n < 18446744073709551616) (h : (frameL y).take (frameL x).length = frameL x) : x = y := by
  have e : frameL y = frameL x ++ (frameL y).drop (frameL x).length := by
    conv => lhs; rw [← List.take_append_drop (frameL x).length (frameL y)]
    rw [h]
  have h1 := decF_frame y [] hy hyn
  have h2 := decF_frame x ((frameL y).drop (frameL x).length) hx hxn
  rw [← e] at h2
  rw [List.append_nil, h2] at h1
  exact (Prod.mk.inj h1).1
theorem frame_inj (x y : Rec) (hx : x.t.size ≤ 65536) (hxn : x.n < 18446744073709551616) (hy : y.t.size ≤ 65536) (hyn : y.n < 18446744073709551616) (h : frameT x = frameT y) : x = y := by
  have e : frameL x = frameL y := by rw [← frameT_list x, h, frameT_list]
  exact frame_front x y hx hxn hy hyn (by rw [e, List.take_of_length_le (Nat.le_refl _)])

/-- Records of texts, numbered on; their frames. -/
def recsF : List ByteArray → Nat → List Rec
  | [], _ => []
  | t :: l, n => ⟨n, t⟩ :: recsF l ((n + 1) % 18446744073709551616)
def rowF : List Rec → List UInt8
  | [] => []
  | r :: l => frameL r ++ rowF l
theorem recsF_length : ∀ l n, (recsF l n).length = l.length
  | [], _ => rfl
  | t :: l, n => by rw [recsF, List.length_cons, List.length_cons, recsF_length l]
theorem recsF_get : ∀ (l : List ByteArray) (n i : Nat) (t : ByteArray), n < 18446744073709551616 → l[i]? = some t → (recsF l n)[i]? = some ⟨(n + i) % 18446744073709551616, t⟩
  | [], _, _, _, _, h => by simp at h
  | a :: l, n, 0, t, hn, h => by
    simp at h; subst h
    rw [recsF, List.getElem?_cons_zero, Nat.add_zero, Nat.mod_eq_of_lt hn]
  | a :: l, n, i + 1, t, hn, h => by
    rw [recsF, List.getElem?_cons_succ, recsF_get l _ i t (Nat.mod_lt _ (by decide)) (by simpa using h), Nat.mod_add_mod]
    congr 2
    rw [Nat.add_assoc, Nat.add_comm 1 i]
theorem recsF_take : ∀ (l : List ByteArray) (n i : Nat) (t : ByteArray), n < 18446744073709551616 → l[i]? = some t → recsF (l.take (i + 1)) n = recsF (l.take i) n ++ [⟨(n + i) % 18446744073709551616, t⟩]
  | [], _, _, _, _, h => by simp at h
  | a :: l, n, 0, t, hn, h => by
    simp at h; subst h
    simp [recsF, Nat.mod_eq_of_lt hn]
  | a :: l, n, i + 1, t, hn, h => by
    rw [List.take_succ_cons, recsF, recsF_take l _ i t (Nat.mod_lt _ (by decide)) (by simpa using h), Nat.mod_add_mod, List.take_succ_cons, recsF, List.cons_append]
    congr 4
    rw [Nat.add_assoc, Nat.add_comm 1 i]
theorem recsF_prefix : ∀ (l : List ByteArray) (n i : Nat), recsF (l.take i) n = (recsF l n).take i
  | [], _, i => by simp [recsF]
  | a :: l, n, 0 => by simp [recsF]
  | a :: l, n, i + 1 => by rw [List.take_succ_cons, recsF, recsF, List.take_succ_cons, recsF_prefix l]
theorem rowF_append (l r : List Rec) : rowF (l ++ r) = rowF l ++ rowF r := by
  induction l with
  | nil => rfl
  | cons a l ih => rw [List.cons_append, rowF, rowF, ih, List.append_assoc]
/-- How many bytes frames of texts have. -/
def totF : List ByteArray → Nat
  | [] => 0
  | t :: l => 16 + t.size + totF l
theorem rowF_length : ∀ l n, (rowF (recsF l n)).length = totF l
  | [], _ => rfl
  | t :: l, n => by rw [recsF, rowF, List.length_append, frameL_length, rowF_length l, totF]
theorem totF_snoc : ∀ (l : List ByteArray) (i : Nat) (t : ByteArray), l[i]? = some t → totF (l.take (i + 1)) = totF (l.take i) + (16 + t.size)
  | [], _, _, h => by simp at h
  | a :: l, 0, t, h => by simp at h; subst h; simp [totF]
  | a :: l, i + 1, t, h => by
    rw [List.take_succ_cons, totF, totF_snoc l i t (by simpa using h), List.take_succ_cons, totF]; omega
theorem extract_rest (A B : List UInt8) (a : Nat) (ha : A.length = a) : (⟨(A ++ B).toArray⟩ : ByteArray).extract a (⟨(A ++ B).toArray⟩ : ByteArray).size = ⟨B.toArray⟩ := by
  subst ha
  rw [txt_extract']
  show (⟨(((A ++ B).drop A.length).take ((A ++ B).length - A.length)).toArray⟩ : ByteArray) = _
  rw [List.drop_left, List.take_of_length_le (by simp)]
/-- Frames, and what is behind them. -/
theorem scanF_row : ∀ (l : List ByteArray) (n : Nat) (rest : List UInt8), (∀ t ∈ l, t.size ≤ 65536) → n < 18446744073709551616 →
    scanF ⟨(rowF (recsF l n) ++ rest).toArray⟩ n = (recsF l n ++ (scanF ⟨rest.toArray⟩ ((n + l.length) % 18446744073709551616)).1, totF l + (scanF ⟨rest.toArray⟩ ((n + l.length) % 18446744073709551616)).2.1, (scanF ⟨rest.toArray⟩ ((n + l.length) % 18446744073709551616)).2.2)
  | [], n, rest, _, hn => by
    rw [recsF, rowF, List.nil_append, List.length_nil, Nat.add_zero, Nat.mod_eq_of_lt hn]
    simp [totF]
  | t :: l, n, rest, h, hn => by
    have ht := h t (by simp)
    have ih := scanF_row l ((n + 1) % 18446744073709551616) rest (fun x hx => h x (by simp [hx])) (Nat.mod_lt _ (by decide))
    have hd := decF_frame ⟨n, t⟩ (rowF (recsF l ((n + 1) % 18446744073709551616)) ++ rest) ht hn
    rw [recsF, rowF, List.append_assoc]
    rw [scanF_more (by rw [fr_size]; omega) (by rw [hd]) (by rw [hd]), hd]
    dsimp only
    rw [extract_rest _ _ _ (frameL_length ⟨n, t⟩), ih, Nat.mod_add_mod, List.length_cons, show n + 1 + l.length = n + (l.length + 1) by omega, totF]
    simp [Nat.add_assoc]
theorem scanF_all (l : List ByteArray) (n : Nat) (h : ∀ t ∈ l, t.size ≤ 65536) (hn : n < 18446744073709551616) : scanF ⟨(rowF (recsF l n)).toArray⟩ n = (recsF l n, totF l, 0) := by
  have := scanF_row l n [] h hn
  rw [List.append_nil, scanF_nil (s := ⟨([] : List UInt8).toArray⟩) rfl] at this
  rw [this]; simp
/-- How many frames are whole within k bytes, and how many bytes these have. -/
def cutF : List ByteArray → Nat → Nat × Nat
  | [], _ => (0, 0)
  | t :: l, k => if 16 + t.size ≤ k then ((cutF l (k - (16 + t.size))).1 + 1, (cutF l (k - (16 + t.size))).2 + (16 + t.size)) else (0, 0)
theorem cutF_le : ∀ (l : List ByteArray) (k : Nat), (cutF l k).1 ≤ l.length ∧ (cutF l k).2 ≤ k
  | [], k => ⟨Nat.le_refl _, Nat.zero_le _⟩
  | t :: l, k => by
    rw [cutF]
    split
    · have := cutF_le l (k - (16 + t.size))
      simp only [List.length_cons]; omega
    · exact ⟨Nat.zero_le _, Nat.zero_le _⟩
/-- Frames that were cut off. -/
theorem scanF_cut : ∀ (l : List ByteArray) (n k : Nat), (∀ t ∈ l, t.size ≤ 65536) → n < 18446744073709551616 → k ≤ totF l →
    scanF ⟨((rowF (recsF l n)).take k).toArray⟩ n = ((recsF l n).take (cutF l k).1, (cutF l k).2, if (cutF l k).2 = k then 0 else 100)
  | [], n, k, _, _, hk => by
    have : k = 0 := by simpa [totF] using hk
    subst this
    rw [scanF_nil (by rfl)]
    simp [recsF, cutF]
  | t :: l, n, k, h, hn, hk => by
    have ht := h t (by simp)
    rw [recsF, rowF, cutF]
    have hfl := frameL_length ⟨n, t⟩
    by_cases hc : 16 + t.size ≤ k
    · rw [if_pos hc]
      have ih := scanF_cut l ((n + 1) % 18446744073709551616) (k - (16 + t.size)) (fun x hx => h x (by simp [hx])) (Nat.mod_lt _ (by decide)) (by rw [totF] at hk; omega)
      have e : (frameL ⟨n, t⟩ ++ rowF (recsF l ((n + 1) % 18446744073709551616))).take k = frameL ⟨n, t⟩ ++ (rowF (recsF l ((n + 1) % 18446744073709551616))).take (k - (16 + t.size)) := by
        rw [List.take_append, List.take_of_length_le (by rw [hfl]; exact hc), hfl]
      have hd := decF_frame ⟨n, t⟩ ((rowF (recsF l ((n + 1) % 18446744073709551616))).take (k - (16 + t.size))) ht hn
      rw [e, scanF_more (by rw [fr_size]; omega) (by rw [hd]) (by rw [hd]), hd]
      dsimp only
      rw [extract_rest _ _ _ hfl, ih]
      have q : (cutF l (k - (16 + t.size))).2 + (16 + t.size) = k ↔ (cutF l (k - (16 + t.size))).2 = k - (16 + t.size) := by omega
      simp only [List.take_succ_cons, q]
      rw [Nat.add_comm (cutF l (k - (16 + t.size))).2]
    · rw [if_neg hc]
      have e : (frameL ⟨n, t⟩ ++ rowF (recsF l ((n + 1) % 18446744073709551616))).take k = (frameL ⟨n, t⟩).take k := by
        rw [List.take_append_of_le_length (by rw [hfl]; show k ≤ 16 + t.size; omega)]
      rw [e]
      by_cases h0 : k = 0
      · subst h0
        rw [scanF_nil (by rfl)]
        simp
      · have hd := decF_cut ⟨n, t⟩ ht k (by show k < 16 + t.size; omega)
        rw [scanF_bad (by show ((frameL ⟨n, t⟩).take k).length ≠ 0; rw [List.length_take, hfl]; omega) (by rw [hd]; decide), hd]
        simp [show ¬ 0 = k by omega]
end Go.Proofs.YtbekdcpdfmfopaaGreat
end
