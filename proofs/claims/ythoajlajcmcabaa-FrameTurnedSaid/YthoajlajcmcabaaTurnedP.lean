/- Plain: frames in which bits within 32 in a row are turned about are told. No function of the program is named here. -/
import Derived.Test.YthoajlajcmcabaaFrameP
import Derived.Test.YthoajlajcmcabaaTurnB
namespace Go.Proofs.Ythoajlajcmcabaa

theorem bitL_drop (l : List UInt8) (a j : Nat) : bitL (l.drop a) j = bitL l (8 * a + j) := by
  unfold bitL
  rw [List.getD_eq_getElem?_getD, List.getD_eq_getElem?_getD, List.getElem?_drop, show (8 * a + j) / 8 = a + j / 8 by omega, show (8 * a + j) % 8 = j % 8 by omega]
theorem bitL_take (l : List UInt8) (n j : Nat) (h : j < 8 * n) : bitL (l.take n) j = bitL l j := by
  unfold bitL
  rw [List.getD_eq_getElem?_getD, List.getD_eq_getElem?_getD, List.getElem?_take, if_pos (by omega)]
theorem bitL_left (a b : List UInt8) (j : Nat) (h : j < 8 * a.length) : bitL (a ++ b) j = bitL a j := by
  unfold bitL
  rw [List.getD_eq_getElem?_getD, List.getD_eq_getElem?_getD, List.getElem?_append_left (by omega)]
theorem bitL_right (a b : List UInt8) (j : Nat) : bitL (a ++ b) (8 * a.length + j) = bitL b j := by
  unfold bitL
  rw [List.getD_eq_getElem?_getD, List.getD_eq_getElem?_getD, show (8 * a.length + j) / 8 = a.length + j / 8 by omega, show (8 * a.length + j) % 8 = j % 8 by omega, List.getElem?_append_right (by omega), Nat.add_sub_cancel_left]
/-- Bytes with the same bits are the same. -/
theorem bits_same (l r : List UInt8) (hl : r.length = l.length) (h : ∀ j, j < 8 * l.length → bitL r j = bitL l j) : r = l := by
  apply List.ext_getElem hl
  intro p h1 h2
  apply UInt8.toNat_inj.1
  apply Nat.eq_of_testBit_eq
  intro q
  by_cases hq : q < 8
  · have := h (8 * p + q) (by omega)
    unfold bitL at this
    rw [show (8 * p + q) / 8 = p by omega, show (8 * p + q) % 8 = q by omega, List.getD_eq_getElem?_getD, List.getD_eq_getElem?_getD, List.getElem?_eq_getElem h1, List.getElem?_eq_getElem h2] at this
    exact this
  · rw [Nat.testBit_lt_two_pow (Nat.lt_of_lt_of_le r[p].toNat_lt (Nat.pow_le_pow_right (by decide) (by omega))), Nat.testBit_lt_two_pow (Nat.lt_of_lt_of_le l[p].toNat_lt (Nat.pow_le_pow_right (by decide) (by omega)))]
theorem winN_out (T : BitVec 32) (k m j : Nat) (h : j < k ∨ k + m ≤ j) : winN T k m j = false := by
  unfold winN
  have : decide (k ≤ j ∧ j < k + m) = false := by simp; omega
  rw [this, Bool.false_and]
theorem winN_shift (T : BitVec 32) (a k m j : Nat) : winN T (a + k) m (a + j) = winN T k m j := by
  unfold winN
  rw [show a + j - (a + k) = j - k by omega]
  congr 1
  have : (a + k ≤ a + j ∧ a + j < a + k + m) ↔ (k ≤ j ∧ j < k + m) := by omega
  simp only [this]
/-- No bit is turned: the same bytes. -/
theorem Turned.none {l r : List UInt8} {T : BitVec 32} {k m : Nat} (h : Turned l T k m r) (h0 : ∀ i, i < m → T.getLsbD i = false) : r = l :=
  bits_same l r h.1 (fun j hj => by
    rw [h.2 j hj]
    have : winN T k m j = false := by
      by_cases hw : k ≤ j ∧ j < k + m
      · unfold winN; rw [h0 (j - k) (by omega), Bool.and_false]
      · exact winN_out T k m j (by omega)
    rw [this, Bool.xor_false])
/-- Ahead of the turned bits all is as it was. -/
theorem Turned.front {l r : List UInt8} {T : BitVec 32} {a k m : Nat} (h : Turned l T (8 * a + k) m r) (ha : a ≤ l.length) : r.take a = l.take a :=
  bits_same _ _ (by rw [List.length_take, List.length_take, h.1]) (fun j hj => by
    rw [List.length_take] at hj
    rw [bitL_take _ _ _ (by omega), bitL_take _ _ _ (by omega), h.2 j (by omega), winN_out _ _ _ _ (by omega), Bool.xor_false])
theorem Turned.behind {l r : List UInt8} {T : BitVec 32} {k m b : Nat} (h : Turned l T k m r) (hb : k + m ≤ 8 * b) : r.drop b = l.drop b :=
  bits_same _ _ (by rw [List.length_drop, List.length_drop, h.1]) (fun j hj => by
    rw [List.length_drop] at hj
    rw [bitL_drop, bitL_drop, h.2 _ (by omega), winN_out _ _ _ _ (by omega), Bool.xor_false])
theorem Turned.rest {l r : List UInt8} {T : BitVec 32} {a k m : Nat} (h : Turned l T (8 * a + k) m r) : Turned (l.drop a) T k m (r.drop a) :=
  ⟨by rw [List.length_drop, List.length_drop, h.1], fun j hj => by
    rw [List.length_drop] at hj
    rw [bitL_drop, bitL_drop, h.2 _ (by omega), winN_shift]⟩
/-- A bit that is turned is another one. -/
theorem Turned.other {l r : List UInt8} {T : BitVec 32} {k m i : Nat} (h : Turned l T k m r) (hi : i < m) (hb : T.getLsbD i = true) (hk : k + i < 8 * l.length) : bitL r (k + i) ≠ bitL l (k + i) := by
  rw [h.2 _ hk]
  have : winN T k m (k + i) = true := by
    unfold winN
    rw [Nat.add_sub_cancel_left, hb, Bool.and_true, decide_eq_true_eq]
    omega
  rw [this, Bool.xor_true]
  cases bitL l (k + i) <;> decide
/-- Sums of texts that differ in bits within 32 in a row, wherever these are. -/
theorem apart_m (c T : BitVec 32) (k m : Nat) (l r : List UInt8) (hl : l.length = r.length) (hm : m ≤ 32) (hk : k + m ≤ 8 * l.length) (h4 : 4 ≤ l.length) (h : ∀ j, j < 8 * l.length → bitL r j = (bitL l j ^^ winN T k m j)) (i : Nat) (hi : i < m) (hb : T.getLsbD i = true) : moreC c r ≠ moreC c l := by
  obtain ⟨k2, d, hkd, hk2, hd⟩ : ∃ k2 d, k = k2 + d ∧ k2 + 32 ≤ 8 * l.length ∧ d + m ≤ 32 := by
    by_cases hc : k + 32 ≤ 8 * l.length
    · exact ⟨k, 0, rfl, hc, by omega⟩
    · exact ⟨8 * l.length - 32, k - (8 * l.length - 32), by omega, by omega, by omega⟩
  subst hkd
  have hbit : ∀ q, (((T.setWidth m).setWidth 32) <<< d).getLsbD q = (decide (q < 32) && (!decide (q < d)) && (decide (q - d < m) && T.getLsbD (q - d))) := fun q => by
    rw [BitVec.getLsbD_shiftLeft, BitVec.getLsbD_setWidth, BitVec.getLsbD_setWidth]
    by_cases h1 : q < 32
    · by_cases h2 : q < d
      · simp [h2]
      · have h3 : q - d < 32 := by omega
        simp [h1, h2, h3]
    · simp [h1]
  intro e
  have hz := (apart c (((T.setWidth m).setWidth 32) <<< d) k2 l r hl hk2 (fun j hj => by
    rw [h j hj]
    congr 1
    unfold winN win
    rw [hbit]
    by_cases hw : k2 + d ≤ j ∧ j < k2 + d + m
    · have a1 : decide (k2 + d ≤ j ∧ j < k2 + d + m) = true := by simpa using hw
      have a2 : decide (k2 ≤ j ∧ j < k2 + 32) = true := by simp; omega
      have a3 : decide (j - k2 < 32) = true := by simp; omega
      have a4 : decide (j - k2 < d) = false := by simp; omega
      have a5 : decide (j - k2 - d < m) = true := by simp; omega
      rw [a1, a2, a3, a4, a5, show j - k2 - d = j - (k2 + d) by omega]
      simp
    · have a1 : decide (k2 + d ≤ j ∧ j < k2 + d + m) = false := by simp; omega
      rw [a1, Bool.false_and]
      by_cases h2 : k2 ≤ j ∧ j < k2 + 32
      · by_cases h3 : j - k2 < d
        · simp [h3]
        · have a5 : decide (j - k2 - d < m) = false := by simp; omega
          rw [a5]; simp
      · have a2 : decide (k2 ≤ j ∧ j < k2 + 32) = false := by simpa using h2
        rw [a2, Bool.false_and])).1 e
  have h2 := hbit (d + i)
  rw [hz, Nat.add_sub_cancel_left, hb] at h2
  have a1 : decide (d + i < 32) = true := by simp; omega
  have a2 : decide (d + i < d) = false := by simp
  have a3 : decide (i < m) = true := by simpa using hi
  rw [a1, a2, a3] at h2
  simp at h2
theorem sumN_ne {l r : List UInt8} (h : moreC 0#32 r ≠ moreC 0#32 l) : sumN r ≠ sumN l := fun e => h (BitVec.eq_of_toNat_eq e)
section
variable {r : Rec} {B X : List UInt8} {T : BitVec 32} {j m i : Nat}
theorem decF_told (hX : X.length = (frameL r ++ B).length) (ht : r.t.size ≤ 65536) (h4 : X.take 4 = (frameL r ++ B).take 4) (hs : num ((X.drop 12).take 4) ≠ sumN (X.take 12 ++ (X.drop 16).take r.t.size)) : decF ⟨X.toArray⟩ = (Rec.zero, 0, 101) := by
  have hz : (⟨X.toArray⟩ : ByteArray).size = 16 + r.t.size + B.length := by
    show X.length = _
    rw [hX, List.length_append, frameL_length]
  have hn : numAt ⟨X.toArray⟩ 0 4 = r.t.size := by
    rw [← fr_len r B ht]
    unfold numAt
    show num ((X.drop 0).take 4) = num (((frameL r ++ B).drop 0).take 4)
    rw [List.drop_zero, List.drop_zero, h4]
  refine decF_sum (by omega) (by omega) (by omega) (fun h => hs ?_)
  unfold Sums at h
  rw [hn] at h
  exact h
theorem fr_sums (r : Rec) (B : List UInt8) : num (((frameL r ++ B).drop 12).take 4) = sumN ((frameL r ++ B).take 12 ++ ((frameL r ++ B).drop 16).take r.t.size) := by
  have := fr_sum r B
  unfold numAt at this
  rw [fr_head, fr_text r B rfl]
  exact this
theorem msg_length (Y : List UInt8) (t : Nat) (h : 16 + t ≤ Y.length) : (Y.take 12 ++ (Y.drop 16).take t).length = 12 + t := by
  rw [List.length_append, List.length_take, List.length_take, List.length_drop]; omega
/-- The bits of what is summed. -/
theorem msg_low (Y : List UInt8) (t q : Nat) (h : 16 + t ≤ Y.length) (hq : q < 96) : bitL (Y.take 12 ++ (Y.drop 16).take t) q = bitL Y q := by
  rw [bitL_left _ _ _ (by rw [List.length_take]; omega), bitL_take _ _ _ (by omega)]
theorem msg_high (Y : List UInt8) (t q : Nat) (h : 16 + t ≤ Y.length) (hq : q < 8 * t) : bitL (Y.take 12 ++ (Y.drop 16).take t) (96 + q) = bitL Y (128 + q) := by
  have hl : (Y.take 12).length = 12 := by rw [List.length_take]; omega
  have := bitL_right (Y.take 12) ((Y.drop 16).take t) q
  rw [hl] at this
  rw [show 96 + q = 8 * 12 + q by omega, this, bitL_take _ _ _ hq, bitL_drop]
/-- Bits of the number. -/
theorem told_num (hT : Turned (frameL r ++ B) T (32 + j) m X) (ht : r.t.size ≤ 65536) (hm : m ≤ 32) (hj : j + m ≤ 64) (hi : i < m) (hb : T.getLsbD i = true) : decF ⟨X.toArray⟩ = (Rec.zero, 0, 101) := by
  have hYl : (frameL r ++ B).length = 16 + r.t.size + B.length := by rw [List.length_append, frameL_length]
  have h4 := Turned.front (a := 4) (k := j) hT (by omega)
  have h12 := Turned.behind (b := 12) hT (by omega)
  have h16 : X.drop 16 = (frameL r ++ B).drop 16 := Turned.behind (b := 16) hT (by omega)
  refine decF_told hT.1 ht h4 ?_
  rw [h12, fr_sums r B]
  refine (sumN_ne ?_).symm
  refine apart_m 0#32 T (32 + j) m _ _ (by rw [msg_length _ _ (by omega), msg_length _ _ (by rw [hT.1]; omega)]) hm (by rw [msg_length _ _ (by omega)]; omega) (by rw [msg_length _ _ (by omega)]; omega) (fun q hq => ?_) i hi hb
  rw [msg_length _ _ (by omega)] at hq
  by_cases h96 : q < 96
  · rw [msg_low _ _ _ (by rw [hT.1]; omega) h96, msg_low _ _ _ (by omega) h96]
    exact hT.2 q (by omega)
  · obtain ⟨p, rfl⟩ : ∃ p, q = 96 + p := ⟨q - 96, by omega⟩
    rw [msg_high _ _ _ (by rw [hT.1]; omega) (by omega), msg_high _ _ _ (by omega) (by omega), hT.2 _ (by omega), winN_out _ _ _ _ (by omega), winN_out _ _ _ _ (by omega)]
/-- Bits of the text. -/
theorem told_text (hT : Turned (frameL r ++ B) T (128 + j) m X) (ht : r.t.size ≤ 65536) (hm : m ≤ 32) (hj : j + m ≤ 8 * r.t.size) (hi : i < m) (hb : T.getLsbD i = true) : decF ⟨X.toArray⟩ = (Rec.zero, 0, 101) := by
  have hYl : (frameL r ++ B).length = 16 + r.t.size + B.length := by rw [List.length_append, frameL_length]
  have h16 := Turned.front (a := 16) (k := j) hT (by omega)
  have h4 : X.take 4 = (frameL r ++ B).take 4 := by
    have := congrArg (List.take 4) h16
    simpa [List.take_take] using this
  have h12 : (X.drop 12).take 4 = ((frameL r ++ B).drop 12).take 4 := by
    have := congrArg (List.drop 12) h16
    rw [List.drop_take, List.drop_take] at this
    exact this
  refine decF_told hT.1 ht h4 ?_
  rw [h12, fr_sums r B]
  refine (sumN_ne ?_).symm
  refine apart_m 0#32 T (96 + j) m _ _ (by rw [msg_length _ _ (by omega), msg_length _ _ (by rw [hT.1]; omega)]) hm (by rw [msg_length _ _ (by omega)]; omega) (by rw [msg_length _ _ (by omega)]; omega) (fun q hq => ?_) i hi hb
  rw [msg_length _ _ (by omega)] at hq
  by_cases h96 : q < 96
  · rw [msg_low _ _ _ (by rw [hT.1]; omega) h96, msg_low _ _ _ (by omega) h96, hT.2 q (by omega), winN_out _ _ _ _ (by omega), winN_out _ _ _ _ (by omega)]
  · obtain ⟨p, rfl⟩ : ∃ p, q = 96 + p := ⟨q - 96, by omega⟩
    rw [msg_high _ _ _ (by rw [hT.1]; omega) (by omega), msg_high _ _ _ (by omega) (by omega), hT.2 _ (by omega), winN_shift, winN_shift]
/-- Bits of the sum. -/
theorem told_sum (hT : Turned (frameL r ++ B) T (96 + j) m X) (ht : r.t.size ≤ 65536) (hj : j + m ≤ 32) (hi : i < m) (hb : T.getLsbD i = true) : decF ⟨X.toArray⟩ = (Rec.zero, 0, 101) := by
  have hYl : (frameL r ++ B).length = 16 + r.t.size + B.length := by rw [List.length_append, frameL_length]
  have h12 := Turned.front (a := 12) (k := j) hT (by omega)
  have h4 : X.take 4 = (frameL r ++ B).take 4 := by
    have := congrArg (List.take 4) h12
    simpa [List.take_take] using this
  have h16 := Turned.behind (b := 16) hT (by omega)
  refine decF_told hT.1 ht h4 ?_
  rw [h12, h16, ← fr_sums r B]
  intro e
  have e2 := num_inj _ _ (by rw [List.length_take, List.length_take, List.length_drop, List.length_drop, hT.1]) e
  refine Turned.other hT hi hb (by omega) ?_
  have e3 : bitL ((X.drop 12).take 4) (j + i) = bitL (((frameL r ++ B).drop 12).take 4) (j + i) := by rw [e2]
  rw [bitL_take _ _ _ (by omega), bitL_take _ _ _ (by omega), bitL_drop, bitL_drop] at e3
  rw [show 96 + j + i = 8 * 12 + (j + i) by omega]
  exact e3
end
/-- Frames of which one's bits are turned: all ahead of it is read. -/
theorem scanF_told (l : List ByteArray) (n kk : Nat) (t : ByteArray) (h : ∀ t ∈ l, t.size ≤ 65536) (hn : n < 18446744073709551616) (hk : l[kk]? = some t) (T : BitVec 32) (low bits j m i : Nat) (R : List UInt8)
    (hlow : low = 4 ∧ bits = 64 ∨ low = 12 ∧ bits = 32 ∨ low = 16 ∧ bits = 8 * t.size) (hm : m ≤ 32) (hj : j + m ≤ bits) (hi : i < m) (hb : T.getLsbD i = true)
    (hT : Turned (rowF (recsF l n)) T (8 * (totF (l.take kk) + low) + j) m R) : scanF ⟨R.toArray⟩ n = ((recsF l n).take kk, totF (l.take kk), 101) := by
  obtain ⟨hkl, hkt⟩ := List.getElem?_eq_some_iff.1 hk
  have hsplit : ∃ B, rowF (recsF l n) = rowF (recsF (l.take kk) n) ++ (frameL ⟨(n + kk) % 18446744073709551616, t⟩ ++ B) := by
    refine ⟨rowF ((recsF l n).drop (kk + 1)), ?_⟩
    have h1 := recsF_take l n kk t hn hk
    have h2 := recsF_prefix l n (kk + 1)
    conv => lhs; rw [← List.take_append_drop (kk + 1) (recsF l n), ← h2, h1, rowF_append, rowF_append]
    rw [List.append_assoc]
    simp [rowF]
  obtain ⟨B, hB⟩ := hsplit
  have hA : (rowF (recsF (l.take kk) n)).length = totF (l.take kk) := rowF_length _ _
  have hal : totF (l.take kk) ≤ (rowF (recsF l n)).length := by rw [hB, List.length_append, hA]; omega
  have hT2 : Turned (rowF (recsF l n)) T (8 * totF (l.take kk) + (8 * low + j)) m R := by
    rw [show 8 * totF (l.take kk) + (8 * low + j) = 8 * (totF (l.take kk) + low) + j by omega]; exact hT
  have hfr := hT2.front hal
  have hre := hT2.rest
  have hd : (rowF (recsF l n)).drop (totF (l.take kk)) = frameL ⟨(n + kk) % 18446744073709551616, t⟩ ++ B := by rw [hB, ← hA, List.drop_left]
  have ha : (rowF (recsF l n)).take (totF (l.take kk)) = rowF (recsF (l.take kk) n) := by rw [hB, ← hA, List.take_left]
  rw [hd] at hre
  rw [ha] at hfr
  have ht := h t (List.mem_of_getElem? hk)
  have hdec : decF ⟨(R.drop (totF (l.take kk))).toArray⟩ = (Rec.zero, 0, 101) := by
    rcases hlow with ⟨rfl, rfl⟩ | ⟨rfl, rfl⟩ | ⟨rfl, rfl⟩
    · exact told_num hre ht hm hj hi hb
    · exact told_sum hre ht hj hi hb
    · exact told_text hre ht hm hj hi hb
  have hR : R = rowF (recsF (l.take kk) n) ++ R.drop (totF (l.take kk)) := by
    conv => lhs; rw [← List.take_append_drop (totF (l.take kk)) R, hfr]
  have hsz : (⟨(R.drop (totF (l.take kk))).toArray⟩ : ByteArray).size ≠ 0 := by
    show (R.drop (totF (l.take kk))).length ≠ 0
    rw [hre.1, List.length_append, frameL_length]; omega
  conv => lhs; rw [hR]
  rw [scanF_row (l.take kk) n _ (fun t ht => h t (List.mem_of_mem_take ht)) hn, scanF_bad hsz (by rw [hdec]; decide), hdec, recsF_prefix]
  simp
end Go.Proofs.Ythoajlajcmcabaa
