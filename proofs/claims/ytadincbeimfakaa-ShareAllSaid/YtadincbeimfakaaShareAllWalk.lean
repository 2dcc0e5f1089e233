/- The walk of layer 6's statement ShareAll. -/
import Derived.Test.YtadincbeimfakaaShareWorks
import Derived.Test.YtadincbeimfakaaShareP
import Derived.Test.YtadincbeimfakaaGAdd
import Derived.Test.YtadincbeimfakaaGSecret
import Derived.Test.YtadincbeimfakaaPSplit
import Derived.Test.YtadincbeimfakaaHeavy
import Derived.Deep.DeepCutAuto
import Derived.Deep.LoopGhost
import Derived.Outline
namespace Go.Proofs.Ytadincbeimfakaa
open Go.RowKit
attribute [local irreducible] xorL xorAll textsOf fullN

theorem bytes_back (l : List UInt8) (s : ByteArray) (h : l = s.data.toList) : (⟨l.toArray⟩ : ByteArray) = s := by
  subst h
  apply ByteArray.ext
  simp
theorem one_text (w : World) (s : ByteArray) : TextsP (w.alloc (.cells #[.string s] 9)) (some ⟨w.heap.size, 0, none⟩) [s] := fun i t ht => by
  match i, ht with
  | 0, ht =>
    simp at ht
    subst ht
    have hb := Blk.new w [.string s] 9
    exact ⟨_, rfl, hb.lt, by rw [show (⟨w.heap.size, 0, none⟩ : Addr).add 0 = ⟨w.heap.size, 0, none⟩ from rfl]; exact hb.cell 0 _ rfl⟩
  | i + 1, ht => simp at ht
/-- Two Gathers with the same shares. -/
structure Two (w0 w : World) (g1 b1 g2 b2 n m : Nat) (L1 L2 : List (Nat × ByteArray)) : Prop where
  one : IsG w g1 b1 n m L1
  two : IsG w g2 b2 n m L2
  ext : Ext w0 w
section
variable {w0 w w' : World} {g1 b1 g2 b2 n m : Nat} {L1 L2 L : List (Nat × ByteArray)}
theorem Two.move (h : Two w0 w g1 b1 g2 b2 n m L1 L2) (hx : Ext w w') : Two w0 w' g1 b1 g2 b2 n m L1 L2 := ⟨h.one.ext hx, h.two.ext hx, h.ext.trans hx⟩
theorem Two.first (h : Two w0 w g1 b1 g2 b2 n m L1 L2) (hn : IsG w' g1 b1 n m L) (hg : w.grownBy w' (some b1)) (h1 : g2 ≠ b1) (h2 : b2 ≠ b1) (h3 : w0.heap.size ≤ b1) : Two w0 w' g1 b1 g2 b2 n m L L2 :=
  ⟨hn, h.two.other hg h1 h2, h.ext.grown hg (fun k hk => by cases hk; exact h3)⟩
theorem Two.second (h : Two w0 w g1 b1 g2 b2 n m L1 L2) (hn : IsG w' g2 b2 n m L) (hg : w.grownBy w' (some b2)) (h1 : g1 ≠ b2) (h2 : b1 ≠ b2) (h3 : w0.heap.size ≤ b2) : Two w0 w' g1 b1 g2 b2 n m L1 L :=
  ⟨h.one.other hg h1 h2, hn, h.ext.grown hg (fun k hk => by cases hk; exact h3)⟩
end
/-- A share of a row comes. -/
theorem add_row (S : List ByteArray) (k j n m : Nat) (s : ByteArray) (hs : S[j]? = some s) (hjk : j ≠ k) (hn : n = S.length) (hm : s.size = m) (hm1 : 1 ≤ m) (hm2 : m ≤ 64) (hn2 : n ≤ 16) (u : World) (g b : Nat) (h : IsG u g b n m (part S k j)) :
    Calls Try.prog 15 #[.pointer (some ⟨g, 0, none⟩), .string (shareT (j + 1) n s)] u fun e u' => e = .returned (.int .i64 0) ∧ IsG u' g b n m (part S k (j + 1)) ∧ u.grownBy u' (some b) := by
  have hj : j < S.length := (List.getElem?_eq_some_iff.1 hs).1
  have hh := add_ok u g b n m (part S k j) (shareT (j + 1) n s) (j + 1) h (shareT_of _ _ _ (by omega) (by omega) hn2 (by omega) (by omega)) (by rw [shareT_size]; omega) (fun x hx => by have := part_mem S k j x hx; omega)
  rw [shareT_rest, ← part_step S k j s hs hjk] at hh
  exact hh
/-- The last one comes. -/
theorem add_last (S : List ByteArray) (k n m : Nat) (t : ByteArray) (hk : k < S.length) (hn : n = S.length) (hm : t.size = m) (hm1 : 1 ≤ m) (hm2 : m ≤ 64) (hn2 : n ≤ 16) (u : World) (g b : Nat) (h : IsG u g b n m (part S k n)) :
    Calls Try.prog 15 #[.pointer (some ⟨g, 0, none⟩), .string (shareT (k + 1) n t)] u fun e u' => e = .returned (.int .i64 0) ∧ IsG u' g b n m (part S k n ++ [(k + 1, t)]) ∧ u.grownBy u' (some b) := by
  have hh := add_ok u g b n m (part S k n) (shareT (k + 1) n t) (k + 1) h (shareT_of _ _ _ (by omega) (by omega) hn2 (by omega) (by omega)) (by rw [shareT_size]; omega) (fun x hx => (part_mem S k n x hx).2.2.1)
  rw [shareT_rest] at hh
  exact hh
theorem add_again (S : List ByteArray) (k n m : Nat) (t : ByteArray) (hk : k < S.length) (hn : n = S.length) (hm : t.size = m) (hm1 : 1 ≤ m) (hm2 : m ≤ 64) (hn2 : n ≤ 16) (u : World) (g b : Nat) (h : IsG u g b n m (part S k n ++ [(k + 1, t)])) :
    Calls Try.prog 15 #[.pointer (some ⟨g, 0, none⟩), .string (shareT (k + 1) n t)] u fun e u' => e = .returned (.int .i64 8) ∧ Ext u u' :=
  add_have u g b n m _ (shareT (k + 1) n t) (k + 1) h (shareT_of _ _ _ (by omega) (by omega) hn2 (by omega) (by omega)) (by rw [shareT_size]; omega) t (by simp)
/-- All have come. -/
theorem secret_row (S : List ByteArray) (k n m : Nat) (t res : ByteArray) (hk : k < S.length) (hn : n = S.length) (hr : ∀ s0 St, S.set k t = s0 :: St → xorAll s0.data.toList St = res.data.toList) (u : World) (g b : Nat) (h : IsG u g b n m (part S k n ++ [(k + 1, t)])) :
    Calls Try.prog 18 #[.pointer (some ⟨g, 0, none⟩)] u fun e u' => e = .returned (.tuple #[.string res, .bool true]) ∧ Ext u u' := by
  have hl : (S.set k t).length = n := by simp [hn]
  cases hS : S.set k t with
  | nil => rw [hS] at hl; simp at hl; omega
  | cons s0 St =>
    have hh := secret_yes u g b n m _ h (by rw [hn, full_length S k t hk]) s0 St (by rw [hS] at hl; simpa using hl) (fun j s hj => by
      rw [hn]
      exact full_in S k t j s (by rw [hS]; exact hj) hk)
    rw [bytes_back _ res (hr s0 St hS)] at hh
    exact hh
theorem set_self (S : List ByteArray) (k : Nat) (s : ByteArray) (h : S[k]? = some s) : S.set k s = S := by
  apply List.ext_getElem?
  intro i
  by_cases e : i = k
  · subst e
    rw [List.getElem?_set_self (List.getElem?_eq_some_iff.1 h).1, h]
  · rw [List.getElem?_set_ne (Ne.symm e)]
set_option maxRecDepth 100000 in
set_option maxHeartbeats 8000000 in
theorem ShareAll_walk (secret other : ByteArray) (p : Option Addr) (c : Nat) (l : List ByteArray) (last : Int) (W : World) (z0 : secret.size ≤ 140737488351232) (z1 : other.size ≤ 140737488351232) (hT : TextsP W p l) (hl : l.length ≤ 140737488355328) (hs : ∀ s, s ∈ l → s.size ≤ 140737488351232) (z3 : 0 ≤ last ∧ last ≤ 255) :
    Calls Try.prog 5 #[.string secret, .string other, .slice p l.length c, .int .u8 last] W fun e W' => e = .returned (.bool true) ∧ Ext W W' := by
  by_cases hh : Heavy l
  · have HH := Lib.hid (heavy_yes W p c l hT hs hl hh)
    clear hh hT hs
    go_enter Try.func5, Try.ntmps5
    go_wp2_with (first
      | (go_at_call 7; refine (HH.out).mono ?_; rintro e w1 ⟨rfl, rfl⟩)
      | (go_at_call 8; refine (share_works _).mono ?_; rintro e w1 ⟨rfl, h1⟩))
    go_ret
    exact ⟨rfl, h1⟩
  · have HH := Lib.hid (heavy_no W p c l hT hs hl hh)
    obtain ⟨l50, l4096⟩ := not_heavy hh
    clear hh hs
    by_cases h4 : 16 ≤ l.length ∨ secret.size < 1 ∨ 64 < secret.size ∨ 1024 < other.size
    · have hcase : (16 : Int) ≤ (l.length : Int) ∨ (¬ (16 : Int) ≤ (l.length : Int) ∧ (secret.size : Int) < 1) ∨ (¬ (16 : Int) ≤ (l.length : Int) ∧ ¬ (secret.size : Int) < 1 ∧ (64 : Int) < (secret.size : Int)) ∨ (¬ (16 : Int) ≤ (l.length : Int) ∧ ¬ (secret.size : Int) < 1 ∧ ¬ (64 : Int) < (secret.size : Int) ∧ (1024 : Int) < (other.size : Int)) := by omega
      clear hT l4096 h4
      go_enter Try.func5, Try.ntmps5
      rcases hcase with q | ⟨q1, q2⟩ | ⟨q1, q2, q3⟩ | ⟨q1, q2, q3, q4⟩
      all_goals
        go_wp2_with (first
          | (go_at_call 7; refine (HH.out).mono ?_; rintro e w1 ⟨rfl, rfl⟩)
          | (go_at_call 8; refine (share_works _).mono ?_; rintro e w1 ⟨rfl, h1⟩))
        go_ret
        exact ⟨rfl, h1⟩
    · have h16 : l.length < 16 := by omega
      have h1 : 1 ≤ secret.size := by omega
      have h64 : secret.size ≤ 64 := by omega
      have ho24 : other.size ≤ 1024 := by omega
      obtain ⟨k, hk, hkl⟩ : ∃ k : Nat, last % ((l.length : Int) + 1) = (k : Int) ∧ k ≤ l.length := by
        have q1 := Int.emod_nonneg last (show ((l.length : Int) + 1) ≠ 0 by omega)
        have q2 := Int.emod_lt_of_pos last (show (0 : Int) < (l.length : Int) + 1 by omega)
        exact ⟨(last % ((l.length : Int) + 1)).toNat, by omega, by omega⟩
      have hsz := textsOf_size l secret.size
      have htl := textsOf_length l secret.size
      have HTX := Lib.hid ((texts_any W p c l secret.size (by omega) l50 hT).mono fun e w' he => (show ∃ q c', e = .returned (.slice q l.length c') ∧ TextsP w' q (textsOf l secret.size) ∧ Ext W w' from by
        obtain ⟨v, rfl, hb, hx⟩ := he
        obtain ⟨q, c', rfl, ht, -⟩ := hb.texts
        exact ⟨q, c', by rw [htl], ht, hx⟩))
      have hSl := splitT_length secret (textsOf l secret.size)
      rw [htl] at hSl
      have HSp := Lib.hid (fun u q c' (ht : TextsP u q (textsOf l secret.size)) => (split_yes u secret q c' (textsOf l secret.size) h1 h64 (by rw [htl]; exact h16) ht hsz).mono fun e w' he => (show ∃ q2 c2, e = .returned (.tuple #[.slice q2 (l.length + 1) c2, .int .i64 0]) ∧ TextsP w' q2 (splitT secret (textsOf l secret.size)) ∧ Ext u w' from by
        obtain ⟨v, rfl, hb, hx⟩ := he
        obtain ⟨q2, c2, rfl, ht2, -⟩ := hb.texts
        exact ⟨q2, c2, by rw [hSl], ht2, hx⟩))
      rw [htl] at HSp
      have hO : (⟨(fullN other secret.size).toArray⟩ : ByteArray).size = secret.size := by rw [txt_size, fullN_length]
      have hAl := allT_length secret (textsOf l secret.size)
      rw [htl] at hAl
      have HAl := Lib.hid hAl
      have HAs := Lib.hid (allT_size secret (textsOf l secret.size) hsz)
      have hGet := splitT_get secret (textsOf l secret.size)
      rw [htl] at hGet
      have HGet := Lib.hid hGet
      have HSec := Lib.hid (allT_secret secret (textsOf l secret.size) hsz)
      have HOth := Lib.hid (other_secret secret ⟨(fullN other secret.size).toArray⟩ (textsOf l secret.size) hsz hO k)
      have HTO := Lib.hid (fun u q c' (ht : TextsP u q [other]) => (show Calls Try.prog 9 #[.slice q 1 c', .int .i64 (secret.size : Int)] u fun e w' => ∃ v, e = .returned v ∧ BufS w' u.heap.size v (textsOf [other] secret.size) ∧ Ext u w' from texts_any u q c' [other] secret.size (by omega) (by simp) ht).mono fun e w' he => (show ∃ g c2, e = .returned (.slice (some ⟨g, 0, none⟩) 1 c2) ∧ w'.cell? ⟨g, 0, none⟩ = some (.string ⟨(fullN other secret.size).toArray⟩) ∧ Ext u w' from by
        obtain ⟨v, rfl, hb, hx⟩ := he
        rw [textsOf_one] at hb
        obtain ⟨g, c2, rfl, _, hc⟩ := hb.sl (by simp)
        exact ⟨g, c2, rfl, hc 0 _ rfl, hx⟩))
      generalize (⟨(fullN other secret.size).toArray⟩ : ByteArray) = O at *
      generalize allT secret (textsOf l secret.size) = S at *
      generalize splitT secret (textsOf l secret.size) = T at *
      obtain ⟨sk, hsk⟩ : ∃ s, S[k]? = some s := ⟨_, List.getElem?_eq_getElem (by rw [HAl.out]; omega)⟩
      have HSk := Lib.hid hsk
      have HO := Lib.hid hO
      clear hT l4096 h4 hsz htl hSl hAl hGet hsk hO
      go_enter Try.func5, Try.ntmps5
      go_wp2_with (first
        | (go_at_call 7; refine (HH.out).mono ?_; rintro e w1 ⟨rfl, rfl⟩)
        | (go_at_call 9; refine (HTX.out).mono ?_; rintro e w1 ⟨q, c', rfl, ht, x1⟩; have HT1 := Lib.hid ht; have X1 := Lib.hid x1; clear ht x1)
        | (go_at_call 10; refine (HSp.out _ _ _ HT1.out).mono ?_; rintro e w2 ⟨q2, c2, rfl, ht, x2⟩; have HT2 := Lib.hid ht; have X2 := Lib.hid (X1.out.trans x2); clear ht x2)
        | (go_at_call 14; (with_reducible refine (New_any w2).mono ?_); rintro e w3 ⟨rfl, hg, x3, hs3⟩; have HG3 := Lib.hid hg; have X3 := Lib.hid x3; have HS3 := Lib.hid hs3; clear hg x3 hs3)
        | (go_at_call 14; (with_reducible refine (New_any w3).mono ?_); rintro e w4 ⟨rfl, hg, x4, hs4⟩; have HG4 := Lib.hid hg; have X4 := Lib.hid x4; clear hg x4 hs4))
      have HT4 : Hid (Two w2 w4 (w2.heap.size + 1) w2.heap.size (w3.heap.size + 1) w3.heap.size (l.length + 1) secret.size (part S k 0) (part S k 0)) := Lib.hid
        ⟨(HG3.out.ext X4.out).turn (by omega) (by omega) h1 h64, HG4.out.turn (by omega) (by omega) h1 h64, X3.out.trans X4.out⟩
      clear HG3 HG4 X3 X4
      go_loopw [14] (fun iv wr => ∃ j : Nat, j ≤ l.length + 1 ∧ iv = .int .i64 (j : Int) ∧ Two w2 wr (w2.heap.size + 1) w2.heap.size (w3.heap.size + 1) w3.heap.size (l.length + 1) secret.size (part S k j) (part S k j)) (fun iv _ => l.length + 1 - (intOf iv).toNat)
      case atStart => exact ⟨0, Nat.zero_le _, rfl, HT4.out⟩
      case round =>
        obtain ⟨j, hj, rfl, htw⟩ := hrel
        have HTw := Lib.hid htw
        by_cases hlt : j < l.length + 1
        · by_cases hjk : j = k
          · have hne : ((j : Int) != (k : Int)) = false := by rw [hjk]; simp
            have HPS : Hid (part S k (j + 1) = part S k j) := Lib.hid (by rw [hjk, part_skip])
            clear htw hjk
            go_wp2
            go_roundw
            case rel => exact ⟨j + 1, by omega, by go_num, by rw [HPS.out]; exact HTw.out⟩
            case measure => simp [intOf]; omega
          · have hne : ((j : Int) != (k : Int)) = true := by
              have q : ¬ (j : Int) = (k : Int) := by omega
              simpa using q
            obtain ⟨s, hsj⟩ : ∃ s, S[j]? = some s := ⟨_, List.getElem?_eq_getElem (by rw [HAl.out]; exact hlt)⟩
            have hss := HAs.out s (List.mem_of_getElem? hsj)
            obtain ⟨a, rfl, hab, hc⟩ := HT2.out j _ (HGet.out j s hsj)
            have HC := Lib.hid (fun u (hu : Ext w2 u) => (hu.below.cell (p := a.add j) (by rw [add_block]; exact hab)).trans hc)
            have HAr := Lib.hid (fun u g b (h : IsG u g b (l.length + 1) secret.size (part S k j)) => add_row S k j (l.length + 1) secret.size s hsj hjk HAl.out.symm hss h1 h64 (by omega) u g b h)
            have hcr := HC.out wr htw.ext
            generalize shareT (j + 1) (l.length + 1) s = Tj at *
            clear htw hjk hsj hss hab hc
            go_wp2_with (first
              | (go_at_call 15; (with_reducible refine (HAr.out _ _ _ HTw.out.one).mono ?_); rintro e w5 ⟨rfl, ha, ka⟩; have HTw5 := Lib.hid (HTw.out.first ha ka (by have := HS3.out; omega) (by have := HS3.out; omega) (Nat.le_refl _)); have hc5 := HC.out w5 HTw5.out.ext; clear ha ka)
              | (go_at_call 15; (with_reducible refine (HAr.out _ _ _ HTw5.out.two).mono ?_); rintro e w6 ⟨rfl, ha, ka⟩; have HTw6 := Lib.hid (HTw5.out.second ha ka (by have := HS3.out; omega) (by have := HS3.out; omega) (by have := HS3.out; omega)); clear ha ka))
            go_roundw
            case rel => exact ⟨j + 1, by omega, by go_num, HTw6.out⟩
            case measure => simp [intOf]; omega
        · obtain rfl : j = l.length + 1 := by omega
          have hkS : k < S.length := by rw [HAl.out]; omega
          have hskz := HAs.out sk (List.mem_of_getElem? HSk.out)
          obtain ⟨a, rfl, hab, hck⟩ := HT2.out k _ (HGet.out k sk HSk.out)
          have HCk := Lib.hid (fun u (hu : Ext w2 u) => (hu.below.cell (p := a.add k) (by rw [add_block]; exact hab)).trans hck)
          obtain ⟨s00, h00⟩ : ∃ s, S[0]? = some s := ⟨_, List.getElem?_eq_getElem (by omega)⟩
          have HC0 : Hid (∀ u, Ext w2 u → u.cell? a = some (.string (shareT (0 + 1) (l.length + 1) s00))) := Lib.hid (fun u hu => by
            obtain ⟨a', e, hab', hc0⟩ := HT2.out.ext hu 0 _ (HGet.out 0 s00 h00)
            cases e
            rwa [show a.add 0 = a from by simp [Addr.add]] at hc0)
          have hok := otherT_size secret O sk hskz HO.out
          have HAL := Lib.hid (fun u g b (h : IsG u g b (l.length + 1) secret.size (part S k (l.length + 1))) => add_last S k (l.length + 1) secret.size sk hkS HAl.out.symm hskz h1 h64 (by omega) u g b h)
          have HAG := Lib.hid (fun u g b h => add_again S k (l.length + 1) secret.size sk hkS HAl.out.symm hskz h1 h64 (by omega) u g b h)
          have HSR := Lib.hid (fun u g b h => secret_row S k (l.length + 1) secret.size sk secret hkS HAl.out.symm (fun s0 St q => HSec.out s0 St (by rw [← set_self S k sk HSk.out]; exact q)) u g b h)
          have HSN := Lib.hid (fun u g b (h : IsG u g b (l.length + 1) secret.size (part S k (l.length + 1))) => secret_no u g b (l.length + 1) secret.size _ h (part_length S k _ (by omega)))
          have HAO := Lib.hid (fun u g b (h : IsG u g b (l.length + 1) secret.size (part S k (l.length + 1))) => add_last S k (l.length + 1) secret.size (otherT secret O sk) hkS HAl.out.symm hok h1 h64 (by omega) u g b h)
          have HSO := Lib.hid (fun u g b h => secret_row S k (l.length + 1) secret.size (otherT secret O sk) O hkS HAl.out.symm (HOth.out sk HSk.out) u g b h)
          have hXl : (((shareT (k + 1) (l.length + 1) sk).size : Int) != (secret.size : Int) + 2) = false := by rw [shareT_size, hskz]; simp
          have d1 := slice_upto (shareT (k + 1) (l.length + 1) sk) 2 (by rw [shareT_size]; omega)
          rw [show ((2 : Nat) : Int) = (2 : Int) from rfl] at d1
          have d2 := slice_two (shareT (k + 1) (l.length + 1) sk) (by rw [shareT_size]; omega)
          rw [shareT_rest] at d2
          have hcat := shareT_head (k + 1) (l.length + 1) sk (otherT secret O sk)
          have h2s : ((shareT (k + 1) (l.length + 1) sk).extract 0 2).size = 2 := by rw [shareT_upto]; rfl
          have hs64 : ¬ 9223372036854775807 < ((shareT (k + 1) (l.length + 1) sk).extract 0 2).size + (otherT secret O sk).size := by rw [h2s, hok]; omega
          have HX1 := Lib.hid (fun u => rXor_yes sk secret hskz (by omega) u)
          have exd : (⟨(xorL sk.data.toList secret.data.toList).toArray⟩ : ByteArray).data.toList = xorL sk.data.toList secret.data.toList := by simp
          have hms : (⟨(xorL sk.data.toList secret.data.toList).toArray⟩ : ByteArray).size = secret.size := by rw [txt_size, xs_length _ _ (by rw [size_list, size_list, hskz]), size_list, hskz]
          have hx2 := fun u => rXor_yes ⟨(xorL sk.data.toList secret.data.toList).toArray⟩ O (by rw [hms, HO.out]) (by rw [hms]; omega) u
          rw [exd] at hx2
          have HX2 := Lib.hid (show ∀ u, Calls Try.prog 21 #[.string ⟨(xorL sk.data.toList secret.data.toList).toArray⟩, .string O] u fun e w' => e = .returned (.string (otherT secret O sk)) ∧ Ext u w' from hx2)
          generalize (⟨(xorL sk.data.toList secret.data.toList).toArray⟩ : ByteArray) = M at *
          generalize otherT secret O sk = Ok at *
          generalize shareT (k + 1) (l.length + 1) Ok = Xk at *
          generalize shareT (k + 1) (l.length + 1) sk = Tk at *
          generalize Tk.extract 0 2 = H2 at *
          generalize shareT (0 + 1) (l.length + 1) s00 = T0 at *
          have hcw := HCk.out wr htw.ext
          clear htw hab hck h00 hskz hok h2s exd hms hx2 hkS
          go_upto_region 21 with (first
            | (go_at_call 18; (with_reducible refine (HSN.out _ _ _ HTw.out.one).mono ?_); rintro e w5 ⟨rfl, x5⟩; have HTw5 := Lib.hid (HTw.out.move x5); have hc5 := HCk.out w5 HTw5.out.ext; clear x5)
            | (go_at_call 15; (with_reducible refine (HAL.out _ _ _ HTw5.out.one).mono ?_); rintro e w6 ⟨rfl, ha, ka⟩; have HTw6 := Lib.hid (HTw5.out.first ha ka (by have := HS3.out; omega) (by have := HS3.out; omega) (Nat.le_refl _)); have hc6 := HCk.out w6 HTw6.out.ext; clear ha ka)
            | (go_at_call 15; (with_reducible refine (HAG.out _ _ _ HTw6.out.one).mono ?_); rintro e w7 ⟨rfl, x7⟩; have HTw7 := Lib.hid (HTw6.out.move x7); have hc7 := HCk.out w7 HTw7.out.ext; clear x7)
            | (go_at_call 18; (with_reducible refine (HSR.out _ _ _ HTw7.out.one).mono ?_); rintro e w8 ⟨rfl, x8⟩; have HTw8 := Lib.hid (HTw7.out.move x8); have hc8 := HCk.out w8 HTw8.out.ext; clear x8))
          go_upto_region 22 with (go_at_call 9; refine (HTO.out _ _ _ (one_text _ _)).mono ?_; rintro e w9 ⟨g9, c9, rfl, hc9, x9⟩; have HTw9 := Lib.hid ((HTw8.out.move ((Ext.refl w8).alloc (.cells #[.string other] 9))).move x9); have hck9 := HCk.out w9 HTw9.out.ext; clear x9)
          clear hcw hc5 hc6 hc7 hc8
          go_cut [20] (fun v wx => v = .string Xk ∧ Two w2 wx (w2.heap.size + 1) w2.heap.size (w3.heap.size + 1) w3.heap.size (l.length + 1) secret.size (part S k (l.length + 1) ++ [(k + 1, sk)]) (part S k (l.length + 1)))
          case first =>
            have HTd := Lib.hid (HTw9.out.move ((Ext.refl w9).drew))
            go_region_with (first
              | (go_at_call 21; (with_reducible refine (HX1.out _).mono ?_); rintro e w10 ⟨rfl, x10⟩; have HTw10 := Lib.hid (HTd.out.move x10); have hc10 := HCk.out w10 HTw10.out.ext; clear x10)
              | (go_at_call 21; (with_reducible refine (HX2.out _).mono ?_); rintro e w11 ⟨rfl, x11⟩; have HTw11 := Lib.hid (HTw10.out.move x11); have hc11 := HCk.out w11 HTw11.out.ext; clear x11))
            all_goals
              go_wp2
              go_meet
              exact ⟨rfl, HTw11.out⟩
          case rest =>
            obtain ⟨rfl, htw⟩ := hcut
            have HTx := Lib.hid htw
            clear htw hck9 hc9 d1 d2 hcat
            go_wp2_with (first
              | (go_at_call 15; (with_reducible refine (HAO.out _ _ _ HTx.out.two).mono ?_); rintro e w12 ⟨rfl, ha, ka⟩; have HTw12 := Lib.hid (HTx.out.second ha ka (by have := HS3.out; omega) (by have := HS3.out; omega) (by have := HS3.out; omega)); clear ha ka)
              | (go_at_call 18; (with_reducible refine (HSO.out _ _ _ HTw12.out.two).mono ?_); rintro e w13 ⟨rfl, x13⟩; have HTw13 := Lib.hid (HTw12.out.move x13); have hc13 := HC0.out w13 HTw13.out.ext; clear x13)
              | (go_at_call 20; (with_reducible refine (drop_nil _).mono ?_); rintro e w14 ⟨rfl, rfl⟩)
              | (go_at_call 17; (with_reducible refine (have_nil _).mono ?_); rintro e w14 ⟨rfl, rfl⟩)
              | (go_at_call 18; (with_reducible refine (secret_nil _).mono ?_); rintro e w14 ⟨rfl, rfl⟩)
              | (go_at_call 15; (with_reducible refine (add_nil _ _).mono ?_); rintro e w14 ⟨rfl, rfl⟩)
              | (go_at_call 8; refine (share_works _).mono ?_; rintro e w15 ⟨rfl, x15⟩))
            go_ret
            exact ⟨rfl, (X2.out.trans HTw13.out.ext).trans x15⟩
end Go.Proofs.Ytadincbeimfakaa
