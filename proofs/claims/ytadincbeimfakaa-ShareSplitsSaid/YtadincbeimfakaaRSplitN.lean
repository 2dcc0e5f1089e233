/- Contract: what has no shares, by the document's answer. -/
import Derived.Test.YtadincbeimfakaaRSplit
namespace Go.Proofs.Ytadincbeimfakaa
open Go.RowKit
attribute [local irreducible] xorL xorAll

theorem rsplit_arg (w : World) (secret : ByteArray) (p : Option Addr) (n c : Nat) (h : secret.size < 1 ∨ 64 < secret.size ∨ 16 ≤ n) (hn : n ≤ 1000000) (hs : secret.size ≤ 1048576) :
    Calls Try.prog 11 #[.string secret, .slice p n c] w fun e w' => e = .returned (.tuple #[.slice none 0 0, .int .i64 2]) ∧ w = w' := by
  have hcase : (secret.size : Int) < 1 ∨ (¬ (secret.size : Int) < 1 ∧ (64 : Int) < (secret.size : Int)) ∨ (¬ (secret.size : Int) < 1 ∧ ¬ (64 : Int) < (secret.size : Int) ∧ (16 : Int) ≤ (n : Int)) := by omega
  clear h
  go_enter Try.func11, Try.ntmps11
  rcases hcase with q | ⟨q1, q2⟩ | ⟨q1, q2, q3⟩
  all_goals
    go_wp2
    go_ret2
    exact ⟨rfl, rfl⟩
set_option maxRecDepth 100000 in
set_option maxHeartbeats 4000000 in
theorem rsplit_no (w : World) (secret : ByteArray) (p : Option Addr) (c : Nat) (l : List ByteArray) (h1 : 1 ≤ secret.size) (h2 : secret.size ≤ 64) (h3 : l.length < 16) (h : TextsP w p l) (k : Nat) (t : ByteArray) (hk : l[k]? = some t) (ht : ¬ t.size = secret.size) (hl : ∀ (i : Nat) (s : ByteArray), i < k → l[i]? = some s → s.size = secret.size) :
    Calls Try.prog 11 #[.string secret, .slice p l.length c] w fun e w' => e = .returned (.tuple #[.slice none 0 0, .int .i64 2]) ∧ Ext w w' := by
  have HH := Lib.hid (fun u (hu : Ext w u) => h.ext hu)
  have HS := Lib.hid (sharesT_take (l.length + 1) l)
  have HSl := Lib.hid (sharesT_length (l.length + 1) l)
  have HX := Lib.hid (xorAll_step secret.data.toList l)
  have hkl : k < l.length := (List.getElem?_eq_some_iff.1 hk).1
  have HXl := Lib.hid (fun j (hj : j ≤ k) => xorAll_length (n := secret.size) (l.take j) secret.data.toList (size_list _) (fun b hb => by
    obtain ⟨i, hi⟩ := List.getElem?_of_mem hb
    rw [List.getElem?_take] at hi
    split at hi
    · exact hl i b (by omega) hi
    · cases hi))
  have HK := Lib.hid hk
  have hnt : ((t.size : Int) != (secret.size : Int)) = true := by
    have q : ¬ (t.size : Int) = (secret.size : Int) := by omega
    simpa using q
  clear hk ht
  have hX0 : xorAll secret.data.toList (l.take 0) = secret.data.toList := by rw [List.take_zero]; unfold xorAll; rfl
  have HX0 := Lib.hid hX0
  clear h hX0
  go_enter Try.func11, Try.ntmps11
  go_wp2
  go_loopw [6, 8, 9] (fun last v i wr => ∃ j : Nat, j ≤ k ∧ i = .int .i64 (j : Int) ∧ last = .string ⟨(xorAll secret.data.toList (l.take j)).toArray⟩ ∧ BufS wr w.heap.size v ((sharesT (l.length + 1) l).take j) ∧ Ext w wr) (fun _ _ i _ => l.length - (intOf i).toNat)
  case atStart => exact ⟨0, Nat.zero_le _, rfl, by rw [HX0.out], by rw [List.take_zero]; exact BufS.nil _ _, Ext.refl _⟩
  case round =>
    obtain ⟨j, hj, rfl, rfl, hb, hext⟩ := hrel
    have HB := Lib.hid hb; have HE := Lib.hid hext
    by_cases hlt : j < k
    · obtain ⟨s, hs⟩ : ∃ s, l[j]? = some s := ⟨_, List.getElem?_eq_getElem (by omega)⟩
      have hsz : s.size = secret.size := hl j s hlt hs
      have hltl : j < l.length := by omega
      have hne : ((s.size : Int) != (secret.size : Int)) = false := by rw [hsz]; simp
      obtain ⟨a, rfl, _, hc1⟩ := HH.out _ hext j s hs
      have HC2 := Lib.hid (fun u (hu : Ext w u) => (show u.cell? (a.add j) = some (.string s) by obtain ⟨a', e, _, hc⟩ := HH.out u hu j s hs; cases e; exact hc))
      have HSj := Lib.hid (HS.out j s hs)
      have hxs := HX.out j s hs
      have hXr := Lib.hid (fun u => rXor_yes ⟨(xorAll secret.data.toList (l.take j)).toArray⟩ s (by rw [txt_size, HXl.out j (by omega), hsz]) (by rw [txt_size, HXl.out j (by omega)]; omega) u)
      have exd : (⟨(xorAll secret.data.toList (l.take j)).toArray⟩ : ByteArray).data.toList = xorAll secret.data.toList (l.take j) := by simp
      rw [exd, ← hxs] at hXr
      obtain ⟨x, hx⟩ : ∃ x, x = UInt8.ofNat (j + 1) := ⟨_, rfl⟩
      obtain ⟨y, hy⟩ : ∃ y, y = UInt8.ofNat (l.length + 1) := ⟨_, rfl⟩
      have hcv := fun u => two_textD ((j : Int) + 1) ((l.length : Int) + 1) x y (by rw [hx]; simp; omega) (by rw [hy]; simp; omega) 5 u
      have hcat := share_cat (j + 1) (l.length + 1) x y s hx hy
      obtain ⟨T, hT⟩ : ∃ T, shareT (j + 1) (l.length + 1) s = T := ⟨_, rfl⟩
      rw [hT] at hcat HSj
      have HLe : Hid (((sharesT (l.length + 1) l).take j).length ≤ 1000000) := Lib.hid (by rw [List.length_take]; omega)
      have hw0 : IntKind.i64.wrap ((j : Int) + 1) = (j : Int) + 1 := IntWalk.i64_in _ ⟨by omega, by omega⟩
      have hw1 : IntKind.u8.wrap ((j : Int) + 1) = (j : Int) + 1 := IntWalk.u8_in _ ⟨by omega, by omega⟩
      have hw2 : IntKind.u8.wrap ((l.length : Int) + 1) = (l.length : Int) + 1 := IntWalk.u8_in _ ⟨by omega, by omega⟩
      have hs64 : ¬ 9223372036854775807 < 2 + s.size := by omega
      clear hb hext hs hsz hx hy hT hxs exd
      generalize (⟨(xorAll secret.data.toList (l.take j)).toArray⟩ : ByteArray) = L0 at *
      go_wp2_with (go_at_call 21; refine (hXr.out _).mono ?_; rintro e w2 ⟨rfl, h2⟩)
      have k1 := HC2.out w2 (HE.out.trans h2)
      have k2 := HC2.out _ ((HE.out.trans h2).alloc (.cells #[.int .u8 ((j : Int) + 1), .int .u8 ((l.length : Int) + 1)] 5))
      have HX3 := Lib.hid (((h2.alloc (.cells #[.int .u8 ((j : Int) + 1), .int .u8 ((l.length : Int) + 1)] 5)).alloc (.cells #[.string T] 9)).drew)
      have HCl : Hid (((w2.alloc (.cells #[.int .u8 ((j : Int) + 1), .int .u8 ((l.length : Int) + 1)] 5)).alloc (.cells #[.string T] 9)).cell? ⟨w2.heap.size + 1, 0, none⟩ = some (.string T)) := Lib.hid (by simp)
      go_region_law (refine step_append_text rfl (.tmp 47) (.tmp 60) rfl w.heap.size _ _ (by simp [Act.eval]) (HB.out.ext HX3.out) (w2.heap.size + 1) T (by simp [Act.eval]) HCl.out HLe.out (HE.out.trans HX3.out).size ?_; intro v1 w3 hb1 hx4; have x5 : Ext w w3 := Below.trans (HE.out.trans HX3.out) hx4)
      all_goals
        go_wp2
        go_roundw
        case rel => exact ⟨j + 1, hlt, by go_num, rfl, by rw [HSj.out]; exact hb1, x5⟩
        case measure => simp [intOf]; omega
    · obtain rfl : j = k := by omega
      obtain ⟨a, rfl, _, hc1⟩ := HH.out _ hext j t HK.out
      clear hb hext
      generalize (⟨(xorAll secret.data.toList (l.take j)).toArray⟩ : ByteArray) = L0 at *
      go_wp2
      go_ret2
      exact ⟨rfl, HE.out⟩
end Go.Proofs.Ytadincbeimfakaa
