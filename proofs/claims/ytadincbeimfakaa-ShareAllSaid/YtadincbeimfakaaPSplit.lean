/- Contracts: the shares of a secret, by the program. -/
import Derived.Test.YtadincbeimfakaaMixed
namespace Go.Proofs.Ytadincbeimfakaa
open Go.RowKit
attribute [local irreducible] xorL xorAll

theorem split_arg (w : World) (secret : ByteArray) (p : Option Addr) (n c : Nat) (h : secret.size < 1 ∨ 64 < secret.size ∨ 16 ≤ n) (hn : n ≤ 1000000) (hs : secret.size ≤ 1048576) :
    Calls Try.prog 10 #[.string secret, .slice p n c] w fun e w' => e = .returned (.tuple #[.slice none 0 0, .int .i64 2]) ∧ w = w' := by
  have hcase : (secret.size : Int) < 1 ∨ (¬ (secret.size : Int) < 1 ∧ (64 : Int) < (secret.size : Int)) ∨ (¬ (secret.size : Int) < 1 ∧ ¬ (64 : Int) < (secret.size : Int) ∧ (16 : Int) ≤ (n : Int)) := by omega
  clear h
  go_enter Try.func10, Try.ntmps10
  rcases hcase with q | ⟨q1, q2⟩ | ⟨q1, q2, q3⟩
  all_goals
    go_wp2
    go_ret2
    exact ⟨rfl, rfl⟩
theorem split_no (w : World) (secret : ByteArray) (p : Option Addr) (c : Nat) (l : List ByteArray) (h1 : 1 ≤ secret.size) (h2 : secret.size ≤ 64) (h3 : l.length < 16) (h : TextsP w p l) (k : Nat) (t : ByteArray) (hk : l[k]? = some t) (ht : ¬ t.size = secret.size) (hl : ∀ (i : Nat) (s : ByteArray), i < k → l[i]? = some s → s.size = secret.size) :
    Calls Try.prog 10 #[.string secret, .slice p l.length c] w fun e w' => e = .returned (.tuple #[.slice none 0 0, .int .i64 2]) ∧ Ext w w' := by
  have HM := Lib.hid (mixed_no w secret p c l (by omega) (by omega) h k t hk ht hl)
  clear h hk ht hl
  go_enter Try.func10, Try.ntmps10
  go_wp2_with (go_at_call 22; refine (HM.out).mono ?_; rintro e w1 ⟨rfl, x1⟩)
  go_ret2
  exact ⟨rfl, x1⟩
set_option maxRecDepth 100000 in
set_option maxHeartbeats 4000000 in
theorem split_yes (w : World) (secret : ByteArray) (p : Option Addr) (c : Nat) (l : List ByteArray) (h1 : 1 ≤ secret.size) (h2 : secret.size ≤ 64) (h3 : l.length < 16) (h : TextsP w p l) (hl : ∀ s, s ∈ l → s.size = secret.size) :
    Calls Try.prog 10 #[.string secret, .slice p l.length c] w fun e w' => ∃ v, e = .returned (.tuple #[v, .int .i64 0]) ∧ BufS w' w.heap.size v (splitT secret l) ∧ Ext w w' := by
  have HH := Lib.hid (fun u (hu : Ext w u) => h.ext hu)
  have HS := Lib.hid (sharesT_take (l.length + 1) l)
  have HSl := Lib.hid (sharesT_length (l.length + 1) l)
  have HM := Lib.hid (mixed_yes w secret p c l (by omega) (by omega) h hl)
  have hxl := xorAll_length (n := secret.size) l secret.data.toList (size_list _) hl
  have hmk := make_texts (l.length + 1) (by omega)
  have ek : ((l.length + 1 : Nat) : Int) = (l.length : Int) + 1 := by omega
  rw [ek] at hmk
  obtain ⟨C, hC⟩ : ∃ C, madeCells #[Value.string ⟨#[]⟩] (l.length + 1) = C := ⟨_, rfl⟩
  rw [hC] at hmk
  have HMade := Lib.hid (fun u (hu : w.heap.size ≤ u.heap.size) => BufS.made u (l.length + 1) (by unfold maxLen; omega) hu)
  rw [hC] at HMade
  have HSB := Lib.hid (fun u (i : Nat) (s : ByteArray) (hi : i < 255) (hs : s.size ≤ 64) => shareBytes_any (i + 1) (l.length + 1) s (by omega) (by omega) (by omega) u)
  rw [ek] at HSB
  have HSL : Hid (splitT secret l = sharesT (l.length + 1) l ++ [shareT (l.length + 1) (l.length + 1) ⟨(xorAll secret.data.toList l).toArray⟩]) := Lib.hid rfl
  have HLS : Hid ((⟨(xorAll secret.data.toList l).toArray⟩ : ByteArray).size ≤ 64) := Lib.hid (by rw [txt_size, hxl]; exact h2)
  generalize (⟨(xorAll secret.data.toList l).toArray⟩ : ByteArray) = L0 at *
  clear h hC ek hxl
  go_enter Try.func10, Try.ntmps10
  go_wp2_with (go_at_call 22; refine (HM.out).mono ?_; rintro e w1 ⟨rfl, x1⟩)
  have HX1 := Lib.hid (x1.alloc (.cells C 9))
  have HB0 : Hid (BufS (w1.alloc (.cells C 9)) w.heap.size (.slice (some ⟨w1.heap.size, 0, none⟩) 0 (l.length + 1)) []) := Lib.hid (HMade.out w1 x1.size)
  clear x1
  go_loopw [9, 40] (fun v i wr => ∃ j : Nat, j ≤ l.length ∧ i = .int .i64 (j : Int) ∧ BufS wr w.heap.size v ((sharesT (l.length + 1) l).take j) ∧ Ext w wr) (fun _ i _ => l.length - (intOf i).toNat)
  case atStart => exact ⟨0, Nat.zero_le _, rfl, by rw [List.take_zero]; exact HB0.out, HX1.out⟩
  case round =>
    obtain ⟨j, hj, rfl, hb, hext⟩ := hrel
    have HB := Lib.hid hb; have HE := Lib.hid hext
    by_cases hlt : j < l.length
    · obtain ⟨s, hs⟩ : ∃ s, l[j]? = some s := ⟨_, List.getElem?_eq_getElem hlt⟩
      obtain ⟨a, rfl, hab, hc1⟩ := HH.out _ hext j s hs
      have hsz : s.size = secret.size := hl s (List.mem_of_getElem? hs)
      have HSj := Lib.hid (HS.out j s hs)
      have HC := Lib.hid (fun u => HSB.out u j s (by omega) (by omega))
      rw [show ((j + 1 : Nat) : Int) = (j : Int) + 1 by omega] at HC
      have HLe : Hid (((sharesT (l.length + 1) l).take j).length ≤ 1000000) := Lib.hid (by rw [List.length_take]; omega)
      clear hb hext hs hsz hab
      generalize shareT (j + 1) (l.length + 1) s = T at *
      go_wp2_with (first
        | (go_at_call 23; refine (HC.out _).mono ?_; rintro e w2 ⟨rfl, x2⟩; have HX3 := Lib.hid (x2.alloc (.cells #[.string T] 9)))
        | (at_builtin; refine append_text rfl (.tmp 45) (.tmp 51) rfl w.heap.size _ _ rfl (HB.out.ext HX3.out) w2.heap.size T rfl ((Blk.new w2 [.string T] 9).cell 0 _ rfl) HLe.out (HE.out.trans HX3.out).size ?_; intro v1 w3 hb1 hx4; have x5 : Ext w w3 := Below.trans (HE.out.trans HX3.out) hx4))
      go_roundw
      case rel => exact ⟨j + 1, hlt, by go_num, by rw [HSj.out]; exact hb1, x5⟩
      case measure => simp [intOf]; omega
    · obtain rfl : j = l.length := by omega
      have hB2 := HB.out
      rw [List.take_of_length_le (by rw [HSl.out]; exact Nat.le_refl _)] at hB2
      have HB2 := Lib.hid hB2
      have HC := Lib.hid (fun u => HSB.out u l.length L0 (by omega) HLS.out)
      rw [show ((l.length + 1 : Nat) : Int) = (l.length : Int) + 1 by omega] at HC
      have HLe : Hid ((sharesT (l.length + 1) l).length ≤ 1000000) := Lib.hid (by rw [HSl.out]; omega)
      clear hb hext hB2
      generalize sharesT (l.length + 1) l = ST at *
      generalize shareT (l.length + 1) (l.length + 1) L0 = T at *
      go_wp2_with (first
        | (go_at_call 23; refine (HC.out _).mono ?_; rintro e w2 ⟨rfl, x2⟩; have HX3 := Lib.hid (x2.alloc (.cells #[.string T] 9)))
        | (at_builtin; refine append_text rfl (.tmp 54) (.tmp 59) rfl w.heap.size _ _ rfl (HB2.out.ext HX3.out) w2.heap.size T rfl ((Blk.new w2 [.string T] 9).cell 0 _ rfl) HLe.out (HE.out.trans HX3.out).size ?_; intro v1 w3 hb1 hx4; have x5 : Ext w w3 := Below.trans (HE.out.trans HX3.out) hx4))
      go_ret2
      exact ⟨v1, rfl, by rw [HSL.out]; exact hb1, x5⟩
end Go.Proofs.Ytadincbeimfakaa
