/- Contract: hex texts read, by the document's answer. -/
import Derived.Test.YtlphbnbipbfclaaDig
namespace Go.Proofs.Ytlphbnbipbfclaa
open Go.RowKit

theorem byte_lt (x : UInt8) : x.toNat < 256 := x.toNat_lt
theorem outs_snoc (s : ByteArray) (j : Nat) : outs s (j + 1) = outs s j ++ [two s j] := by simp [outs, List.range_succ]
theorem two_sum {s : ByteArray} {j : Nat} (h1 : 2 * j < s.size) (h2 : 2 * j + 1 < s.size) (d1 : dig s[2 * j].toNat < 16) (d2 : dig s[2 * j + 1].toNat < 16) :
    16 * (dig s[2 * j].toNat : Int) + (dig s[2 * j + 1].toNat : Int) = ((two s j).toNat : Int) := by
  unfold two
  rw [byt_at h1, byt_at h2]
  simp
  omega

theorem runhex_any (s : ByteArray) (hs : s.size ≤ 1099511627776) (w : World) :
    Calls Try.prog 25 #[.string s] w fun e w' => e = .returned (.tuple #[.string ⟨(unhexV s).toArray⟩, .bool (unhexB s)]) ∧ Ext w w' := by
  by_cases hp : s.size % 2 = 0
  · obtain ⟨n, hn⟩ : ∃ n, s.size = 2 * n := ⟨s.size / 2, by omega⟩
    have ht : ((s.size : Int) % 2 == 1) = false := by simp; omega
    have Hn := Lib.hid hn; clear hn hp
    go_enter Try.func25, Try.ntmps25
    go_wp2
    go_loopw [4, 5] (fun v i wr => ∃ j : Nat, j ≤ n ∧ i = .int .i64 (2 * (j : Int)) ∧ (∀ i, i < j → good s i) ∧ Buf wr w.heap.size v (outs s j) ∧ Ext w wr) (fun _ i _ => (2 * n - intOf i).toNat)
    case atStart => exact ⟨0, Nat.zero_le _, rfl, fun i hi => absurd hi (by omega), Buf.nil _ _, Ext.refl w⟩
    case round =>
      obtain ⟨j, hj, rfl, hgood, hbuf, hext⟩ := hrel
      have Hg := Lib.hid hgood; clear hgood
      clear ht
      by_cases hlt : j < n
      · have hl1 : 2 * j < s.size := by have := Hn.out; omega
        have hl2 : 2 * j + 1 < s.size := by have := Hn.out; omega
        have hb1 : s[2 * j].toNat < 256 := s[2 * j].toNat_lt
        have hb2 : s[2 * j + 1].toNat < 256 := s[2 * j + 1].toNat_lt
        have x1 : (0 : Int) ≤ 2 * (j : Int) := by omega
        have x2 : 2 * (j : Int) < (s.size : Int) := by omega
        have x4 : (0 : Int) ≤ 2 * (j : Int) + 1 := by omega
        have x5 : 2 * (j : Int) + 1 < (s.size : Int) := by omega
        have x6 : (2 * (j : Int)).toNat = 2 * j := by omega
        have x7 : (2 * (j : Int) + 1).toNat = 2 * j + 1 := by omega
        have x3 : IntKind.i64.wrap (2 * (j : Int) + 1) = 2 * (j : Int) + 1 := IntWalk.i64_in _ (by omega)
        go_wp2
        go_quiet ((go_at_call 38; exact Calls.quiet_of_same (rdigit_any _ (byte_lt _) _)))
        clear x3 hb1 hb2
        have hbuf2 : Buf (wr.drewN nq) w.heap.size u4 (outs s j) := hbuf
        have hext2 : Ext w (wr.drewN nq) := hext.drewN nq
        clear hbuf hext
        generalize wr.drewN nq = w2 at hbuf2 hext2 ⊢
        by_cases h1 : dig s[2 * j].toNat < 16
        · by_cases h2 : dig s[2 * j + 1].toNat < 16
          · have G := Lib.hid (good_at hl1 hl2 h1 h2)
            have H2 : Hid ((outs s j).length + 1 ≤ 140737488355328) := by rw [outs_length]; show _ ≤ _; omega
            go_wp2_with (at_builtin; refine append_bytes rfl (.tmp 33) (.tmp 38) rfl w.heap.size _ _ rfl (hbuf2.alloc _) w2.heap.size 1 [two s j] rfl rfl (Row.one _ _ _ _ (two_sum hl1 hl2 h1 h2)) H2.out (hext2.alloc _).size ?_; intro v1 w1 hbuf1 hb1; have hext1 : Ext w w1 := Below.trans (hext2.alloc _) hb1; clear hb1)
            go_roundw
            case rel => exact ⟨j + 1, by omega, int_eq (by omega), good_more Hg.out G.out, by rw [outs_snoc]; exact hbuf1, hext1⟩
            case measure => simp [intOf]; omega
          · have E := Lib.hid (unhex_no (s := s) (bad_at Hn.out hlt hl1 hl2 (fun h => h2 h.2)))
            go_wp2
            go_ret2
            exact ⟨by rw [E.out.1, E.out.2]; rfl, hext2⟩
        · have E := Lib.hid (unhex_no (s := s) (bad_at Hn.out hlt hl1 hl2 (fun h => h1 h.1)))
          go_wp2
          go_ret2
          exact ⟨by rw [E.out.1, E.out.2]; rfl, hext2⟩
      · obtain rfl : j = n := by omega
        have hge : ¬ 2 * j < s.size := by have := Hn.out; omega
        have ht := hbuf.text (P := Try.prog) 31 9 Try.underlying31 Try.underlying5 Try.underlying9
        have E := Lib.hid (unhex_yes Hn.out Hg.out)
        go_wp2
        go_ret2
        exact ⟨by rw [E.out.1, E.out.2]; rfl, hext⟩
  · have ht : ((s.size : Int) % 2 == 1) = true := by simp; omega
    have E := Lib.hid (unhex_no (s := s) (fun h => hp h.1))
    clear hp
    go_enter Try.func25, Try.ntmps25
    go_wp2
    go_ret2
    exact ⟨by rw [E.out.1, E.out.2]; rfl, Ext.refl _⟩
end Go.Proofs.Ytlphbnbipbfclaa
