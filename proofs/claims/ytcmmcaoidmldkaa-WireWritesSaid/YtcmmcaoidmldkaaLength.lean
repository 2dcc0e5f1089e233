/- Contract: a number that counts what is behind it, by the program. -/
import Derived.Test.YtcmmcaoidmldkaaNumber
namespace Go.Proofs.Ytcmmcaoidmldkaa
open Go.RowKit

/-- The number in front that counts what is behind it, how many bytes it has itself, the fault. -/
def lenR (l : List UInt8) (most : Int) : Nat × Nat × Nat :=
  if (numR l).2.2 = 0 then (if most < ((numR l).1 : Int) then (0, 0, 5) else if l.length < (numR l).2.1 + (numR l).1 then (0, 0, 6) else numR l) else numR l
theorem lenR_or (l : List UInt8) (most : Int) : (∃ v sz, lenR l most = (v, sz, 0) ∧ numR l = (v, sz, 0) ∧ (v : Int) ≤ most ∧ sz + v ≤ l.length) ∨ lenR l most = (0, 0, 5) ∨ lenR l most = (0, 0, 6) ∨ lenR l most = (0, 0, 7) := by
  unfold lenR
  rcases numR_or l with ⟨v, sz, h, _⟩ | h | h
  · rw [h]
    by_cases h1 : most < (v : Int)
    · simp [h1]
    · by_cases h2 : l.length < sz + v
      · simp [h1, h2]
      · left
        exact ⟨v, sz, by simp [h1, h2], rfl, by omega, by omega⟩
  · rw [h]; simp
  · rw [h]; simp
theorem lenR_neg (l : List UInt8) (most : Int) (h : most < 0) : lenR l most = (0, 0, 5) ∨ lenR l most = (0, 0, 6) ∨ lenR l most = (0, 0, 7) := by
  rcases lenR_or l most with ⟨v, sz, _, _, h1, _⟩ | h1
  · omega
  · exact h1
theorem lenR_yes (l : List UInt8) (most : Int) (v sz : Nat) (h : numR l = (v, sz, 0)) (h1 : (v : Int) ≤ most) (h2 : sz + v ≤ l.length) : lenR l most = (v, sz, 0) := by
  unfold lenR
  rw [h]
  simp
  rw [if_neg (by omega), if_neg (by omega)]
set_option maxRecDepth 100000 in
set_option maxHeartbeats 2000000 in
theorem length_any (s : ByteArray) (hs : s.size ≤ 1000000) (most : Int) (h0 : -9223372036854775808 ≤ most) (h1 : most ≤ 9223372036854775807) (w : World) :
    Calls Try.prog 44 #[.string s, .int .i64 most] w fun e w' => e = .returned (.tuple #[.int .i64 ((lenR s.data.toList most).1 : Int), .int .i64 ((lenR s.data.toList most).2.1 : Int), .int .i64 ((lenR s.data.toList most).2.2 : Int)]) ∧ w = w' := by
  have hN := fun u => number_any s hs u
  rcases numR_or s.data.toList with ⟨v, sz, h, _, hv64, _, hs10, hszl⟩ | h | h
  · rw [h] at hN
    rw [size_list] at hszl
    have HN := Lib.hid hN
    by_cases hm : most < (v : Int)
    · have e : lenR s.data.toList most = (0, 0, 5) := by unfold lenR; rw [h]; simp [hm]
      rw [e]
      clear hN h e
      by_cases hneg : most < 0
      · go_enter Try.func44, Try.ntmps44
        go_wp2_with (go_at_call 39; refine (HN.out _).mono ?_; rintro e w2 ⟨rfl, rfl⟩)
        go_ret3
        exact ⟨rfl, rfl⟩
      · go_enter Try.func44, Try.ntmps44
        go_wp2_with (go_at_call 39; refine (HN.out _).mono ?_; rintro e w2 ⟨rfl, rfl⟩)
        go_ret3
        exact ⟨rfl, rfl⟩
    · have hneg : ¬ most < 0 := by omega
      by_cases h2 : s.size < sz + v
      · have e : lenR s.data.toList most = (0, 0, 6) := by unfold lenR; rw [h, size_list]; simp [hm, h2]
        rw [e]
        have h2i : (s.size : Int) - (sz : Int) < (v : Int) := by omega
        clear hN h e
        go_enter Try.func44, Try.ntmps44
        go_wp2_with (go_at_call 39; refine (HN.out _).mono ?_; rintro e w2 ⟨rfl, rfl⟩)
        go_ret3
        exact ⟨rfl, rfl⟩
      · have e : lenR s.data.toList most = (v, sz, 0) := lenR_yes _ _ _ _ h (by omega) (by rw [size_list]; omega)
        rw [e]
        have h2i : ¬ (s.size : Int) - (sz : Int) < (v : Int) := by omega
        clear hN h e
        go_enter Try.func44, Try.ntmps44
        go_wp2_with (go_at_call 39; refine (HN.out _).mono ?_; rintro e w2 ⟨rfl, rfl⟩)
        go_ret3
        exact ⟨rfl, rfl⟩
  all_goals
    rw [h] at hN
    have e : lenR s.data.toList most = numR s.data.toList := by unfold lenR; rw [h]; simp
    rw [e, h]
    have HN := Lib.hid hN
    clear hN h e
    go_enter Try.func44, Try.ntmps44
    go_wp2_with (go_at_call 39; refine (HN.out _).mono ?_; rintro e w2 ⟨rfl, rfl⟩)
    go_ret3
    exact ⟨rfl, rfl⟩
end Go.Proofs.Ytcmmcaoidmldkaa
