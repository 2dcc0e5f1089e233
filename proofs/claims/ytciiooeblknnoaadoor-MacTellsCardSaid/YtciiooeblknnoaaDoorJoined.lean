/- Contracts: texts joined, by the statement's own helper. -/
import Derived.Test.YtciiooeblknnoaaDoorTag
import Derived.Test.YtciiooeblknnoaaDoorJoin
namespace Go.Proofs.YtciiooeblknnoaaDoor
open Go.RowKit

/-- Few texts, and short ones. -/
def Fit (l : List ByteArray) : Prop := l.length ≤ 51 ∧ (joinL l).length ≤ 1024
instance (l : List ByteArray) : Decidable (Fit l) := by unfold Fit; infer_instance
def JPost (l : List ByteArray) (w : World) (e : Ending) (w' : World) : Prop :=
  w = w' ∧ e = .returned (.tuple (if Fit l then #[.string ⟨(joinL l).toArray⟩, .bool true] else #[.string ⟨#[]⟩, .bool false]))
theorem jpost_yes {l : List ByteArray} {w w' : World} {e : Ending} (h : Fit l) (hp : JPost l w e w') : e = .returned (.tuple #[.string ⟨(joinL l).toArray⟩, .bool true]) ∧ w = w' := by
  obtain ⟨h1, h2⟩ := hp
  rw [if_pos h] at h2
  exact ⟨h2, h1⟩
theorem jpost_no {l : List ByteArray} {w w' : World} {e : Ending} (h : ¬ Fit l) (hp : JPost l w e w') : e = .returned (.tuple #[.string ⟨#[]⟩, .bool false]) ∧ w = w' := by
  obtain ⟨h1, h2⟩ := hp
  rw [if_neg h] at h2
  exact ⟨h2, h1⟩
set_option maxRecDepth 100000 in
set_option maxHeartbeats 1000000 in
theorem joined_any (w : World) (a : Addr) (c : Nat) (l : List ByteArray) (hT : Texts w a l) (hs : ∀ s, s ∈ l → s.size ≤ 140737488351232) :
    Calls Tryd.prog 7 #[.slice (some a) l.length c] w (JPost l w) := by
  have HT := Lib.hid hT; have HS := Lib.hid hs
  clear hT hs
  have hJ0 : J l 0 = ByteArray.empty := by simp [J, joinL]; rfl
  go_enter Tryd.func7, Tryd.ntmps7
  go_wp2_with fail
  go_loop [4, 5] (fun p i => ∃ k : Nat, k ≤ l.length ∧ k ≤ 51 ∧ i = .int .i64 k ∧ p = .string (J l k) ∧ (J l k).size ≤ 1024) (fun _ i => 51 - (intOf i).toNat)
  case atStart => exact ⟨0, Nat.zero_le _, by omega, rfl, by rw [hJ0]; rfl, by rw [hJ0]; decide⟩
  case round =>
    clear hJ0
    obtain ⟨k, hk, hk2, rfl, rfl, hsz⟩ := hrel
    by_cases hlt : k < l.length
    · have hc := (HT.out k l[k] (List.getElem?_eq_getElem hlt)).2
      have hj := J_succ l k hlt
      have hb := HS.out l[k] (List.getElem_mem hlt)
      have hbl := (HT.out k l[k] (List.getElem?_eq_getElem hlt)).1
      have i1 : (k : Int) < (l.length : Int) := by omega
      generalize l[k] = s at *
      by_cases hbig : k = 51 ∨ 1024 < (J l (k + 1)).size
      · by_cases h51 : k = 51
        · have hk3 : (50 : Int) < (k : Int) := by omega
          have hno : ¬ Fit l := fun h => by have := h.1; omega
          have HNO := Lib.hid hno
          clear hbig h51 hno
          go_wp2_with fail
          go_ret2
          exact ⟨rfl, by rw [if_neg HNO.out]; rfl⟩
        · have hbig2 : 1024 < (J l (k + 1)).size := by omega
          have hk3 : (k : Int) ≤ 50 := by omega
          have hno : ¬ Fit l := fun h => by have := h.2; have := joinL_le l (k + 1); rw [J_size] at hbig2; omega
          have HNO := Lib.hid hno
          clear hbig h51 hno
          go_wp2_with fail
          go_ret2
          exact ⟨rfl, by rw [if_neg HNO.out]; rfl⟩
      · have hsm : (J l (k + 1)).size ≤ 1024 := by omega
        have hk3 : (k : Int) ≤ 50 := by omega
        go_wp2_with fail
        go_round
        case rel => exact ⟨k + 1, hlt, by omega, by go_num, rfl, hsm⟩
        case measure => simp [intOf]; omega
    · obtain rfl : k = l.length := by omega
      have hjl : (joinL l).length ≤ 1024 := by rw [J_size, List.take_length] at hsz; exact hsz
      have HJ := Lib.hid (show J l l.length = ⟨(joinL l).toArray⟩ by simp [J])
      go_wp2_with fail
      go_ret2
      exact ⟨rfl, by rw [if_pos ⟨hk2, hjl⟩, ← HJ.out]; rfl⟩
theorem joined_none (w : World) : Calls Tryd.prog 7 #[.slice none 0 0] w (JPost [] w) := by
  go_enter Tryd.func7, Tryd.ntmps7
  go_wp2_with fail
  go_loop [4, 5] (fun p i => p = .string ⟨#[]⟩ ∧ i = .int .i64 0) (fun _ _ => 0)
  case atStart => exact ⟨rfl, rfl⟩
  case round =>
    obtain ⟨rfl, rfl⟩ := hrel
    go_wp2_with fail
    go_ret2
    exact ⟨rfl, by rw [if_pos (by decide)]; rfl⟩
theorem joined_v (w : World) (v : Value) (l : List ByteArray) (hT : TextsV w v l) (hs : ∀ s, s ∈ l → s.size ≤ 140737488351232) : Calls Tryd.prog 7 #[v] w (JPost l w) := by
  rcases hT with ⟨rfl, rfl⟩ | ⟨a, c, rfl, h2, _⟩
  · exact joined_none w
  · exact joined_any w a c l h2 hs
end Go.Proofs.YtciiooeblknnoaaDoor
