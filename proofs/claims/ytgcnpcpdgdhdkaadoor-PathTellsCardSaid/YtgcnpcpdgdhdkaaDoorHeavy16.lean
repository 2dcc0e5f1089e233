/- Contracts: what is more than a statement of layer 16 plays. -/
import Derived.Test.YtgcnpcpdgdhdkaaDoorTextsP
namespace Go.Proofs.YtgcnpcpdgdhdkaaDoor
open Go.RowKit

/-- How many bytes texts have. -/
def tot (l : List ByteArray) : Nat := l.foldl (fun n s => n + s.size) 0
theorem tot_step (l : List ByteArray) (j : Nat) (s : ByteArray) (h : l[j]? = some s) : tot (l.take (j + 1)) = tot (l.take j) + s.size := by
  unfold tot
  rw [List.take_add_one, h]
  simp
theorem tot_acc : ∀ (l : List ByteArray) (n : Nat), l.foldl (fun n s => n + s.size) n = n + tot l
  | [], _ => rfl
  | a :: r, n => by
    have e : tot (a :: r) = a.size + tot r := by
      show r.foldl (fun n s => n + s.size) (0 + a.size) = _
      rw [tot_acc r, Nat.zero_add]
    rw [List.foldl_cons, tot_acc r, e, Nat.add_assoc]
theorem tot_mem (l : List ByteArray) (s : ByteArray) (h : s ∈ l) : s.size ≤ tot l := by
  induction l with
  | nil => cases h
  | cons a r ih =>
    have e : tot (a :: r) = a.size + tot r := by
      show r.foldl (fun n s => n + s.size) (0 + a.size) = _
      rw [tot_acc r, Nat.zero_add]
    rw [e]
    rcases List.mem_cons.1 h with rfl | h
    · omega
    · have := ih h; omega
theorem tot_le (l : List ByteArray) (B : Nat) (h : ∀ s ∈ l, s.size ≤ B) : tot l ≤ l.length * B := by
  induction l with
  | nil => simp [tot]
  | cons a r ih =>
    have e : tot (a :: r) = a.size + tot r := by
      show r.foldl (fun n s => n + s.size) (0 + a.size) = _
      rw [tot_acc r, Nat.zero_add]
    rw [e, List.length_cons, Nat.succ_mul]
    have h1 := h a (by simp)
    have h2 := ih (fun s hs => h s (by simp [hs]))
    omega
/-- More than a statement plays. -/
def Heavy (l : List ByteArray) : Prop := 100 < l.length ∨ 4096 < tot (l.take 200)
theorem not_heavy {l : List ByteArray} (h : ¬ Heavy l) : l.length ≤ 100 ∧ ∀ s ∈ l, s.size ≤ 4096 := by
  unfold Heavy at h
  have h1 : l.length ≤ 100 := by omega
  have h2 : tot (l.take 200) ≤ 4096 := by omega
  rw [List.take_of_length_le (by omega)] at h2
  exact ⟨h1, fun s hs => Nat.le_trans (tot_mem l s hs) h2⟩
theorem tot_small' (l : List ByteArray) (B : Nat) (h : ∀ s ∈ l, s.size ≤ B) (j : Nat) (hj : j ≤ 200) : tot (l.take j) ≤ 200 * B := by
  have h1 := tot_le (l.take j) B (fun s hs => h s (List.mem_of_mem_take hs))
  have h2 : (l.take j).length ≤ 200 := by rw [List.length_take]; omega
  exact Nat.le_trans h1 (Nat.mul_le_mul_right _ h2)
theorem tot_small (l : List ByteArray) (h : ∀ s ∈ l, s.size ≤ 140737488351232) (j : Nat) (hj : j ≤ 200) : tot (l.take j) ≤ 28147497670246400 := tot_small' l _ h j hj
set_option maxRecDepth 100000 in
set_option maxHeartbeats 2000000 in
theorem heavy_is (w : World) (p : Option Addr) (c : Nat) (l : List ByteArray) (h : TextsP w p l) (hs : ∀ s ∈ l, s.size ≤ 140737488351232) (hl : l.length ≤ 140737488355328) (b : Bool) (hb : b = true ↔ Heavy l) :
    Calls Tryd.prog 7 #[.slice p l.length c] w fun e w' => e = .returned (.bool b) ∧ w = w' := by
  have HH := Lib.hid h
  have HT := Lib.hid (tot_step l)
  have HS := Lib.hid (tot_small l hs)
  have HB := Lib.hid hb
  clear h hs hb
  go_enter Tryd.func7, Tryd.ntmps7
  go_wp2
  go_loop [3, 4] (fun nv iv => ∃ j : Nat, j ≤ l.length ∧ j ≤ 200 ∧ iv = .int .i64 (j : Int) ∧ nv = .int .i64 (tot (l.take j) : Int)) (fun _ iv => l.length - (intOf iv).toNat)
  case atStart => exact ⟨0, Nat.zero_le _, Nat.zero_le _, rfl, by simp [tot]⟩
  case round =>
    obtain ⟨j, hj, hj60, rfl, rfl⟩ := hrel
    have ht := HS.out j hj60
    by_cases hlt : j < l.length ∧ j < 200
    · obtain ⟨h1, h2⟩ := hlt
      obtain ⟨s, hs⟩ : ∃ s, l[j]? = some s := ⟨_, List.getElem?_eq_getElem h1⟩
      obtain ⟨a, rfl, _, hc⟩ := HH.out j s hs
      have HTj := Lib.hid (HT.out j s hs)
      have ht2 : tot (l.take j) + s.size ≤ 28147497670246400 := by have := HS.out (j + 1) (by omega); rw [HTj.out] at this; exact this
      clear hs
      generalize tot (l.take j) = T at *
      go_wp2
      go_round
      case rel => exact ⟨j + 1, by omega, by omega, by go_num, by rw [HTj.out]; go_num⟩
      case measure => simp [intOf]; omega
    · have hB2 : b = (decide ((100 : Int) < (l.length : Int)) || decide ((4096 : Int) < (tot (l.take j) : Int))) := by
        rw [Bool.eq_iff_iff, HB.out]
        unfold Heavy
        have e : j = l.length ∨ j = 200 := by omega
        rcases e with e | e
        · have e2 : l.take j = l.take 200 ∨ 200 < l.length := by
            by_cases h6 : 200 < l.length
            · exact .inr h6
            · exact .inl (by rw [List.take_of_length_le (by omega), List.take_of_length_le (by omega)])
          rcases e2 with e2 | e2
          · rw [e2]; simp; omega
          · simp; omega
        · rw [e]; simp; omega
      have HB2 := Lib.hid hB2
      clear hB2
      generalize tot (l.take j) = T at *
      by_cases h1 : j < l.length
      · have h2 : ¬ j < 200 := fun q => hlt ⟨h1, q⟩
        clear hlt
        by_cases h3 : 100 < l.length
        · have hbt : b = true := by rw [HB2.out]; simp; omega
          subst hbt
          go_wp2
          go_ret
          exact ⟨rfl, rfl⟩
        · omega
      · clear hlt
        by_cases h3 : 100 < l.length
        · have hbt : b = true := by rw [HB2.out]; simp; omega
          subst hbt
          go_wp2
          go_ret
          exact ⟨rfl, rfl⟩
        · go_wp2
          go_ret
          exact ⟨congrArg (fun x => Ending.returned (Value.bool x)) HB2.out.symm, rfl⟩
theorem heavy_yes (w : World) (p : Option Addr) (c : Nat) (l : List ByteArray) (h : TextsP w p l) (hs : ∀ s ∈ l, s.size ≤ 140737488351232) (hl : l.length ≤ 140737488355328) (hh : Heavy l) :
    Calls Tryd.prog 7 #[.slice p l.length c] w fun e w' => e = .returned (.bool true) ∧ w = w' := heavy_is w p c l h hs hl true (by simp [hh])
theorem heavy_no (w : World) (p : Option Addr) (c : Nat) (l : List ByteArray) (h : TextsP w p l) (hs : ∀ s ∈ l, s.size ≤ 140737488351232) (hl : l.length ≤ 140737488355328) (hh : ¬ Heavy l) :
    Calls Tryd.prog 7 #[.slice p l.length c] w fun e w' => e = .returned (.bool false) ∧ w = w' := heavy_is w p c l h hs hl false (by simp [hh])
end Go.Proofs.YtgcnpcpdgdhdkaaDoor
