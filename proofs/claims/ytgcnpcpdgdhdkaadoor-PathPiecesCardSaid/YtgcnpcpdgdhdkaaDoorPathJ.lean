/- Plain: a path's beginnings, piece by piece. -/
import Derived.Test.YtgcnpcpdgdhdkaaDoorPathN
namespace Go.Proofs.YtgcnpcpdgdhdkaaDoor

theorem cuts_join : ∀ (Q : List (List UInt8)), Q ≠ [] → (∀ x ∈ Q, 47 ∉ x) → cuts (joinL Q) = Q
  | [], h, _ => absurd rfl h
  | [x], _, h => cuts_one x (h x (by simp))
  | x :: y :: t, _, h => by
    rw [joinL_two, cuts_app, cuts_one x (h x (by simp)), cuts_join (y :: t) (by simp) (fun z hz => h z (by simp [hz]))]
    rfl
/-- The first k pieces, with slashes between. -/
def headL (s : List UInt8) (k : Nat) : List UInt8 := joinL ((cuts s).take k)
theorem head_zero (s : List UInt8) : headL s 0 = [] := rfl
theorem head_all (s : List UInt8) : headL s (cuts s).length = s := by unfold headL; rw [List.take_length, join_cuts]
theorem head_next (s : List UInt8) (k : Nat) (x : List UInt8) (hk : 0 < k) (hx : (cuts s)[k]? = some x) : headL s (k + 1) = headL s k ++ 47 :: x := by
  have hlt : k < (cuts s).length := (List.getElem?_eq_some_iff.1 hx).1
  unfold headL
  rw [List.take_add_one, hx]
  rw [join_app _ _ (by intro e; have := congrArg List.length e; rw [List.length_take, List.length_nil] at this; omega) (by simp)]
  rfl
theorem head_one (s : List UInt8) (x : List UInt8) (hx : (cuts s)[0]? = some x) : headL s 1 = x := by
  unfold headL
  rw [List.take_add_one, hx]
  rfl
theorem head_len (s : List UInt8) (k : Nat) : (headL s k).length ≤ s.length := by
  unfold headL
  by_cases h1 : (cuts s).take k = []
  · rw [h1]; exact Nat.zero_le _
  · by_cases h2 : (cuts s).drop k = []
    · have e := List.take_append_drop k (cuts s)
      rw [h2, List.append_nil] at e
      rw [e, join_cuts]
      exact Nat.le_refl _
    · have e := join_cuts s
      rw [← List.take_append_drop k (cuts s), join_app _ _ h1 h2] at e
      have := congrArg List.length e
      simp at this
      omega
theorem head_may (s : List UInt8) (h : mayB s = true) (k : Nat) (hk : 0 < k) (hl : k ≤ (cuts s).length) : mayB (headL s k) = true ∧ cuts (headL s k) = (cuts s).take k := by
  have hne : (cuts s).take k ≠ [] := by
    intro e
    have := congrArg List.length e
    rw [List.length_take, List.length_nil] at this
    omega
  have e : cuts (headL s k) = (cuts s).take k := cuts_join _ hne (fun x hx => cuts_noslash s x (List.mem_of_mem_take hx))
  refine ⟨?_, e⟩
  have hh := head_len s k
  unfold mayB at h ⊢
  simp only [Bool.and_eq_true, decide_eq_true_eq, List.all_eq_true] at h ⊢
  rw [e]
  refine ⟨⟨by omega, by rw [List.length_take]; omega⟩, fun x hx => h.2 x (List.mem_of_mem_take hx)⟩
theorem head_pieces (s : List UInt8) (h : mayB s = true) (k : Nat) (hl : k ≤ (cuts s).length) : piecesL (headL s k) = (cuts s).take k := by
  rcases Nat.eq_zero_or_pos k with rfl | hk
  · exact pieces_nil
  · obtain ⟨h1, h2⟩ := head_may s h k hk hl
    rw [pieces_of h1, h2]
theorem head_pref (s : List UInt8) (h : mayB s = true) (k : Nat) (hl : k ≤ (cuts s).length) : prefB (headL s k) = true := by
  rcases Nat.eq_zero_or_pos k with rfl | hk
  · rfl
  · unfold prefB
    rw [(head_may s h k hk hl).1, Bool.or_true]
theorem head_under (s : List UInt8) (h : mayB s = true) (k : Nat) (hl : k < (cuts s).length) : underB (headL s k) s = true := by
  rw [under_pieces]
  refine ⟨head_pref s h k (by omega), (cuts s).drop k, ?_, ?_⟩
  · intro e
    have := congrArg List.length e
    rw [List.length_drop, List.length_nil] at this
    omega
  · rw [head_pieces s h k (by omega), pieces_of h, List.take_append_drop]
/-- The same of texts: a beginning, its child. -/
def headB (s : ByteArray) (k : Nat) : ByteArray := toB (headL s.data.toList k)
theorem headB_zero (s : ByteArray) : headB s 0 = ⟨#[]⟩ := rfl
theorem headB_size (s : ByteArray) (k : Nat) : (headB s k).size ≤ s.size := by
  unfold headB
  rw [toB_size, ← size_list s]
  exact head_len _ _
theorem headB_all (s : ByteArray) : headB s (cutsB s).length = s := by unfold headB; rw [cutsB_length, head_all]; exact toB_of s
theorem headB_one (s x : ByteArray) (hx : (cutsB s)[0]? = some x) : headB s 1 = x := by
  unfold cutsB at hx
  rw [List.getElem?_map] at hx
  cases e : (cuts s.data.toList)[0]? with
  | none => rw [e] at hx; cases hx
  | some y =>
    rw [e] at hx
    cases hx
    unfold headB
    rw [head_one _ y e]
theorem headB_next (s x : ByteArray) (k : Nat) (hk : 0 < k) (hx : (cutsB s)[k]? = some x) : headB s (k + 1) = headB s k ++ ⟨#[47]⟩ ++ x := by
  unfold cutsB at hx
  rw [List.getElem?_map] at hx
  cases e : (cuts s.data.toList)[k]? with
  | none => rw [e] at hx; cases hx
  | some y =>
    rw [e] at hx
    cases hx
    unfold headB
    rw [head_next _ k y hk e]
    apply ByteArray.ext
    apply Array.toList_inj.1
    rw [ByteArray.data_append, ByteArray.data_append, Array.toList_append, Array.toList_append, toB_data, toB_data, toB_data]
    simp
theorem headB_ne (s : ByteArray) (h : mayB s.data.toList = true) (k : Nat) (hk : 0 < k) (hl : k ≤ (cutsB s).length) : (headB s k).toList.isEmpty = false := by
  rw [Lib.toList_data]
  unfold headB
  rw [toB_data]
  rw [cutsB_length] at hl
  have h2 := (head_may _ h k hk hl).1
  cases e : headL s.data.toList k with
  | nil => rw [e, may_nil] at h2; cases h2
  | cons => rfl
theorem headB_under (s : ByteArray) (h : mayB s.data.toList = true) (k : Nat) (hl : k < (cutsB s).length) : underT (headB s k) s = true ∧ prefB (headB s k).data.toList = true := by
  rw [cutsB_length] at hl
  exact ⟨head_under _ h k hl, head_pref _ h k (by omega)⟩
theorem headB_child (s x : ByteArray) (h : mayB s.data.toList = true) (k : Nat) (hx : (cutsB s)[k]? = some x) : childB (headB s k) s = if k + 1 < (cutsB s).length then x ++ ⟨#[47]⟩ else x := by
  have hlt : k < (cutsB s).length := (List.getElem?_eq_some_iff.1 hx).1
  obtain ⟨y, hy, e⟩ := child_at (headB s k) s (headB_under s h k hlt).1
  have hp : (piecesB (headB s k)).length = k := by
    unfold piecesB headB
    rw [toB_data, head_pieces _ h k (by rw [cutsB_length] at hlt; omega)]
    rw [cutsB_length] at hlt
    simp; omega
  rw [hp, piecesB_of h] at hy e
  rw [hx] at hy
  cases hy
  exact e
end Go.Proofs.YtgcnpcpdgdhdkaaDoor
