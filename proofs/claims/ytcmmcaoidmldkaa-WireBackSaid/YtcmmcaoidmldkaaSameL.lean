/- Contracts: whether two lists are the same; how many bytes texts have; a text's last bytes. -/
import Derived.Test.YtcmmcaoidmldkaaRefW
import Derived.Test.YtcmmcaoidmldkaaReader
import Derived.Lib.Strings
import Derived.Outline
namespace Go.Proofs.Ytcmmcaoidmldkaa
open Go.RowKit

theorem lists_eq {l m : List ByteArray} (hlm : l.length = m.length) (h : ∀ i, i < l.length → l[i]? = m[i]?) : l = m := by
  apply List.ext_getElem? 
  intro i
  by_cases hi : i < l.length
  · exact h i hi
  · rw [List.getElem?_eq_none (by omega), List.getElem?_eq_none (by omega)]
theorem txt_ne {x y : ByteArray} (h : ¬ x = y) : (x.toList == y.toList) = false := by
  rw [beq_eq_false_iff_ne]
  intro e
  rw [Lib.toList_data, Lib.toList_data] at e
  exact h (txt_ext e)
set_option maxRecDepth 100000 in
set_option maxHeartbeats 2000000 in
theorem same_is (w : World) (p q : Option Addr) (c d n k : Nat) (l m : List ByteArray) (hn : l.length = n) (hk : m.length = k) (hl : TextsP w p l) (hm : TextsP w q m) (hn6 : n ≤ 1000000) (hk6 : k ≤ 1000000) (b : Bool) (hb : b = true ↔ l = m) :
    Calls Try.prog 19 #[.slice p n c, .slice q k d] w fun e w' => e = .returned (.bool b) ∧ Ext w w' := by
  have HL := Lib.hid (fun u (hu : Ext w u) => hl.ext hu)
  have HM := Lib.hid (fun u (hu : Ext w u) => hm.ext hu)
  have HB := Lib.hid hb
  by_cases hnk : n = k
  · subst hnk
    have HE := Lib.hid (fun h => lists_eq (l := l) (m := m) (by omega) h)
    have HN := Lib.hid hn; have HK := Lib.hid hk
    clear hl hm hb hn hk
    go_enter Try.func19, Try.ntmps19
    go_wp2
    go_loopw [5] (fun i wr => ∃ j : Nat, j ≤ n ∧ i = .int .i64 (j : Int) ∧ Hid (∀ i, i < j → l[i]? = m[i]?) ∧ Hid (Ext w wr)) (fun i _ => n - (intOf i).toNat)
    case atStart => exact ⟨0, Nat.zero_le _, rfl, Lib.hid (fun i hi => by omega), Lib.hid (Ext.refl _)⟩
    case round =>
      obtain ⟨j, hj, rfl, hs, hx⟩ := hrel
      by_cases hlt : j < n
      · obtain ⟨x, hxj⟩ : ∃ x, l[j]? = some x := ⟨_, List.getElem?_eq_getElem (by have := HN.out; omega)⟩
        obtain ⟨y, hyj⟩ : ∃ y, m[j]? = some y := ⟨_, List.getElem?_eq_getElem (by have := HK.out; omega)⟩
        obtain ⟨a, rfl, _, hc1⟩ := HL.out _ hx.out j x hxj
        obtain ⟨a2, rfl, _, hc2⟩ := HM.out _ hx.out j y hyj
        have HX := Lib.hid hxj; have HY := Lib.hid hyj
        clear hxj hyj
        by_cases hxy : x = y
        · subst hxy
          go_wp2
          go_quiet (fail)
          go_wp2
          go_roundw
          case rel => 
            refine ⟨j + 1, hlt, by go_num, Lib.hid fun i hi => ?_, Lib.hid (hx.out.drewN _)⟩
            by_cases hij : i = j
            · rw [hij, HX.out, HY.out]
            · exact hs.out i (by omega)
          case measure => simp [intOf]; omega
        · have hne := txt_ne hxy
          have hbf : b = false := by
            cases b with
            | false => rfl
            | true =>
              have := HB.out.1 rfl
              subst this
              have h1 := HX.out
              rw [HY.out] at h1
              exact absurd (Option.some.inj h1).symm hxy
          subst hbf
          go_wp2
          go_quiet (fail)
          go_wp2
          go_ret
          exact ⟨rfl, hx.out.drewN _⟩
      · obtain rfl : j = n := by omega
        have hbt : b = true := HB.out.2 (HE.out (by have := HN.out; intro i hi; exact hs.out i (by omega)))
        subst hbt
        go_wp2
        go_ret
        exact ⟨rfl, hx.out⟩
  · have hbf : b = false := by
      cases b with
      | false => rfl
      | true => exact absurd (congrArg List.length (hb.1 rfl)) (by omega)
    subst hbf
    have hnk2 : ((n : Int) != (k : Int)) = true := by rw [bne_iff_ne]; omega
    clear hl hm hb hn hk
    go_enter Try.func19, Try.ntmps19
    go_wp2
    go_ret
    exact ⟨rfl, Ext.refl _⟩
theorem same_dec (w : World) (p q : Option Addr) (c d n k : Nat) (l m : List ByteArray) (hn : l.length = n) (hk : m.length = k) (hl : TextsP w p l) (hm : TextsP w q m) (hn6 : n ≤ 1000000) (hk6 : k ≤ 1000000) :
    Calls Try.prog 19 #[.slice p n c, .slice q k d] w fun e w' => e = .returned (.bool (decide (l = m))) ∧ Ext w w' :=
  same_is w p q c d n k l m hn hk hl hm hn6 hk6 _ (by simp)
/-! ### How many bytes texts have -/
def tot (l : List ByteArray) : Nat := l.foldl (fun n s => n + s.size) 0
theorem tot_acc : ∀ (l : List ByteArray) (n : Nat), l.foldl (fun n s => n + s.size) n = n + tot l
  | [], _ => rfl
  | a :: r, n => by
    have e : tot (a :: r) = a.size + tot r := by
      show r.foldl (fun n s => n + s.size) (0 + a.size) = _
      rw [tot_acc r, Nat.zero_add]
    rw [List.foldl_cons, tot_acc r, e, Nat.add_assoc]
theorem tot_cons (a : ByteArray) (r : List ByteArray) : tot (a :: r) = a.size + tot r := by
  show r.foldl (fun n s => n + s.size) (0 + a.size) = _
  rw [tot_acc r, Nat.zero_add]
theorem tot_step (l : List ByteArray) (j : Nat) (s : ByteArray) (h : l[j]? = some s) : tot (l.take (j + 1)) = tot (l.take j) + s.size := by
  unfold tot
  rw [List.take_add_one, h]
  simp
theorem tot_mem (l : List ByteArray) (s : ByteArray) (h : s ∈ l) : s.size ≤ tot l := by
  induction l with
  | nil => cases h
  | cons a r ih =>
    rw [tot_cons]
    rcases List.mem_cons.1 h with rfl | h
    · omega
    · have := ih h; omega
theorem tot_flat (l : List ByteArray) : (l.flatMap wt).length ≤ 10 * l.length + tot l := by
  induction l with
  | nil => simp
  | cons a r ih =>
    have := wn_length a.size
    have h2 : (wt a).length = (wn a.size).length + a.size := by unfold wt; rw [List.length_append, size_list]
    rw [List.flatMap_cons, List.length_append, tot_cons, List.length_cons, h2]
    omega
/-- The count of bytes, which stops above 16384. -/
def totG (acc : Nat) : List ByteArray → Nat
  | [] => acc
  | s :: r => if acc ≤ 16384 then totG (acc + s.size) r else acc
theorem totG_or : ∀ (l : List ByteArray) (acc : Nat), totG acc l = acc + tot l ∨ 16384 < totG acc l
  | [], acc => .inl (by simp [totG, tot])
  | s :: r, acc => by
    rw [totG]
    split
    · rw [tot_cons, ← Nat.add_assoc]; exact totG_or r _
    · right; omega
theorem totG_le : ∀ (l : List ByteArray) (acc B : Nat), (∀ s ∈ l, s.size ≤ B) → totG acc l ≤ acc ∨ totG acc l ≤ 16384 + B
  | [], acc, B, _ => .inl (by simp [totG])
  | s :: r, acc, B, h => by
    rw [totG]
    split
    · have h1 := h s (by simp)
      rcases totG_le r (acc + s.size) B (fun x hx => h x (by simp [hx])) with h2 | h2
      · right; omega
      · exact .inr h2
    · left; omega
theorem totG_small (l : List ByteArray) (h : totG 0 l ≤ 4096) : tot l ≤ 4096 := by
  rcases totG_or l 0 with h1 | h1 <;> omega
theorem totG_bound (l : List ByteArray) (hs : ∀ s ∈ l, s.size ≤ 140737488351232) : totG 0 l ≤ 140737488367616 := by
  rcases totG_le l 0 _ hs with h | h <;> omega
theorem drop_texts (l : List ByteArray) (j : Nat) (x : ByteArray) (h : l[j]? = some x) : l.drop j = x :: l.drop (j + 1) := by
  obtain ⟨hj, rfl⟩ := List.getElem?_eq_some_iff.1 h
  exact List.drop_eq_getElem_cons hj
attribute [local irreducible] totG
set_option maxRecDepth 100000 in
set_option maxHeartbeats 2000000 in
theorem total_any (w : World) (p : Option Addr) (c n : Nat) (l : List ByteArray) (hn : l.length = n) (h : TextsP w p l) (hs : ∀ s ∈ l, s.size ≤ 140737488351232) (hl : n ≤ 140737488355328) :
    Calls Try.prog 7 #[.slice p n c] w fun e w' => e = .returned (.int .i64 (totG 0 l : Int)) ∧ w = w' := by
  obtain ⟨t, ht⟩ : ∃ t, t = totG 0 l := ⟨_, rfl⟩
  rw [← ht]
  have HH := Lib.hid h; have HS := Lib.hid hs; have HN := Lib.hid hn; have HT := Lib.hid ht
  clear h hs hn ht
  go_enter Try.func7, Try.ntmps7
  go_wp2
  go_loop [3, 4] (fun nv iv => ∃ j a : Nat, j ≤ n ∧ iv = .int .i64 (j : Int) ∧ nv = .int .i64 (a : Int) ∧ a ≤ 140737488367616 ∧ Hid (totG a (l.drop j) = t)) (fun _ iv => n - (intOf iv).toNat)
  case atStart => exact ⟨0, 0, Nat.zero_le _, rfl, rfl, by omega, Lib.hid (by rw [HT.out]; rfl)⟩
  case round =>
    obtain ⟨j, a, hj, rfl, rfl, ha, hg⟩ := hrel
    have hgx := hg.out
    by_cases hlt : j < n
    · obtain ⟨x, hxj⟩ : ∃ x, l[j]? = some x := ⟨_, List.getElem?_eq_getElem (by have := HN.out; omega)⟩
      obtain ⟨ad, rfl, _, hc1⟩ := HH.out j x hxj
      have hxs := HS.out x (List.mem_of_getElem? hxj)
      rw [drop_texts l j x hxj, totG] at hgx
      by_cases ha4 : a ≤ 16384
      · rw [if_pos ha4] at hgx
        have HG := Lib.hid hgx
        clear hgx hxj
        go_wp2
        go_round
        case rel => exact ⟨j + 1, a + x.size, hlt, by go_num, by go_num, by omega, HG⟩
        case measure => simp [intOf]; omega
      · rw [if_neg ha4] at hgx
        subst hgx
        have ha5 : ¬ (a : Int) ≤ 16384 := by omega
        clear hxj
        go_wp2
        go_ret
        exact ⟨rfl, rfl⟩
    · obtain rfl : j = n := by omega
      rw [List.drop_eq_nil_of_le (by have := HN.out; omega), totG] at hgx
      subst hgx
      go_wp2
      go_ret
      exact ⟨rfl, rfl⟩
/-! ### A text's last bytes -/
theorem rest_any (s : ByteArray) (n : Nat) (hn : n ≤ s.size) (hs : s.size ≤ 1000000) (w : World) :
    Calls Try.prog 27 #[.string s, .int .i64 (n : Int)] w fun e w' => e = .returned (.string (s.extract (s.size - n) s.size)) ∧ w = w' := by
  have hsl := slice_rest s (s.size - n) (by omega)
  have e : ((s.size - n : Nat) : Int) = (s.size : Int) - (n : Int) := by omega
  rw [e] at hsl
  generalize s.extract (s.size - n) s.size = X at *
  clear e
  go_enter Try.func27, Try.ntmps27
  go_wp2
  go_ret
  exact ⟨rfl, rfl⟩
end Go.Proofs.Ytcmmcaoidmldkaa
