/- Plain: either or of many texts, in any order; rows of shares. Bytes that are a share's, or none's. Plain: the bytes of shares. Plain: texts joined; a text of one byte. Plain: what a barrier's header is made of. -/
import Derived.Test.YtcjdnifckngcfaaGreatDoorM35
import Derived.Test.YtcjdnifckngcfaaGreatDoorM04
import Derived.Test.YtcjdnifckngcfaaGreatDoorM00
import Derived.Test.YtcjdnifckngcfaaGreatDoorM02
import Derived.Laws.ResultCell
import Derived.Deep.QuietTactic
import Derived.BigQuiet
import Derived.StillTailTactics
import Derived.Test.YtcjdnifckngcfaaGreatDoorM27
import Derived.Test.YtcjdnifckngcfaaGreatDoorM05
section
namespace Go.Proofs.YtcjdnifckngcfaaGreatDoor
open Go.RowKit
/-- Shares' texts. -/
def txtsOf (L : List (Nat × ByteArray)) : List ByteArray := L.map (·.2)

theorem xs_comm : ∀ (a b : List UInt8), xorL a b = xorL b a
  | [], b => by cases b <;> simp [xorL]
  | x :: a, [] => by simp [xorL]
  | x :: a, y :: b => by
    have ih := xs_comm a b
    unfold xorL at ih ⊢
    rw [List.zipWith_cons_cons, List.zipWith_cons_cons, ih, UInt8.xor_comm]
theorem xs_assoc : ∀ (a b c : List UInt8), xorL (xorL a b) c = xorL a (xorL b c)
  | [], b, c => by simp [xorL]
  | x :: a, [], c => by simp [xorL]
  | x :: a, y :: b, [] => by simp [xorL]
  | x :: a, y :: b, z :: c => by
    have ih := xs_assoc a b c
    unfold xorL at ih ⊢
    rw [List.zipWith_cons_cons, List.zipWith_cons_cons, List.zipWith_cons_cons, List.zipWith_cons_cons, ih, UInt8.xor_assoc]
theorem xs_self_left : ∀ (a b : List UInt8), a.length = b.length → xorL a (xorL a b) = b
  | [], b, h => by
    have : b = [] := by cases b with | nil => rfl | cons _ _ => simp at h
    subst this; rfl
  | x :: a, [], h => by simp at h
  | x :: a, y :: b, h => by
    have ih := xs_self_left a b (by simpa using h)
    unfold xorL at ih ⊢
    rw [List.zipWith_cons_cons, List.zipWith_cons_cons, ih, ← UInt8.xor_assoc, UInt8.xor_self, UInt8.zero_xor]
theorem xs_length (a b : List UInt8) (h : a.length = b.length) : (xorL a b).length = a.length := by unfold xorL; rw [List.length_zipWith]; omega
/-- Nothing, either or a text. -/
theorem xs_zero : ∀ (b : List UInt8), xorL (List.replicate b.length 0) b = b
  | [] => rfl
  | y :: b => by
    have ih := xs_zero b
    unfold xorL at ih ⊢
    rw [List.length_cons, List.replicate_succ, List.zipWith_cons_cons, ih, UInt8.zero_xor]
theorem xorAll_cons (a : List UInt8) (b : ByteArray) (r : List ByteArray) : xorAll a (b :: r) = xorAll (xorL a b.data.toList) r := rfl
theorem xorAll_nil (a : List UInt8) : xorAll a [] = a := rfl
theorem xorAll_append (a : List UInt8) (l r : List ByteArray) : xorAll a (l ++ r) = xorAll (xorAll a l) r := by unfold xorAll; rw [List.foldl_append]
theorem xorAll_out (r : List ByteArray) : ∀ (a b : List UInt8), xorAll (xorL a b) r = xorL a (xorAll b r) := by
  induction r with
  | nil => exact fun a b => rfl
  | cons c r ih => exact fun a b => by rw [xorAll_cons, xorAll_cons, xs_assoc, ih]
theorem xorAll_perm {l r : List ByteArray} (h : l.Perm r) : ∀ a, xorAll a l = xorAll a r := by
  induction h with
  | nil => exact fun a => rfl
  | cons x _ ih => exact fun a => ih _
  | swap x y l =>
    intro a
    rw [xorAll_cons, xorAll_cons, xorAll_cons, xorAll_cons, xs_assoc, xs_assoc, xs_comm y.data.toList]
  | trans _ _ ih1 ih2 => exact fun a => (ih1 a).trans (ih2 a)
/-- All of a row, either or. -/
theorem xorAll_head (m : Nat) (x : ByteArray) (r : List ByteArray) (hx : x.size = m) : xorAll x.data.toList r = xorAll (List.replicate m 0) (x :: r) := by
  rw [xorAll_cons]
  have e : List.replicate m (0 : UInt8) = List.replicate x.data.toList.length 0 := by rw [size_list, hx]
  rw [e, xs_zero]
theorem xorAll_rows {m : Nat} {x y : ByteArray} {l r : List ByteArray} (h : (x :: l).Perm (y :: r)) (hx : x.size = m) (hy : y.size = m) : xorAll x.data.toList l = xorAll y.data.toList r := by
  rw [xorAll_head m x l hx, xorAll_head m y r hy, xorAll_perm h]
/-- The last share. -/
def lastT (secret : ByteArray) (l : List ByteArray) : ByteArray := ⟨(xorAll secret.data.toList l).toArray⟩
theorem lastT_size (secret : ByteArray) (l : List ByteArray) (hl : ∀ s ∈ l, s.size = secret.size) : (lastT secret l).size = secret.size := by
  unfold lastT
  rw [txt_size, xorAll_length l _ (size_list _) hl]
/-- All shares' texts. -/
def allT (secret : ByteArray) (l : List ByteArray) : List ByteArray := l ++ [lastT secret l]
theorem allT_length (secret : ByteArray) (l : List ByteArray) : (allT secret l).length = l.length + 1 := by simp [allT]
theorem allT_size (secret : ByteArray) (l : List ByteArray) (hl : ∀ s ∈ l, s.size = secret.size) : ∀ s ∈ allT secret l, s.size = secret.size := by
  intro s hs
  rcases List.mem_append.1 hs with hs | hs
  · exact hl s hs
  · rw [List.mem_singleton] at hs; subst hs; exact lastT_size secret l hl
theorem zero_length (m : Nat) (l : List ByteArray) (h : ∀ s ∈ l, s.size = m) : (xorAll (List.replicate m 0) l).length = m := xorAll_length l _ (by simp) h
/-- All of them are the secret. -/
theorem allT_sum (secret : ByteArray) (l : List ByteArray) (hl : ∀ s ∈ l, s.size = secret.size) : xorAll (List.replicate secret.size 0) (allT secret l) = secret.data.toList := by
  have hz := zero_length _ l hl
  have e : (lastT secret l).data.toList = xorL (xorAll (List.replicate secret.size 0) l) secret.data.toList := by
    have e1 : (lastT secret l).data.toList = xorAll secret.data.toList l := by simp [lastT]
    have e2 : xorAll secret.data.toList l = xorAll (xorL secret.data.toList (List.replicate secret.size 0)) l := by
      rw [xs_comm secret.data.toList, ← size_list, xs_zero]
    rw [e1, e2, xorAll_out, xs_comm]
  unfold allT
  rw [xorAll_append, xorAll_cons, xorAll_nil, e, xs_self_left]
  rw [hz, size_list]
theorem allT_secret (secret : ByteArray) (l : List ByteArray) (hl : ∀ s ∈ l, s.size = secret.size) (s0 : ByteArray) (St : List ByteArray) (h : allT secret l = s0 :: St) : xorAll s0.data.toList St = secret.data.toList := by
  rw [xorAll_head secret.size s0 St (allT_size secret l hl s0 (by rw [h]; simp)), ← h, allT_sum secret l hl]
/-- The share that another secret wants in the place of one. -/
def otherT (secret o s : ByteArray) : ByteArray := ⟨(xorL (xorL s.data.toList secret.data.toList) o.data.toList).toArray⟩
theorem otherT_size (secret o s : ByteArray) (h1 : s.size = secret.size) (h2 : o.size = secret.size) : (otherT secret o s).size = secret.size := by
  unfold otherT
  have e1 : (xorL s.data.toList secret.data.toList).length = secret.size := by rw [xs_length _ _ (by rw [size_list, size_list, h1]), size_list, h1]
  rw [txt_size, xs_length _ _ (by rw [e1, size_list, h2]), e1]
theorem set_perm' : ∀ {l : List ByteArray} {k : Nat} {s t : ByteArray}, l[k]? = some s → ∃ r, l.Perm (s :: r) ∧ (l.set k t).Perm (t :: r)
  | [], k, s, t, h => by simp at h
  | a :: l, 0, s, t, h => by
    simp at h; subst h
    exact ⟨l, List.Perm.refl _, List.Perm.refl _⟩
  | a :: l, k + 1, s, t, h => by
    obtain ⟨r, h1, h2⟩ := set_perm' (t := t) (show l[k]? = some s by simpa using h)
    exact ⟨a :: r, (h1.cons a).trans (List.Perm.swap _ _ _), by rw [List.set_cons_succ]; exact (h2.cons a).trans (List.Perm.swap _ _ _)⟩
theorem other_secret (secret o : ByteArray) (l : List ByteArray) (hl : ∀ s ∈ l, s.size = secret.size) (ho : o.size = secret.size) (k : Nat) (s : ByteArray) (hk : (allT secret l)[k]? = some s) (s0 : ByteArray) (St : List ByteArray) (h : (allT secret l).set k (otherT secret o s) = s0 :: St) : xorAll s0.data.toList St = o.data.toList := by
  obtain ⟨r, p1, p2⟩ := set_perm' (t := otherT secret o s) hk
  have hs : s.size = secret.size := allT_size secret l hl s (List.mem_of_getElem? hk)
  have hot := otherT_size secret o s hs ho
  have hall := allT_size secret l hl
  have hr : ∀ x ∈ r, x.size = secret.size := fun x hx => hall x (p1.mem_iff.2 (by simp [hx]))
  have h0 : s0.size = secret.size := by
    have hm : s0 ∈ otherT secret o s :: r := p2.mem_iff.1 (by rw [h]; simp)
    rcases List.mem_cons.1 hm with rfl | hm
    · exact hot
    · exact hr s0 hm
  rw [h] at p2
  rw [xorAll_rows p2 h0 hot]
  have e1 : xorAll s.data.toList r = secret.data.toList := by rw [xorAll_head secret.size s r hs, ← xorAll_perm p1, allT_sum secret l hl]
  have e3 : (otherT secret o s).data.toList = xorL (xorL o.data.toList secret.data.toList) s.data.toList := by
    have q : (otherT secret o s).data.toList = xorL (xorL s.data.toList secret.data.toList) o.data.toList := by simp [otherT]
    rw [q, xs_comm _ o.data.toList, xs_comm s.data.toList, ← xs_assoc]
  rw [e3, xorAll_out, e1, xs_assoc, xs_comm o.data.toList]
  have q := xs_self_left secret.data.toList o.data.toList (by rw [size_list, size_list, ho])
  rw [xs_comm secret.data.toList secret.data.toList, xs_assoc]
  exact q

/-! ### Rows that are whole -/
theorem hole : ∀ (n : Nat) (K : List Nat), K.Pairwise (· ≠ ·) → (∀ k ∈ K, 1 ≤ k ∧ k ≤ n) → K.length ≤ n
  | 0, K, _, hk => by
    cases K with
    | nil => simp
    | cons a r => have := hk a (by simp); omega
  | n + 1, K, hp, hk => by
    by_cases hm : n + 1 ∈ K
    · obtain ⟨l1, l2, rfl⟩ := List.append_of_mem hm
      have hp2 : (l1 ++ l2).Pairwise (· ≠ ·) := hp.sublist (List.Sublist.append_left (List.sublist_cons_self _ _) _)
      have h1 := hole n (l1 ++ l2) hp2 (fun k hkm => by
        have hkm2 : k ∈ l1 ++ (n + 1) :: l2 := by
          rcases List.mem_append.1 hkm with h | h
          · exact List.mem_append_left _ h
          · exact List.mem_append_right _ (List.mem_cons_of_mem _ h)
        have h2 := hk k hkm2
        have h3 : k ≠ n + 1 := by
          rw [List.pairwise_append] at hp
          rcases List.mem_append.1 hkm with h | h
          · exact hp.2.2 k h (n + 1) (by simp)
          · have := (List.pairwise_cons.1 hp.2.1).1 k h
            exact Ne.symm this
        omega)
      simp at h1 ⊢
      omega
    · have h1 := hole n K hp (fun k hkm => by
        have h2 := hk k hkm
        have h3 : k ≠ n + 1 := fun e => hm (e ▸ hkm)
        omega)
      omega
/-- As many shares as there are: the row in its order. -/
theorem whole : ∀ (n : Nat) (L : List (Nat × ByteArray)), L.Pairwise (fun x y => x.1 ≠ y.1) → (∀ x ∈ L, 1 ≤ x.1 ∧ x.1 ≤ n) → L.length = n →
    ∃ S : List ByteArray, S.length = n ∧ (∀ (j : Nat) (s : ByteArray), S[j]? = some s → (j + 1, s) ∈ L) ∧ S.Perm (txtsOf L)
  | 0, L, _, _, hl => by
    have : L = [] := List.length_eq_zero_iff.1 hl
    subst this
    exact ⟨[], rfl, by simp, List.Perm.refl _⟩
  | n + 1, L, hp, hk, hl => by
    have hm : ∃ s, (n + 1, s) ∈ L := by
      apply Classical.byContradiction
      intro hno
      have h1 := hole n (L.map (·.1)) (by rw [List.pairwise_map]; exact hp) (fun k hkm => by
        obtain ⟨x, hx, rfl⟩ := List.mem_map.1 hkm
        have h2 := hk x hx
        have h3 : x.1 ≠ n + 1 := fun e => hno ⟨x.2, by rw [← e]; exact hx⟩
        omega)
      rw [List.length_map] at h1
      omega
    obtain ⟨s, hs⟩ := hm
    obtain ⟨l1, l2, rfl⟩ := List.append_of_mem hs
    have hp2 : (l1 ++ l2).Pairwise (fun x y => x.1 ≠ y.1) := hp.sublist (List.Sublist.append_left (List.sublist_cons_self _ _) _)
    obtain ⟨S, h1, h2, h3⟩ := whole n (l1 ++ l2) hp2 (fun x hx => by
      have hx2 : x ∈ l1 ++ (n + 1, s) :: l2 := by
        rcases List.mem_append.1 hx with h | h
        · exact List.mem_append_left _ h
        · exact List.mem_append_right _ (List.mem_cons_of_mem _ h)
      have q := hk x hx2
      have h3 : x.1 ≠ n + 1 := by
        rw [List.pairwise_append] at hp
        rcases List.mem_append.1 hx with h | h
        · exact hp.2.2 x h (n + 1, s) (by simp)
        · have := (List.pairwise_cons.1 hp.2.1).1 x h
          exact Ne.symm this
      omega) (by simp at hl ⊢; omega)
    refine ⟨S ++ [s], by simp [h1], fun j t hj => ?_, ?_⟩
    · rw [List.getElem?_append] at hj
      split at hj
      · have q := h2 j t hj
        rcases List.mem_append.1 q with h | h
        · exact List.mem_append_left _ h
        · exact List.mem_append_right _ (List.mem_cons_of_mem _ h)
      · rename_i hge
        have hj2 : j - S.length < 1 := by
          have := (List.getElem?_eq_some_iff.1 hj).1
          simpa using this
        have e : j = n := by omega
        subst e
        have e0 : j - S.length = 0 := by omega
        rw [e0] at hj
        simp at hj
        subst hj
        simp
    · unfold txtsOf at h3 ⊢
      rw [List.map_append] at h3 ⊢
      rw [List.map_cons]
      exact (List.perm_append_comm.trans (List.Perm.cons s h3)).trans (List.perm_middle.symm)
end Go.Proofs.YtcjdnifckngcfaaGreatDoor
end

section
namespace Go.Proofs.YtcjdnifckngcfaaGreatDoor
open Go.RowKit

/-- What a share's bytes say, if they are a share's: its place, how many there are. -/
def ShareOf (s : ByteArray) (i n : Nat) : Prop := 3 ≤ s.size ∧ s.size ≤ 66 ∧ 1 ≤ n ∧ n ≤ 16 ∧ 1 ≤ i ∧ i ≤ n ∧ ∃ x y : UInt8, s.data.toList[0]? = some x ∧ s.data.toList[1]? = some y ∧ x.toNat = i ∧ y.toNat = n
theorem slice_rest (X : ByteArray) (c : Nat) (h : c ≤ X.size) (u : World) : (Instr.slice 9 (.string X) (some (.int .i64 (c : Int))) none none).run Tryz.prog u = .ok (.string (X.extract c X.size)) u := by
  have hj : (0 : Int) ≤ (c : Int) ∧ (c : Int) ≤ (X.size : Int) := by omega
  simp [Instr.slice, Instr.sliceBounds, Instr.sliceBound, asIntOf, run_underlying Tryz.underlying9, hj]
  intro hgt
  omega
theorem slice_two (X : ByteArray) (h : 2 ≤ X.size) (u : World) : (Instr.slice 9 (.string X) (some (.int .i64 2)) none none).run Tryz.prog u = .ok (.string (X.extract 2 X.size)) u := slice_rest X 2 h u
/-- What is no share's. -/
def NoShare (s : ByteArray) : Prop := ∀ i n, ¬ ShareOf s i n
theorem share_or (s : ByteArray) : (∃ i n, ShareOf s i n) ∨ NoShare s := by
  by_cases h : ∃ i n, ShareOf s i n
  · exact .inl h
  · exact .inr fun i n hi => h ⟨i, n, hi⟩
end Go.Proofs.YtcjdnifckngcfaaGreatDoor
end

section
namespace Go.Proofs.YtcjdnifckngcfaaGreatDoor
open Go.RowKit
attribute [local irreducible] xorL xorAll

theorem shareT_size (i n : Nat) (s : ByteArray) : (shareT i n s).size = s.size + 2 := by
  unfold shareT
  rw [txt_size, List.length_cons, List.length_cons, size_list]
theorem shareT_rest (i n : Nat) (s : ByteArray) : (shareT i n s).extract 2 (shareT i n s).size = s := by
  rw [shareT_size]
  apply ByteArray.ext
  simp [shareT]
  rw [List.take_of_length_le (by rw [size_list]; exact Nat.le_refl _)]
theorem shareT_of (i n : Nat) (s : ByteArray) (h1 : 1 ≤ i) (h2 : i ≤ n) (h3 : n ≤ 16) (h4 : 1 ≤ s.size) (h5 : s.size ≤ 64) : ShareOf (shareT i n s) i n := by
  refine ⟨by rw [shareT_size]; omega, by rw [shareT_size]; omega, by omega, h3, h1, h2, UInt8.ofNat i, UInt8.ofNat n, rfl, rfl, ?_, ?_⟩
  · rw [UInt8.toNat_ofNat']; omega
  · rw [UInt8.toNat_ofNat']; omega
theorem splitT_all (secret : ByteArray) (l : List ByteArray) : splitT secret l = sharesT (l.length + 1) (allT secret l) := by
  unfold splitT allT sharesT lastT
  rw [List.mapIdx_append]
  simp
theorem splitT_get (secret : ByteArray) (l : List ByteArray) (j : Nat) (s : ByteArray) (h : (allT secret l)[j]? = some s) : (splitT secret l)[j]? = some (shareT (j + 1) (l.length + 1) s) := by
  rw [splitT_all]
  simp [sharesT, h]
theorem splitT_length (secret : ByteArray) (l : List ByteArray) : (splitT secret l).length = l.length + 1 := by simp [splitT, sharesT_length]
end Go.Proofs.YtcjdnifckngcfaaGreatDoor
end

section
namespace Go.Proofs.YtcjdnifckngcfaaGreatDoor
open Go.RowKit

theorem text_add (a : List UInt8) (s : ByteArray) : (⟨a.toArray⟩ : ByteArray) ++ s = ⟨(a ++ s.data.toList).toArray⟩ := by
  have : s = ⟨s.data.toList.toArray⟩ := rfl
  conv => lhs; rw [this]
  exact str_append _ _
theorem one_text2 (x : Int) (b : UInt8) (hx : x = (b.toNat : Int)) (t : TypeId) (u : World) : (convert 43 9 (.slice (some ⟨u.heap.size, 0, none⟩) 1 1)).run Tryz.prog (u.alloc (.cells #[.int .u8 x] t)) = .ok (.string ⟨#[b]⟩) (u.alloc (.cells #[.int .u8 x] t)) := by
  subst hx
  have hr : Row (u.alloc (.cells #[.int .u8 (b.toNat : Int)] t)) u.heap.size t [b] := heap_alloc_new u _
  exact hr.text (P := Tryz.prog) 43 5 9 Tryz.underlying43 Tryz.underlying5 Tryz.underlying9 1 1 rfl
end Go.Proofs.YtcjdnifckngcfaaGreatDoor
end

section
namespace Go.Proofs.YtcjdnifckngcfaaGreatDoor
open Go.RowKit

/-- The path of a header's ring. -/
def pathB : ByteArray := ⟨#[98, 97, 114, 114, 105, 101, 114]⟩
/-- A number of shares ahead of an envelope. -/
def hdT (n : Nat) (E : ByteArray) : ByteArray := ⟨(UInt8.ofNat n :: E.data.toList).toArray⟩
theorem hdT_size (n : Nat) (E : ByteArray) : (hdT n E).size = E.size + 1 := by unfold hdT; rw [txt_size, List.length_cons, size_list]
theorem hdT_first (n : Nat) (E : ByteArray) : (hdT n E).data.toList[0]? = some (UInt8.ofNat n) := by unfold hdT; rfl
theorem hdT_rest (n : Nat) (E : ByteArray) : (hdT n E).extract 1 (hdT n E).size = E := by
  rw [hdT_size]
  apply ByteArray.ext
  simp [hdT]
  rw [List.take_of_length_le (by rw [size_list]; exact Nat.le_refl _)]
theorem hdT_cat (n : Nat) (E : ByteArray) : (⟨#[UInt8.ofNat n]⟩ : ByteArray) ++ E = hdT n E := by
  have := text_add [UInt8.ofNat n] E
  unfold hdT
  exact this
/-- Any text but none has a first byte. -/
theorem hdT_of (s : ByteArray) (h : 0 < s.size) : ∃ (n : Nat) (E : ByteArray), n < 256 ∧ s = hdT n E ∧ E.size + 1 = s.size := by
  have hl := size_list s
  cases hq : s.data.toList with
  | nil => rw [hq] at hl; simp at hl; omega
  | cons x r =>
    refine ⟨x.toNat, ⟨r.toArray⟩, x.toNat_lt, ?_, ?_⟩
    · unfold hdT
      rw [show (⟨r.toArray⟩ : ByteArray).data.toList = r from rfl, UInt8.ofNat_toNat, ← hq]
    · rw [txt_size, ← hl, hq, List.length_cons]
theorem hdT_index (n : Nat) (E : ByteArray) (hn : n < 256) (w : World) : (Instr.index 9 (.string (hdT n E)) (.int .i64 0)).run Tryz.prog w = .ok (.int .u8 (n : Int)) w := by
  have h := index_text (hdT n E) 0 (UInt8.ofNat n) (hdT_first n E) w
  rw [UInt8.toNat_ofNat', Nat.mod_eq_of_lt hn] at h
  exact h
theorem hdT_from (n : Nat) (E : ByteArray) (w : World) : (Instr.slice 9 (.string (hdT n E)) (some (.int .i64 1)) none none).run Tryz.prog w = .ok (.string E) w := by
  have h := slice_rest (hdT n E) 1 (by rw [hdT_size]; omega) w
  rw [hdT_rest] at h
  exact h
theorem hdT_some (n : Nat) (E : ByteArray) : (hdT n E).toList.isEmpty = false := by
  rw [ByteArray.toList_eq]
  unfold hdT
  rfl
/-- A ring's bytes. -/
def ringB (K : List (Nat × ByteArray)) : ByteArray := ⟨(ringL K).toArray⟩
theorem ringB_size {K : List (Nat × ByteArray)} (h : GoodK K) : (ringB K).size = 1 + K.length * 36 := by
  unfold ringB
  rw [txt_size, ringL, List.length_cons, rowsL_length fun x hx => (h.each x hx).2.2]
  omega
theorem ringB_le {K : List (Nat × ByteArray)} (h : GoodK K) : (ringB K).size ≤ 2305 := by rw [ringB_size h]; have := h.few; omega
/-- The header of a ring, closed by a root that has n shares. -/
def envOf (root : ByteArray) (n : Nat) (nonce : ByteArray) (K : List (Nat × ByteArray)) : ByteArray := sealT root 1 pathB n nonce (ringB K)
def hdOf (root : ByteArray) (n : Nat) (nonce : ByteArray) (K : List (Nat × ByteArray)) : ByteArray := hdT n (envOf root n nonce K)
theorem envOf_size {K : List (Nat × ByteArray)} (h : GoodK K) (root : ByteArray) (n : Nat) (nonce : ByteArray) (hn : nonce.size = 12) : (envOf root n nonce K).size = K.length * 36 + 50 := by
  unfold envOf
  rw [sealT_size _ _ _ _ _ _ hn, ringB_size h]
  omega
theorem top_one1 (s : ByteArray) : top (eps [(1, s)]) = 1 := by simp [eps, top]
end Go.Proofs.YtcjdnifckngcfaaGreatDoor
end
