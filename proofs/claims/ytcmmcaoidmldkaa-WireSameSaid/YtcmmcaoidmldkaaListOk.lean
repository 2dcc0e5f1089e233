/- Contract: a list that a reader takes. -/
import Derived.Test.YtcmmcaoidmldkaaTakes3
import Derived.Test.YtcmmcaoidmldkaaTextsP
import Derived.Test.YtcmmcaoidmldkaaTxt
import Derived.Outline
namespace Go.Proofs.Ytcmmcaoidmldkaa
open Go.RowKit
attribute [local irreducible] numG wnF

theorem cut_front (a b : List UInt8) : (⟨(a ++ b).toArray⟩ : ByteArray).extract a.length (⟨(a ++ b).toArray⟩ : ByteArray).size = ⟨b.toArray⟩ := by
  apply ByteArray.ext
  simp [ByteArray.size]
theorem cut_mid (a b c : List UInt8) : (⟨(a ++ (b ++ c)).toArray⟩ : ByteArray).extract a.length (a.length + b.length) = ⟨b.toArray⟩ := by
  apply ByteArray.ext
  simp
theorem txt_mk (s : ByteArray) : (⟨s.data.toList.toArray⟩ : ByteArray) = s := by
  apply ByteArray.ext; simp
theorem wt_length (s : ByteArray) : (wt s).length = (wn s.size).length + s.size := by unfold wt; rw [List.length_append, size_list]
/-- A text that was written is taken. -/
theorem Text_back (w : World) (r : Nat) (t : ByteArray) (rest : List UInt8) (h : IsR w r ⟨(wt t ++ rest).toArray⟩ 0) (hs : (wt t ++ rest).length ≤ 1000000) (most : Int) (h1 : most ≤ 9223372036854775807) (hm : (t.size : Int) ≤ most) :
    Calls Try.prog 23 #[.pointer (some ⟨r, 0, none⟩), .int .i64 most] w fun e w' => e = .returned (.string t) ∧ IsR w' r ⟨rest.toArray⟩ 0 ∧ Mod r w w' := by
  have hl : (wt t ++ rest).length = (wn t.size).length + t.size + rest.length := by rw [List.length_append, wt_length]
  have hsz : (⟨(wt t ++ rest).toArray⟩ : ByteArray).size = (wn t.size).length + t.size + rest.length := by rw [txt_size, hl]
  have hn : numR (wt t ++ rest) = (t.size, (wn t.size).length, 0) := by
    unfold wt
    rw [List.append_assoc]
    exact numR_back _ _ (by omega)
  have hL := lenR_yes (wt t ++ rest) most _ _ hn hm (by omega)
  have hk := Text_ok w r _ h (by omega) most t.size (wn t.size).length (by omega) h1 hL (by omega)
  have e1 : (⟨(wt t ++ rest).toArray⟩ : ByteArray).extract (wn t.size).length ((wn t.size).length + t.size) = t := by
    have := cut_mid (wn t.size) t.data.toList rest
    rw [txt_mk, size_list] at this
    unfold wt
    rw [List.append_assoc]
    exact this
  have e2 : (⟨(wt t ++ rest).toArray⟩ : ByteArray).extract ((wn t.size).length + t.size) (⟨(wt t ++ rest).toArray⟩ : ByteArray).size = ⟨rest.toArray⟩ := by
    have := cut_front (wt t) rest
    rwa [wt_length] at this
  rw [e1, e2] at hk
  exact hk
/-- Slices that are grown by append, beside a reader that is older. -/
theorem BufS.moded {w w' : World} {B r : Nat} {v : Value} {l : List ByteArray} (h : BufS w B v l) (hx : Mod r w w') (hr : r < B) : BufS w' B v l := by
  refine ⟨h.1, ?_⟩
  rcases h.2 with h0 | ⟨g, cap, cur, e1, e2, e3, e4⟩
  · exact .inl h0
  · exact .inr ⟨g, cap, cur, e1, e2, (hx.block g (heap_lt e3) (by simp; omega)).trans e3, e4⟩
theorem Mod.below {r : Nat} {a b c : World} (h : Mod r a b) (k : Below a.heap.size b c) : Mod r a c :=
  ⟨k.os.trans h.os, k.tape.trans h.tape, k.output.trans h.output, Nat.le_trans h.size k.size, fun i hi hr => (k.block i hi).trans (h.block i hi hr)⟩
theorem flat_drop_le {α : Type} (f : α → List UInt8) : ∀ (l : List α) (j : Nat), ((l.drop j).flatMap f).length ≤ (l.flatMap f).length
  | [], j => by simp
  | x :: r, 0 => by simp
  | x :: r, j + 1 => by
    have := flat_drop_le f r j
    rw [List.drop_succ_cons, List.flatMap_cons, List.length_append]
    omega
theorem flat_drop {α : Type} (f : α → List UInt8) (l : List α) (j : Nat) (x : α) (rest : List UInt8) (h : l[j]? = some x) : (l.drop j).flatMap f ++ rest = f x ++ ((l.drop (j + 1)).flatMap f ++ rest) := by
  obtain ⟨hj, rfl⟩ := List.getElem?_eq_some_iff.1 h
  rw [List.drop_eq_getElem_cons hj, List.flatMap_cons, List.append_assoc]
theorem wt_pos (l : List ByteArray) : l.length ≤ (l.flatMap wt).length := by
  induction l with
  | nil => simp
  | cons x r ih =>
    have := wn_length x.size
    rw [List.flatMap_cons, List.length_append, wt_length, List.length_cons]
    omega
set_option maxRecDepth 100000 in
set_option maxHeartbeats 2000000 in
theorem List_ok (w : World) (r : Nat) (l : List ByteArray) (rest : List UInt8) (h : IsR w r ⟨(wl l ++ rest).toArray⟩ 0) (hs : (wl l ++ rest).length ≤ 1000000) (n : Nat) (hn : l.length = n) (each : Int) (h1 : each ≤ 9223372036854775807) (hx : ∀ s ∈ l, (s.size : Int) ≤ each) :
    Calls Try.prog 20 #[.pointer (some ⟨r, 0, none⟩), .int .i64 (n : Int), .int .i64 each] w fun e w' => ∃ v, e = .returned v ∧ BufS w' w.heap.size v l ∧ IsR w' r ⟨rest.toArray⟩ 0 ∧ Mod r w w' := by
  have hlen : (wl l ++ rest).length = (wn l.length).length + ((l.flatMap wt).length + rest.length) := by unfold wl; rw [List.append_assoc, List.length_append, List.length_append]
  have hln := wt_pos l
  have hsz : (⟨(wl l ++ rest).toArray⟩ : ByteArray).size = (wl l ++ rest).length := txt_size _
  have hC : Calls Try.prog 28 #[.pointer (some ⟨r, 0, none⟩), .int .i64 (n : Int)] w fun e w' => e = .returned (.int .i64 (n : Int)) ∧ IsR w' r ⟨(l.flatMap wt ++ rest).toArray⟩ 0 ∧ Mod r w w' := by
    have hnr : numR (wl l ++ rest) = (n, (wn l.length).length, 0) := by
      unfold wl
      rw [List.append_assoc, ← hn]
      exact numR_back _ _ (by omega)
    have hL := lenR_yes (wl l ++ rest) n _ _ hnr (Int.le_refl _) (by omega)
    have hk := Count_ok w r _ h (by omega) n n (wn l.length).length (by omega) (by omega) hL (by omega)
    have e2 : (⟨(wl l ++ rest).toArray⟩ : ByteArray).extract (wn l.length).length (⟨(wl l ++ rest).toArray⟩ : ByteArray).size = ⟨(l.flatMap wt ++ rest).toArray⟩ := by
      have := cut_front (wn l.length) (l.flatMap wt ++ rest)
      unfold wl
      rw [List.append_assoc]
      exact this
    rw [e2] at hk
    exact hk
  have HC := Lib.hid hC
  have HR := Lib.hid h.lt
  have HN := Lib.hid hn
  have HX := Lib.hid hx
  have HD : Hid (∀ j, ((l.drop j).flatMap wt ++ rest).length ≤ 1000000) := Lib.hid (fun j => by have := flat_drop_le wt l j; rw [List.length_append]; omega)
  have hn6 : n ≤ 1000000 := by omega
  clear hC h hs hn hx hlen hln hsz
  go_enter Try.func20, Try.ntmps20
  go_wp2_with (go_at_call 28; refine (HC.out).mono ?_; rintro e w1 ⟨rfl, hr1, x1⟩; have HR1 := Lib.hid hr1; have X1 := Lib.hid x1; clear hr1 x1)
  go_loopw [7, 11] (fun v i wr => ∃ j : Nat, j ≤ n ∧ i = .int .i64 (j : Int) ∧ Hid (BufS wr w.heap.size v (l.take j)) ∧ Hid (IsR wr r ⟨((l.drop j).flatMap wt ++ rest).toArray⟩ 0) ∧ Hid (Mod r w wr)) (fun _ i _ => n - (intOf i).toNat)
  case atStart => exact ⟨0, Nat.zero_le _, rfl, Lib.hid (BufS.nil _ _), HR1, X1⟩
  case round =>
    obtain ⟨j, hj, rfl, hb, hrd, hmd⟩ := hrel
    by_cases hlt : j < n
    · obtain ⟨x, hxj⟩ : ∃ x, l[j]? = some x := ⟨_, List.getElem?_eq_getElem (by have := HN.out; omega)⟩
      have hq := hrd.out
      have hdl := HD.out j
      rw [flat_drop wt l j x rest hxj] at hq hdl
      have HT := Lib.hid (Text_back wr r x _ hq hdl each h1 (HX.out x (List.mem_of_getElem? hxj)))
      have HTk : Hid (l.take (j + 1) = l.take j ++ [x]) := Lib.hid (by rw [List.take_add_one, hxj]; rfl)
      have HLe : Hid ((l.take j).length ≤ 1000000) := Lib.hid (by rw [List.length_take]; omega)
      clear hq hdl hxj
      go_wp2_with (first
        | (go_at_call 23; refine (HT.out).mono ?_; rintro e w2 ⟨rfl, hr2, x2⟩; have HR2 := Lib.hid hr2; have X2 := Lib.hid (hmd.out.trans x2); have HB2 := Lib.hid (hb.out.moded x2 HR.out); clear hr2 x2)
        | (at_builtin
           have q1 := HB2.out.ext ((Ext.refl w2).alloc (.cells #[.string x] 9))
           have q2 := (Blk.new w2 [.string x] 9).cell 0 _ rfl
           have q3 := HLe.out
           have q4 := (X2.out.alloc (.cells #[.string x] 9)).size
           refine append_text rfl (.tmp 13) (.tmp 17) rfl w.heap.size _ _ rfl q1 w2.heap.size x rfl q2 q3 q4 ?_
           intro v1 w3 hb3 x3
           have HB3 := Lib.hid hb3
           have q5 : IsR w3 r _ 0 := Blk.below (Blk.alloc HR2.out _) x3 HR.out
           have HR3 := Lib.hid q5
           have X3 := Lib.hid ((X2.out.alloc (.cells #[.string x] 9)).below x3)
           obtain ⟨c0, c1, c2, f0, f1, f2⟩ := HR3.out.cells
           clear hb3 x3 q1 q2 q3 q4 q5))
      go_roundw
      case rel => exact ⟨j + 1, hlt, by go_num, Lib.hid (by rw [HTk.out]; exact HB3.out), HR3, X3⟩
      case measure => simp [intOf]; omega
    · obtain rfl : j = n := by omega
      have hbf := hb.out
      have hrf := hrd.out
      rw [List.take_of_length_le (by have := HN.out; omega)] at hbf
      rw [List.drop_eq_nil_of_le (by have := HN.out; omega)] at hrf
      have HBF := Lib.hid hbf; have HRF := Lib.hid hrf
      clear hbf hrf
      go_wp2
      go_ret
      exact ⟨_, rfl, HBF.out, HRF.out, hmd.out⟩
end Go.Proofs.Ytcmmcaoidmldkaa
