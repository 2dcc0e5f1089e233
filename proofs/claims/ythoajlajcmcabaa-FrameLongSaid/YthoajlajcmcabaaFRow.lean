/- Contracts: what is more than a statement writes; frames of texts, one behind the other. -/
import Derived.Test.YthoajlajcmcabaaFrameP
import Derived.Test.YthoajlajcmcabaaFEnc
import Derived.Test.YthoajlajcmcabaaRecs
import Derived.Test.YthoajlajcmcabaaTextsP
namespace Go.Proofs.Ythoajlajcmcabaa
open Go.RowKit

/-- How many bytes texts have. -/
def totT (l : List ByteArray) : Nat := l.foldl (fun n s => n + s.size) 0
theorem totT_step (l : List ByteArray) (j : Nat) (s : ByteArray) (h : l[j]? = some s) : totT (l.take (j + 1)) = totT (l.take j) + s.size := by
  unfold totT
  rw [List.take_add_one, h]
  simp
theorem totT_acc : ∀ (l : List ByteArray) (n : Nat), l.foldl (fun n s => n + s.size) n = n + totT l
  | [], _ => rfl
  | a :: r, n => by
    have e : totT (a :: r) = a.size + totT r := by
      show r.foldl (fun n s => n + s.size) (0 + a.size) = _
      rw [totT_acc r, Nat.zero_add]
    rw [List.foldl_cons, totT_acc r, e, Nat.add_assoc]
theorem totT_mem (l : List ByteArray) (s : ByteArray) (h : s ∈ l) : s.size ≤ totT l := by
  induction l with
  | nil => cases h
  | cons a r ih =>
    have e : totT (a :: r) = a.size + totT r := by
      show r.foldl (fun n s => n + s.size) (0 + a.size) = _
      rw [totT_acc r, Nat.zero_add]
    rw [e]
    rcases List.mem_cons.1 h with rfl | h
    · omega
    · have := ih h; omega
theorem totT_cons (a : ByteArray) (r : List ByteArray) : totT (a :: r) = a.size + totT r := by
  show r.foldl (fun n s => n + s.size) (0 + a.size) = _
  rw [totT_acc r, Nat.zero_add]
theorem totT_take : ∀ (l : List ByteArray) (j : Nat), totT (l.take j) ≤ totT l
  | [], j => by simp
  | a :: r, 0 => by simp [totT]
  | a :: r, j + 1 => by
    have := totT_take r j
    rw [List.take_succ_cons, totT_cons, totT_cons]; omega
/-- What a statement writes: not more than these. -/
def Light (l : List ByteArray) : Prop := l.length ≤ 60 ∧ totT l ≤ 4096
theorem Light.each {l : List ByteArray} (h : Light l) : ∀ s ∈ l, s.size ≤ 4096 := fun s hs => Nat.le_trans (totT_mem l s hs) h.2
set_option maxRecDepth 100000 in
set_option maxHeartbeats 2000000 in
theorem heavy_is (w : World) (p : Option Addr) (c : Nat) (l : List ByteArray) (h : TextsP w p l) (hs : ∀ s ∈ l, s.size ≤ 140737488351232) (hl : l.length ≤ 140737488355328) (b : Bool) (hb : b = false ↔ Light l) :
    Calls Try.prog 20 #[.slice p l.length c] w fun e w' => e = .returned (.bool b) ∧ w = w' := by
  have HH := Lib.hid h
  have HT := Lib.hid (totT_step l)
  have HTk := Lib.hid (totT_take l)
  have HS := Lib.hid hs
  have HB := Lib.hid hb
  clear h hs hb
  go_enter Try.func20, Try.ntmps20
  go_wp2
  go_loop [3, 4] (fun nv iv => ∃ j : Nat, j ≤ l.length ∧ totT (l.take j) ≤ 4096 ∧ iv = .int .i64 (j : Int) ∧ nv = .int .i64 (totT (l.take j) : Int)) (fun _ iv => l.length - (intOf iv).toNat)
  case atStart => exact ⟨0, Nat.zero_le _, by simp [totT], rfl, by simp [totT]⟩
  case round =>
    obtain ⟨j, hj, htj, rfl, rfl⟩ := hrel
    by_cases hlt : j < l.length
    · obtain ⟨s, hs⟩ : ∃ s, l[j]? = some s := ⟨_, List.getElem?_eq_getElem hlt⟩
      obtain ⟨a, rfl, _, hc⟩ := HH.out j s hs
      have HTj := Lib.hid (HT.out j s hs)
      have hs2 := HS.out s (List.mem_of_getElem? hs)
      have hk := HTk.out (j + 1)
      rw [HTj.out] at hk
      clear hs
      generalize totT (l.take j) = T at *
      by_cases h4 : 4096 < T + s.size
      · have hbt : b = true := by
          cases b with
          | true => rfl
          | false => exact absurd (HB.out.1 rfl).2 (by omega)
        subst hbt
        have h4i : (4096 : Int) < (T : Int) + (s.size : Int) := by omega
        clear hk
        go_wp2
        go_ret
        exact ⟨rfl, rfl⟩
      · have h4i : ¬ (4096 : Int) < (T : Int) + (s.size : Int) := by omega
        clear hk
        go_wp2
        go_round
        case rel => exact ⟨j + 1, by omega, by rw [HTj.out]; omega, by go_num, by rw [HTj.out]; go_num⟩
        case measure => simp [intOf]; omega
    · obtain rfl : j = l.length := by omega
      rw [List.take_of_length_le (Nat.le_refl _)] at htj ⊢
      have hB2 : b = decide ((60 : Int) < (l.length : Int)) := by
        rw [Bool.eq_iff_iff]
        have := HB.out
        unfold Light at this
        cases b <;> simp at this ⊢ <;> omega
      have HB2 := Lib.hid hB2
      clear hB2
      go_wp2
      go_ret
      exact ⟨congrArg (fun x => Ending.returned (Value.bool x)) HB2.out.symm, rfl⟩
theorem heavy_no (w : World) (p : Option Addr) (c : Nat) (l : List ByteArray) (h : TextsP w p l) (hs : ∀ s ∈ l, s.size ≤ 140737488351232) (hl : l.length ≤ 140737488355328) (hh : Light l) :
    Calls Try.prog 20 #[.slice p l.length c] w fun e w' => e = .returned (.bool false) ∧ w = w' := heavy_is w p c l h hs hl false (by simp [hh])
theorem heavy_yes (w : World) (p : Option Addr) (c : Nat) (l : List ByteArray) (h : TextsP w p l) (hs : ∀ s ∈ l, s.size ≤ 140737488351232) (hl : l.length ≤ 140737488355328) (hh : ¬ Light l) :
    Calls Try.prog 20 #[.slice p l.length c] w fun e w' => e = .returned (.bool true) ∧ w = w' := heavy_is w p c l h hs hl true (by simp [hh])
/-- The slice, its cells, its room. -/
theorem BufR.recs2 {w : World} {B : Nat} {v : Value} {L : List Rec} (h : BufR w B v L) : ∃ p c, v = .slice p L.length c ∧ RecsP w p L ∧ L.length ≤ c ∧ (p = none ∨ ∃ g, p = some ⟨g, 0, none⟩) ∧ (p = none → c = 0) := by
  obtain ⟨p, c, hv, hr, _⟩ := h.recs
  unfold BufR at h
  refine ⟨p, c, hv, hr, ?_⟩
  rcases h.2 with ⟨hv2, h0⟩ | ⟨g, cap, cur, hv2, hB, hg, hle, _⟩
  · rw [hv] at hv2
    obtain ⟨e1, e2, e3⟩ := Value.slice.inj hv2
    subst e1 e3
    exact ⟨by omega, .inl rfl, fun _ => rfl⟩
  · rw [hv] at hv2
    obtain ⟨e1, e2, e3⟩ := Value.slice.inj hv2
    subst e1 e3
    exact ⟨hle, .inr ⟨g, rfl⟩, fun e => by cases e⟩
theorem recs_head (p : Option Addr) (hp : p = none ∨ ∃ g, p = some ⟨g, 0, none⟩) (n z c : Nat) (hn : n ≤ z) (hz : z ≤ c) (hc : p = none → c = 0) (u : World) : (Instr.slice 39 (.slice p z c) none (some (.int .i64 (n : Int))) none).run Try.prog u = .ok (.slice p n c) u := by
  rcases hp with rfl | ⟨g, rfl⟩
  · obtain rfl : c = 0 := hc rfl
    obtain rfl : n = 0 := by omega
    simp [Instr.slice, Instr.sliceBounds, Instr.sliceBound, asIntOf, run_underlying Try.underlying39]
  · have hj : (0 : Int) ≤ (n : Int) ∧ (n : Int) ≤ (c : Int) := by omega
    simp [Instr.slice, Instr.sliceBounds, Instr.sliceBound, asIntOf, run_underlying Try.underlying39, hj]
    rw [if_pos (show n ≤ c by omega), Addr.add_mid]
    split <;> rfl
theorem enc_yes (r : Rec) (hr : r.n < 18446744073709551616) (hs : r.t.size ≤ 65536) (w : World) :
    Calls Try.prog 12 #[.agg #[.int .u64 (r.n : Int), .string r.t]] w fun e w' => e = .returned (.tuple #[.string (frameT r), .int .i64 0]) ∧ Ext w w' := by
  have h := Encode_any r hr (Nat.le_trans hs (by decide)) w
  rw [show encF r = (frameT r, 0) from by unfold encF; rw [if_neg (by omega)]] at h
  exact h
theorem row_cat (l : List Rec) (r : Rec) : (⟨(rowF l).toArray⟩ : ByteArray) ++ frameT r = ⟨(rowF (l ++ [r])).toArray⟩ := by
  unfold frameT
  rw [str_append, rowF_append]
  simp [rowF]
theorem totF_le : ∀ (l : List ByteArray) (B : Nat), (∀ s ∈ l, s.size ≤ B) → totF l ≤ l.length * (16 + B)
  | [], _, _ => by simp [totF]
  | a :: l, B, h => by
    have h1 := h a (by simp)
    have h2 := totF_le l B (fun s hs => h s (by simp [hs]))
    rw [totF, List.length_cons, Nat.succ_mul]; omega
theorem add_mod (first j : Nat) (hf : first < 18446744073709551616) (hj : j ≤ 1000000) : IntKind.u64.wrap ((first : Int) + (j : Int)) = (((first + j) % 18446744073709551616 : Nat) : Int) := by
  by_cases h : first + j < 18446744073709551616
  · rw [Nat.mod_eq_of_lt h]
    exact u64_nat (x := first + j) h
  · have e : (first + j) % 18446744073709551616 = first + j - 18446744073709551616 := by omega
    rw [e]
    simp [IntKind.wrap, IntKind.signed, IntKind.bits]
    omega
set_option maxRecDepth 100000 in
set_option maxHeartbeats 4000000 in
theorem row_any (w : World) (p : Option Addr) (c : Nat) (l : List ByteArray) (h : TextsP w p l) (hL : Light l) (first : Nat) (hf : first < 18446744073709551616) :
    Calls Try.prog 21 #[.slice p l.length c, .int .u64 (first : Int)] w fun e w' => ∃ q d, e = .returned (.tuple #[.string ⟨(rowF (recsF l first)).toArray⟩, .slice q l.length d, .bool true]) ∧ Ext w w' ∧ RecsP w' q (recsF l first) ∧ l.length ≤ d ∧ (q = none ∨ ∃ g, q = some ⟨g, 0, none⟩) ∧ (q = none → d = 0) := by
  have HH := Lib.hid h
  have hl60 := hL.1
  have HS := Lib.hid hL.each
  clear h hL
  go_enter Try.func21, Try.ntmps21
  go_wp2
  go_loopw [7, 8, 9] (fun sv lv iv wr => ∃ (j : Nat), j ≤ l.length ∧ iv = .int .i64 (j : Int) ∧ sv = .string ⟨(rowF (recsF (l.take j) first)).toArray⟩ ∧ BufR wr w.heap.size lv (recsF (l.take j) first) ∧ Ext w wr) (fun _ _ iv _ => l.length - (intOf iv).toNat)
  case atStart => exact ⟨0, Nat.zero_le _, rfl, rfl, BufR.nil _ _, Ext.refl _⟩
  case round =>
    obtain ⟨j, hj, rfl, rfl, hbuf, hx⟩ := hrel
    have HX := Lib.hid hx; have HB := Lib.hid hbuf
    have hlr := recsF_length (l.take j) first
    rw [List.length_take, Nat.min_eq_left hj] at hlr
    clear hx hbuf
    by_cases hlt : j < l.length
    · obtain ⟨s, hs⟩ : ∃ s, l[j]? = some s := ⟨_, List.getElem?_eq_getElem hlt⟩
      obtain ⟨a, rfl, ha, hc0⟩ := HH.out j s hs
      have hc := (HX.out.below.cell (p := a.add j) (by rw [add_block]; exact ha)).trans hc0
      have hs2 := HS.out s (List.mem_of_getElem? hs)
      have HR := Lib.hid (recsF_take l first j s hf hs)
      have hwj : IntKind.u64.wrap (j : Int) = (j : Int) := u64_nat (x := j) (by omega)
      have hsum := add_mod first j hf (by omega)
      obtain ⟨n', hn'⟩ : ∃ n', n' = (first + j) % 18446744073709551616 := ⟨_, rfl⟩
      rw [← hn'] at hsum HR
      have hn64 : n' < 18446744073709551616 := by rw [hn']; exact Nat.mod_lt _ (by decide)
      have HE := Lib.hid (fun u => enc_yes ⟨n', s⟩ hn64 (by show s.size ≤ 65536; omega) u)
      dsimp only at HE
      have HT : Hid ((⟨(rowF (recsF (l.take j) first)).toArray⟩ : ByteArray) ++ frameT ⟨n', s⟩ = ⟨(rowF (recsF (l.take (j + 1)) first)).toArray⟩) := Lib.hid (by rw [row_cat, HR.out])
      have hsz1 : (⟨(rowF (recsF (l.take j) first)).toArray⟩ : ByteArray).size ≤ 1000000 := by
        show (rowF (recsF (l.take j) first)).length ≤ _
        rw [rowF_length]
        have h1 := totF_le (l.take j) 4096 (fun s hs => HS.out s (List.mem_of_mem_take hs))
        rw [List.length_take, Nat.min_eq_left hj] at h1
        omega
      have hsz2 : (frameT ⟨n', s⟩).size = 16 + s.size := frameT_size _
      have hcat : ¬ 9223372036854775807 < (⟨(rowF (recsF (l.take j) first)).toArray⟩ : ByteArray).size + (frameT ⟨n', s⟩).size := by omega
      have hl6 : (recsF (l.take j) first).length ≤ 1000000 := by omega
      have HBl : Hid (∀ u : World, Blk (u.alloc (.cells #[.int .u64 (n' : Int), .string s] 24)) u.heap.size 24 [.int .u64 (n' : Int), .string s]) := Lib.hid (fun u => Blk.new u _ _)
      have c0 := (HBl.out wr).cell 0 _ rfl
      have c1 := (HBl.out wr).cell 1 _ rfl
      clear hs hn' hsz1 hsz2 ha hc0 hlr
      generalize frameT ⟨n', s⟩ = F at *
      generalize recsF (l.take j) first = P at *
      generalize (⟨(rowF P).toArray⟩ : ByteArray) = S at *
      go_wp2_with (first
        | (go_at_call 12; refine (HE.out _).mono ?_; rintro e w1 ⟨rfl, x1⟩; have X1 := Lib.hid x1; have hb1 := (HBl.out wr).ext x1; have d0 := hb1.cell 0 _ rfl; have d1 := hb1.cell 1 _ rfl; have HB1 := Lib.hid hb1; clear x1 hb1 c0 c1)
        | (refine append_rec rfl (.tmp 38) (.tmp 40) rfl w.heap.size _ P rfl (((HB.out.ext ((Ext.refl wr).alloc _)).ext X1.out).ext ((Ext.refl w1).alloc _)) w1.heap.size ⟨n', s⟩ rfl (HBl.out w1) hl6 (by have h1 := HX.out.size; have h2 := X1.out.size; simp at h2 ⊢; omega) ?_; intro v2 w2 hb2 hx2 _; have HB2 := Lib.hid hb2; have HX2 := Lib.hid (((Below.mono ((Ext.refl wr).alloc _) HX.out.size).trans (Below.mono X1.out.below (by have h1 := HX.out.size; simp; omega))).trans ((Below.mono ((Ext.refl w1).alloc _) (by have h1 := HX.out.size; have h2 := X1.out.size; simp at h2; omega)).trans hx2)); clear hb2 hx2))
      go_roundw
      case rel => exact ⟨j + 1, hlt, by go_num, by rw [HT.out], by rw [HR.out]; exact HB2.out, HX.out.trans3 HX2.out⟩
      case measure => simp [intOf]; omega
    · obtain rfl : j = l.length := by omega
      rw [List.take_of_length_le (Nat.le_refl _)] at HB hlr ⊢
      obtain ⟨q, d, rfl, hr, h1, h2, h3⟩ := HB.out.recs2
      rw [recsF_length] at HB h1 ⊢
      have HRr := Lib.hid hr
      have H123 := Lib.hid (And.intro h1 (And.intro h2 h3))
      clear hlr hr HB h1 h2 h3
      go_wp2
      go_ret3
      exact ⟨q, d, rfl, HX.out, HRr.out, H123.out⟩
end Go.Proofs.Ythoajlajcmcabaa
