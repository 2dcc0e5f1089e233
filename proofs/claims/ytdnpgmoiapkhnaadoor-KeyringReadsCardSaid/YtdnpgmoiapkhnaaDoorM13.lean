/- Plain: a ring's bytes. Plain: numbers out of their bytes. Contracts: keys by epochs: a ring read out of its bytes: by the program. -/
import Derived.Test.YtdnpgmoiapkhnaaDoorM12
import Derived.Test.YtdnpgmoiapkhnaaDoorProg
import Derived.Test.YtdnpgmoiapkhnaaDoorM00
import Derived.Test.YtdnpgmoiapkhnaaDoorM02
section
namespace Go.Proofs.YtdnpgmoiapkhnaaDoor
open Go.RowKit

/-- The rows of keys. -/
def rowsL : List (Nat × ByteArray) → List UInt8
  | [] => []
  | x :: r => (be 4 x.1 ++ x.2.data.toList) ++ rowsL r
theorem rowsL_append : ∀ (l m : List (Nat × ByteArray)), rowsL (l ++ m) = rowsL l ++ rowsL m
  | [], _ => rfl
  | x :: r, m => by rw [List.cons_append, rowsL, rowsL_append r m, rowsL, List.append_assoc (be 4 x.1 ++ x.2.data.toList)]
theorem rowsL_succ {L : List (Nat × ByteArray)} {j e : Nat} {s : ByteArray} (h : L[j]? = some (e, s)) : rowsL (L.take (j + 1)) = rowsL (L.take j) ++ be 4 e ++ s.data.toList := by
  rw [List.take_add_one, h, rowsL_append]
  simp [rowsL]
theorem rowsL_length : ∀ {L : List (Nat × ByteArray)}, (∀ x ∈ L, x.2.size = 32) → (rowsL L).length = 36 * L.length
  | [], _ => rfl
  | x :: r, h => by
    have h1 := h x (by simp)
    rw [rowsL, List.length_append, List.length_append, be_length, size_list, rowsL_length fun y hy => h y (by simp [hy]), List.length_cons]
    omega
/-- A ring's bytes. -/
def ringL (L : List (Nat × ByteArray)) : List UInt8 := UInt8.ofNat L.length :: rowsL L
end Go.Proofs.YtdnpgmoiapkhnaaDoor
end

section
namespace Go.Proofs.YtdnpgmoiapkhnaaDoor

theorem num_cons (b : UInt8) (l : List UInt8) : num (b :: l) = b.toNat * 256 ^ l.length + num l := by
  have key : ∀ (l : List UInt8) (x : Nat), l.foldl (fun n b => n * 256 + b.toNat) x = x * 256 ^ l.length + num l := by
    intro l
    induction l with
    | nil => intro x; simp [num]
    | cons c r ih =>
      intro x
      have e : num (c :: r) = c.toNat * 256 ^ r.length + num r := by
        show List.foldl _ (0 * 256 + c.toNat) r = _
        rw [ih]; simp
      rw [List.foldl_cons, ih, e, List.length_cons, Nat.pow_succ, Nat.add_mul, Nat.mul_assoc, Nat.mul_comm 256, Nat.add_assoc]
  show List.foldl _ (0 * 256 + b.toNat) l = _
  rw [key]; simp
theorem num_be (n : Nat) : ∀ k, num (be k n) = n % 256 ^ k
  | 0 => by simp [be, num, Nat.mod_one]
  | k + 1 => by
    rw [be, num_cons, num_be n k, be_length, Nat.mod_pow_succ, Nat.add_comm, Nat.mul_comm]
    rfl
end Go.Proofs.YtdnpgmoiapkhnaaDoor
end

section
namespace Go.Proofs.YtdnpgmoiapkhnaaDoor
open Go.RowKit

theorem getK_be (e : Nat) (h : e < 4294967296) : getv ⟨(be 4 e).toArray⟩ 0 4 = e ∧ gets ⟨(be 4 e).toArray⟩ 0 4 = true := by
  have hz : ByteArray.size ⟨(be 4 e).toArray⟩ = 4 := by rw [txt_size, be_length]
  have h0 : (0 : Int) ≤ ((0 : Nat) : Int) ∧ ((0 : Nat) : Int) ≤ (ByteArray.size ⟨(be 4 e).toArray⟩ : Int) - 4 := by rw [hz]; decide
  refine ⟨?_, gets_yes (k := 4) h0⟩
  have := getv_yes (k := 4) h0
  rw [show ((0 : Nat) : Int) = 0 from rfl] at this
  rw [this]
  have hs : sub ⟨(be 4 e).toArray⟩ 0 4 = be 4 e := by
    unfold sub
    simp
    exact List.take_of_length_le (by rw [be_length]; exact Nat.le_refl _)
  rw [hs, num_be]
  omega
/-- What is left of rows: a piece, and the rest. -/
theorem left_cut (a r : List UInt8) : (⟨(a ++ r).toArray⟩ : ByteArray).extract 0 a.length = ⟨a.toArray⟩ ∧ (⟨(a ++ r).toArray⟩ : ByteArray).extract a.length (ByteArray.size ⟨(a ++ r).toArray⟩) = ⟨r.toArray⟩ := by
  constructor
  · apply ByteArray.ext
    apply Array.toList_inj.1
    simp
  · apply ByteArray.ext
    apply Array.toList_inj.1
    rw [txt_size]
    simp
theorem IsM.other {w : World} {b : Nat} {L : List (Nat × ByteArray)} (h : IsM w b L) {c : Nat} (hb : b ≠ c) (o : Nat) (v : Value) : IsM (w.setCell ⟨c, o, none⟩ v) b L := h.same (Below.heap_setCell _ _ _ _ hb)
/-- A piece taken off. -/
theorem takeK_cut (w : World) (c : Nat) (a r : List UInt8) (k : Nat) (ki : Int) (hki : ki = (k : Int)) (ha : a.length = k) (hB : Blk w c 9 [.string ⟨(a ++ r).toArray⟩]) :
    Calls Tryd.prog 32 #[.int .i64 ki, .pointer (some ⟨c, 0, none⟩)] w fun e w' => e = .returned (.string ⟨a.toArray⟩) ∧ Blk w' c 9 [.string ⟨r.toArray⟩] ∧ w' = w.setCell ⟨c, 0, none⟩ (.string ⟨r.toArray⟩) := by
  subst hki
  subst ha
  have h := takeK_any w c ⟨(a ++ r).toArray⟩ a.length (by rw [txt_size, List.length_append]; omega) hB
  rw [(left_cut a r).1, (left_cut a r).2] at h
  exact h.mono fun e w' q => ⟨q.1, by rw [q.2]; exact hB.set_ 0 _, q.2⟩
theorem set_m {w a b : World} {v : Value} {L : List (Nat × ByteArray)} (h : b = a.setCell ⟨w.heap.size, 0, none⟩ v) (hm : IsM a (w.heap.size + 1) L) : IsM b (w.heap.size + 1) L := by
  subst h
  exact hm.other (Nat.succ_ne_self _) _ _
theorem set_x {w a b : World} {v : Value} (h : b = a.setCell ⟨w.heap.size, 0, none⟩ v) (hx : Ext w a) : Ext w b := by
  subst h
  exact hx.setCell (Nat.le_refl _) _
theorem string_of (s : ByteArray) : (⟨s.data.toList.toArray⟩ : ByteArray) = s := by
  apply ByteArray.ext
  simp
set_option maxRecDepth 100000 in
set_option maxHeartbeats 4000000 in
theorem read_yes (w : World) (L : List (Nat × ByteArray)) (hG : GoodK L) :
    Calls Tryd.prog 12 #[.string ⟨(ringL L).toArray⟩] w fun e w' => ∃ r b, e = .returned (.tuple #[.pointer (some ⟨r, 0, none⟩), .int .i64 0]) ∧ IsK w' r b L ∧ w.heap.size ≤ r ∧ w.heap.size ≤ b ∧ Ext w w' := by
  have h1 : 1 ≤ L.length := by have := hG.ne; cases L with | nil => exact absurd rfl this | cons => simp
  have h64 := hG.few
  have hsz : ByteArray.size ⟨(ringL L).toArray⟩ = 1 + L.length * 36 := by
    rw [txt_size, ringL, List.length_cons, rowsL_length fun x hx => (hG.each x hx).2.2]
    omega
  have HCnt := Lib.hid (fun u => count_yes ⟨(ringL L).toArray⟩ L.length (by rw [hsz]; omega) (by
    rw [text_at _ 0 (UInt8.ofNat L.length) (by simp [ringL]) (by rw [hsz]; omega)]
    simp
    omega) h1 h64 hsz u)
  have hcut : ∀ u, (Instr.slice 9 (.string ⟨(ringL L).toArray⟩) (some (.int .i64 1)) none none).run Tryd.prog u = .ok (.string ⟨(rowsL L).toArray⟩) u := fun u => by
    have := cut_from ⟨(ringL L).toArray⟩ 1 (by rw [hsz]; omega) u
    have e := (left_cut [UInt8.ofNat L.length] (rowsL L)).2
    rw [show ([UInt8.ofNat L.length] ++ rowsL L) = ringL L from rfl, show [UInt8.ofNat L.length].length = 1 from rfl] at e
    rw [e] at this
    exact this
  have hmm := @run_makeMap Tryd.prog
  have HGd := Lib.hid hG
  have HSz := Lib.hid hsz
  clear hG hsz
  generalize (⟨(ringL L).toArray⟩ : ByteArray) = S at *
  generalize hR0 : (⟨(rowsL L).toArray⟩ : ByteArray) = R0 at *
  have HR0 := Lib.hid hR0
  clear hR0
  go_enter Tryd.func12, Tryd.ntmps12
  go_wp2_with (go_at_call 31; refine (HCnt.out _).mono ?_; rintro e w1 ⟨rfl, rfl⟩)
  have X1 : Ext w (w.alloc (.cells #[.string R0] 9)) := (Ext.refl w).alloc _
  have B1 := Blk.new w [.string R0] 9
  have M1 := IsM.made (w.alloc (.cells #[.string R0] 9))
  have hz1 : (w.alloc (.cells #[.string R0] 9)).heap.size = w.heap.size + 1 := by simp
  rw [hz1] at M1
  have X2 := X1.alloc (.map #[] 0)
  have B2 := B1.alloc (.map #[] 0)
  have HX2 := Lib.hid X2; have HB2 := Lib.hid B2; have HM2 := Lib.hid M1
  clear X1 B1 M1 hz1 X2 B2 hmm hcut
  go_loopw [9, 24] (fun lv iv wr => ∃ j m : Nat, j ≤ L.length ∧ iv = .int .i64 (j : Int) ∧ lv = .int .u32 (m : Int) ∧ Hid (∀ e ∈ eps (L.drop j), m < e) ∧ Hid (Blk wr w.heap.size 9 [.string ⟨(rowsL (L.drop j)).toArray⟩]) ∧ Hid (IsM wr (w.heap.size + 1) (L.take j)) ∧ Hid (Ext w wr)) (fun _ iv _ => L.length - (intOf iv).toNat)
  case atStart =>
    refine ⟨0, 0, Nat.zero_le _, rfl, rfl, Lib.hid (fun e he => ?_), Lib.hid ?_, Lib.hid ?_, HX2⟩
    · have := (HGd.out.eps_each e (by simpa using he)).1
      omega
    · rw [List.drop_zero, HR0.out]; exact HB2.out
    · rw [List.take_zero]; exact HM2.out
  case round =>
    obtain ⟨j, m, hj, rfl, rfl, HMn, HB, HM, HX⟩ := hrel
    by_cases hlt : j < L.length
    · have hlti : (j : Int) < (L.length : Int) := by omega
      obtain ⟨⟨e, s⟩, hx⟩ : ∃ x, L[j]? = some x := ⟨_, List.getElem?_eq_getElem hlt⟩
      have hmem := List.mem_of_getElem? hx
      have hs : s.size = 32 := (HGd.out.each _ hmem).2.2
      have he32 : e < 4294967296 := (HGd.out.each _ hmem).2.1
      have hd : L.drop j = (e, s) :: L.drop (j + 1) := by
        obtain ⟨h1, h2⟩ := List.getElem?_eq_some_iff.1 hx
        rw [← h2]
        exact List.drop_eq_getElem_cons h1
      have ht : L.take (j + 1) = L.take j ++ [(e, s)] := by
        rw [List.take_add_one, hx]
        rfl
      have hme : m < e := HMn.out e (by rw [hd]; simp [eps])
      have hup := HGd.out.up
      rw [← List.take_append_drop j L, hd] at hup
      unfold eps at hup
      rw [List.map_append, List.pairwise_append] at hup
      have hnot : e ∉ eps (L.take j) := fun q => by
        have := hup.2.2 e q e (by simp)
        exact Nat.lt_irrefl _ this
      have hnext : ∀ x ∈ eps (L.drop (j + 1)), e < x := fun x hx => by
        have := hup.2.1
        rw [List.map_cons] at this
        exact List.rel_of_pairwise_cons this hx
      have HNx := Lib.hid hnext; have HNo := Lib.hid hnot; have HT := Lib.hid ht
      have hB := HB.out
      rw [hd, rowsL, List.append_assoc] at hB
      have HB2 := Lib.hid hB
      have HT1 := Lib.hid (fun u (hu : Blk u w.heap.size 9 [.string ⟨(be 4 e ++ (s.data.toList ++ rowsL (L.drop (j + 1)))).toArray⟩]) => takeK_cut u w.heap.size _ _ 4 4 rfl (be_length 4 e) hu)
      have HT2 := Lib.hid (fun u (hu : Blk u w.heap.size 9 [.string ⟨(s.data.toList ++ rowsL (L.drop (j + 1))).toArray⟩]) => by
        have := takeK_cut u w.heap.size s.data.toList _ 32 32 rfl (by rw [size_list]; exact hs) hu
        rw [string_of] at this
        exact this)
      have HG4 := Lib.hid (fun u => by
        have := Get32_any ⟨(be 4 e).toArray⟩ 0 (by rw [txt_size, be_length]; omega) u
        rw [(getK_be e he32).1, (getK_be e he32).2] at this
        exact this)
      have HRk := Lib.hid (fun u => rootKeyOf_any s hs u)
      have HPt := Lib.hid (fun u (hu : IsM u (w.heap.size + 1) (L.take j)) => hu.put (e := e) (s := s) he32 hnot)
      have hle : ¬ (e : Int) ≤ (m : Int) := by omega
      clear hx hmem hd ht hup hnot hnext hB HB HR0 HSz HCnt
      generalize hRr : rowsL (L.drop (j + 1)) = Rr at *
      have HRr := Lib.hid hRr
      clear hRr
      generalize be 4 e = E at *
      go_wp2_with (first
        | (go_at_call 32; (with_reducible refine (HT1.out _ HB2.out).mono ?_); rintro e1 w4 ⟨rfl, b4, hw4⟩; have B4 := Lib.hid b4; have M4 := Lib.hid (set_m hw4 HM.out); have X4 := Lib.hid (set_x hw4 HX.out); clear b4 hw4)
        | (go_at_call 33; refine (HG4.out _).mono ?_; rintro e1 w5 ⟨rfl, rfl⟩)
        | (go_at_call 32; (with_reducible refine (HT2.out _ B4.out).mono ?_); rintro e1 w6 ⟨rfl, b6, hw6⟩; have B6 := Lib.hid b6; have M6 := Lib.hid (set_m hw6 M4.out); have X6 := Lib.hid (set_x hw6 X4.out); clear b6 hw6)
        | (go_at_call 34; refine (HRk.out _).mono ?_; rintro e1 w7 ⟨rfl, x7⟩; obtain ⟨w8, hrun, m8, t8⟩ := HPt.out _ (M6.out.ext x7); have M8 := Lib.hid m8; have B7 := Lib.hid (B6.out.ext x7); have X7 := Lib.hid (X6.out.trans x7); have T8 := Lib.hid t8; clear m8 t8 x7))
      have g8 := T8.out.grown
      have B8' : Blk w8 w.heap.size 9 [.string ⟨Rr.toArray⟩] := (g8.block _ B7.out.lt (by simp)).trans B7.out
      have X8 : Ext w w8 := X7.out.grown g8 (fun k hk => by cases hk; omega)
      have B8 := B8'
      rw [← HRr.out] at B8
      have M9 := M8.out
      rw [← HT.out] at M9
      clear hrun
      go_roundw
      case rel => exact ⟨j + 1, e, hlt, by go_num, rfl, HNx, Lib.hid B8, Lib.hid M9, Lib.hid X8⟩
      case measure => simp [intOf]; omega
    · obtain rfl : j = L.length := by omega
      have HM9 := Lib.hid (by have := HM.out; rwa [List.take_length] at this)
      go_wp2
      go_ret2
      exact ⟨_, _, rfl, ⟨Blk.new _ _ _, HM9.out.alloc _, HGd.out⟩, HX.out.size, Nat.le_succ _, HX.out.alloc _⟩
end Go.Proofs.YtdnpgmoiapkhnaaDoor
end
