/- Plain: a byte of a text. Texts cut: from, up to, between. Contracts: keys by epochs: how many keys a text tells of; a piece taken off what is left: by the program. Texts spelt as lists: how long; one behind another. Plain: a ring's bytes. Plain: numbers out of their bytes. Contracts: keys by epochs: a ring read out of its bytes: by the program. Contracts: envelopes: how long one is; whether there is a ring; an envelope's parts, cut out one by one: by the program. -/
import Derived.Test.YtobhbppogeghnaaGreatDoorProg
import Derived.Test.YtobhbppogeghnaaGreatDoorM00
import Derived.WalkSpells
import Derived.Test.YtobhbppogeghnaaGreatDoorM01
import Derived.WalkKit
import Derived.Test.YtobhbppogeghnaaGreatDoorM04
import Derived.Deep.DeepCutAuto
section
namespace Go.Proofs.YtobhbppogeghnaaGreatDoor
open Go.RowKit
theorem text_get (s : ByteArray) (i : Nat) (b : UInt8) (hb : s.data.toList[i]? = some b) : s[i]? = some b := by
  have hi : i < s.data.toList.length := (List.getElem?_eq_some_iff.1 hb).1
  have h2 : i < s.size := by rw [← size_list]; exact hi
  rw [getElem?_pos s i h2]
  rw [List.getElem?_eq_getElem hi] at hb
  exact hb
theorem text_at (s : ByteArray) (i : Nat) (b : UInt8) (hb : s.data.toList[i]? = some b) (h : i < s.size) : s[i] = b := by
  have e := text_get s i b hb
  rw [getElem?_pos s i h] at e
  exact Option.some.inj e
theorem index_text (s : ByteArray) (i : Nat) (b : UInt8) (hb : s.data.toList[i]? = some b) (w : World) :
    (Instr.index 9 (.string s) (.int .i64 (i : Int))).run Tryz.prog w = .ok (.int .u8 (b.toNat : Int)) w := by
  have h := text_get s i b hb
  have hu := Tryz.underlying9
  have h0 : (0 : Int) ≤ (i : Int) := by omega
  simp [Instr.index, run_underlying hu, asIntOf, go_sem, h0, h]
end Go.Proofs.YtobhbppogeghnaaGreatDoor
end

section
namespace Go.Proofs.YtobhbppogeghnaaGreatDoor
open Go.RowKit

theorem cut_to (X : ByteArray) (c : Nat) (h : c ≤ X.size) (u : World) : (Instr.slice 9 (.string X) none (some (.int .i64 (c : Int))) none).run Tryz.prog u = .ok (.string (X.extract 0 c)) u := by
  have hj : (0 : Int) ≤ (c : Int) ∧ (c : Int) ≤ (X.size : Int) := by omega
  simp [Instr.slice, Instr.sliceBounds, Instr.sliceBound, asIntOf, run_underlying Tryz.underlying9, hj]
  intro hgt
  omega
theorem cut_from (X : ByteArray) (c : Nat) (h : c ≤ X.size) (u : World) : (Instr.slice 9 (.string X) (some (.int .i64 (c : Int))) none none).run Tryz.prog u = .ok (.string (X.extract c X.size)) u := by
  have hj : (0 : Int) ≤ (c : Int) ∧ (c : Int) ≤ (X.size : Int) := by omega
  simp [Instr.slice, Instr.sliceBounds, Instr.sliceBound, asIntOf, run_underlying Tryz.underlying9, hj]
  intro hgt
  omega
theorem cut_mid (X : ByteArray) (a c : Nat) (ha : a ≤ c) (h : c ≤ X.size) (u : World) : (Instr.slice 9 (.string X) (some (.int .i64 (a : Int))) (some (.int .i64 (c : Int))) none).run Tryz.prog u = .ok (.string (X.extract a c)) u := by
  have hj : (0 : Int) ≤ (c : Int) ∧ (c : Int) ≤ (X.size : Int) := by omega
  have hk : (0 : Int) ≤ (a : Int) ∧ (a : Int) ≤ (c : Int) := by omega
  simp [Instr.slice, Instr.sliceBounds, Instr.sliceBound, asIntOf, run_underlying Tryz.underlying9, hj, hk]
  rw [if_pos h, if_pos ha]
end Go.Proofs.YtobhbppogeghnaaGreatDoor
end

section
namespace Go.Proofs.YtobhbppogeghnaaGreatDoor
open Go.RowKit

theorem count_yes (s : ByteArray) (n : Nat) (h0 : 0 < s.size) (hb : s[0].toNat = n) (h1 : 1 ≤ n) (h64 : n ≤ 64) (hs : s.size = 1 + n * 36) (w : World) :
    Calls Tryz.prog 147 #[.string s] w fun e w' => e = .returned (.tuple #[.int .i64 (n : Int), .bool true]) ∧ w = w' := by
  have hemp : s.toList.isEmpty = false := by
    have hl : s.toList.length = s.size := by rw [ByteArray.toList_eq, size_list]
    cases hq : s.toList with
    | nil => rw [hq] at hl; simp at hl; omega
    | cons => rfl
  have hw : wrap64 (s[0].toNat : Int) = (n : Int) := by rw [hb]; simp [wrap64]; omega
  have hsi : (s.size : Int) = 1 + (n : Int) * 36 := by omega
  have h1i : ¬ ((n : Int) < 1) := by omega
  have h1j : 1 ≤ (n : Int) := by omega
  have h64i : ¬ (64 : Int) < (n : Int) := by omega
  have h64j : (n : Int) ≤ 64 := by omega
  have hsz := Lib.hid hs; have HB := Lib.hid hb
  have h0i : (0 : Int) < (s.size : Int) := by omega
  clear hs hb
  go_enter Tryz.func147, Tryz.ntmps147
  go_wp2
  go_ret2
  exact ⟨rfl, rfl⟩
theorem takeK_any (w : World) (c : Nat) (X : ByteArray) (k : Nat) (hk : k ≤ X.size) (hB : Blk w c 9 [.string X]) :
    Calls Tryz.prog 148 #[.int .i64 (k : Int), .pointer (some ⟨c, 0, none⟩)] w fun e w' => e = .returned (.string (X.extract 0 k)) ∧ w' = w.setCell ⟨c, 0, none⟩ (.string (X.extract k X.size)) := by
  have h1 := fun u => cut_to X k hk u
  have h2 := fun u => cut_from X k hk u
  have c0 := hB.cell 0 _ rfl
  have f0 := hB.frozen 0
  clear hB
  go_enter Tryz.func148, Tryz.ntmps148
  go_wp2
  go_ret
  exact ⟨rfl, rfl⟩
end Go.Proofs.YtobhbppogeghnaaGreatDoor
end

section
namespace Go.Proofs.YtobhbppogeghnaaGreatDoor
open Go.RowKit

theorem txt_size (l : List UInt8) : ((⟨l.toArray⟩ : ByteArray)).size = l.length := by simp [ByteArray.size]
theorem str_append (a b : List UInt8) : (⟨a.toArray⟩ : ByteArray) ++ ⟨b.toArray⟩ = ⟨(a ++ b).toArray⟩ := by
  apply ByteArray.ext
  rw [ByteArray.data_append]
  simp
theorem txt_cat (s : ByteArray) (b : List UInt8) : s ++ ⟨b.toArray⟩ = ⟨(s.data.toList ++ b).toArray⟩ := by
  apply ByteArray.ext
  rw [ByteArray.data_append]
  simp
theorem txt_extract (l : List UInt8) (n : Nat) : (⟨l.toArray⟩ : ByteArray).extract 0 n = ⟨(l.take n).toArray⟩ := by
  apply ByteArray.ext
  simp
/-- The first n bytes of a text. -/
theorem slice_upto (X : ByteArray) (c : Nat) (h : c ≤ X.size) (u : World) : (Instr.slice 9 (.string X) none (some (.int .i64 (c : Int))) none).run Tryz.prog u = .ok (.string (X.extract 0 c)) u := by
  have hj : (0 : Int) ≤ (c : Int) ∧ (c : Int) ≤ (X.size : Int) := by omega
  simp [Instr.slice, Instr.sliceBounds, Instr.sliceBound, asIntOf, run_underlying Tryz.underlying9, hj]
  intro hgt
  omega
end Go.Proofs.YtobhbppogeghnaaGreatDoor
end

section
namespace Go.Proofs.YtobhbppogeghnaaGreatDoor
open Go.RowKit

/-- The rows of keys. -/
def rowsL : List (Nat × ByteArray) → List UInt8
  | [] => []
  | x :: r => (be 4 x.1 ++ x.2.data.toList) ++ rowsL r
theorem rowsL_append : ∀ (l m : List (Nat × ByteArray)), rowsL (l ++ m) = rowsL l ++ rowsL m
  | [], _ => rfl
  | x :: r, m => by rw [List.cons_append, rowsL, rowsL_append r m, rowsL, List.append_assoc (be 4 x.1 ++ x.2.data.toList)]
theorem rowsL_succ {L : List (Nat × ByteArray)} {j e : Nat} {s : ByteArray} (h : L[j]? = some (e, s)) : rowsL (L.take (j + 1)) = rowsL (L.take j) ++ be 4 e ++ s.data.toList := by
  rw [List.take_add_one, h, rowsL_append]
  simp [rowsL]
theorem rowsL_length : ∀ {L : List (Nat × ByteArray)}, (∀ x ∈ L, x.2.size = 32) → (rowsL L).length = 36 * L.length
  | [], _ => rfl
  | x :: r, h => by
    have h1 := h x (by simp)
    rw [rowsL, List.length_append, List.length_append, be_length, size_list, rowsL_length fun y hy => h y (by simp [hy]), List.length_cons]
    omega
/-- A ring's bytes. -/
def ringL (L : List (Nat × ByteArray)) : List UInt8 := UInt8.ofNat L.length :: rowsL L
end Go.Proofs.YtobhbppogeghnaaGreatDoor
end

section
namespace Go.Proofs.YtobhbppogeghnaaGreatDoor

theorem num_cons (b : UInt8) (l : List UInt8) : num (b :: l) = b.toNat * 256 ^ l.length + num l := by
  have key : ∀ (l : List UInt8) (x : Nat), l.foldl (fun n b => n * 256 + b.toNat) x = x * 256 ^ l.length + num l := by
    intro l
    induction l with
    | nil => intro x; simp [num]
    | cons c r ih =>
      intro x
      have e : num (c :: r) = c.toNat * 256 ^ r.length + num r := by
        show List.foldl _ (0 * 256 + c.toNat) r = _
        rw [ih]; simp
      rw [List.foldl_cons, ih, e, List.length_cons, Nat.pow_succ, Nat.add_mul, Nat.mul_assoc, Nat.mul_comm 256, Nat.add_assoc]
  show List.foldl _ (0 * 256 + b.toNat) l = _
  rw [key]; simp
theorem num_be (n : Nat) : ∀ k, num (be k n) = n % 256 ^ k
  | 0 => by simp [be, num, Nat.mod_one]
  | k + 1 => by
    rw [be, num_cons, num_be n k, be_length, Nat.mod_pow_succ, Nat.add_comm, Nat.mul_comm]
    rfl
end Go.Proofs.YtobhbppogeghnaaGreatDoor
end

section
namespace Go.Proofs.YtobhbppogeghnaaGreatDoor
open Go.RowKit

theorem getK_be (e : Nat) (h : e < 4294967296) : getv ⟨(be 4 e).toArray⟩ 0 4 = e ∧ gets ⟨(be 4 e).toArray⟩ 0 4 = true := by
  have hz : ByteArray.size ⟨(be 4 e).toArray⟩ = 4 := by rw [txt_size, be_length]
  have h0 : (0 : Int) ≤ ((0 : Nat) : Int) ∧ ((0 : Nat) : Int) ≤ (ByteArray.size ⟨(be 4 e).toArray⟩ : Int) - 4 := by rw [hz]; decide
  refine ⟨?_, gets_yes (k := 4) h0⟩
  have := getv_yes (k := 4) h0
  rw [show ((0 : Nat) : Int) = 0 from rfl] at this
  rw [this]
  have hs : sub ⟨(be 4 e).toArray⟩ 0 4 = be 4 e := by
    unfold sub
    simp
    exact List.take_of_length_le (by rw [be_length]; exact Nat.le_refl _)
  rw [hs, num_be]
  omega
/-- What is left of rows: a piece, and the rest. -/
theorem left_cut (a r : List UInt8) : (⟨(a ++ r).toArray⟩ : ByteArray).extract 0 a.length = ⟨a.toArray⟩ ∧ (⟨(a ++ r).toArray⟩ : ByteArray).extract a.length (ByteArray.size ⟨(a ++ r).toArray⟩) = ⟨r.toArray⟩ := by
  constructor
  · apply ByteArray.ext
    apply Array.toList_inj.1
    simp
  · apply ByteArray.ext
    apply Array.toList_inj.1
    rw [txt_size]
    simp
theorem IsM.other {w : World} {b : Nat} {L : List (Nat × ByteArray)} (h : IsM w b L) {c : Nat} (hb : b ≠ c) (o : Nat) (v : Value) : IsM (w.setCell ⟨c, o, none⟩ v) b L := h.same (Below.heap_setCell _ _ _ _ hb)
/-- A piece taken off. -/
theorem takeK_cut (w : World) (c : Nat) (a r : List UInt8) (k : Nat) (ki : Int) (hki : ki = (k : Int)) (ha : a.length = k) (hB : Blk w c 9 [.string ⟨(a ++ r).toArray⟩]) :
    Calls Tryz.prog 148 #[.int .i64 ki, .pointer (some ⟨c, 0, none⟩)] w fun e w' => e = .returned (.string ⟨a.toArray⟩) ∧ Blk w' c 9 [.string ⟨r.toArray⟩] ∧ w' = w.setCell ⟨c, 0, none⟩ (.string ⟨r.toArray⟩) := by
  subst hki
  subst ha
  have h := takeK_any w c ⟨(a ++ r).toArray⟩ a.length (by rw [txt_size, List.length_append]; omega) hB
  rw [(left_cut a r).1, (left_cut a r).2] at h
  exact h.mono fun e w' q => ⟨q.1, by rw [q.2]; exact hB.set_ 0 _, q.2⟩
theorem set_m {w a b : World} {v : Value} {L : List (Nat × ByteArray)} (h : b = a.setCell ⟨w.heap.size, 0, none⟩ v) (hm : IsM a (w.heap.size + 1) L) : IsM b (w.heap.size + 1) L := by
  subst h
  exact hm.other (Nat.succ_ne_self _) _ _
theorem set_x {w a b : World} {v : Value} (h : b = a.setCell ⟨w.heap.size, 0, none⟩ v) (hx : Ext w a) : Ext w b := by
  subst h
  exact hx.setCell (Nat.le_refl _) _
theorem string_of (s : ByteArray) : (⟨s.data.toList.toArray⟩ : ByteArray) = s := by
  apply ByteArray.ext
  simp
set_option maxRecDepth 100000 in
set_option maxHeartbeats 4000000 in
theorem read_yes (w : World) (L : List (Nat × ByteArray)) (hG : GoodK L) :
    Calls Tryz.prog 125 #[.string ⟨(ringL L).toArray⟩] w fun e w' => ∃ r b, e = .returned (.tuple #[.pointer (some ⟨r, 0, none⟩), .int .i64 0]) ∧ IsK w' r b L ∧ w.heap.size ≤ r ∧ w.heap.size ≤ b ∧ Ext w w' := by
  have h1 : 1 ≤ L.length := by have := hG.ne; cases L with | nil => exact absurd rfl this | cons => simp
  have h64 := hG.few
  have hsz : ByteArray.size ⟨(ringL L).toArray⟩ = 1 + L.length * 36 := by
    rw [txt_size, ringL, List.length_cons, rowsL_length fun x hx => (hG.each x hx).2.2]
    omega
  have HCnt := Lib.hid (fun u => count_yes ⟨(ringL L).toArray⟩ L.length (by rw [hsz]; omega) (by
    rw [text_at _ 0 (UInt8.ofNat L.length) (by simp [ringL]) (by rw [hsz]; omega)]
    simp
    omega) h1 h64 hsz u)
  have hcut : ∀ u, (Instr.slice 9 (.string ⟨(ringL L).toArray⟩) (some (.int .i64 1)) none none).run Tryz.prog u = .ok (.string ⟨(rowsL L).toArray⟩) u := fun u => by
    have := cut_from ⟨(ringL L).toArray⟩ 1 (by rw [hsz]; omega) u
    have e := (left_cut [UInt8.ofNat L.length] (rowsL L)).2
    rw [show ([UInt8.ofNat L.length] ++ rowsL L) = ringL L from rfl, show [UInt8.ofNat L.length].length = 1 from rfl] at e
    rw [e] at this
    exact this
  have hmm := @run_makeMap Tryz.prog
  have HGd := Lib.hid hG
  have HSz := Lib.hid hsz
  clear hG hsz
  generalize (⟨(ringL L).toArray⟩ : ByteArray) = S at *
  generalize hR0 : (⟨(rowsL L).toArray⟩ : ByteArray) = R0 at *
  have HR0 := Lib.hid hR0
  clear hR0
  go_enter Tryz.func125, Tryz.ntmps125
  go_wp2_with (go_at_call 147; refine (HCnt.out _).mono ?_; rintro e w1 ⟨rfl, rfl⟩)
  have X1 : Ext w (w.alloc (.cells #[.string R0] 9)) := (Ext.refl w).alloc _
  have B1 := Blk.new w [.string R0] 9
  have M1 := IsM.made (w.alloc (.cells #[.string R0] 9))
  have hz1 : (w.alloc (.cells #[.string R0] 9)).heap.size = w.heap.size + 1 := by simp
  rw [hz1] at M1
  have X2 := X1.alloc (.map #[] 0)
  have B2 := B1.alloc (.map #[] 0)
  have HX2 := Lib.hid X2; have HB2 := Lib.hid B2; have HM2 := Lib.hid M1
  clear X1 B1 M1 hz1 X2 B2 hmm hcut
  go_loopw [9, 24] (fun lv iv wr => ∃ j m : Nat, j ≤ L.length ∧ iv = .int .i64 (j : Int) ∧ lv = .int .u32 (m : Int) ∧ Hid (∀ e ∈ eps (L.drop j), m < e) ∧ Hid (Blk wr w.heap.size 9 [.string ⟨(rowsL (L.drop j)).toArray⟩]) ∧ Hid (IsM wr (w.heap.size + 1) (L.take j)) ∧ Hid (Ext w wr)) (fun _ iv _ => L.length - (intOf iv).toNat)
  case atStart =>
    refine ⟨0, 0, Nat.zero_le _, rfl, rfl, Lib.hid (fun e he => ?_), Lib.hid ?_, Lib.hid ?_, HX2⟩
    · have := (HGd.out.eps_each e (by simpa using he)).1
      omega
    · rw [List.drop_zero, HR0.out]; exact HB2.out
    · rw [List.take_zero]; exact HM2.out
  case round =>
    obtain ⟨j, m, hj, rfl, rfl, HMn, HB, HM, HX⟩ := hrel
    by_cases hlt : j < L.length
    · have hlti : (j : Int) < (L.length : Int) := by omega
      obtain ⟨⟨e, s⟩, hx⟩ : ∃ x, L[j]? = some x := ⟨_, List.getElem?_eq_getElem hlt⟩
      have hmem := List.mem_of_getElem? hx
      have hs : s.size = 32 := (HGd.out.each _ hmem).2.2
      have he32 : e < 4294967296 := (HGd.out.each _ hmem).2.1
      have hd : L.drop j = (e, s) :: L.drop (j + 1) := by
        obtain ⟨h1, h2⟩ := List.getElem?_eq_some_iff.1 hx
        rw [← h2]
        exact List.drop_eq_getElem_cons h1
      have ht : L.take (j + 1) = L.take j ++ [(e, s)] := by
        rw [List.take_add_one, hx]
        rfl
      have hme : m < e := HMn.out e (by rw [hd]; simp [eps])
      have hup := HGd.out.up
      rw [← List.take_append_drop j L, hd] at hup
      unfold eps at hup
      rw [List.map_append, List.pairwise_append] at hup
      have hnot : e ∉ eps (L.take j) := fun q => by
        have := hup.2.2 e q e (by simp)
        exact Nat.lt_irrefl _ this
      have hnext : ∀ x ∈ eps (L.drop (j + 1)), e < x := fun x hx => by
        have := hup.2.1
        rw [List.map_cons] at this
        exact List.rel_of_pairwise_cons this hx
      have HNx := Lib.hid hnext; have HNo := Lib.hid hnot; have HT := Lib.hid ht
      have hB := HB.out
      rw [hd, rowsL, List.append_assoc] at hB
      have HB2 := Lib.hid hB
      have HT1 := Lib.hid (fun u (hu : Blk u w.heap.size 9 [.string ⟨(be 4 e ++ (s.data.toList ++ rowsL (L.drop (j + 1)))).toArray⟩]) => takeK_cut u w.heap.size _ _ 4 4 rfl (be_length 4 e) hu)
      have HT2 := Lib.hid (fun u (hu : Blk u w.heap.size 9 [.string ⟨(s.data.toList ++ rowsL (L.drop (j + 1))).toArray⟩]) => by
        have := takeK_cut u w.heap.size s.data.toList _ 32 32 rfl (by rw [size_list]; exact hs) hu
        rw [string_of] at this
        exact this)
      have HG4 := Lib.hid (fun u => by
        have := Get32_any ⟨(be 4 e).toArray⟩ 0 (by rw [txt_size, be_length]; omega) u
        rw [(getK_be e he32).1, (getK_be e he32).2] at this
        exact this)
      have HRk := Lib.hid (fun u => rootKeyOf_any s hs u)
      have HPt := Lib.hid (fun u (hu : IsM u (w.heap.size + 1) (L.take j)) => hu.put (e := e) (s := s) he32 hnot)
      have hle : ¬ (e : Int) ≤ (m : Int) := by omega
      clear hx hmem hd ht hup hnot hnext hB HB HR0 HSz HCnt
      generalize hRr : rowsL (L.drop (j + 1)) = Rr at *
      have HRr := Lib.hid hRr
      clear hRr
      generalize be 4 e = E at *
      go_wp2_with (first
        | (go_at_call 148; (with_reducible refine (HT1.out _ HB2.out).mono ?_); rintro e1 w4 ⟨rfl, b4, hw4⟩; have B4 := Lib.hid b4; have M4 := Lib.hid (set_m hw4 HM.out); have X4 := Lib.hid (set_x hw4 HX.out); clear b4 hw4)
        | (go_at_call 120; refine (HG4.out _).mono ?_; rintro e1 w5 ⟨rfl, rfl⟩)
        | (go_at_call 148; (with_reducible refine (HT2.out _ B4.out).mono ?_); rintro e1 w6 ⟨rfl, b6, hw6⟩; have B6 := Lib.hid b6; have M6 := Lib.hid (set_m hw6 M4.out); have X6 := Lib.hid (set_x hw6 X4.out); clear b6 hw6)
        | (go_at_call 73; refine (HRk.out _).mono ?_; rintro e1 w7 ⟨rfl, x7⟩; obtain ⟨w8, hrun, m8, t8⟩ := HPt.out _ (M6.out.ext x7); have M8 := Lib.hid m8; have B7 := Lib.hid (B6.out.ext x7); have X7 := Lib.hid (X6.out.trans x7); have T8 := Lib.hid t8; clear m8 t8 x7))
      have g8 := T8.out.grown
      have B8' : Blk w8 w.heap.size 9 [.string ⟨Rr.toArray⟩] := (g8.block _ B7.out.lt (by simp)).trans B7.out
      have X8 : Ext w w8 := X7.out.grown g8 (fun k hk => by cases hk; omega)
      have B8 := B8'
      rw [← HRr.out] at B8
      have M9 := M8.out
      rw [← HT.out] at M9
      clear hrun
      go_roundw
      case rel => exact ⟨j + 1, e, hlt, by go_num, rfl, HNx, Lib.hid B8, Lib.hid M9, Lib.hid X8⟩
      case measure => simp [intOf]; omega
    · obtain rfl : j = L.length := by omega
      have HM9 := Lib.hid (by have := HM.out; rwa [List.take_length] at this)
      go_wp2
      go_ret2
      exact ⟨_, _, rfl, ⟨Blk.new _ _ _, HM9.out.alloc _, HGd.out⟩, HX.out.size, Nat.le_succ _, HX.out.alloc _⟩
end Go.Proofs.YtobhbppogeghnaaGreatDoor
end

section
namespace Go.Proofs.YtobhbppogeghnaaGreatDoor
open Go.RowKit

theorem run_max0 (ts : Array TypeId) (t : TypeId) (n : Nat) (u : World) : (Builtin.max_ ts t #[.int .i64 (n : Int), .int .i64 0]).run Tryz.prog u = .ok (.int .i64 (n : Int)) u := by
  simp [Builtin.max_, Builtin.max2]
  omega
theorem Size_any (n : Nat) (h : n ≤ 140737488351232) (w : World) :
    Calls Tryz.prog 119 #[.int .i64 (n : Int)] w fun e w' => e = .returned (.int .i64 (17 + (n : Int) + 32)) ∧ w = w' := by
  have hm := run_max0
  have h1 : IntKind.i64.wrap (17 + (n : Int)) = 17 + (n : Int) := by simp [IntKind.wrap, IntKind.signed, IntKind.bits]; omega
  have h2 : IntKind.i64.wrap (17 + (n : Int) + 32) = 17 + (n : Int) + 32 := by simp [IntKind.wrap, IntKind.signed, IntKind.bits]; omega
  go_enter Tryz.func119, Tryz.ntmps119
  go_wp2
  go_ret
  exact ⟨rfl, rfl⟩
theorem there_yes14 (w : World) (r b : Nat) (L : List (Nat × ByteArray)) (h : IsK w r b L) :
    Calls Tryz.prog 75 #[.pointer (some ⟨r, 0, none⟩)] w fun e w' => e = .returned (.bool true) ∧ Ext w w' := by
  have HN := Lib.hid (newest_any w r b L h)
  have ht : (top (eps L) : Int) ≠ 0 := by have := h.good.top_one; omega
  have HT0 := Lib.hid ht
  clear h
  generalize top (eps L) = t at *
  go_enter Tryz.func75, Tryz.ntmps75
  go_wp2_with (go_at_call 76; refine (HN.out).mono ?_; rintro e w1 ⟨rfl, x1⟩)
  go_ret
  exact ⟨by first | rfl | (have := HT0.out; simp; omega), x1⟩
/-! ### Parts -/
theorem takeS_any (w : World) (c : Nat) (X : ByteArray) (k : Nat) (hk : k ≤ X.size) (hB : Blk w c 9 [.string X]) :
    Calls Tryz.prog 121 #[.int .i64 (k : Int), .pointer (some ⟨c, 0, none⟩)] w fun e w' => e = .returned (.string (X.extract 0 k)) ∧ w' = w.setCell ⟨c, 0, none⟩ (.string (X.extract k X.size)) := by
  have h1 := fun u => cut_to X k hk u
  have h2 := fun u => cut_from X k hk u
  have c0 := hB.cell 0 _ rfl
  have f0 := hB.frozen 0
  clear hB
  go_enter Tryz.func121, Tryz.ntmps121
  go_wp2
  go_ret
  exact ⟨rfl, rfl⟩
/-- What taking a piece off leaves: block c has the rest, all else is as it was. -/
structure Cutd (c : Nat) (r : List UInt8) (w w' : World) : Prop where
  left : Blk w' c 9 [.string ⟨r.toArray⟩]
  size : w'.heap.size = w.heap.size
  other : ∀ {b : Nat} {T : TypeId} {cs : List Value}, Blk w b T cs → b ≠ c → Blk w' b T cs
  ext : ∀ {v : World}, Ext v w → v.heap.size ≤ c → Ext v w'
theorem takeS_cut (w : World) (c : Nat) (a r : List UInt8) (k : Nat) (ki : Int) (hki : ki = (k : Int)) (ha : a.length = k) (hB : Blk w c 9 [.string ⟨(a ++ r).toArray⟩]) :
    Calls Tryz.prog 121 #[.int .i64 ki, .pointer (some ⟨c, 0, none⟩)] w fun e w' => e = .returned (.string ⟨a.toArray⟩) ∧ Cutd c r w w' := by
  subst hki
  subst ha
  have h := takeS_any w c ⟨(a ++ r).toArray⟩ a.length (by rw [txt_size, List.length_append]; omega) hB
  rw [(left_cut a r).1, (left_cut a r).2] at h
  refine h.mono fun e w' q => ⟨q.1, ?_⟩
  obtain ⟨_, rfl⟩ := q
  exact ⟨hB.set_ 0 _, by simp [World.setCell], fun hb hne => hb.other hne _ _, fun hx hc => hx.setCell (p := ⟨c, 0, none⟩) hc _⟩
theorem parts_info : (Tryz.prog.info? 120).map (·.size) = some 5 := by kernel_rfl
set_option maxRecDepth 100000 in
set_option maxHeartbeats 2000000 in
theorem partsOf_cut (w : World) (a b c d t : List UInt8) (ha : a.length = 1) (hb : b.length = 4) (hc : c.length = 12) (ht : t.length = 32) (hd : d.length ≤ 140737488351232) :
    Calls Tryz.prog 87 #[.string ⟨(a ++ (b ++ (c ++ (d ++ t)))).toArray⟩] w fun e w' => e = .returned (.agg #[.string ⟨a.toArray⟩, .string ⟨b.toArray⟩, .string ⟨c.toArray⟩, .string ⟨d.toArray⟩, .string ⟨t.toArray⟩]) ∧ Ext w w' := by
  obtain ⟨W0, hW0⟩ : ∃ W0, (w.alloc (.cells #[.string ⟨#[]⟩, .string ⟨#[]⟩, .string ⟨#[]⟩, .string ⟨#[]⟩, .string ⟨#[]⟩] 120)).alloc (.cells #[.string ⟨(a ++ (b ++ (c ++ (d ++ t)))).toArray⟩] 9) = W0 := ⟨_, rfl⟩
  have hx0 : Ext w W0 := by rw [← hW0]; exact ((Ext.refl w).alloc _).alloc _
  have hz0 : W0.heap.size = w.heap.size + 2 := by rw [← hW0]; simp
  have hR0 : Blk W0 w.heap.size 120 [.string ⟨#[]⟩, .string ⟨#[]⟩, .string ⟨#[]⟩, .string ⟨#[]⟩, .string ⟨#[]⟩] := by rw [← hW0]; exact (Blk.new w _ _).alloc _
  have hB0 : Blk W0 (w.heap.size + 1) 9 [.string ⟨(a ++ (b ++ (c ++ (d ++ t)))).toArray⟩] := by
    rw [← hW0]
    have := Blk.new (w.alloc (.cells #[.string ⟨#[]⟩, .string ⟨#[]⟩, .string ⟨#[]⟩, .string ⟨#[]⟩, .string ⟨#[]⟩] 120)) [.string ⟨(a ++ (b ++ (c ++ (d ++ t)))).toArray⟩] 9
    rwa [show (w.alloc (.cells #[.string ⟨#[]⟩, .string ⟨#[]⟩, .string ⟨#[]⟩, .string ⟨#[]⟩, .string ⟨#[]⟩] 120)).heap.size = w.heap.size + 1 by simp] at this
  have HX0 := Lib.hid hx0; have HZ0 := Lib.hid hz0; have HR0 := Lib.hid hR0; have HB0 := Lib.hid hB0
  clear hx0 hz0 hR0 hB0
  have hlen : ByteArray.size ⟨(d ++ t).toArray⟩ = d.length + 32 := by rw [txt_size, List.length_append, ht]
  have hlen2 : ((ByteArray.size ⟨(d ++ t).toArray⟩ : Nat) : Int) = (d.length : Int) + 32 := by omega
  have hw : IntKind.i64.wrap ((d.length : Int) + 32 - 32) = (d.length : Int) := by simp [IntKind.wrap, IntKind.signed, IntKind.bits]; omega
  have hwb : wrap64 ((d.length : Int) + 32 - 32) = (d.length : Int) := by simp [wrap64]; omega
  have H1 := Lib.hid (fun u (hu : Blk u (w.heap.size + 1) 9 [.string ⟨(a ++ (b ++ (c ++ (d ++ t)))).toArray⟩]) => takeS_cut u (w.heap.size + 1) a _ 1 1 rfl ha hu)
  have H2 := Lib.hid (fun u (hu : Blk u (w.heap.size + 1) 9 [.string ⟨(b ++ (c ++ (d ++ t))).toArray⟩]) => takeS_cut u (w.heap.size + 1) b _ 4 4 rfl hb hu)
  have H3 := Lib.hid (fun u (hu : Blk u (w.heap.size + 1) 9 [.string ⟨(c ++ (d ++ t)).toArray⟩]) => takeS_cut u (w.heap.size + 1) c _ 12 12 rfl hc hu)
  have H4 := Lib.hid (fun u (hu : Blk u (w.heap.size + 1) 9 [.string ⟨(d ++ t).toArray⟩]) => takeS_cut u (w.heap.size + 1) d _ d.length d.length rfl rfl hu)
  have H5 := Lib.hid (fun u (hu : Blk u (w.heap.size + 1) 9 [.string ⟨t.toArray⟩]) => by
    have := takeS_cut u (w.heap.size + 1) t [] 32 32 rfl ht (by rw [List.append_nil]; exact hu)
    exact this)
  have HL := Lib.hid hlen2
  clear ha hb hc ht hd hlen hlen2
  generalize d.length = n at *
  generalize hA : (⟨a.toArray⟩ : ByteArray) = A at *
  generalize hB' : (⟨b.toArray⟩ : ByteArray) = B at *
  generalize hC : (⟨c.toArray⟩ : ByteArray) = C at *
  generalize hD : (⟨d.toArray⟩ : ByteArray) = D at *
  generalize hT : (⟨t.toArray⟩ : ByteArray) = T at *
  generalize (⟨(a ++ (b ++ (c ++ (d ++ t)))).toArray⟩ : ByteArray) = X at *
  have HTt := Lib.hid hT
  clear hA hB' hC hD hT
  go_enter Tryz.func87, Tryz.ntmps87
  go_upto_region 3 with (fail)
  go_upto_region 4 with (first
    | (go_at_call 121; (with_reducible refine (H1.out _ HB0.out).mono ?_); rintro e w1 ⟨rfl, k1⟩; have B1 := Lib.hid k1.left; have R1 := Lib.hid (k1.other HR0.out (by omega)); have X1 := Lib.hid (k1.ext HX0.out (by omega)); have Z1 := Lib.hid (k1.size.trans HZ0.out); clear k1)
    | (go_at_call 121; (with_reducible refine (H2.out _ B1.out).mono ?_); rintro e w2 ⟨rfl, k2⟩; have B2 := Lib.hid k2.left; have R2 := Lib.hid (k2.other R1.out (by omega)); have X2 := Lib.hid (k2.ext X1.out (by omega)); have Z2 := Lib.hid (k2.size.trans Z1.out); clear k2)
    | (go_at_call 121; (with_reducible refine (H3.out _ B2.out).mono ?_); rintro e w3 ⟨rfl, k3⟩; have B3 := Lib.hid k3.left; have R3 := Lib.hid (k3.other R2.out (by omega)); have X3 := Lib.hid (k3.ext X2.out (by omega)); have Z3 := Lib.hid (k3.size.trans Z2.out); clear k3))
  have hne : w3.heap.size ≠ w.heap.size + 1 := by have := Z3.out; omega
  have hne2 : w.heap.size ≠ w3.heap.size := by have := Z3.out; omega
  have hne3 : w.heap.size ≠ w.heap.size + 1 := by omega
  have b4 := B3.out.alloc (.cells #[.string A, .string B, .string C, .string ⟨#[]⟩, .string ⟨#[]⟩] 120)
  have r4 := R3.out.alloc (.cells #[.string A, .string B, .string C, .string ⟨#[]⟩, .string ⟨#[]⟩] 120)
  have p4 := Blk.new w3 [.string A, .string B, .string C, .string ⟨#[]⟩, .string ⟨#[]⟩] 120
  have x4 := X3.out.alloc (.cells #[.string A, .string B, .string C, .string ⟨#[]⟩, .string ⟨#[]⟩] 120)
  have HPl := Lib.hid X3.out.size
  generalize hW4 : w3.alloc (.cells #[.string A, .string B, .string C, .string ⟨#[]⟩, .string ⟨#[]⟩] 120) = W4 at *
  clear hW4 Z3
  generalize w3.heap.size = P at *
  have B4 := Lib.hid b4; have R4 := Lib.hid r4; have P4 := Lib.hid p4; have X4 := Lib.hid x4
  have c4 := b4.cell 0 _ rfl
  have N1 := Lib.hid hne; have N2 := Lib.hid hne2; have N3 := Lib.hid hne3
  clear b4 r4 p4 x4 hne hne2 hne3
  generalize (⟨(d ++ t).toArray⟩ : ByteArray) = DT at *
  have hw1 : wrap64 ((DT.size : Int) - 32) = (n : Int) := by rw [HL.out]; exact hwb
  have hw2 : IntKind.i64.wrap ((DT.size : Int) - 32) = (n : Int) := by rw [HL.out]; exact hw
  clear hw hwb
  go_wp2_with (first
    | (go_at_call 121; (with_reducible refine (H4.out _ B4.out).mono ?_); rintro e w5 ⟨rfl, k5⟩; have b5 := k5.left; rw [HTt.out] at b5; have B5 := Lib.hid (b5.other N1.out.symm 3 (.string D)); clear b5; have p5 := k5.other P4.out N1.out; have c5 := p5.cell 3 _ rfl; have f5 := p5.frozen 3; have P5 := Lib.hid (p5.set_ 3 (.string D)); have R5 := Lib.hid ((k5.other R4.out N3.out).other N2.out 3 (.string D)); have X5 := Lib.hid ((k5.ext X4.out (Nat.le_succ _)).setCell (p := ⟨P, 3, none⟩) HPl.out (.string D)); clear k5 p5)
    | (go_at_call 121; (with_reducible refine (H5.out _ B5.out).mono ?_); rintro e w6 ⟨rfl, k6⟩; have p6 := k6.other P5.out N1.out; have c6 := p6.cell 4 _ rfl; have f6 := p6.frozen 4; have p7 := p6.set_ 4 (.string T); have a0 := p7.cell 0 _ rfl; have a1 := p7.cell 1 _ rfl; have a2 := p7.cell 2 _ rfl; have a3 := p7.cell 3 _ rfl; have a4 := p7.cell 4 _ rfl; have r6 := (k6.other R5.out N3.out).other N2.out 4 (.string T); have R6 := Lib.hid r6; have z0 := r6.cell 0 _ rfl; have z1 := r6.cell 1 _ rfl; have z2 := r6.cell 2 _ rfl; have z3 := r6.cell 3 _ rfl; have z4 := r6.cell 4 _ rfl; have y0 := r6.frozen 0; have y1 := r6.frozen 1; have y2 := r6.frozen 2; have y3 := r6.frozen 3; have y4 := r6.frozen 4; have X6 := Lib.hid ((k6.ext X5.out (Nat.le_succ _)).setCell (p := ⟨P, 4, none⟩) HPl.out (.string T)); clear k6 p6 p7 r6))
  exact bodyPost_ret (results_cell_row rfl _ _ w.heap.size 120 #[.string A, .string B, .string C, .string D, .string T] (0, 0) _ rfl (((((R6.out.set_ 0 _).set_ 1 _).set_ 2 _).set_ 3 _).set_ 4 _) Tryz.underlying120 rfl parts_info) rfl ⟨rfl, ((((X6.out.setCell (p := ⟨w.heap.size, 0, none⟩) (Nat.le_refl _) _).setCell (p := ⟨w.heap.size, 1, none⟩) (Nat.le_refl _) _).setCell (p := ⟨w.heap.size, 2, none⟩) (Nat.le_refl _) _).setCell (p := ⟨w.heap.size, 3, none⟩) (Nat.le_refl _) _).setCell (p := ⟨w.heap.size, 4, none⟩) (Nat.le_refl _) _⟩
end Go.Proofs.YtobhbppogeghnaaGreatDoor
end
