/- Steps that came in: a slice of structs of six cells; what is more than a statement plays. -/
import Derived.Test.YtgbhadgkkefokaaProg
import Derived.Test.YtgbhadgkkefokaaBlk
import Derived.Test.YtgbhadgkkefokaaTexts
import Derived.Laws.Cells
import Derived.Deep.MidRow
import Derived.Deep.Slices
import Derived.Outline
namespace Go.Proofs.Ytgbhadgkkefokaa
open Go.RowKit
/-- A step. -/
structure Stp where
  d : Nat
  f : Int
  n : Int
  m : Int
  s : ByteArray
  by_ : Nat
def Stp.cells (x : Stp) : List Value := [.int .u8 (x.d : Int), .int .i64 x.f, .int .i64 x.n, .int .i64 x.m, .string x.s, .int .u8 (x.by_ : Int)]
/-- The numbers are such as their kinds can be. -/
structure Stp.Ok (x : Stp) : Prop where
  d : x.d < 256
  f : -9223372036854775808 ≤ x.f ∧ x.f ≤ 9223372036854775807
  n : -9223372036854775808 ≤ x.n ∧ x.n ≤ 9223372036854775807
  m : -9223372036854775808 ≤ x.m ∧ x.m ≤ 9223372036854775807
  by_ : x.by_ < 256
  s : x.s.size ≤ 281474976710656
/-- The cells from the address on, if there are any, are these steps. -/
def StepsP (w : World) (p : Option Addr) (L : List Stp) : Prop := ∀ (k : Nat) (x : Stp), L[k]? = some x → ∃ a, p = some a ∧ a.block < w.heap.size ∧ ∀ (j : Nat) (v : Value), x.cells[j]? = some v → w.cell? (a.add (k * 6 + j)) = some v
theorem StepsP.below {w w' : World} {B : Nat} {p : Option Addr} {L : List Stp} (h : StepsP w p L) (hx : Below B w w') (hB : w.heap.size ≤ B) : StepsP w' p L := fun k x hk => by
  obtain ⟨a, h1, h2, h3⟩ := h k x hk
  exact ⟨a, h1, Nat.lt_of_lt_of_le h2 hx.size, fun j v hv => by rw [hx.cell (p := a.add (k * 6 + j)) (by rw [add_block]; omega)]; exact h3 j v hv⟩
theorem StepsP.ext {w w' : World} {p : Option Addr} {L : List Stp} (h : StepsP w p L) (hx : Ext w w') : StepsP w' p L := h.below hx.below (Nat.le_refl _)
theorem step_info : (Try.prog.info? 32).map (·.size) = some 6 := by kernel_rfl
/-- A cell of a step, as the walk spells its place. -/
theorem six_at {w : World} {a : Addr} {j k : Nat} {v : Option Value} (h : w.cell? (a.add (j * 6 + (k + 1))) = v) : w.cell? ⟨(a.add (j * 6)).block, (a.add (j * 6)).off + (k + 1), none⟩ = v := by
  rw [← Deep.add_add] at h
  exact h
def totS (L : List Stp) : Nat := L.foldl (fun n x => n + x.s.size) 0
theorem totS_step (L : List Stp) (j : Nat) (x : Stp) (h : L[j]? = some x) : totS (L.take (j + 1)) = totS (L.take j) + x.s.size := by
  unfold totS
  rw [List.take_add_one, h]
  simp
theorem totS_acc : ∀ (l : List Stp) (n : Nat), l.foldl (fun n x => n + x.s.size) n = n + totS l
  | [], _ => rfl
  | a :: r, n => by
    have e : totS (a :: r) = a.s.size + totS r := by
      show r.foldl (fun n x => n + x.s.size) (0 + a.s.size) = _
      rw [totS_acc r, Nat.zero_add]
    rw [List.foldl_cons, totS_acc r, e, Nat.add_assoc]
theorem totS_mem (l : List Stp) (x : Stp) (h : x ∈ l) : x.s.size ≤ totS l := by
  induction l with
  | nil => cases h
  | cons a r ih =>
    have e : totS (a :: r) = a.s.size + totS r := by
      show r.foldl (fun n x => n + x.s.size) (0 + a.s.size) = _
      rw [totS_acc r, Nat.zero_add]
    rw [e]
    rcases List.mem_cons.1 h with rfl | h
    · omega
    · have := ih h; omega
theorem totS_take (l : List Stp) (j : Nat) : totS (l.take j) ≤ totS l := by
  have : totS l = totS (l.take j) + totS (l.drop j) := by
    conv => lhs; rw [← List.take_append_drop j l]
    unfold totS
    rw [List.foldl_append, totS_acc]
    rfl
  omega
/-- More than a statement plays. -/
def HeavyS (L : List Stp) : Prop := 4096 < totS L ∨ 100 < L.length
theorem not_heavyS {L : List Stp} (h : ¬ HeavyS L) : L.length ≤ 100 ∧ ∀ x ∈ L, x.s.size ≤ 4096 := by
  unfold HeavyS at h
  exact ⟨by omega, fun x hx => by have := totS_mem L x hx; omega⟩
set_option maxRecDepth 100000 in
set_option maxHeartbeats 2000000 in
theorem heavyS_is (w : World) (p : Option Addr) (c : Nat) (L : List Stp) (h : StepsP w p L) (hok : ∀ x ∈ L, x.Ok) (hl : L.length ≤ 140737488355328) (b : Bool) (hb : b = true ↔ HeavyS L) :
    Calls Try.prog 4 #[.slice p L.length c] w fun e w' => e = .returned (.bool b) ∧ w = w' := by
  have HH := Lib.hid h; have HOk := Lib.hid hok; have HT := Lib.hid (totS_step L); have HTk := Lib.hid (totS_take L); have HB := Lib.hid hb
  have HAll : Hid (totS (L.take L.length) = totS L) := Lib.hid (by rw [List.take_length])
  clear h hok hb
  go_enter Try.func4, Try.ntmps4
  go_wp2
  go_loopw [3, 4] (fun nv iv wr => ∃ j : Nat, j ≤ L.length ∧ iv = .int .i64 (j : Int) ∧ nv = .int .i64 (totS (L.take j) : Int) ∧ totS (L.take j) ≤ 4096 ∧ w = wr) (fun _ iv _ => L.length - (intOf iv).toNat)
  case atStart => exact ⟨0, Nat.zero_le _, rfl, by simp [totS], by simp [totS], rfl⟩
  case round =>
    obtain ⟨j, hj, rfl, rfl, hle, rfl⟩ := hrel
    by_cases hlt : j < L.length
    · obtain ⟨x, hx⟩ : ∃ x, L[j]? = some x := ⟨_, List.getElem?_eq_getElem hlt⟩
      obtain ⟨a, rfl, ha, hc⟩ := HH.out j x hx
      have k4 := six_at (k := 3) (hc 4 _ rfl)
      have hxs := (HOk.out x (List.mem_of_getElem? hx)).s
      obtain ⟨t1, ht1⟩ : ∃ t1, totS (L.take (j + 1)) = t1 := ⟨_, rfl⟩
      have hstep := HT.out j x hx
      rw [ht1] at hstep
      have hw : IntKind.i64.wrap ((totS (L.take j) : Int) + (x.s.size : Int)) = (t1 : Int) := by
        rw [IntWalk.i64_in _ ⟨by omega, by omega⟩]; omega
      have HT1 := Lib.hid ht1
      have htl := HTk.out (j + 1)
      rw [ht1] at htl
      clear hx hc ht1 hstep
      generalize totS (L.take j) = t0 at *
      generalize x.s = s at *
      by_cases hbig : 4096 < t1
      · have hbi : (4096 : Int) < (t1 : Int) := by omega
        have hbt : b = true := HB.out.2 (.inl (by omega))
        subst hbt
        clear htl
        go_wp2
        go_ret
        exact ⟨rfl, rfl⟩
      · have hbi : ¬ (4096 : Int) < (t1 : Int) := by omega
        clear htl
        go_wp2
        go_roundw
        case rel => exact ⟨j + 1, by omega, by go_num, by rw [HT1.out], by rw [HT1.out]; omega, by first | rfl | trivial⟩
        case measure => simp [intOf]; omega
    · obtain rfl : j = L.length := by omega
      by_cases h100 : 100 < L.length
      · have h100i : (100 : Int) < (L.length : Int) := by omega
        have hbt : b = true := HB.out.2 (.inr h100)
        subst hbt
        go_wp2
        go_ret
        exact ⟨rfl, rfl⟩
      · have h100i : ¬ (100 : Int) < (L.length : Int) := by omega
        have hbt : b = false := by
          rcases hbb : b with _ | _
          · rfl
          · have h1 := HB.out.1 hbb
            have h2 := HAll.out
            unfold HeavyS at h1
            omega
        subst hbt
        go_wp2
        go_ret
        exact ⟨rfl, rfl⟩
theorem heavyS_yes (w : World) (p : Option Addr) (c : Nat) (L : List Stp) (h : StepsP w p L) (hok : ∀ x ∈ L, x.Ok) (hl : L.length ≤ 140737488355328) (hh : HeavyS L) :
    Calls Try.prog 4 #[.slice p L.length c] w fun e w' => e = .returned (.bool true) ∧ w = w' := heavyS_is w p c L h hok hl true (by simp [hh])
theorem heavyS_no (w : World) (p : Option Addr) (c : Nat) (L : List Stp) (h : StepsP w p L) (hok : ∀ x ∈ L, x.Ok) (hl : L.length ≤ 140737488355328) (hh : ¬ HeavyS L) :
    Calls Try.prog 4 #[.slice p L.length c] w fun e w' => e = .returned (.bool false) ∧ w = w' := heavyS_is w p c L h hok hl false (by simp [hh])
end Go.Proofs.Ytgbhadgkkefokaa
