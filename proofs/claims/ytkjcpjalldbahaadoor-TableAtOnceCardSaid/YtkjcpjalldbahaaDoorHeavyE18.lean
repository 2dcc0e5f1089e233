/- Contracts: what is more than a statement of layer 18 plays: acts that have edits alone. -/
import Derived.Test.YtkjcpjalldbahaaDoorM32
import Derived.BigQuiet
import Derived.Deep.QuietTactic
namespace Go.Proofs.YtkjcpjalldbahaaDoor
open Go.RowKit

structure ActE where
  dv : Nat
  E : List EditP
  a : Option Addr
  c : Nat
def ActE.cells (x : ActE) : List Value := [.int .u8 (x.dv : Int), .slice x.a x.E.length x.c, .slice none 0 0, .slice none 0 0]
def cntE (A : List ActE) : Nat := (A.map fun x => x.E.length).sum
theorem cntE_take {A : List ActE} {j : Nat} {x : ActE} (h : A[j]? = some x) : cntE (A.take (j + 1)) = cntE (A.take j) + x.E.length := by
  unfold cntE
  rw [List.take_add_one, h]
  simp
def ActsE (w : World) (p : Option Addr) (A : List ActE) : Prop := ∀ (k : Nat) (x : ActE), A[k]? = some x → (∃ a, p = some a ∧ a.block < w.heap.size ∧ ∀ (j : Nat) (v : Value), x.cells[j]? = some v → w.cell? (a.add (k * 4 + j)) = some v) ∧ EditsP w x.a x.E
theorem actE_at {w : World} {a : Addr} {j k : Nat} {v : Option Value} (h : w.cell? (a.add (j * 4 + (k + 1))) = v) : w.cell? ⟨(a.add (j * 4)).block, (a.add (j * 4)).off + (k + 1), none⟩ = v := by
  rw [← Go.Deep.add_add] at h
  exact h
def HeavyE18 (A : List ActE) (w : World) (e : Ending) (w' : World) : Prop := ∃ b : Bool, e = .returned (.bool b) ∧ (b = false → A.length ≤ 40 ∧ cntE A ≤ 1024) ∧ Ext w w'
set_option maxRecDepth 100000 in
set_option maxHeartbeats 4000000 in
theorem heavyE_any (w : World) (p : Option Addr) (c : Nat) (A : List ActE) (h : ActsE w p A) (hA : A.length ≤ 2) (hs : ∀ x ∈ A, x.E.length ≤ 140737488355328 ∧ ∀ e ∈ x.E, e.p.size ≤ 140737488351232 ∧ e.t.size ≤ 140737488351232) :
    Calls Tryd.prog 5 #[.slice p A.length c] w (HeavyE18 A w) := by
  obtain ⟨n, hn⟩ : ∃ n, A.length = n := ⟨_, rfl⟩
  have HN := Lib.hid hn
  have HH := Lib.hid h
  have HS := Lib.hid hs
  rw [hn] at hA ⊢
  clear hn h hs
  go_enter Tryd.func5, Tryd.ntmps5
  go_wp2
  go_loopw [3, 4] (fun sv iv wr => ∃ (i s : Nat), i ≤ n ∧ iv = .int .i64 (i : Int) ∧ sv = .int .i64 (s : Int) ∧ Hid (8 * cntE (A.take i) ≤ s) ∧ s ≤ i * 29300000000000000 ∧ Hid (Ext w wr)) (fun _ iv _ => n - (intOf iv).toNat)
  case atStart => exact ⟨0, 0, Nat.zero_le _, rfl, rfl, Lib.hid (by simp [cntE]), Nat.zero_le _, Lib.hid (Ext.refl _)⟩
  case round =>
    obtain ⟨i, s, hi, rfl, rfl, HC, hsb, HX⟩ := hrel
    by_cases hlt : i < n
    · obtain ⟨⟨dv, E, ae, ce⟩, hx⟩ : ∃ x, A[i]? = some x := ⟨_, List.getElem?_eq_getElem (by have := HN.out; omega)⟩
      obtain ⟨⟨a, rfl, hab, hcl⟩, hE⟩ := HH.out i _ hx
      obtain ⟨hEl, hEs⟩ := HS.out _ (List.mem_of_getElem? hx)
      dsimp only at hE hEl hEs
      obtain ⟨el, hel⟩ : ∃ el, E.length = el := ⟨_, rfl⟩
      have HEL := Lib.hid hel
      have HE := Lib.hid hE
      have HEs := Lib.hid hEs
      have HCt : Hid (8 * cntE (A.take (i + 1)) ≤ s + 8 * el) := Lib.hid (by rw [cntE_take hx]; have := HC.out; dsimp only; omega)
      have HK := Lib.hid (fun u (x : Ext w u) (j : Nat) (v : Value) (hj : (ActE.cells ⟨dv, E, ae, ce⟩)[j]? = some v) => (show u.cell? (a.add (i * 4 + j)) = some v by rw [x.below.cell (p := a.add (i * 4 + j)) (by rw [add_blockV]; omega)]; exact hcl j v hj))
      have q1 : ∀ u, Ext w u → u.cell? ⟨(a.add (i * 4)).block, (a.add (i * 4)).off + 1, none⟩ = some (.slice ae el ce) := fun u x => actE_at (HK.out u x 1 _ (by unfold ActE.cells; dsimp only; rw [hel]; rfl))
      have q2 : ∀ u, Ext w u → u.cell? ⟨(a.add (i * 4)).block, (a.add (i * 4)).off + 2, none⟩ = some (.slice none 0 0) := fun u x => actE_at (HK.out u x 2 _ rfl)
      have q3 : ∀ u, Ext w u → u.cell? ⟨(a.add (i * 4)).block, (a.add (i * 4)).off + 3, none⟩ = some (.slice none 0 0) := fun u x => actE_at (HK.out u x 3 _ rfl)
      have c1 := q1 wr HX.out
      have c2 := q2 wr HX.out
      have c3 := q3 wr HX.out
      have Q1 := Lib.hid q1; have Q2 := Lib.hid q2; have Q3 := Lib.hid q3
      rw [hel] at hEl
      have hwa : IntKind.i64.wrap (el : Int) = (el : Int) := IntWalk.i64_in _ ⟨by omega, by omega⟩
      have hwb : IntKind.i64.wrap (8 * (el : Int)) = 8 * (el : Int) := IntWalk.i64_in _ ⟨by omega, by omega⟩
      obtain ⟨s1, hs1⟩ : ∃ s1, s + 8 * el = s1 := ⟨_, rfl⟩
      have hwc : IntKind.i64.wrap ((s : Int) + 8 * (el : Int)) = (s1 : Int) := by rw [IntWalk.i64_in _ ⟨by omega, by omega⟩]; omega
      rw [hs1] at HCt
      have hs1b : s1 ≤ i * 29300000000000000 + 1125899906842624 := by omega
      clear hs1
      have hi100 : (i : Int) < 100 := by omega
      clear hx hE hEs hcl hab hel q1 q2 q3
      go_wp2
      go_quiet (fail)
      go_wp2
      have HXq := Lib.hid (HX.out.drewN nq)
      generalize wr.drewN nq = W at *
      go_loopw [3, 5] (fun sv kv wk => ∃ (k sk : Nat), k ≤ el ∧ k ≤ 100 ∧ kv = .int .i64 (k : Int) ∧ sv = .int .i64 (sk : Int) ∧ s1 ≤ sk ∧ sk ≤ i * 29300000000000000 + 1125899906842624 + k * 281474976702464 ∧ Hid (Ext w wk)) (fun _ kv _ => el - (intOf kv).toNat)
      case atStart => exact ⟨0, s1, Nat.zero_le _, Nat.zero_le _, rfl, rfl, Nat.le_refl _, by omega, HXq⟩
      case round =>
        obtain ⟨k, sk, hk, hk100, rfl, rfl, hsk1, hsk2, HXk⟩ := hrel
        have d1 := Q1.out _ HXk.out
        have d2 := Q2.out _ HXk.out
        by_cases hke : k < el ∧ k < 100
        · obtain ⟨h1, h2⟩ := hke
          have h2i : (k : Int) < 100 := by omega
          obtain ⟨⟨yk, yp, ya, yw, yn, yt⟩, hy⟩ : ∃ y, E[k]? = some y := ⟨_, List.getElem?_eq_getElem (by have := HEL.out; omega)⟩
          obtain ⟨hy1, hy2⟩ := HEs.out _ (List.mem_of_getElem? hy)
          obtain ⟨b, e0, g0, g1, g2, g3, g4, g5⟩ := HE.out.six HXk.out hy
          dsimp only at hy1 hy2 g0 g1 g2 g3 g4 g5
          cases e0
          have hwd : IntKind.i64.wrap ((sk : Int) + (yt.size : Int)) = (sk : Int) + (yt.size : Int) := IntWalk.i64_in _ ⟨by omega, by omega⟩
          obtain ⟨s2, hs2⟩ : ∃ s2, sk + yt.size + yp.size = s2 := ⟨_, rfl⟩
          have hwe : IntKind.i64.wrap ((sk : Int) + (yt.size : Int) + (yp.size : Int)) = (s2 : Int) := by rw [IntWalk.i64_in _ ⟨by omega, by omega⟩]; omega
          have hs2a : s1 ≤ s2 := by omega
          have hs2b : s2 ≤ i * 29300000000000000 + 1125899906842624 + (k + 1) * 281474976702464 := by omega
          clear hy hy1 hy2 hs2 hsk1 hsk2
          go_wp2
          go_quiet (fail)
          go_wp2
          go_roundw
          case rel => exact ⟨k + 1, s2, by omega, by omega, by go_num, rfl, hs2a, hs2b, Lib.hid (HXk.out.drewN _)⟩
          case measure => simp [intOf]; omega
        · have hfin : sk ≤ (i + 1) * 29300000000000000 := by omega
          have HF : Hid (8 * cntE (A.take (i + 1)) ≤ sk) := Lib.hid (by have := HCt.out; omega)
          by_cases h1 : k < el
          · have h2 : decide ((k : Int) < 100) = false := decide_eq_false (by omega)
            clear hke hsk1 hsk2
            go_wp2
            go_loopw [3, 6] (fun nv kv wm => nv = .int .i64 (sk : Int) ∧ kv = .int .i64 0 ∧ Hid (Ext w wm)) (fun _ _ _ => 0)
            case atStart => exact ⟨rfl, rfl, HXk⟩
            case round =>
              obtain ⟨rfl, rfl, HXm⟩ := hrel
              have m2 := Q2.out _ HXm.out
              go_wp2
              go_roundw
              case rel => exact ⟨i + 1, sk, by omega, by go_num, rfl, HF, hfin, HXm⟩
              case measure => simp [intOf]; omega
          · have h2 : decide ((k : Int) < (el : Int)) = false := decide_eq_false (by omega)
            clear hke hsk1 hsk2
            go_wp2
            go_loopw [3, 6] (fun nv kv wm => nv = .int .i64 (sk : Int) ∧ kv = .int .i64 0 ∧ Hid (Ext w wm)) (fun _ _ _ => 0)
            case atStart => exact ⟨rfl, rfl, HXk⟩
            case round =>
              obtain ⟨rfl, rfl, HXm⟩ := hrel
              have m2 := Q2.out _ HXm.out
              go_wp2
              go_roundw
              case rel => exact ⟨i + 1, sk, by omega, by go_num, rfl, HF, hfin, HXm⟩
              case measure => simp [intOf]; omega
    · obtain rfl : i = n := by omega
      have hc := HC.out
      rw [List.take_of_length_le (by rw [HN.out]; exact Nat.le_refl _)] at hc
      have hn40 : ¬ (40 : Int) < (i : Int) := by omega
      have hn40' : decide ((40 : Int) < (i : Int)) = false := decide_eq_false hn40
      by_cases hg : (8192 : Int) < (s : Int)
      · go_wp2
        go_ret
        exact ⟨true, rfl, (fun q => by cases q), HX.out⟩
      · have hg' : decide ((8192 : Int) < (s : Int)) = false := decide_eq_false hg
        go_wp2
        go_ret
        exact ⟨false, rfl, (fun _ => ⟨by rw [HN.out]; omega, by omega⟩), HX.out⟩
end Go.Proofs.YtkjcpjalldbahaaDoor
