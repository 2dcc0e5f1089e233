/- Contracts: what was closed opens; an envelope again; the self-test: the laws of layer 14. Contract: the self-test of the laws of layer 14. Contracts: whether texts are too long: the laws of layer 14. Contracts: keys by epochs: two rings in one world: what a call of one leaves of the other. Contracts: keys by epochs: another ring of the same keys: by the program. Contract: a byte written to a builder of strings. -/
import Derived.Test.YtdnpgmoiapkhnaaGreatDoorM41
import Derived.Test.YtdnpgmoiapkhnaaGreatDoorM40
import Derived.Test.YtdnpgmoiapkhnaaGreatDoorM16
import Derived.Test.YtdnpgmoiapkhnaaGreatDoorM04
import Derived.Outline
import Derived.Test.YtdnpgmoiapkhnaaGreatDoorM28
import Derived.Test.YtdnpgmoiapkhnaaGreatDoorM10
import Derived.Shelf.SlMaps.Clone
import Derived.Shelf.Strings.BuilderK
import Derived.Test.YtdnpgmoiapkhnaaGreatDoorM14
section
namespace Go.Proofs.YtdnpgmoiapkhnaaGreatDoor
open Go.RowKit

theorem chk_self (m : List UInt8) (h : m.length = 32) : chk m m = true := by
  unfold chk
  rw [h]
  simp [List.take_of_length_le (Nat.le_of_eq h)]
attribute [local irreducible] rkey expand enc dec ctrB ctrC ctrL xorL turnL turnT kd t4 t8 env5 chk f32B f12B tagT
theorem open_sealed (w : World) (r b : Nat) (L : List (Nat × ByteArray)) (hL : Laid w) (h : IsK w r b L) (e : Nat) (s : ByteArray) (hm : (e, s) ∈ L) (path : ByteArray) (v : Nat) (nonce text : ByteArray) (hn : nonce.size = 12) (hp : path.size ≤ 1048576) (ht : text.size ≤ 1048576) :
    Calls Tryz.prog 29 #[.pointer (some ⟨r, 0, none⟩), .string path, .int .u64 (v : Int), .string (sealT s e path v nonce text)] w fun x w' => x = .returned (.tuple #[.string text, .int .i64 0]) ∧ Ext w w' := by
  have hk1 : (kd s cipB 16).size = 16 := kd_size _ _ _ (by omega)
  have h1 := open_key w hL h s hm path v (C := nonce) (D := turnT (kd s cipB 16) nonce 0 text) (T := tagT (kd s tagB 32) path v t1 (t4 e) nonce (turnT (kd s cipB 16) nonce 0 text)) hn (tagT_size _ _ _ _ _ _ _) (by rw [turnT_size _ _ _ _ hk1]; exact ht) hp
  rw [chk_self _ (by rw [size_list]; exact tagT_size _ _ _ _ _ _ _), turnT_twice _ _ _ _ hk1] at h1
  exact h1
theorem epoch_sealed (s : ByteArray) (e : Nat) (he : e < 4294967296) (path : ByteArray) (v : Nat) (nonce text : ByteArray) (hn : nonce.size = 12) (ht : text.size ≤ 1048576) (w : World) :
    Calls Tryz.prog 25 #[.string (sealT s e path v nonce text)] w fun x w' => x = .returned (.tuple #[.int .u32 (e : Int), .int .i64 0]) ∧ Ext w w' :=
  epoch_yes he hn (tagT_size _ _ _ _ _ _ _) (by rw [turnT_size _ _ _ _ (kd_size _ _ _ (by omega))]; exact ht) w
theorem open_gone (w : World) (r b : Nat) (L : List (Nat × ByteArray)) (h : IsK w r b L) (s : ByteArray) (e : Nat) (he : e < 4294967296) (path : ByteArray) (v : Nat) (nonce text : ByteArray) (hn : nonce.size = 12) (hp : path.size ≤ 1048576) (ht : text.size ≤ 1048576) (hg : e ∉ eps L) :
    Calls Tryz.prog 29 #[.pointer (some ⟨r, 0, none⟩), .string path, .int .u64 (v : Int), .string (sealT s e path v nonce text)] w fun x w' => x = .returned (.tuple #[.string ⟨#[]⟩, .int .i64 140]) ∧ Ext w w' :=
  open_epoch w h path v he hn (tagT_size _ _ _ _ _ _ _) (by rw [turnT_size _ _ _ _ (kd_size _ _ _ (by omega))]; exact ht) hp hg
end Go.Proofs.YtdnpgmoiapkhnaaGreatDoor
end

section
namespace Go.Proofs.YtdnpgmoiapkhnaaGreatDoor
open Go.RowKit
attribute [local irreducible] rkey expand enc dec ctrB ctrC ctrL xorL turnL turnT kd t4 t8 env5 chk f32B f12B tagT sealT

theorem open_other14 (w : World) (r b : Nat) (hL : Laid w) (h : IsK w r b [(1, f32B ⟨#[107]⟩)]) :
    Calls Tryz.prog 29 #[.pointer (some ⟨r, 0, none⟩), .string ⟨#[98]⟩, .int .u64 1, .string (sealT (f32B ⟨#[107]⟩) 1 ⟨#[97]⟩ 1 (f12B ⟨#[110]⟩) ⟨#[115, 101, 99, 114, 101, 116]⟩)] w fun x w' => x = .returned (.tuple #[.string ⟨#[]⟩, .int .i64 141]) ∧ Ext w w' := by
  have hk1 : (kd (f32B ⟨#[107]⟩) cipB 16).size = 16 := kd_size _ _ _ (by omega)
  have h1 := open_key (e := 1) w hL h (f32B ⟨#[107]⟩) (by simp) ⟨#[98]⟩ 1 (C := f12B ⟨#[110]⟩) (D := turnT (kd (f32B ⟨#[107]⟩) cipB 16) (f12B ⟨#[110]⟩) 0 ⟨#[115, 101, 99, 114, 101, 116]⟩) (T := tagT (kd (f32B ⟨#[107]⟩) tagB 32) ⟨#[97]⟩ 1 t1 (t4 1) (f12B ⟨#[110]⟩) (turnT (kd (f32B ⟨#[107]⟩) cipB 16) (f12B ⟨#[110]⟩) 0 ⟨#[115, 101, 99, 114, 101, 116]⟩)) (f12B_size _) (tagT_size _ _ _ _ _ _ _) (by rw [turnT_size _ _ _ _ hk1]; decide) (by decide)
  rw [chk_b14] at h1
  unfold sealT
  exact h1
set_option maxRecDepth 100000 in
set_option maxHeartbeats 4000000 in
theorem works14_any (w : World) (hL : Laid w) : Calls Tryz.prog 20 #[] w fun e w' => e = .returned (.bool true) ∧ Ext w w' := by
  have HR := Lib.hid (fun u => rings_any u none 0 [] (fun i s hs => by simp at hs) (by simp))
  have hrn : ringOf [] (min ([] : List ByteArray).length 8) = [(1, f32B ⟨#[107]⟩)] := rfl
  rw [hrn] at HR
  have HN := Lib.hid (fun u => nonce_any ⟨#[110]⟩ u)
  have HLd := Lib.hid hL
  have htop : top (eps [(1, f32B ⟨#[107]⟩)]) = 1 := by simp [eps, top]
  have HC := Lib.hid (fun u r b (hx : Ext w u) (hu : IsK u r b [(1, f32B ⟨#[107]⟩)]) => by
    have := close_yes u r b _ (hL.ext hx) hu (f32B ⟨#[107]⟩) (by rw [htop]; simp) ⟨#[97]⟩ 1 (f12B ⟨#[110]⟩) ⟨#[115, 101, 99, 114, 101, 116]⟩ (f12B_size _) (by decide) (by decide)
    rw [htop] at this
    exact this)
  have HO : Hid (∀ u r b, Ext w u → IsK u r b [(1, f32B ⟨#[107]⟩)] → Calls Tryz.prog 29 #[.pointer (some ⟨r, 0, none⟩), .string ⟨#[97]⟩, .int .u64 1, .string (sealT (f32B ⟨#[107]⟩) 1 ⟨#[97]⟩ 1 (f12B ⟨#[110]⟩) ⟨#[115, 101, 99, 114, 101, 116]⟩)] u fun x w' => x = .returned (.tuple #[.string ⟨#[115, 101, 99, 114, 101, 116]⟩, .int .i64 0]) ∧ Ext u w') := Lib.hid (fun u r b (hx : Ext w u) (hu : IsK u r b [(1, f32B ⟨#[107]⟩)]) => open_sealed u r b _ (hL.ext hx) hu 1 (f32B ⟨#[107]⟩) (by simp) ⟨#[97]⟩ 1 (f12B ⟨#[110]⟩) ⟨#[115, 101, 99, 114, 101, 116]⟩ (f12B_size _) (by decide) (by decide))
  have HB := Lib.hid (fun u r b (hx : Ext w u) (hu : IsK u r b [(1, f32B ⟨#[107]⟩)]) => open_other14 u r b (hL.ext hx) hu)
  have HE : Hid (∀ u, Calls Tryz.prog 25 #[.string (sealT (f32B ⟨#[107]⟩) 1 ⟨#[97]⟩ 1 (f12B ⟨#[110]⟩) ⟨#[115, 101, 99, 114, 101, 116]⟩)] u fun x w' => x = .returned (.tuple #[.int .u32 1, .int .i64 0]) ∧ Ext u w') := Lib.hid (fun u => epoch_sealed (f32B ⟨#[107]⟩) 1 (by decide) ⟨#[97]⟩ 1 (f12B ⟨#[110]⟩) ⟨#[115, 101, 99, 114, 101, 116]⟩ (f12B_size _) (by decide) u)
  have hz := sealT_size (f32B ⟨#[107]⟩) 1 ⟨#[97]⟩ 1 (f12B ⟨#[110]⟩) ⟨#[115, 101, 99, 114, 101, 116]⟩ (f12B_size _)
  have hz2 : (sealT (f32B ⟨#[107]⟩) 1 ⟨#[97]⟩ 1 (f12B ⟨#[110]⟩) ⟨#[115, 101, 99, 114, 101, 116]⟩).size = 55 := hz
  have HS6 := Lib.hid (fun u => size_lit 6 55 (by decide) (by decide) u)
  clear hrn htop hz hL
  generalize sealT (f32B ⟨#[107]⟩) 1 ⟨#[97]⟩ 1 (f12B ⟨#[110]⟩) ⟨#[115, 101, 99, 114, 101, 116]⟩ = S at *
  generalize f12B ⟨#[110]⟩ = N at *
  generalize [(1, f32B ⟨#[107]⟩)] = L at *
  have hzi : (S.size : Int) = 55 := by omega
  clear hz2
  go_enter Tryz.func20, Tryz.ntmps20
  go_wp2_with (first
    | (go_at_call 21; refine (HR.out _).mono ?_; rintro e w1 ⟨⟨r, b, d, p, c, rfl, k1, d1, q1, p1⟩, x1⟩; have K1 := Lib.hid k1; clear k1 d1 q1 p1)
    | (go_at_call 22; refine (HN.out _).mono ?_; rintro e w2 ⟨rfl, x2⟩; have K2 := Lib.hid (K1.out.ext x2); have y2 := x1.trans x2)
    | (go_at_call 23; refine (HC.out _ _ _ y2 K2.out).mono ?_; rintro e w3 ⟨rfl, x3⟩; have K3 := Lib.hid (K2.out.ext x3); have y3 := y2.trans x3)
    | (go_at_call 29; (with_reducible refine (HO.out _ _ _ y3 K3.out).mono ?_); rintro e w4 ⟨rfl, x4⟩; have K4 := Lib.hid (K3.out.ext x4); have y4 := y3.trans x4)
    | (go_at_call 29; (with_reducible refine (HB.out _ _ _ y4 K4.out).mono ?_); rintro e w5 ⟨rfl, x5⟩; have y5 := y4.trans x5)
    | (go_at_call 25; refine (HE.out _).mono ?_; rintro e w6 ⟨rfl, x6⟩; have y6 := y5.trans x6)
    | (go_at_call 27; refine (HS6.out _).mono ?_; rintro e w7 ⟨rfl, rfl⟩))
  all_goals
    go_ret
    exact ⟨by first | rfl | simp [hzi], y6⟩
end Go.Proofs.YtdnpgmoiapkhnaaGreatDoor
end

section
namespace Go.Proofs.YtdnpgmoiapkhnaaGreatDoor
open Go.RowKit

/-! ### Too long -/
theorem texts_p {w : World} {a : Addr} {l : List ByteArray} (h : Texts w a l) : TextsP w (some a) l := fun i s hs => ⟨a, rfl, h i s hs⟩
theorem mem_joinL {s : ByteArray} : ∀ {l : List ByteArray}, s ∈ l → s.size ≤ (joinL l).length
  | [], h => by cases h
  | x :: r, h => by
    have e : (joinL (x :: r)).length = x.size + (joinL r).length := by simp [joinL]
    rcases List.mem_cons.1 h with rfl | h
    · omega
    · have := mem_joinL h; omega
theorem joinL_bound14 : ∀ {l : List ByteArray}, (∀ s, s ∈ l → s.size ≤ 140737488351232) → (joinL l).length ≤ l.length * 140737488351232
  | [], _ => by simp [joinL]
  | x :: r, h => by
    have e : (joinL (x :: r)).length = x.size + (joinL r).length := by simp [joinL]
    have := h x (by simp)
    have := joinL_bound14 (l := r) fun s hs => h s (by simp [hs])
    rw [e, List.length_cons, Nat.succ_mul]
    omega
theorem joinL_next {l : List ByteArray} {i : Nat} {x : ByteArray} (hx : l[i]? = some x) : (joinL (l.take (i + 1))).length = (joinL (l.take i)).length + x.size := by
  obtain ⟨h1, h2⟩ := List.getElem?_eq_some_iff.1 hx
  rw [joinL_succ l i h1, List.length_append, h2, size_list]
theorem sum64 (n x m : Nat) (hm : n + x = m) (h : m ≤ 5629499534049280) : wrap64 ((n : Int) + (x : Int)) = (m : Int) ∧ IntKind.i64.wrap ((n : Int) + (x : Int)) = (m : Int) := by
  have e : (n : Int) + (x : Int) = (m : Int) := by omega
  rw [e]
  have h2 : (m : Int) ≤ 5629499534049280 := by omega
  exact ⟨IntWalk.wrap64_in _ ⟨by omega, by omega⟩, IntWalk.i64_in _ ⟨by omega, by omega⟩⟩
/-- An answer: where it is no, there are few keys, and no long text. -/
def Heavy14 (k : Nat) (l : List ByteArray) (e : Ending) : Prop := ∃ b, e = .returned (.bool b) ∧ (b = false → k ≤ 8 ∧ ∀ s ∈ l, s.size ≤ 1500)
set_option maxRecDepth 100000 in
set_option maxHeartbeats 4000000 in
theorem heavy14_any (w : World) (p : Option Addr) (c : Nat) (K : List ByteArray) (hP : TextsP w p K) (hK : ∀ s, s ∈ K → s.size ≤ 140737488351232) (hl : K.length ≤ 140737488355328) (q : Option Addr) (cq : Nat) (l : List ByteArray) (hQ : TextsP w q l) (hlS : ∀ s, s ∈ l → s.size ≤ 140737488351232) (h10 : l.length ≤ 10) :
    Calls Tryz.prog 19 #[.slice p K.length c, .slice q l.length cq] w fun e w' => Heavy14 K.length l e ∧ w = w' := by
  have HP := Lib.hid hP; have HQ := Lib.hid hQ
  have HN1 := Lib.hid (fun i => Nat.le_trans (joinL_le l i) (joinL_bound14 hlS))
  have HN2 := Lib.hid (fun i (hi : i ≤ 30) => Nat.le_trans (joinL_bound14 (l := K.take i) fun s hs => hK s (List.mem_of_mem_take hs)) (Nat.mul_le_mul_right 140737488351232 (show (K.take i).length ≤ 30 by rw [List.length_take]; omega)))
  clear hP hQ hK hlS
  go_enter Tryz.func19, Tryz.ntmps19
  go_wp2
  go_loopw [5, 6] (fun nv iv wr => ∃ j n : Nat, j ≤ l.length ∧ iv = .int .i64 (j : Int) ∧ nv = .int .i64 (n : Int) ∧ Hid (n = (joinL (l.take j)).length) ∧ w = wr) (fun _ iv _ => l.length - (intOf iv).toNat)
  case atStart => exact ⟨0, 0, Nat.zero_le _, rfl, rfl, Lib.hid (by simp [joinL]), rfl⟩
  case round =>
    obtain ⟨j, n, hj, rfl, rfl, HN, rfl⟩ := hrel
    have hnb : n ≤ 1407374883512320 := by
      have h1 := HN1.out j
      have h2 : l.length * 140737488351232 ≤ 10 * 140737488351232 := Nat.mul_le_mul_right _ h10
      rw [HN.out]
      omega
    by_cases hlt : j < l.length
    · have hlti : (j : Int) < (l.length : Int) := by omega
      obtain ⟨x, hx⟩ : ∃ x, l[j]? = some x := ⟨_, List.getElem?_eq_getElem hlt⟩
      obtain ⟨a, rfl, ha, hc⟩ := HQ.out j x hx
      have hnx := joinL_next hx
      have hxb : n + x.size ≤ 1407374883512320 := by
        have h1 := HN1.out (j + 1)
        have h2 : l.length * 140737488351232 ≤ 10 * 140737488351232 := Nat.mul_le_mul_right _ h10
        rw [hnx, ← HN.out] at h1
        omega
      have HX := Lib.hid hnx
      obtain ⟨m, hm⟩ : ∃ m, n + x.size = m := ⟨_, rfl⟩
      obtain ⟨hw1, hw2⟩ := sum64 n x.size m hm (by rw [← hm]; exact Nat.le_trans hxb (by decide))
      have HM := Lib.hid hm
      clear hx hnx hm hxb hnb
      go_wp2
      go_roundw
      case rel => exact ⟨j + 1, m, hlt, by go_num, by first | rfl | (have := HM.out; go_num), Lib.hid (by rw [HX.out, ← HN.out, HM.out]), by first | rfl | trivial⟩
      case measure => simp [intOf]; omega
    · obtain rfl : j = l.length := by omega
      have hN : n = (joinL l).length := by have := HN.out; rwa [List.take_length] at this
      have HN' := Lib.hid hN
      have HNB := Lib.hid hnb
      clear HN hN hnb
      go_wp2
      go_loopw [5, 7] (fun nv iv wr => ∃ i k : Nat, i ≤ K.length ∧ i ≤ 30 ∧ iv = .int .i64 (i : Int) ∧ nv = .int .i64 (k : Int) ∧ Hid (k = n + (joinL (K.take i)).length) ∧ w = wr) (fun _ iv _ => 30 - (intOf iv).toNat)
      case atStart => exact ⟨0, n, Nat.zero_le _, by omega, rfl, rfl, Lib.hid (by simp [joinL]), rfl⟩
      case round =>
        obtain ⟨i, k, hi, h30, rfl, rfl, HK, rfl⟩ := hrel
        have hkb : k ≤ 5629499534049280 := by
          have h1 := HN2.out i h30
          have h2 := HNB.out
          rw [HK.out]
          omega
        by_cases hlt : i < K.length ∧ i < 30
        · obtain ⟨h1, h2⟩ := hlt
          have h1i : (i : Int) < (K.length : Int) := by omega
          have h2i : (i : Int) < 30 := by omega
          obtain ⟨x, hx⟩ : ∃ x, K[i]? = some x := ⟨_, List.getElem?_eq_getElem h1⟩
          obtain ⟨a, rfl, ha, hc⟩ := HP.out i x hx
          have hnx := joinL_next hx
          have hxb : k + x.size ≤ 5629499534049280 := by
            have h3 := HN2.out (i + 1) (by omega)
            have h4 := HNB.out
            rw [hnx] at h3
            rw [HK.out]
            omega
          have HX := Lib.hid hnx
          obtain ⟨m, hm⟩ : ∃ m, k + x.size = m := ⟨_, rfl⟩
          obtain ⟨hw1, hw2⟩ := sum64 k x.size m hm (by rw [← hm]; exact hxb)
          have HM := Lib.hid hm
          clear hx hnx hm hxb hkb
          go_wp2
          go_roundw
          case rel => exact ⟨i + 1, m, h1, by omega, by go_num, by first | rfl | (have := HM.out; go_num), Lib.hid (by rw [HX.out, ← HM.out, HK.out]; omega), by first | rfl | trivial⟩
          case measure => simp [intOf]; omega
        · have hkn : n ≤ k := by have := HK.out; omega
          have hall : n ≤ 1500 → ∀ s ∈ l, s.size ≤ 1500 := fun q s hs => by
            have := mem_joinL hs
            rw [← HN'.out] at this
            omega
          have HA := Lib.hid hall
          clear hall hkb
          by_cases h1 : i < K.length
          · have h1i : (i : Int) < (K.length : Int) := by omega
            have h2i : ¬ (i : Int) < 30 := by omega
            have h8 : (8 : Int) < (K.length : Int) := by omega
            go_wp2
            all_goals
              go_ret
              exact ⟨⟨_, rfl, fun q => by simp at q <;> omega⟩, rfl⟩
          · have h1i : ¬ (i : Int) < (K.length : Int) := by omega
            clear h30
            by_cases h15 : 1500 < k
            · have h15i : (1500 : Int) < (k : Int) := by omega
              go_wp2
              go_ret
              exact ⟨⟨_, rfl, fun q => by simp at q <;> omega⟩, rfl⟩
            · have h15i : ¬ (1500 : Int) < (k : Int) := by omega
              by_cases h8 : 8 < K.length
              · have h8i : (8 : Int) < (K.length : Int) := by omega
                go_wp2
                go_ret
                exact ⟨⟨_, rfl, fun q => by simp at q <;> omega⟩, rfl⟩
              · have h8i : ¬ (8 : Int) < (K.length : Int) := by omega
                go_wp2
                go_ret
                exact ⟨⟨_, rfl, fun _ => ⟨by omega, HA.out (by omega)⟩⟩, rfl⟩
end Go.Proofs.YtdnpgmoiapkhnaaGreatDoor
end

section
namespace Go.Proofs.YtdnpgmoiapkhnaaGreatDoor
open Go.RowKit

theorem grown_self (w : World) (row : Option Nat) : w.grownBy w row := ⟨rfl, rfl, rfl, Nat.le_refl _, fun _ _ _ => rfl⟩
theorem IsK.grown {w w' : World} {r b k : Nat} {L : List (Nat × ByteArray)} (h : IsK w r b L) (g : w.grownBy w' (some k)) (h1 : k ≠ r) (h2 : k ≠ b) : IsK w' r b L :=
  ⟨(g.block r h.ring.lt (by simpa using h1.symm)).trans h.ring, h.map.same (g.block b h.map.lt (by simpa using h2.symm)), h.good⟩
theorem apart_of {w : World} {r b r3 b3 : Nat} {L : List (Nat × ByteArray)} (h : IsK w r b L) (h1 : w.heap.size ≤ r3) (h2 : w.heap.size ≤ b3) : b ≠ r3 ∧ b ≠ b3 := by
  have := h.map.lt
  omega
end Go.Proofs.YtdnpgmoiapkhnaaGreatDoor
end

section
namespace Go.Proofs.YtdnpgmoiapkhnaaGreatDoor
open Go.RowKit

set_option maxRecDepth 100000 in
set_option maxHeartbeats 2000000 in
theorem clone_any (w : World) (b : Nat) (es : Array MapEntry) (clock : Nat) (hb : w.heap[b]? = some (.map es clock)) :
    Calls Tryz.prog 63 #[.map (some b)] w fun e w' => e = .returned (.map (some w.heap.size)) ∧ w' = w.alloc (.map es clock) := by
  have hq := fun w => run_eql_map_nil_sl (P := Tryz.prog) w 67 _ _ (some b) Tryz.underlying67
  simp only [Option.isNone_some] at hq
  have hmi : ∀ u, (Instr.makeInterface 67 (.map (some b))).run Tryz.prog u = .ok (.iface 67 (.map (some b))) u := fun u => by kernel_rfl
  go_enter Tryz.func63, Tryz.ntmps63
  go_wp2
  rw [run_callFunc_extern Tryz.func83 (by kernel_rfl) (by kernel_rfl) (by kernel_rfl) (e := Extern.MapsClone.clone) (by kernel_rfl), run_maps_clone_sl w 67 hb]
  simp only [Result.andThen]
  rw [Oper.upon_value]
  go_wp2
  rw [run_typeAssert_map_sl _ 67 20 _ _ _ Tryz.underlying67]
  simp only [Result.andThen]
  rw [Oper.upon_value]
  go_wp2
  go_ret
  exact ⟨rfl, rfl⟩
theorem copy_nil (w : World) :
    Calls Tryz.prog 33 #[.pointer none] w fun e w' => e = .returned (.pointer none) ∧ w = w' := by
  go_enter Tryz.func33, Tryz.ntmps33
  go_wp2_with (go_at_call 37; refine (thereK_no _).mono ?_; rintro e w1 ⟨rfl, rfl⟩)
  go_ret
  exact ⟨rfl, rfl⟩
theorem copy_any (w : World) (r b : Nat) (L : List (Nat × ByteArray)) (h : IsK w r b L) :
    Calls Tryz.prog 33 #[.pointer (some ⟨r, 0, none⟩)] w fun e w' => ∃ r2 b2, e = .returned (.pointer (some ⟨r2, 0, none⟩)) ∧ IsK w' r2 b2 L ∧ w.heap.size ≤ r2 ∧ w.heap.size ≤ b2 ∧ Ext w w' := by
  have hc := h.cell
  obtain ⟨M, hp, es, clock, hb, hs, hl, hk⟩ := h.map
  have HG := Lib.hid h.good
  have hm2 : IsM (w.alloc (.map es clock)) w.heap.size L := ⟨M, hp, es, clock, heap_alloc_new w _, hs, hl, hk⟩
  obtain ⟨W0, hW0⟩ : ∃ W0, w.alloc (.map es clock) = W0 := ⟨_, rfl⟩
  have hx0 : Ext w W0 := by rw [← hW0]; exact (Ext.refl w).alloc _
  have HC := Lib.hid (clone_any w b es clock hb)
  rw [hW0] at hm2 HC
  have HM := Lib.hid hm2; have HX := Lib.hid hx0
  clear h hm2 hp hb hs hl hk hW0 hx0
  go_enter Tryz.func33, Tryz.ntmps33
  go_wp2_with (first
    | (go_at_call 37; refine (thereK_yes _ r b hc).mono ?_; rintro e w1 ⟨rfl, rfl⟩)
    | (go_at_call 63; refine (HC.out).mono ?_; rintro e w1 ⟨rfl, rfl⟩))
  go_ret
  exact ⟨_, _, rfl, ⟨Blk.new _ _ _, HM.out.alloc _, HG.out⟩, HX.out.size, Nat.le_refl _, HX.out.alloc _⟩
end Go.Proofs.YtdnpgmoiapkhnaaGreatDoor
end

section
namespace Go.Proofs.YtdnpgmoiapkhnaaGreatDoor
open Go.RowKit

def renB : Go.Shelf.Ren := ⟨fun | 167 => 60 | 240 => 82 | 276 => 106 | n => n, fun | 0 => 0 | 4 => 4 | 5 => 5 | 9 => 9 | 20 => 20 | 37 => 53 | 70 => 98 | 72 => 100 | 75 => 102 | 164 => 148 | 80 => 58 | n => n, fun n => n⟩
theorem laysB : Go.Proofs.Lays.n167 Tryz.prog renB := {
  mixed := by kernel_rfl
  f167 := Tryz.func60.trans (congrArg some (by kernel_rfl))
  f240 := Tryz.func82.trans (congrArg some (by kernel_rfl))
  f276 := Tryz.func106.trans (congrArg some (by kernel_rfl))
  t0 := Tryz.underlying0
  a0 := Tryz.isAgg0
  z0 := Tryz.sizeOf0
  v0 := Tryz.zeroValue0
  t4 := Tryz.underlying4
  a4 := Tryz.isAgg4
  z4 := Tryz.sizeOf4
  v4 := Tryz.zeroValue4
  t5 := Tryz.underlying5
  a5 := Tryz.isAgg5
  z5 := Tryz.sizeOf5
  v5 := Tryz.zeroValue5
  t9 := Tryz.underlying9
  a9 := Tryz.isAgg9
  z9 := Tryz.sizeOf9
  v9 := Tryz.zeroValue9
  t20 := Tryz.underlying20
  a20 := Tryz.isAgg20
  z20 := Tryz.sizeOf20
  v20 := Tryz.zeroValue20
  t37 := Tryz.underlying53
  a37 := Tryz.isAgg53
  z37 := Tryz.sizeOf53
  v37 := Tryz.zeroValue53
  t70 := Tryz.underlying98
  a70 := Tryz.isAgg98
  z70 := Tryz.sizeOf98
  v70 := Tryz.zeroValue98
  t72 := Tryz.underlying100
  a72 := Tryz.isAgg100
  z72 := Tryz.sizeOf100
  v72 := Tryz.zeroValue100
  t75 := Tryz.underlying102
  a75 := Tryz.isAgg102
  z75 := Tryz.sizeOf102
  v75 := Tryz.zeroValue102
  t164 := Tryz.underlying148
  a164 := Tryz.isAgg148
  z164 := Tryz.sizeOf148
  v164 := Tryz.zeroValue148 }
theorem extraB : Builder.Extra Tryz.prog renB := {
  sizeBuilder := by kernel_rfl
  liesBuilder := by kernel_rfl
  t5 := Tryz.underlying5
  a5 := Tryz.isAgg5
  z5 := Tryz.sizeOf5
  v5 := Tryz.zeroValue5
  infoByte := by kernel_rfl
  cellsByte := by kernel_rfl
  sizeByte := by kernel_rfl
  neB5 := by decide }
theorem byteCells_oneB (x : Int) (b : UInt8) (hx : x = (b.toNat : Int)) : [Value.int .u8 x] = Lib.byteCells [b] := by subst hx; rfl
theorem byte_b (B b : Nat) (l : List UInt8) (x : Int) (c : UInt8) (hx : x = (c.toNat : Int)) (w : World) (h : IsB w B b l) (hlen : l.length + 1 ≤ 140737488355328) (hBw : B ≤ w.heap.size) :
    Calls Tryz.prog 60 #[.pointer (some ⟨b, 0, none⟩), .int .u8 x] w fun e w' => e = .returned .nilIface ∧ IsB w' B b (l ++ [c]) ∧ Below B w w' :=
  (Any.Builder_WriteByte_k laysB extraB B b (Lib.byteCells l) x w h (by rw [Lib.byteCells_length]; exact hlen) hBw).mono fun _ _ h => ⟨h.1, .inr (by rw [Lib.byteCells_append, ← byteCells_oneB x c hx]; exact h.2.1), h.2.2.1⟩
end Go.Proofs.YtdnpgmoiapkhnaaGreatDoor
end
