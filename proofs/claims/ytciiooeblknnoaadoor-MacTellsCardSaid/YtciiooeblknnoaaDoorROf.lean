/- Contracts: the sum of a text, by the document's answer. -/
import Derived.Test.YtciiooeblknnoaaDoorRStep
import Derived.Test.YtciiooeblknnoaaDoorText
namespace Go.Proofs.YtciiooeblknnoaaDoor
open Go.RowKit

theorem pad_step (n j : Nat) (hj : j < zeros n) : (n + 1 + j) % 64 ≠ 56 := by unfold zeros at hj; omega
theorem pad_end (n : Nat) : (n + 1 + zeros n) % 64 = 56 := by unfold zeros; omega
theorem zeros_le (n : Nat) : zeros n ≤ 63 := by unfold zeros; omega
/-- The padded text, block by block. -/
def pad (m : List UInt8) : List UInt8 := m ++ tailOf m.length
theorem pad_length (m : List UInt8) : (pad m).length = m.length + zeros m.length + 9 := by simp [pad, tailOf_length]; omega
theorem txt_size (l : List UInt8) : ((⟨l.toArray⟩ : ByteArray)).size = l.length := by simp [ByteArray.size]
theorem str_append (a b : List UInt8) : (⟨a.toArray⟩ : ByteArray) ++ ⟨b.toArray⟩ = ⟨(a ++ b).toArray⟩ := by
  apply ByteArray.ext
  rw [ByteArray.data_append]
  simp
/-- The text while bytes 0 come behind it. -/
def PD (s : ByteArray) (j : Nat) : ByteArray := ⟨(s.data.toList ++ (128 :: List.replicate j 0)).toArray⟩
theorem PD_size (s : ByteArray) (j : Nat) : (PD s j).size = s.size + 1 + j := by unfold PD; rw [txt_size]; simp; omega
theorem PD_zero (s : ByteArray) : s ++ ⟨#[128]⟩ = PD s 0 := by
  apply ByteArray.ext
  rw [ByteArray.data_append]
  apply Array.toList_inj.1
  simp [PD]
theorem PD_succ (s : ByteArray) (j : Nat) : PD s j ++ ⟨#[0]⟩ = PD s (j + 1) := by
  apply ByteArray.ext
  rw [ByteArray.data_append]
  simp [PD, List.replicate_succ']
def PAD (s : ByteArray) : ByteArray := ⟨(pad s.data.toList).toArray⟩
theorem PAD_eq (s : ByteArray) : PD s (zeros s.size) ++ ⟨(be 8 (8 * s.size)).toArray⟩ = PAD s := by
  have e : s.data.toList.length = s.size := size_list s
  unfold PD PAD pad tailOf
  rw [str_append, e]
  simp
theorem PAD_size (s : ByteArray) : (PAD s).size = s.size + zeros s.size + 9 := by unfold PAD; rw [txt_size, pad_length, size_list]
def strLen : Value → Nat | .string s => s.size | _ => 0
def RP (s : ByteArray) (p : Value) : Prop := ∃ j : Nat, j ≤ zeros s.size ∧ p = .string (PD s j)
theorem pad_folds (m : List UInt8) (k : Nat) : folds (k + 1) m init = stp ((m.drop (64 * k)).take 64) (folds k m init) := by
  rw [folds_add, folds_succ, folds_zero]
theorem list_lt {st : St} (h : st.Ok) (x : Nat) (hx : x ∈ st.list) : x < 4294967296 := by
  simp only [St.list, List.mem_cons, List.not_mem_nil, or_false] at hx
  rcases hx with rfl | rfl | rfl | rfl | rfl | rfl | rfl | rfl
  all_goals first | exact h.a | exact h.b | exact h.c | exact h.d | exact h.e | exact h.f | exact h.g | exact h.h
theorem list_slot (st : St) : st.list.length = 8 := rfl
theorem rput8 (n : Nat) (hn : n ≤ 1099511627776) (w : World) : Calls Tryd.prog 26 #[.int .u64 (8 * (n : Int)), .int .i64 8] w fun e w' => e = .returned (.string ⟨(be 8 (8 * n)).toArray⟩) ∧ Ext w w' := by
  have := rPut_any (8 * n) (show _ < _ by omega) 8 (by omega) w
  have e : ((8 * n : Nat) : Int) = 8 * (n : Int) := by omega
  rw [e] at this
  exact this
theorem rput4 (n : Nat) (hn : n < 4294967296) (w : World) : Calls Tryd.prog 26 #[.int .u64 (n : Int), .int .i64 4] w fun e w' => e = .returned (.string ⟨(be 4 n).toArray⟩) ∧ Ext w w' :=
  rPut_any n (show _ < _ by omega) 4 (by omega) w

set_option maxRecDepth 100000 in
set_option maxHeartbeats 1000000 in
theorem rOf_any (s : ByteArray) (hs : s.size ≤ 1099511627776) (w : World) :
    Calls Tryd.prog 16 #[.string s] w fun e w' => e = .returned (.string ⟨(shaL s.data.toList).toArray⟩) ∧ Ext w w' := by
  have hz := zeros_le s.size
  have hp0 := PD_zero s
  go_enter Tryd.func16, Tryd.ntmps16
  go_wp2_with fail
  go_loop [3] (fun p => RP s p) (fun p => s.size + 1 + zeros s.size - strLen p)
  case atStart => exact ⟨0, Nat.zero_le _, rfl⟩
  case round =>
    clear hp0
    obtain ⟨j, hj, rfl⟩ := hrel
    have hsz := PD_size s j
    have hp1 := PD_succ s j
    have hb1 : (PD s j).size ≤ 1099511627776 + 64 := by omega
    have hb2 : (PD s (j + 1)).size = s.size + 1 + (j + 1) := PD_size s (j + 1)
    have Hsz := Lib.hid hsz; have Hb2 := Lib.hid hb2; clear hsz hb2
    by_cases hlt : j < zeros s.size
    · have hne := pad_step s.size j hlt
      have ht : (((PD s j).size : Int) % 64 != 56) = true := by rw [Hsz.out]; simp; omega
      have HN := Lib.hid hne; clear hne
      go_wp2_with fail
      go_round
      case rel => exact ⟨j + 1, hlt, rfl⟩
      case measure => simp only [strLen]; rw [Hb2.out, Hsz.out]; omega
    · obtain rfl : j = zeros s.size := by omega
      have ht : (((PD s (zeros s.size)).size : Int) % 64 != 56) = false := by rw [Hsz.out]; have := pad_end s.size; simp; omega
      have hpe := PAD_eq s
      have hps := PAD_size s
      clear hp1
      have hbl : (be 8 (8 * s.size)).length = 8 := be_length _ _
      go_wp2_with (go_at_call 26; ((with_reducible refine (rput8 s.size hs _).mono ?_); rintro e w1 ⟨rfl, h1⟩))
      clear hpe ht hb1 Hb2 Hsz hj hbl
      have hw : 64 * (((PAD s).size) / 64) = (PAD s).size := by have := pad_whole s.size; omega
      obtain ⟨N, hN⟩ : ∃ N, N = (PAD s).size / 64 := ⟨_, rfl⟩
      rw [← hN] at hw
      have hps2 : (PAD s).size ≤ 1099511627776 + 100 := by omega
      have hd : (PAD s).data.toList = pad s.data.toList := rfl
      have hfin : shaL s.data.toList = txt (folds N (pad s.data.toList) init) := by
        have : N = (s.data.toList.length + zeros s.data.toList.length + 9) / 64 := by rw [hN, hps, size_list]
        rw [this]; rfl
      have HW := Lib.hid hw; have HF := Lib.hid hfin; have HD := Lib.hid hd
      have hw1 : (PAD s).size = 64 * N := hw.symm
      clear hps hN hw hfin hd
      have HW1 := Lib.hid hw1; clear hw1
      generalize PAD s = P at *
      go_loopw [4, 5] (fun v i wr => ∃ (k : Nat) (g : Nat), k ≤ N ∧ i = .int .i64 (64 * (k : Int)) ∧ v = .slice (some ⟨g, 0, none⟩) 8 8 ∧ Row32 wr g 60 (folds k (pad s.data.toList) init).list ∧ Ext w wr) (fun _ i _ => 64 * N - (intOf i).toNat)
      case atStart => exact ⟨0, _, Nat.zero_le _, rfl, rfl, Row32.lit _ _ _ _ rfl, h1.alloc _⟩
      case round =>
        clear h1
        obtain ⟨k, g, hk, rfl, rfl, hrow, hext⟩ := hrel
        have hok := folds_ok k (pad s.data.toList) init_ok
        have hseg := hrow.seg
        have hf := pad_folds (pad s.data.toList) k
        have HO := Lib.hid hok; have HS := Lib.hid hseg; have HR := Lib.hid hrow; have HFF := Lib.hid hf
        clear hok hseg hrow hf
        by_cases hlt : k < N
        · have hq : 64 * k + 64 ≤ P.size := by rw [HW1.out]; omega
          have hq2 : ((64 * k : Nat) : Int) < (P.size : Int) := by omega
          have hsz : (P.extract (64 * k) (64 * k + 64)).size = 64 := by rw [ByteArray.size_extract]; omega
          have hdt : (P.extract (64 * k) (64 * k + 64)).data.toList = ((pad s.data.toList).drop (64 * k)).take 64 := by
            rw [Lib.extract_data, HD.out]; congr 1; omega
          have C := fun u h => rstep_any _ HO.out (P.extract (64 * k) (64 * k + 64)) hsz g u h
          rw [hdt, ← HFF.out] at C
          have HC := Lib.hid C; clear C hdt hsz
          go_wp2_with (go_at_call 27; refine (HC.out _ HS.out).mono ?_; rintro e w2 ⟨g2, he, hr2, _, h2⟩; obtain rfl : e = .returned (.slice (some ⟨g2, 0, none⟩) 8 8) := he)
          go_roundw
          case rel => exact ⟨k + 1, g2, hlt, int_eq (by omega), rfl, hr2, hext.trans h2⟩
          case measure => simp [intOf]; omega
        · obtain rfl : k = N := by omega
          have hq2 : (P.size : Int) ≤ 64 * (k : Int) := by have := HW1.out; omega
          have hF := HF.out
          obtain ⟨S, hS⟩ : ∃ S, S = folds k (pad s.data.toList) init := ⟨_, rfl⟩
          rw [← hS] at HO HS hF
          have HF2 := Lib.hid hF; clear hF
          clear hS HFF HR HF HD HW HW1
          go_wp2_with fail
          clear hq2
          go_loopw [6, 7] (fun p i wr2 => ∃ n : Nat, n ≤ 8 ∧ i = .int .i64 n ∧ p = .string ⟨(cat S.list n).toArray⟩ ∧ Ext wr wr2) (fun _ i _ => 8 - (intOf i).toNat)
          case atStart => exact ⟨0, by omega, rfl, rfl, Ext.refl _⟩
          case round =>
            obtain ⟨n, hn, rfl, rfl, hext3⟩ := hrel
            by_cases hlt8 : n < 8
            · have hc := (HS.out.ext hext3).cell n (by rw [list_slot]; exact hlt8)
              have hgl := (HS.out.ext hext3).lt
              have hx := getD_lt (l := S.list) (list_lt HO.out) n
              have hs1 := cat_succ S.list n (by rw [list_slot]; exact hlt8)
              obtain ⟨x, ex⟩ : ∃ x, x = S.list.getD n 0 := ⟨_, rfl⟩
              rw [← ex] at hc hx hs1
              clear ex
              have hs2 : (⟨(cat S.list n).toArray⟩ : ByteArray) ++ ⟨(be 4 x).toArray⟩ = ⟨(cat S.list (n + 1)).toArray⟩ := by rw [str_append, hs1]
              have hl1 := cat_length S.list n
              have hl2 : (be 4 x).length = 4 := be_length _ _
              have hl3 : (⟨(cat S.list n).toArray⟩ : ByteArray).size ≤ 4 * n := by rw [txt_size]; exact hl1
              have H3 := Lib.hid hext3
              clear hs1 hext3
              have HL3 := Lib.hid hl3; clear hl3
              go_wp2_with (go_at_call 26; ((with_reducible refine (rput4 x hx _).mono ?_); rintro e w3 ⟨rfl, h3⟩))
              go_roundw
              case rel => exact ⟨n + 1, hlt8, by go_num, by first | rfl | rw [hs2], H3.out.trans h3⟩
              case measure => simp [intOf]; omega
            · obtain rfl : n = 8 := by omega
              have e8 : ((8 : Nat) : Int) = 8 := rfl
              rw [e8, cat_all]
              clear e8
              go_wp2_with fail
              go_ret
              exact ⟨by rw [HF2.out]; rfl, hext.trans hext3⟩
end Go.Proofs.YtciiooeblknnoaaDoor
