/- A cipher in memory; what a block becomes, round by round. Contracts: a block ciphered, by the program. -/
import Derived.Test.YtdnpgmoiapkhnaaDoorM39
import Derived.Test.YtdnpgmoiapkhnaaDoorM40
import Derived.Test.YtdnpgmoiapkhnaaDoorM16
section
namespace Go.Proofs.YtdnpgmoiapkhnaaDoor
open Go.RowKit

def cipherL (key : List UInt8) : List UInt8 := boxesL ++ expand key 40
/-- Block c is the cipher of a key. -/
structure IsCipher (w : World) (c : Nat) (key : List UInt8) : Prop where
  size : key.length = 16
  blk : Blk w c 148 ([.bool true] ++ (cipherL key).map cellOf)
section
variable {w w' : World} {c : Nat} {key : List UInt8}
theorem IsCipher.lt (h : IsCipher w c key) : c < w.heap.size := h.blk.lt
theorem IsCipher.below {B : Nat} (h : IsCipher w c key) (hb : Below B w w') (hc : c < B) : IsCipher w' c key := ⟨h.size, h.blk.below hb hc⟩
theorem IsCipher.ext (h : IsCipher w c key) (hb : Ext w w') : IsCipher w' c key := h.below hb h.lt
theorem IsCipher.made (h : IsCipher w c key) : w.cell? ⟨c, 0, none⟩ = some (.bool true) := h.blk.cell 0 _ rfl
theorem IsCipher.at_ (h : IsCipher w c key) (i : Nat) (b : UInt8) (hb : (cipherL key)[i]? = some b) : w.cell? ⟨c, 1 + i, none⟩ = some (.int .u8 (b.toNat : Int)) := by
  apply h.blk.cell
  rw [List.getElem?_append_right (by simp)]
  simp [hb, cellOf]
theorem IsCipher.box (h : IsCipher w c key) : Bytes w c 1 boxT := fun i b hi => by
  have hl : i < boxT.length := (List.getElem?_eq_some_iff.1 hi).1
  rw [boxT_length] at hl
  have e := boxesL_at i hl
  rw [boxT_at i hl] at hi
  apply h.at_
  unfold cipherL
  rw [List.getElem?_append_left (by rw [boxesL_length]; omega), e, hi]
theorem IsCipher.unbox (h : IsCipher w c key) : Bytes w c 257 unboxT := fun i b hi => by
  have hl : i < unboxT.length := (List.getElem?_eq_some_iff.1 hi).1
  rw [unboxT_length] at hl
  have e := boxesL_un i hl
  rw [unboxT_at i hl] at hi
  have := h.at_ (256 + i) b (by unfold cipherL; rw [List.getElem?_append_left (by rw [boxesL_length]; omega), e, hi])
  rw [show 257 + i = 1 + (256 + i) by omega]
  exact this
theorem IsCipher.rk (h : IsCipher w c key) (n : Nat) (hn : n ≤ 10) : Bytes w c (513 + 16 * n) (rkey key n) := fun i b hi => by
  have hl : i < (rkey key n).length := (List.getElem?_eq_some_iff.1 hi).1
  rw [rkey_length h.size n hn] at hl
  unfold rkey at hi
  rw [List.getElem?_take, if_pos hl, List.getElem?_drop] at hi
  have := h.at_ (512 + (16 * n + i)) b (by unfold cipherL; rw [List.getElem?_append_right (by rw [boxesL_length]; omega), boxesL_length, Nat.add_sub_cancel_left, hi])
  rw [show 513 + 16 * n + i = 1 + (512 + (16 * n + i)) by omega]
  exact this
end
theorem boxT_byte (b : UInt8) : boxT[b.toNat]? = some (boxB b) := by rw [boxT_at _ b.toNat_lt, UInt8.ofNat_toNat]
theorem unboxT_byte (b : UInt8) : unboxT[b.toNat]? = some (unboxB b) := by rw [unboxT_at _ b.toNat_lt, UInt8.ofNat_toNat]
theorem sub_all (b : List UInt8) (h : b.length = 16) : shL (b.map boxB) = subShift b := shL_sub h
section
variable (K : Nat → List UInt8)
/-- A block behind i rounds. -/
def encS (l : List UInt8) : Nat → List UInt8
  | 0 => addK (K 0) l
  | i + 1 => addK (K (i + 1)) (if i + 1 < 10 then mixC (subShift (encS l i)) else subShift (encS l i))
theorem encS_lt (l : List UInt8) : ∀ i, i < 10 → encS K l i = encN K l i
  | 0, _ => rfl
  | i + 1, h => by rw [encS, if_pos h, encS_lt l i (by omega), encN]
theorem encS_all (l : List UInt8) : encS K l 10 = enc K l := by
  rw [show 10 = 9 + 1 from rfl, encS, if_neg (by omega), encS_lt K l 9 (by omega)]; rfl
/-- Back, i rounds. -/
def decS (x : List UInt8) : Nat → List UInt8
  | 0 => x
  | i + 1 => unSubShift (if i = 0 then addK (K 10) x else unmixC (addK (K (10 - i)) (decS x i)))
theorem decS_all (x : List UInt8) : addK (K 0) (decS K x 10) = dec K x := by
  have h1 : decS K x 1 = unSubShift (addK (K 10) x) := rfl
  have hs : ∀ i, decS K x (i + 2) = unSubShift (unmixC (addK (K (10 - (i + 1))) (decS K x (i + 1)))) := fun _ => rfl
  have key : ∀ n i, n + i = 9 → decN K (decS K x (i + 1)) n = addK (K 0) (decS K x 10) := by
    intro n
    induction n with
    | zero => intro i hi; obtain rfl : i = 9 := by omega
              rfl
    | succ n ih =>
      intro i hi
      rw [decN, ← ih (i + 1) (by omega), hs, show 10 - (i + 1) = n + 1 by omega]
  unfold dec
  rw [← h1, key 9 0 rfl]
variable {K}
theorem encS_length (hK : ∀ n, n ≤ 10 → (K n).length = 16) {l : List UInt8} (h : l.length = 16) : ∀ i, i ≤ 10 → (encS K l i).length = 16
  | 0, _ => addK_length (hK 0 (by omega)) h
  | i + 1, hi => addK_length (hK _ hi) (by split; exact mixC_length _; exact subShift_length _)
theorem decS_length {x : List UInt8} (h : x.length = 16) : ∀ i, (decS K x i).length = 16
  | 0 => h
  | _ + 1 => unSubShift_length _
end
theorem encS_zero (K : Nat → List UInt8) (l : List UInt8) : encS K l 0 = addK (K 0) l := rfl
theorem encS_mid (K : Nat → List UInt8) (l : List UInt8) (i : Nat) (h : i + 1 < 10) : encS K l (i + 1) = addK (K (i + 1)) (mixC (subShift (encS K l i))) := by rw [encS, if_pos h]
theorem encS_last (K : Nat → List UInt8) (l : List UInt8) : encS K l 10 = addK (K 10) (subShift (encS K l 9)) := by rw [show 10 = 9 + 1 from rfl, encS, if_neg (by omega)]
theorem decS_zero (K : Nat → List UInt8) (x : List UInt8) : decS K x 0 = x := rfl
theorem decS_one (K : Nat → List UInt8) (x : List UInt8) : decS K x 1 = unSubShift (addK (K 10) (decS K x 0)) := rfl
theorem decS_more (K : Nat → List UInt8) (x : List UInt8) (i : Nat) (h : 0 < i) : decS K x (i + 1) = unSubShift (unmixC (addK (K (10 - i)) (decS K x i))) := by rw [decS, if_neg (by omega)]
attribute [irreducible] encS decS cipherL
theorem cthere_any (w : World) (c : Nat) (key : List UInt8) (h : IsCipher w c key) :
    Calls Tryd.prog 118 #[.pointer (some ⟨c, 0, none⟩)] w fun e w' => e = .returned (.bool true) ∧ w = w' := by
  have hm := h.made
  clear h
  go_enter Tryd.func118, Tryd.ntmps118
  go_wp2
  go_ret
  exact ⟨rfl, rfl⟩
theorem cthere_none (w : World) :
    Calls Tryd.prog 118 #[.pointer none] w fun e w' => e = .returned (.bool false) ∧ w = w' := by
  go_enter Tryd.func118, Tryd.ntmps118
  go_wp2
  go_ret
  exact ⟨rfl, rfl⟩
end Go.Proofs.YtdnpgmoiapkhnaaDoor
end

section
namespace Go.Proofs.YtdnpgmoiapkhnaaDoor
open Go.RowKit
attribute [local irreducible] rkey expand enc dec subShift unSubShift mixC unmixC addK

theorem slice_all (g : Nat) (w : World) : (Instr.sliceAt 145 (.pointer (some ⟨g, 0, none⟩)) none none none).run Tryd.prog w = .ok (.slice (some ⟨g, 0, none⟩) 16 16) w := by
  have hu : Tryd.prog.underlying 145 = some (.array (Tryd.prog.arrayLen 145) (Tryd.prog.elem 145)) := by rw [len16, elem16]; exact Tryd.underlying145
  rw [run_sliceAt_array_all (P := Tryd.prog) w 145 ⟨g, 0, none⟩ hu, elem16, size8_run, len16]
  simp only [Result.andThen, slicedAt, Nat.zero_mul]
  rw [if_neg (by omega), Addr.add_mid]
set_option maxRecDepth 100000 in
set_option maxHeartbeats 2000000 in
theorem Block_yes (w : World) (c : Nat) (key : List UInt8) (s : ByteArray) (h : IsCipher w c key) (hs : s.size = 16) :
    Calls Tryd.prog 94 #[.pointer (some ⟨c, 0, none⟩), .string s] w fun e w' => e = .returned (.tuple #[.string ⟨(enc (rkey key) s.data.toList).toArray⟩, .bool true]) ∧ Ext w w' := by
  have hz := zero_run zero16
  have hcl := h.lt
  have HC := Lib.hid (fun u (hu : Below w.heap.size w u) => h.below hu hcl)
  have HT := Lib.hid (cthere_any w c key h)
  have hK : ∀ n, n ≤ 10 → (rkey key n).length = 16 := fun n hn => rkey_length h.size n hn
  have hsl : s.data.toList.length = 16 := by rw [size_list]; exact hs
  have HK := Lib.hid hK; have HSl := Lib.hid hsl
  have HE := Lib.hid (encS_all (rkey key) s.data.toList)
  have HEL := Lib.hid (encS_length hK hsl)
  have hall := fun u => slice_all w.heap.size u
  have hcp := fun ty => copy_all (w.alloc (.cells (zc 16) 145)) ty w.heap.size 16 s _ 145 (Row.zero w _ 16) List.length_replicate hs
  have hr0 : Row ((w.alloc (.cells (zc 16) 145)).setRow w.heap.size (s.data.toList.map cellOf).toArray) w.heap.size 145 s.data.toList := setRow_heap _ _ _ _ _ _ (Row.zero w _ 16)
  have hb0 : Below w.heap.size w ((w.alloc (.cells (zc 16) 145)).setRow w.heap.size (s.data.toList.map cellOf).toArray) := below_setRow ((Below.refl _ w).alloc (Nat.le_refl _) _) (Nat.le_refl _) _
  have HR0 := Lib.hid hr0; have HB0 := Lib.hid hb0
  have HS := Lib.hid hs
  clear h hK hsl hr0 hb0
  go_enter Tryd.func94, Tryd.ntmps94
  go_wp2_with (first
    | (go_at_call 118; refine (HT.out).mono ?_; rintro e w1 ⟨rfl, rfl⟩)
    | (go_at_call 119; refine (add_any _ w.heap.size c 513 145 _ (rkey key 0) HR0.out HSl.out (HK.out 0 (by omega)) ((HC.out _ HB0.out).rk 0 (by omega)) hcl).mono ?_; rintro e w2 ⟨rfl, h2, h3⟩))
  have hw2 : Below w.heap.size w w2 := HB0.out.trans h2
  rw [← encS_zero] at h3
  have HR2 := Lib.hid h3; have HB2 := Lib.hid hw2
  clear h2 h3 hw2 HR0 HB0 hcp
  go_loopw [24] (fun i wr => ∃ j : Nat, j ≤ 10 ∧ i = .int .i64 j ∧ Row wr w.heap.size 145 (encS (rkey key) s.data.toList j) ∧ Below w.heap.size w wr) (fun i _ => 10 - (intOf i).toNat)
  case atStart => exact ⟨0, Nat.zero_le _, rfl, HR2.out, HB2.out⟩
  case round =>
    clear HR2 HB2
    obtain ⟨j, hj, rfl, hrow, hb⟩ := hrel
    by_cases hlt : j < 10
    · have HR := Lib.hid hrow; have HB := Lib.hid hb
      have HEj := Lib.hid (HEL.out j hj)
      have HKj := Lib.hid (HK.out (j + 1) hlt)
      have P1 := Lib.hid (put_any wr w.heap.size c 1 145 (encS (rkey key) s.data.toList j) boxT boxB HR.out HEj.out boxT_byte (HC.out _ HB.out).box hcl)
      have P2 := Lib.hid (fun u (hu : Row u w.heap.size 145 ((encS (rkey key) s.data.toList j).map boxB)) => turnLeft_any u w.heap.size _ hu (by rw [List.length_map]; exact HEj.out))
      have P3 := Lib.hid (fun u (hu : Row u w.heap.size 145 (subShift (encS (rkey key) s.data.toList j))) => mix_any u w.heap.size 145 _ hu (subShift_length _))
      have P4 := Lib.hid (fun u o l (ho : o = 513 + 16 * (j + 1)) (hl : l.length = 16) (hb : Below w.heap.size w u) (hu : Row u w.heap.size 145 l) => add_any u w.heap.size c o 145 l (rkey key (j + 1)) hu hl HKj.out (by rw [ho]; exact (HC.out _ hb).rk (j + 1) hlt) hcl)
      clear hrow hb
      by_cases h9 : j + 1 < 10
      · have h9i : (j : Int) + 1 < 10 := by omega
        have HS9 := Lib.hid (encS_mid (rkey key) s.data.toList j h9)
        go_wp2_with (first
          | (go_at_call 120; refine (P1.out).mono ?_; rintro e w3 ⟨rfl, h3, r3⟩)
          | (go_at_call 121; refine (P2.out _ r3).mono ?_; rintro e w4 ⟨rfl, h4, r4⟩; rw [shL_sub HEj.out] at r4)
          | (go_at_call 122; refine (P3.out _ r4).mono ?_; rintro e w5 ⟨rfl, h5, r5⟩; have b5 := ((HB.out.trans h3).trans h4).trans h5)
          | (go_at_call 119; refine (P4.out _ _ _ (by omega) (mixC_length _) b5 r5).mono ?_; rintro e w6 ⟨rfl, h6, r6⟩))
        go_roundw
        case rel => exact ⟨j + 1, by omega, by go_num, by rw [HS9.out]; exact r6, b5.trans h6⟩
        case measure => simp [intOf]; omega
      · obtain rfl : j = 9 := by omega
        have HS9 := Lib.hid (encS_last (rkey key) s.data.toList)
        go_wp2_with (first
          | (go_at_call 120; refine (P1.out).mono ?_; rintro e w3 ⟨rfl, h3, r3⟩)
          | (go_at_call 121; refine (P2.out _ r3).mono ?_; rintro e w4 ⟨rfl, h4, r4⟩; rw [shL_sub HEj.out] at r4; have b5 := (HB.out.trans h3).trans h4)
          | (go_at_call 119; refine (P4.out _ _ _ (by omega) (subShift_length _) b5 r4).mono ?_; rintro e w6 ⟨rfl, h6, r6⟩))
        go_roundw
        case rel => exact ⟨10, by omega, by go_num, by rw [HS9.out]; exact r6, b5.trans h6⟩
        case measure => simp [intOf]
    · obtain rfl : j = 10 := by omega
      rw [HE.out] at hrow
      have HKe := Lib.hid (enc_length HK.out s.data.toList)
      have ht := hrow.text (P := Tryd.prog) 35 5 9 Tryd.underlying35 Tryd.underlying5 Tryd.underlying9 16 16 HKe.out
      clear hrow
      have e10 : ((10 : Nat) : Int) = 10 := rfl
      rw [e10]
      clear e10
      go_wp2
      go_ret2
      exact ⟨rfl, hb⟩
theorem size_ne (s : ByteArray) (hs : ¬ s.size = 16) : ((s.size : Int) == 16) = false := by simp; omega
set_option maxRecDepth 100000 in
theorem Block_no (w : World) (c : Nat) (key : List UInt8) (s : ByteArray) (h : IsCipher w c key) (hs : ¬ s.size = 16) :
    Calls Tryd.prog 94 #[.pointer (some ⟨c, 0, none⟩), .string s] w fun e w' => e = .returned (.tuple #[.string ⟨#[]⟩, .bool false]) ∧ w = w' := by
  have HT := Lib.hid (cthere_any w c key h)
  have hn := size_ne s hs
  clear h hs
  go_enter Tryd.func94, Tryd.ntmps94
  go_wp2_with (go_at_call 118; refine (HT.out).mono ?_; rintro e w1 ⟨rfl, rfl⟩)
  go_ret2
  exact ⟨rfl, rfl⟩
set_option maxRecDepth 100000 in
theorem Block_nil (w : World) (s : ByteArray) :
    Calls Tryd.prog 94 #[.pointer none, .string s] w fun e w' => e = .returned (.tuple #[.string ⟨#[]⟩, .bool false]) ∧ w = w' := by
  go_enter Tryd.func94, Tryd.ntmps94
  go_wp2_with (go_at_call 118; refine (cthere_none _).mono ?_; rintro e w1 ⟨rfl, rfl⟩)
  go_ret2
  exact ⟨rfl, rfl⟩
end Go.Proofs.YtdnpgmoiapkhnaaDoor
end
