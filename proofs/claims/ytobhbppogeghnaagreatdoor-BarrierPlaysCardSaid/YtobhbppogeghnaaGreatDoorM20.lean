/- A cipher in memory; what a block becomes, round by round. Contracts: a block ciphered, by the program. What a stream is: blocks of counted numbers; texts, either or these. Contract: the blocks of a stream, as an iterator hands them out. Contracts: a builder's writing and its text, all else that is no cells kept (for a range over a function). Contract: how many bytes a builder holds. -/
import Derived.Test.YtobhbppogeghnaaGreatDoorM19
import Derived.Test.YtobhbppogeghnaaGreatDoorM07
import Derived.Test.YtobhbppogeghnaaGreatDoorM18
import Derived.Test.YtobhbppogeghnaaGreatDoorM00
import Derived.Test.YtobhbppogeghnaaGreatDoorM06
import Derived.Test.YtobhbppogeghnaaGreatDoorM17
import Derived.Test.YtobhbppogeghnaaGreatDoorM05
import Derived.Shelf.Strings.BuilderK
import Derived.Shelf.Strings.BuilderF
section
namespace Go.Proofs.YtobhbppogeghnaaGreatDoor
open Go.RowKit

def cipherL (key : List UInt8) : List UInt8 := boxesL ++ expand key 40
/-- Block c is the cipher of a key. -/
structure IsCipher (w : World) (c : Nat) (key : List UInt8) : Prop where
  size : key.length = 16
  blk : Blk w c 212 ([.bool true] ++ (cipherL key).map cellOf)
section
variable {w w' : World} {c : Nat} {key : List UInt8}
theorem IsCipher.lt (h : IsCipher w c key) : c < w.heap.size := h.blk.lt
theorem IsCipher.below {B : Nat} (h : IsCipher w c key) (hb : Below B w w') (hc : c < B) : IsCipher w' c key := ⟨h.size, h.blk.below hb hc⟩
theorem IsCipher.ext (h : IsCipher w c key) (hb : Ext w w') : IsCipher w' c key := h.below hb h.lt
theorem IsCipher.made (h : IsCipher w c key) : w.cell? ⟨c, 0, none⟩ = some (.bool true) := h.blk.cell 0 _ rfl
theorem IsCipher.at_ (h : IsCipher w c key) (i : Nat) (b : UInt8) (hb : (cipherL key)[i]? = some b) : w.cell? ⟨c, 1 + i, none⟩ = some (.int .u8 (b.toNat : Int)) := by
  apply h.blk.cell
  rw [List.getElem?_append_right (by simp)]
  simp [hb, cellOf]
theorem IsCipher.box (h : IsCipher w c key) : Bytes w c 1 boxT := fun i b hi => by
  have hl : i < boxT.length := (List.getElem?_eq_some_iff.1 hi).1
  rw [boxT_length] at hl
  have e := boxesL_at i hl
  rw [boxT_at i hl] at hi
  apply h.at_
  unfold cipherL
  rw [List.getElem?_append_left (by rw [boxesL_length]; omega), e, hi]
theorem IsCipher.rk (h : IsCipher w c key) (n : Nat) (hn : n ≤ 10) : Bytes w c (513 + 16 * n) (rkey key n) := fun i b hi => by
  have hl : i < (rkey key n).length := (List.getElem?_eq_some_iff.1 hi).1
  rw [rkey_length h.size n hn] at hl
  unfold rkey at hi
  rw [List.getElem?_take, if_pos hl, List.getElem?_drop] at hi
  have := h.at_ (512 + (16 * n + i)) b (by unfold cipherL; rw [List.getElem?_append_right (by rw [boxesL_length]; omega), boxesL_length, Nat.add_sub_cancel_left, hi])
  rw [show 513 + 16 * n + i = 1 + (512 + (16 * n + i)) by omega]
  exact this
end
theorem boxT_byte (b : UInt8) : boxT[b.toNat]? = some (boxB b) := by rw [boxT_at _ b.toNat_lt, UInt8.ofNat_toNat]
section
variable (K : Nat → List UInt8)
/-- A block behind i rounds. -/
def encS (l : List UInt8) : Nat → List UInt8
  | 0 => addK (K 0) l
  | i + 1 => addK (K (i + 1)) (if i + 1 < 10 then mixC (subShift (encS l i)) else subShift (encS l i))
theorem encS_lt (l : List UInt8) : ∀ i, i < 10 → encS K l i = encN K l i
  | 0, _ => rfl
  | i + 1, h => by rw [encS, if_pos h, encS_lt l i (by omega), encN]
theorem encS_all (l : List UInt8) : encS K l 10 = enc K l := by
  rw [show 10 = 9 + 1 from rfl, encS, if_neg (by omega), encS_lt K l 9 (by omega)]; rfl
/-- Back, i rounds. -/
def decS (x : List UInt8) : Nat → List UInt8
  | 0 => x
  | i + 1 => unSubShift (if i = 0 then addK (K 10) x else unmixC (addK (K (10 - i)) (decS x i)))
variable {K}
theorem encS_length (hK : ∀ n, n ≤ 10 → (K n).length = 16) {l : List UInt8} (h : l.length = 16) : ∀ i, i ≤ 10 → (encS K l i).length = 16
  | 0, _ => addK_length (hK 0 (by omega)) h
  | i + 1, hi => addK_length (hK _ hi) (by split; exact mixC_length _; exact subShift_length _)
end
theorem encS_zero (K : Nat → List UInt8) (l : List UInt8) : encS K l 0 = addK (K 0) l := rfl
theorem encS_mid (K : Nat → List UInt8) (l : List UInt8) (i : Nat) (h : i + 1 < 10) : encS K l (i + 1) = addK (K (i + 1)) (mixC (subShift (encS K l i))) := by rw [encS, if_pos h]
theorem encS_last (K : Nat → List UInt8) (l : List UInt8) : encS K l 10 = addK (K 10) (subShift (encS K l 9)) := by rw [show 10 = 9 + 1 from rfl, encS, if_neg (by omega)]
attribute [irreducible] encS decS cipherL
theorem cthere_any (w : World) (c : Nat) (key : List UInt8) (h : IsCipher w c key) :
    Calls Tryz.prog 190 #[.pointer (some ⟨c, 0, none⟩)] w fun e w' => e = .returned (.bool true) ∧ w = w' := by
  have hm := h.made
  clear h
  go_enter Tryz.func190, Tryz.ntmps190
  go_wp2
  go_ret
  exact ⟨rfl, rfl⟩
end Go.Proofs.YtobhbppogeghnaaGreatDoor
end

section
namespace Go.Proofs.YtobhbppogeghnaaGreatDoor
open Go.RowKit
attribute [local irreducible] rkey expand enc dec subShift unSubShift mixC unmixC addK

theorem slice_all (g : Nat) (w : World) : (Instr.sliceAt 209 (.pointer (some ⟨g, 0, none⟩)) none none none).run Tryz.prog w = .ok (.slice (some ⟨g, 0, none⟩) 16 16) w := by
  have hu : Tryz.prog.underlying 209 = some (.array (Tryz.prog.arrayLen 209) (Tryz.prog.elem 209)) := by rw [len16, elem16]; exact Tryz.underlying209
  rw [run_sliceAt_array_all (P := Tryz.prog) w 209 ⟨g, 0, none⟩ hu, elem16, size8_run, len16]
  simp only [Result.andThen, slicedAt, Nat.zero_mul]
  rw [if_neg (by omega), Addr.add_mid]
set_option maxRecDepth 100000 in
set_option maxHeartbeats 2000000 in
theorem Block_yes (w : World) (c : Nat) (key : List UInt8) (s : ByteArray) (h : IsCipher w c key) (hs : s.size = 16) :
    Calls Tryz.prog 162 #[.pointer (some ⟨c, 0, none⟩), .string s] w fun e w' => e = .returned (.tuple #[.string ⟨(enc (rkey key) s.data.toList).toArray⟩, .bool true]) ∧ Ext w w' := by
  have hz := zero_run zero16
  have hcl := h.lt
  have HC := Lib.hid (fun u (hu : Below w.heap.size w u) => h.below hu hcl)
  have HT := Lib.hid (cthere_any w c key h)
  have hK : ∀ n, n ≤ 10 → (rkey key n).length = 16 := fun n hn => rkey_length h.size n hn
  have hsl : s.data.toList.length = 16 := by rw [size_list]; exact hs
  have HK := Lib.hid hK; have HSl := Lib.hid hsl
  have HE := Lib.hid (encS_all (rkey key) s.data.toList)
  have HEL := Lib.hid (encS_length hK hsl)
  have hall := fun u => slice_all w.heap.size u
  have hcp := fun ty => copy_all (w.alloc (.cells (zc 16) 209)) ty w.heap.size 16 s _ 209 (Row.zero w _ 16) List.length_replicate hs
  have hr0 : Row ((w.alloc (.cells (zc 16) 209)).setRow w.heap.size (s.data.toList.map cellOf).toArray) w.heap.size 209 s.data.toList := setRow_heap _ _ _ _ _ _ (Row.zero w _ 16)
  have hb0 : Below w.heap.size w ((w.alloc (.cells (zc 16) 209)).setRow w.heap.size (s.data.toList.map cellOf).toArray) := below_setRow ((Below.refl _ w).alloc (Nat.le_refl _) _) (Nat.le_refl _) _
  have HR0 := Lib.hid hr0; have HB0 := Lib.hid hb0
  have HS := Lib.hid hs
  clear h hK hsl hr0 hb0
  go_enter Tryz.func162, Tryz.ntmps162
  go_wp2_with (first
    | (go_at_call 190; refine (HT.out).mono ?_; rintro e w1 ⟨rfl, rfl⟩)
    | (go_at_call 191; refine (add_any _ w.heap.size c 513 209 _ (rkey key 0) HR0.out HSl.out (HK.out 0 (by omega)) ((HC.out _ HB0.out).rk 0 (by omega)) hcl).mono ?_; rintro e w2 ⟨rfl, h2, h3⟩))
  have hw2 : Below w.heap.size w w2 := HB0.out.trans h2
  rw [← encS_zero] at h3
  have HR2 := Lib.hid h3; have HB2 := Lib.hid hw2
  clear h2 h3 hw2 HR0 HB0 hcp
  go_loopw [24] (fun i wr => ∃ j : Nat, j ≤ 10 ∧ i = .int .i64 j ∧ Row wr w.heap.size 209 (encS (rkey key) s.data.toList j) ∧ Below w.heap.size w wr) (fun i _ => 10 - (intOf i).toNat)
  case atStart => exact ⟨0, Nat.zero_le _, rfl, HR2.out, HB2.out⟩
  case round =>
    clear HR2 HB2
    obtain ⟨j, hj, rfl, hrow, hb⟩ := hrel
    by_cases hlt : j < 10
    · have HR := Lib.hid hrow; have HB := Lib.hid hb
      have HEj := Lib.hid (HEL.out j hj)
      have HKj := Lib.hid (HK.out (j + 1) hlt)
      have P1 := Lib.hid (put_any wr w.heap.size c 1 209 (encS (rkey key) s.data.toList j) boxT boxB HR.out HEj.out boxT_byte (HC.out _ HB.out).box hcl)
      have P2 := Lib.hid (fun u (hu : Row u w.heap.size 209 ((encS (rkey key) s.data.toList j).map boxB)) => turnLeft_any u w.heap.size _ hu (by rw [List.length_map]; exact HEj.out))
      have P3 := Lib.hid (fun u (hu : Row u w.heap.size 209 (subShift (encS (rkey key) s.data.toList j))) => mix_any u w.heap.size 209 _ hu (subShift_length _))
      have P4 := Lib.hid (fun u o l (ho : o = 513 + 16 * (j + 1)) (hl : l.length = 16) (hb : Below w.heap.size w u) (hu : Row u w.heap.size 209 l) => add_any u w.heap.size c o 209 l (rkey key (j + 1)) hu hl HKj.out (by rw [ho]; exact (HC.out _ hb).rk (j + 1) hlt) hcl)
      clear hrow hb
      by_cases h9 : j + 1 < 10
      · have h9i : (j : Int) + 1 < 10 := by omega
        have HS9 := Lib.hid (encS_mid (rkey key) s.data.toList j h9)
        go_wp2_with (first
          | (go_at_call 192; refine (P1.out).mono ?_; rintro e w3 ⟨rfl, h3, r3⟩)
          | (go_at_call 193; refine (P2.out _ r3).mono ?_; rintro e w4 ⟨rfl, h4, r4⟩; rw [shL_sub HEj.out] at r4)
          | (go_at_call 194; refine (P3.out _ r4).mono ?_; rintro e w5 ⟨rfl, h5, r5⟩; have b5 := ((HB.out.trans h3).trans h4).trans h5)
          | (go_at_call 191; refine (P4.out _ _ _ (by omega) (mixC_length _) b5 r5).mono ?_; rintro e w6 ⟨rfl, h6, r6⟩))
        go_roundw
        case rel => exact ⟨j + 1, by omega, by go_num, by rw [HS9.out]; exact r6, b5.trans h6⟩
        case measure => simp [intOf]; omega
      · obtain rfl : j = 9 := by omega
        have HS9 := Lib.hid (encS_last (rkey key) s.data.toList)
        go_wp2_with (first
          | (go_at_call 192; refine (P1.out).mono ?_; rintro e w3 ⟨rfl, h3, r3⟩)
          | (go_at_call 193; refine (P2.out _ r3).mono ?_; rintro e w4 ⟨rfl, h4, r4⟩; rw [shL_sub HEj.out] at r4; have b5 := (HB.out.trans h3).trans h4)
          | (go_at_call 191; refine (P4.out _ _ _ (by omega) (subShift_length _) b5 r4).mono ?_; rintro e w6 ⟨rfl, h6, r6⟩))
        go_roundw
        case rel => exact ⟨10, by omega, by go_num, by rw [HS9.out]; exact r6, b5.trans h6⟩
        case measure => simp [intOf]
    · obtain rfl : j = 10 := by omega
      rw [HE.out] at hrow
      have HKe := Lib.hid (enc_length HK.out s.data.toList)
      have ht := hrow.text (P := Tryz.prog) 43 5 9 Tryz.underlying43 Tryz.underlying5 Tryz.underlying9 16 16 HKe.out
      clear hrow
      have e10 : ((10 : Nat) : Int) = 10 := rfl
      rw [e10]
      clear e10
      go_wp2
      go_ret2
      exact ⟨rfl, hb⟩
end Go.Proofs.YtobhbppogeghnaaGreatDoor
end

section
namespace Go.Proofs.YtobhbppogeghnaaGreatDoor
open Go.RowKit
attribute [local irreducible] rkey expand enc dec

/-- Pieces, one behind the other. -/
def catC (F : Nat → List UInt8) : Nat → List UInt8
  | 0 => []
  | k + 1 => catC F k ++ F k
theorem catC_succ (F : Nat → List UInt8) (k : Nat) : catC F (k + 1) = catC F k ++ F k := rfl
theorem catC_length {F : Nat → List UInt8} (h : ∀ i, (F i).length = 16) : ∀ k, (catC F k).length = 16 * k
  | 0 => rfl
  | k + 1 => by rw [catC_succ, List.length_append, catC_length h k, h]; omega
theorem catC_add (F : Nat → List UInt8) (k : Nat) : ∀ m, catC F (k + m) = catC F k ++ catC (fun i => F (k + i)) m
  | 0 => by simp [catC]
  | m + 1 => by rw [← Nat.add_assoc, catC_succ, catC_add F k m, catC_succ, List.append_assoc]
theorem catC_take {F : Nat → List UInt8} (h : ∀ i, (F i).length = 16) (n k m : Nat) (h1 : n ≤ 16 * k) (h2 : k ≤ m) : (catC F m).take n = (catC F k).take n := by
  obtain ⟨d, rfl⟩ : ∃ d, m = k + d := ⟨m - k, by omega⟩
  rw [catC_add, List.take_append, catC_length h, show n - 16 * k = 0 by omega, List.take_zero, List.append_nil]
/-- The block of a number. -/
def ctrB (key nonce : List UInt8) (i : Nat) : List UInt8 := enc (rkey key) (nonce ++ be 4 i)
theorem ctrB_length {key : List UInt8} (h : key.length = 16) (nonce : List UInt8) (i : Nat) : (ctrB key nonce i).length = 16 := enc_length (fun n hn => rkey_length h n hn) _
/-- The blocks from one number on. -/
def ctrC (key nonce : List UInt8) (f k : Nat) : List UInt8 := catC (fun i => ctrB key nonce (f + i)) k
theorem ctrC_length {key : List UInt8} (h : key.length = 16) (nonce : List UInt8) (f k : Nat) : (ctrC key nonce f k).length = 16 * k := catC_length (fun _ => ctrB_length h nonce _) k
theorem ctrC_zero (key nonce : List UInt8) (f : Nat) : ctrC key nonce f 0 = [] := rfl
theorem ctrC_succ (key nonce : List UInt8) (f k : Nat) : ctrC key nonce f (k + 1) = ctrC key nonce f k ++ ctrB key nonce (f + k) := rfl
/-- How many blocks have n bytes. -/
def blocksOf (n : Nat) : Nat := (n + 15) / 16
theorem blocksOf_le (n : Nat) : n ≤ 16 * blocksOf n := by unfold blocksOf; omega
/-- The first n bytes of a stream. -/
def ctrL (key nonce : List UInt8) (f n : Nat) : List UInt8 := (ctrC key nonce f (blocksOf n)).take n
theorem ctrL_length {key : List UInt8} (h : key.length = 16) (nonce : List UInt8) (f n : Nat) : (ctrL key nonce f n).length = n := by
  unfold ctrL
  rw [List.length_take, ctrC_length h]
  have := blocksOf_le n
  omega
theorem ctrL_of {key : List UInt8} (h : key.length = 16) (nonce : List UInt8) (f n k : Nat) (hk : n ≤ 16 * k) : (ctrC key nonce f k).take n = ctrL key nonce f n := by
  unfold ctrL ctrC
  exact catC_take (fun _ => ctrB_length h nonce _) n (blocksOf n) k (blocksOf_le n) (by unfold blocksOf; omega)
theorem xorL_len (a b : List UInt8) (h : b.length = a.length) : (xorL a b).length = a.length := by unfold xorL; rw [List.length_zipWith, h]; omega
theorem xorL_twice : ∀ (a b : List UInt8), b.length = a.length → xorL (xorL a b) b = a
  | [], b, _ => by unfold xorL; simp
  | x :: a, [], h => by simp at h
  | x :: a, y :: b, h => by
    have := xorL_twice a b (by simpa using h)
    unfold xorL at this ⊢
    rw [List.zipWith_cons_cons, List.zipWith_cons_cons, this, UInt8.xor_assoc, UInt8.xor_self, UInt8.xor_zero]
/-- A text, either or a stream. -/
def turnL (key nonce : List UInt8) (f : Nat) (s : List UInt8) : List UInt8 := xorL s (ctrL key nonce f s.length)
section
variable {key : List UInt8} (h : key.length = 16) (nonce : List UInt8) (f : Nat) (s : List UInt8)
include h
theorem turnL_length : (turnL key nonce f s).length = s.length := xorL_len _ _ (ctrL_length h nonce f _)
theorem turnL_twice : turnL key nonce f (turnL key nonce f s) = s := by
  have e := turnL_length h nonce f s
  unfold turnL at e ⊢
  rw [e]
  exact xorL_twice _ _ (ctrL_length h nonce f _)
end
/-- What may not be. -/
def badArg (key nonce : ByteArray) (n : Int) : Prop := ¬ key.size = 16 ∨ ¬ nonce.size = 12 ∨ n < 0
/-- What is too long. -/
def tooLong (f : Nat) (n : Int) : Prop := 1048576 < n ∨ 4294967296 < (f : Int) + (n + 15) / 16
end Go.Proofs.YtobhbppogeghnaaGreatDoor
end

section
namespace Go.Proofs.YtobhbppogeghnaaGreatDoor
open Go.RowKit Go.Shelf
attribute [local go_sem] Oper.semAt_some
attribute [local irreducible] rkey expand enc dec

/-- A text of 16 bytes. -/
abbrev T16 := { t : ByteArray // t.size = 16 }
def blkS (key nonce : List UInt8) (hk : key.length = 16) (i : Nat) : T16 := ⟨⟨(ctrB key nonce i).toArray⟩, by rw [txt_size, ctrB_length hk]⟩
/-- The first m blocks from one number on. -/
def seqB (key nonce : List UInt8) (hk : key.length = 16) (f m : Nat) : List T16 := (List.range m).map fun i => blkS key nonce hk (f + i)
theorem seqB_succ (key nonce : List UInt8) (hk : key.length = 16) (f m : Nat) : seqB key nonce hk f (m + 1) = seqB key nonce hk f m ++ [blkS key nonce hk (f + m)] := by simp [seqB, List.range_succ]
theorem seqB_length (key nonce : List UInt8) (hk : key.length = 16) (f m : Nat) : (seqB key nonce hk f m).length = m := by simp [seqB]
/-- Texts, one behind the other. -/
def flatB (xs : List T16) : List UInt8 := xs.flatMap fun x => x.1.data.toList
theorem flatB_snoc (xs : List T16) (x : T16) : flatB (xs ++ [x]) = flatB xs ++ x.1.data.toList := by simp [flatB]
theorem flatB_length (xs : List T16) : (flatB xs).length = 16 * xs.length := by
  induction xs with
  | nil => rfl
  | cons x r ih =>
    have := x.2
    simp only [flatB, List.flatMap_cons, List.length_append, List.length_cons] at ih ⊢
    rw [ih, size_list, this]; omega
theorem flatB_seq (key nonce : List UInt8) (hk : key.length = 16) (f : Nat) : ∀ m, flatB (seqB key nonce hk f m) = ctrC key nonce f m
  | 0 => rfl
  | m + 1 => by rw [seqB_succ, flatB_snoc, flatB_seq key nonce hk f m]; rfl
theorem ctr_next (u : World) (c : Nat) (key : List UInt8) (nonce : ByteArray) (x : Nat) (hn : nonce.size = 12) (h : IsCipher u c key) :
    Calls Tryz.prog 162 #[.pointer (some ⟨c, 0, none⟩), .string ⟨(nonce.data.toList ++ be 4 x).toArray⟩] u fun e w' => e = .returned (.tuple #[.string ⟨(ctrB key nonce.data.toList x).toArray⟩, .bool true]) ∧ Ext u w' := by
  have h := Block_yes u c key ⟨(nonce.data.toList ++ be 4 x).toArray⟩ h (by rw [txt_size, List.length_append, size_list, be_length, hn])
  unfold ctrB
  exact h
theorem seqB_next (key nonce : List UInt8) (hk : key.length = 16) (f j q : Nat) (hq : q = f + j) : seqB key nonce hk f j ++ [blkS key nonce hk q] = seqB key nonce hk f (j + 1) := by rw [hq]; exact (seqB_succ key nonce hk f j).symm
set_option maxRecDepth 100000 in
set_option maxHeartbeats 2000000 in
theorem blocks_stops (n : Nat) (hn : 1 ≤ n) (bf bc bo c n₀ : Nat) (key : List UInt8) (hk : key.length = 16) (nonce : ByteArray) (f m : Nat) (w : World) (hw : n₀ ≤ w.heap.size)
    (hbf : bf < w.heap.size) (hbc : bc < n₀) (hbo : bo < n₀) (hcn : c < n₀) (hno : nonce.size = 12) (hfm : f + m = 4294967296)
    (hB : IsCipher w c key) (h1 : w.cell? ⟨bf, 0, none⟩ = some (.int .u32 (f : Int))) (h2 : w.cell? ⟨bc, 0, none⟩ = some (.pointer (some ⟨c, 0, none⟩))) (h3 : w.cell? ⟨bo, 0, none⟩ = some (.string nonce)) :
    SeqStopsK Fence.wide n Tryz.prog 161 #[.pointer (some ⟨bf, 0, none⟩), .pointer (some ⟨bc, 0, none⟩), .pointer (some ⟨bo, 0, none⟩)] (fun x : T16 => #[.string x.1]) (Below n₀)
      (fun xs => xs = seqB key nonce.data.toList hk f m) (fun pre => ∃ k, k ≤ m ∧ pre = seqB key nonce.data.toList hk f k) m w := fun l J Jx W hW hJ hJx hY h0 => by
  have HY := Lib.hid hY; have HJ := Lib.hid hJ
  have HB := Lib.hid (hB.ext hW)
  have H1 := Lib.hid ((hW.cell (p := ⟨bf, 0, none⟩) hbf).trans h1)
  have H2 := Lib.hid ((hW.cell (p := ⟨bc, 0, none⟩) (Nat.lt_of_lt_of_le hbc hw)).trans h2)
  have H3 := Lib.hid ((hW.cell (p := ⟨bo, 0, none⟩) (Nat.lt_of_lt_of_le hbo hw)).trans h3)
  have c1 := H1.out
  have HW := hW.size
  have HK := Lib.hid hk
  have HFM := Lib.hid hfm
  have hwf0 : IntKind.u64.wrap (f : Int) = (f : Int) := IntWalk.u64_in _ ⟨by omega, by omega⟩
  clear hB hW hY hJ hJx h1 h2 h3 hfm
  refine callsIn_of_wp Tryz.func161 rfl trivial ?_ rfl
  simp only [Tryz.ntmps161, List.size_toArray, List.length_cons, List.length_nil, Nat.reduceAdd, Nat.reduceSub, Array.replicate_succ, Array.replicate_zero, List.push_toArray, List.append_toArray, List.nil_append, List.cons_append]
  gi_wp2
  gi_loopw [5] (fun i wr => ∃ j q : Nat, q = f + j ∧ j ≤ m ∧ i = .int .u64 (q : Int) ∧ J (seqB key nonce.data.toList hk f j) wr ∧ Below n₀ W wr) (fun i _ => 4294967296 - (intOf i).toNat)
  case atStart => exact ⟨0, f, rfl, by omega, rfl, h0, Below.refl _ _⟩
  case round =>
    obtain ⟨j, q, hqj, hj, rfl, hJr, hbr⟩ := hrel
    clear h0
    have HJr := Lib.hid hJr; have HBr := Lib.hid hbr; have HQ := Lib.hid hqj
    by_cases hlt : j < m
    · have HS := Lib.hid (show n₀ ≤ wr.heap.size from by have := hbr.size; omega)
      have HCi := Lib.hid (HB.out.below hbr hcn)
      have c2 := (hbr.cell (p := ⟨bc, 0, none⟩) hbc).trans H2.out
      have c3 := (hbr.cell (p := ⟨bo, 0, none⟩) hbo).trans H3.out
      have HX := Lib.hid (fun u (hu : Ext wr u) => (⟨(hu.below.cell (p := ⟨bc, 0, none⟩) (Nat.lt_of_lt_of_le hbc HS.out)).trans c2, (hu.below.cell (p := ⟨bo, 0, none⟩) (Nat.lt_of_lt_of_le hbo HS.out)).trans c3⟩ : u.cell? ⟨bc, 0, none⟩ = some (.pointer (some ⟨c, 0, none⟩)) ∧ u.cell? ⟨bo, 0, none⟩ = some (.string nonce)))
      have hql : (q : Int) ≤ 4294967295 := by have := HFM.out; omega
      have hwr : IntKind.u32.wrap (q : Int) = (q : Int) := IntWalk.u32_in _ ⟨by omega, by omega⟩
      have hwq : IntKind.u64.wrap ((q : Int) + 1) = (q : Int) + 1 := IntWalk.u64_in _ ⟨by omega, by omega⟩
      have HP := Lib.hid (fun u => Put32_any q u)
      have HN := Lib.hid (fun u (hu : Ext wr u) => ctr_next u c key nonce q hno (HCi.out.ext hu))
      have hT := txt_cat nonce (be 4 q)
      have l3 : (be 4 q).length = 4 := be_length _ _
      clear hJr hbr hqj
      generalize be 4 q = P at *
      have hmx : Tryz.prog.follows .mixedOrders = true := by kernel_rfl
      gi_wp2
      gi_region_with_o (first
        | (refine ⟨trivial, ?_⟩; gi_at_call 79; refine (callsIn_wide.2 (HP.out _)).mono ?_; rintro e w2 ⟨rfl, h2⟩; have h2x := ((Ext.refl wr).drew).trans h2; obtain ⟨d2, d3⟩ := HX.out w2 h2x)
        | (refine ⟨trivial, ?_⟩; gi_at_call 162; refine (callsIn_wide.2 (HN.out _ (by exact h2x))).mono ?_; rintro e w3 ⟨rfl, h3⟩; have h3x := h2x.trans h3; obtain ⟨fn, tmps, assign, body, hy, hR⟩ := HY.out (seqB key nonce.data.toList hk f j) (blkS key nonce.data.toList hk q) w3 (HJ.out _ _ _ none HJr.out (grown_of_ext h3x) (fun r e => by cases e)) (by rw [seqB_length]; exact hlt); dsimp only [blkS] at hy))
      all_goals
        gi_wp2
        refine hR.mono ?_
        rw [seqB_next _ _ _ _ _ _ HQ.out]
        rintro e W3 (⟨rfl, hJ3, hk3⟩ | ⟨rfl, hJx3⟩)
        · gi_wp2
          go_roundw
          case rel => exact ⟨j + 1, q + 1, by have := HQ.out; omega, hlt, by go_num, hJ3, (HBr.out.trans (Below.mono h3x.below HS.out)).trans hk3⟩
          case measure => simp [intOf]; omega
        · gi_wp2
          refine bodyPost_ret (results_none rfl _ _ _) rfl ?_
          exact ⟨⟨_, rfl⟩, .inr ⟨_, ⟨j + 1, hlt, rfl⟩, hJx3⟩⟩
    · obtain rfl : j = m := by omega
      obtain rfl : q = 4294967296 := by have := HFM.out; omega
      clear hJr hbr hqj
      gi_wp2
      go_end0
      exact ⟨⟨_, rfl⟩, .inl ⟨_, rfl, HJr.out⟩⟩
end Go.Proofs.YtobhbppogeghnaaGreatDoor
end

section
namespace Go.Proofs.YtobhbppogeghnaaGreatDoor
open Go.RowKit Go.Shelf

theorem bd_grown {B b : Nat} {bs : List Value} {w w' : World} {row : Option Nat} (h : Lib.IsBuilderF 151 5 B b bs w) (hg : w.grownBy w' row) (hr : ∀ r, row = some r → ∃ o : Obj, w.heap[r]? = some o ∧ o.isCells = false) : Lib.IsBuilderF 151 5 B b bs w' := by
  have key : ∀ p, Lib.BuilderAtF 151 5 B b p bs w → Lib.BuilderAtF 151 5 B b p bs w' := by
    rintro p ⟨hB, v, hv, hown, hne⟩
    refine ⟨hB, v, (grownBy_keeps_cells hg hr hv rfl).trans hv, ⟨hown.1, ?_⟩, hne⟩
    rcases hown.2 with h0 | ⟨g, cap, cur, fz, e1, e2, e3, e4⟩
    · exact .inl h0
    · exact .inr ⟨g, cap, cur, fz, e1, e2, (grownBy_keeps_cells hg hr e3 rfl).trans e3, e4⟩
  exact h.imp (key _) (key _)
theorem bd_write (B b : Nat) (bs : List Value) (s : ByteArray) (w : World) (h : Lib.IsBuilderF 151 5 B b bs w) (hlen : bs.length + s.size ≤ 140737488355328) (hBw : B ≤ w.heap.size) :
    Calls Tryz.prog 110 #[.pointer (some ⟨b, 0, none⟩), .string s] w fun e w' => e = .returned (.tuple #[.int .i64 s.size, .nilIface]) ∧ (Lib.IsBuilderF 151 5 B b (bs ++ Lib.strCells s) w' ∧ Below B w w' ∧ Lib.OthersKept 5 (some b) w w') :=
  (Any.Builder_WriteString_k laysW extraW B b bs s w h hlen hBw).mono fun _ _ h => ⟨h.1, .inr h.2.1, h.2.2.1, h.2.2.2⟩
theorem bd_string (B b : Nat) (l : List UInt8) (w : World) (h : Lib.IsBuilderF 151 5 B b (Lib.byteCells l) w) (hBw : B ≤ w.heap.size) :
    Calls Tryz.prog 111 #[.pointer (some ⟨b, 0, none⟩)] w fun e w' => e = .returned (.string ⟨l.toArray⟩) ∧ Below B w w' ∧ Lib.OthersKept 5 (some b) w w' :=
  (Any.Builder_String_any_k laysS extraS B b l w h hBw).mono fun _ _ h => ⟨h.1, h.2.2.1, h.2.2.2⟩
theorem bd_others {b : Nat} {W W' : World} (h : Lib.OthersKept 5 (some b) W W') (hs : W.heap.size ≤ W'.heap.size) (hb : ∃ o, W.heap[b]? = some o ∧ o.isCells = true) : KeepsOthers W W' :=
  ⟨hs, fun k o hk ho => h k o hk (fun e => by
    obtain ⟨o', h1, h2⟩ := hb
    obtain rfl : k = b := Option.some.inj e
    rw [hk] at h1; cases h1; rw [ho] at h2; cases h2) (fun c fz e => by rw [e] at ho; cases ho)⟩
theorem bd_cells {B b : Nat} {bs : List Value} {w : World} (h : Lib.IsBuilderF 151 5 B b bs w) : ∃ o, w.heap[b]? = some o ∧ o.isCells = true := by
  rcases h with ⟨_, v, hv, _⟩ | ⟨_, v, hv, _⟩
  · exact ⟨_, hv, rfl⟩
  · exact ⟨_, hv, rfl⟩
end Go.Proofs.YtobhbppogeghnaaGreatDoor
end

section
namespace Go.Proofs.YtobhbppogeghnaaGreatDoor
open Go.RowKit

def renN : Go.Shelf.Ren := ⟨fun | 170 => 158 | n => n, fun | 0 => 0 | 3 => 3 | 5 => 5 | 37 => 43 | 70 => 149 | 72 => 151 | n => n, fun n => n⟩
theorem laysN : Go.Proofs.Lays.n170 Tryz.prog renN := {
  mixed := by kernel_rfl
  f170 := Tryz.func158.trans (congrArg some (by kernel_rfl))
  t0 := Tryz.underlying0
  a0 := Tryz.isAgg0
  z0 := Tryz.sizeOf0
  v0 := Tryz.zeroValue0
  t3 := Tryz.underlying3
  a3 := Tryz.isAgg3
  z3 := Tryz.sizeOf3
  v3 := Tryz.zeroValue3
  t37 := Tryz.underlying43
  a37 := Tryz.isAgg43
  z37 := Tryz.sizeOf43
  v37 := Tryz.zeroValue43
  t70 := Tryz.underlying149
  a70 := Tryz.isAgg149
  z70 := Tryz.sizeOf149
  v70 := Tryz.zeroValue149
  t72 := Tryz.underlying151
  a72 := Tryz.isAgg151
  z72 := Tryz.sizeOf151
  v72 := Tryz.zeroValue151 }
theorem bd_len (B b : Nat) (bs : List Value) (w : World) (h : Lib.IsBuilderF 151 5 B b bs w) :
    Calls Tryz.prog 158 #[.pointer (some ⟨b, 0, none⟩)] w fun e w' => e = .returned (.int .i64 bs.length) ∧ w' = w := Any.Builder_Len_f laysN B b bs w h
end Go.Proofs.YtobhbppogeghnaaGreatDoor
end
