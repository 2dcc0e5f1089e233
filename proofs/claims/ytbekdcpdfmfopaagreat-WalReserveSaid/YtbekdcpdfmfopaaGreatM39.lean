/- Contract: a byte written to a builder of strings. Contracts: what each brick writes to a builder. Contract: the bytes of numbers in a row, by the program. Pieces of a head: a byte as a text, a number as bytes; where an operation of a drawn region is done. -/
import Derived.Shelf.Strings.BuilderK
import Derived.Test.YtbekdcpdfmfopaaGreatM38
import Derived.Test.YtbekdcpdfmfopaaGreatM05
import Derived.Laws.BitsAllLaws
import Derived.IntWalk
import Derived.Outline
import Derived.Test.YtbekdcpdfmfopaaGreatM08
import Derived.Test.YtbekdcpdfmfopaaGreatM17
import Derived.Test.YtbekdcpdfmfopaaGreatM10
import Derived.Test.YtbekdcpdfmfopaaGreatM00
section
namespace Go.Proofs.YtbekdcpdfmfopaaGreat
open Go.RowKit

def renB : Go.Shelf.Ren := ⟨fun | 167 => 109 | 240 => 120 | 276 => 122 | n => n, fun | 0 => 0 | 4 => 4 | 5 => 5 | 9 => 9 | 20 => 20 | 37 => 41 | 70 => 166 | 72 => 168 | 75 => 172 | 164 => 187 | 80 => 169 | n => n, fun n => n⟩
theorem laysB : Go.Proofs.Lays.n167 Tryz.prog renB := {
  mixed := by kernel_rfl
  f167 := Tryz.func109.trans (congrArg some (by kernel_rfl))
  f240 := Tryz.func120.trans (congrArg some (by kernel_rfl))
  f276 := Tryz.func122.trans (congrArg some (by kernel_rfl))
  t0 := Tryz.underlying0
  a0 := Tryz.isAgg0
  z0 := Tryz.sizeOf0
  v0 := Tryz.zeroValue0
  t4 := Tryz.underlying4
  a4 := Tryz.isAgg4
  z4 := Tryz.sizeOf4
  v4 := Tryz.zeroValue4
  t5 := Tryz.underlying5
  a5 := Tryz.isAgg5
  z5 := Tryz.sizeOf5
  v5 := Tryz.zeroValue5
  t9 := Tryz.underlying9
  a9 := Tryz.isAgg9
  z9 := Tryz.sizeOf9
  v9 := Tryz.zeroValue9
  t20 := Tryz.underlying20
  a20 := Tryz.isAgg20
  z20 := Tryz.sizeOf20
  v20 := Tryz.zeroValue20
  t37 := Tryz.underlying41
  a37 := Tryz.isAgg41
  z37 := Tryz.sizeOf41
  v37 := Tryz.zeroValue41
  t70 := Tryz.underlying166
  a70 := Tryz.isAgg166
  z70 := Tryz.sizeOf166
  v70 := Tryz.zeroValue166
  t72 := Tryz.underlying168
  a72 := Tryz.isAgg168
  z72 := Tryz.sizeOf168
  v72 := Tryz.zeroValue168
  t75 := Tryz.underlying172
  a75 := Tryz.isAgg172
  z75 := Tryz.sizeOf172
  v75 := Tryz.zeroValue172
  t164 := Tryz.underlying187
  a164 := Tryz.isAgg187
  z164 := Tryz.sizeOf187
  v164 := Tryz.zeroValue187 }
theorem extraB : Builder.Extra Tryz.prog renB := {
  sizeBuilder := by kernel_rfl
  liesBuilder := by kernel_rfl
  t5 := Tryz.underlying5
  a5 := Tryz.isAgg5
  z5 := Tryz.sizeOf5
  v5 := Tryz.zeroValue5
  infoByte := by kernel_rfl
  cellsByte := by kernel_rfl
  sizeByte := by kernel_rfl
  neB5 := by decide }
theorem byteCells_oneB (x : Int) (b : UInt8) (hx : x = (b.toNat : Int)) : [Value.int .u8 x] = Lib.byteCells [b] := by subst hx; rfl
theorem byte_b (B b : Nat) (l : List UInt8) (x : Int) (c : UInt8) (hx : x = (c.toNat : Int)) (w : World) (h : IsB w B b l) (hlen : l.length + 1 ≤ 140737488355328) (hBw : B ≤ w.heap.size) :
    Calls Tryz.prog 109 #[.pointer (some ⟨b, 0, none⟩), .int .u8 x] w fun e w' => e = .returned .nilIface ∧ IsB w' B b (l ++ [c]) ∧ Below B w w' :=
  (Any.Builder_WriteByte_k laysB extraB B b (Lib.byteCells l) x w h (by rw [Lib.byteCells_length]; exact hlen) hBw).mono fun _ _ h => ⟨h.1, .inr (by rw [Lib.byteCells_append, ← byteCells_oneB x c hx]; exact h.2.1), h.2.2.1⟩
end Go.Proofs.YtbekdcpdfmfopaaGreat
end

section
namespace Go.Proofs.YtbekdcpdfmfopaaGreat
open Go.RowKit
attribute [local irreducible] wnF

theorem or_high (m : Nat) (h : m < 256) : m ||| 128 = m % 128 + 128 := by
  have e : m ||| 128 = m % 128 ||| 128 := by
    apply Nat.eq_of_testBit_eq
    intro i
    have e7 : ∀ i, Nat.testBit 128 i = decide (7 = i) := fun i => by rw [show 128 = 2 ^ 7 by rfl, Nat.testBit_two_pow]
    rw [Nat.testBit_or, Nat.testBit_or, e7, show m % 128 = m % 2 ^ 7 by rfl, Nat.testBit_mod_two_pow]
    by_cases h7 : 7 = i
    · simp [h7]
    · by_cases hi : i < 7
      · simp [hi]
      · have : m.testBit i = false := Nat.testBit_lt_two_pow (Nat.lt_of_lt_of_le h (by exact Nat.pow_le_pow_right (n := 2) (by decide) (show 8 ≤ i by omega)))
        simp [this]
  have e2 := Nat.shiftLeft_add_eq_or_of_lt (show m % 128 < 2 ^ 7 by omega) 1
  rw [e, Nat.or_comm]
  have e3 : (1 <<< 7 : Nat) = 128 := rfl
  rw [e3] at e2
  omega
theorem or_u8 (m : Nat) : bits BinOp.or IntKind.u8 ((m : Int) % 256) 128 = ((UInt8.ofNat (m % 128 + 128)).toNat : Int) := by
  rw [ofNat_toNat _ (by omega)]
  have e : (m : Int) % 256 = ((m % 256 : Nat) : Int) := by omega
  have h := u8_or_nat (m % 256) 128 (by omega) (by omega)
  rw [or_high _ (by omega)] at h
  rw [e]
  refine Eq.trans h ?_
  congr 1
  omega
set_option maxRecDepth 100000 in
set_option maxHeartbeats 1000000 in
theorem putUint_any (B b : Nat) (l : List UInt8) (n : Nat) (hn : n < 18446744073709551616) (w : World) (h : IsB w B b l) (hlen : l.length ≤ 1000000) (hBw : B ≤ w.heap.size) :
    Calls Tryz.prog 96 #[.pointer (some ⟨b, 0, none⟩), .int .u64 (n : Int)] w fun e w' => e = .returned (.tuple #[]) ∧ IsB w' B b (l ++ wn n) ∧ Below B w w' := by
  have HB := Lib.hid h; have HL := Lib.hid hlen; have HS := Lib.hid hBw; have HN := Lib.hid hn
  clear h hlen hn
  go_enter Tryz.func96, Tryz.ntmps96
  go_wp2
  go_loopw [1] (fun v wr => ∃ (k m : Nat) (z : List UInt8), v = .int .u64 (m : Int) ∧ Hid (z ++ wnF k m = wn n ∧ m < 2 * 128 ^ k ∧ m < 18446744073709551616 ∧ z.length ≤ 9 - k ∧ k ≤ 9) ∧ Hid (IsB wr B b (l ++ z)) ∧ Hid (Below B w wr)) (fun v _ => (intOf v).toNat)
  case atStart => exact ⟨9, n, [], rfl, Lib.hid ⟨rfl, by have := HN.out; omega, HN.out, by simp, by omega⟩, Lib.hid (by rw [List.append_nil]; exact HB.out), Lib.hid (Below.refl _ _)⟩
  case round =>
    obtain ⟨k, m, z, rfl, hk, hb, hx⟩ := hrel
    obtain ⟨hz, hm, hm64, hzl, hk9⟩ := hk.out
    clear hk
    by_cases h128 : m < 128
    · have h128i : (m : Int) < 128 := by omega
      rw [wnF_low _ _ h128] at hz
      have HZ := Lib.hid hz
      clear hz
      have hx1 : (m : Int) = ((UInt8.ofNat m).toNat : Int) := by rw [ofNat_toNat _ (by omega)]
      generalize UInt8.ofNat m = c at *
      have HX1 := Lib.hid hx1
      have hl1 : (l ++ z).length + 1 ≤ 140737488355328 := by have := HL.out; rw [List.length_append]; omega
      have HL1 := Lib.hid hl1
      clear hx1 hl1
      go_wp2_with (go_at_call 109; refine (byte_b B b (l ++ z) _ c HX1.out _ hb.out HL1.out (Nat.le_trans HS.out hx.out.size)).mono ?_; rintro e w2 ⟨rfl, hb2, x2⟩; have HB2 := Lib.hid hb2; have X2 := Lib.hid x2; clear hb2 x2)
      go_end0
      exact ⟨rfl, by rw [← HZ.out, ← List.append_assoc]; exact HB2.out, hx.out.trans X2.out⟩
    · obtain ⟨k', rfl⟩ : ∃ k', k = k' + 1 := by
        cases k with
        | zero => simp at hm; omega
        | succ k' => exact ⟨k', rfl⟩
      rw [wnF_high _ _ h128] at hz
      have h128i : ¬ (m : Int) < 128 := by omega
      have HZ := Lib.hid hz
      have hor : bits BinOp.or IntKind.u8 ((m : Int) % 256) 128 = ((UInt8.ofNat (m % 128 + 128)).toNat : Int) := by
        exact or_u8 m
      have HO := Lib.hid hor
      clear hz hor
      generalize UInt8.ofNat (m % 128 + 128) = c at *
      have hl1 : (l ++ z).length + 1 ≤ 140737488355328 := by have := HL.out; rw [List.length_append]; omega
      have HL1 := Lib.hid hl1
      clear hl1
      go_wp2_with (go_at_call 109; refine (byte_b B b (l ++ z) _ c HO.out _ hb.out HL1.out (Nat.le_trans HS.out hx.out.size)).mono ?_; rintro e w2 ⟨rfl, hb2, x2⟩; have HB2 := Lib.hid hb2; have X2 := Lib.hid x2; clear hb2 x2)
      go_roundw
      case rel =>
        refine ⟨k', m / 128, z ++ [c], by go_num, Lib.hid ⟨?_, ?_, by omega, ?_, by omega⟩, Lib.hid ?_, Lib.hid (hx.out.trans X2.out)⟩
        · rw [← HZ.out, List.append_assoc, List.singleton_append]
        · rw [pow_step] at hm; omega
        · rw [List.length_append, List.length_singleton]; omega
        · rw [← List.append_assoc]; exact HB2.out
      case measure => simp [intOf]; omega
end Go.Proofs.YtbekdcpdfmfopaaGreat
end

section
namespace Go.Proofs.YtbekdcpdfmfopaaGreat
open Go.RowKit
attribute [local irreducible] wnF

theorem flat_take {α : Type} (f : α → List UInt8) (l : List α) (j : Nat) (x : α) (h : l[j]? = some x) : (l.take (j + 1)).flatMap f = (l.take j).flatMap f ++ f x := by
  rw [List.take_add_one, h]
  simp
theorem flat_take_le {α : Type} (f : α → List UInt8) : ∀ (l : List α) (j : Nat), ((l.take j).flatMap f).length ≤ (l.flatMap f).length
  | [], j => by simp
  | x :: r, 0 => by simp
  | x :: r, j + 1 => by
    have := flat_take_le f r j
    rw [List.take_succ_cons, List.flatMap_cons, List.flatMap_cons, List.length_append, List.length_append]
    omega

set_option maxRecDepth 100000 in
set_option maxHeartbeats 1000000 in
theorem bytesU_any (w : World) (p : Option Addr) (c n : Nat) (l : List Nat) (hn : l.length = n) (h : ValsP w p (vU l)) (hx : ∀ x ∈ l, x < 18446744073709551616) (hlen : (l.flatMap wn).length ≤ 1000000) (hn6 : n ≤ 1000000) :
    Calls Tryz.prog 95 #[.slice p n c, .func (.func 96) #[] #[]] w fun e w' => e = .returned (.string ⟨(l.flatMap wn).toArray⟩) ∧ Ext w w' := by
  have HH := Lib.hid (fun u (hu : Ext w u) => h.ext hu)
  have HT := Lib.hid (fun j => Nat.le_trans (flat_take_le wn l j) hlen)
  have HX := Lib.hid hx
  have HN := Lib.hid hn
  have HP : Hid (∀ (x : Nat), x ∈ l → ∀ u z, IsB u w.heap.size w.heap.size z → z.length ≤ 1000000 → w.heap.size ≤ u.heap.size → Calls Tryz.prog 96 #[.pointer (some ⟨w.heap.size, 0, none⟩), .int .u64 (x : Int)] u fun e w' => e = .returned (.tuple #[]) ∧ IsB w' w.heap.size w.heap.size (z ++ wn x) ∧ Below w.heap.size u w') := Lib.hid (fun x hxl u z hB hL hS => by
    have hx := HX.out x hxl
    exact putUint_any w.heap.size w.heap.size _ x hx _ hB hL hS)
  have HI := Lib.hid (IsB.new w w.heap.size (Nat.le_refl _))
  have HX0 := Lib.hid ((Ext.refl w).alloc (.cells #[.pointer none, .slice none 0 0] 168))
  clear h hx hlen hn
  go_enter Tryz.func95, Tryz.ntmps95
  go_wp2
  go_loopw [10] (fun i wr => ∃ j : Nat, j ≤ n ∧ i = .int .i64 (j : Int) ∧ Hid (IsB wr w.heap.size w.heap.size ((l.take j).flatMap wn)) ∧ Hid (Ext w wr)) (fun i _ => n - (intOf i).toNat)
  case atStart => exact ⟨0, Nat.zero_le _, rfl, Lib.hid HI.out, HX0⟩
  case round =>
    obtain ⟨j, hj, rfl, hb, hext⟩ := hrel
    by_cases hlt : j < n
    · obtain ⟨x, hs⟩ : ∃ x, l[j]? = some x := ⟨_, List.getElem?_eq_getElem (by have := HN.out; omega)⟩
      obtain ⟨a, rfl, _, hc1⟩ := HH.out _ hext.out j _ (vU_get hs)
      have HF := Lib.hid (flat_take wn l j x hs)
      have HPx := Lib.hid (HP.out x (List.mem_of_getElem? hs) wr _ hb.out (HT.out j) hext.out.size)
      clear hs
      go_wp2_with (go_at_call 96; refine (HPx.out).mono ?_; rintro e w2 ⟨rfl, hb2, x2⟩; have HB2 := Lib.hid hb2; have X2 := Lib.hid x2; clear hb2 x2)
      go_roundw
      case rel => exact ⟨j + 1, hlt, by go_num, Lib.hid (by rw [HF.out]; exact HB2.out), Lib.hid (hext.out.trans3 X2.out)⟩
      case measure => simp [intOf]; omega
    · obtain rfl : j = n := by omega
      have hb3 := hb.out
      rw [List.take_of_length_le (by have := HN.out; omega)] at hb3
      have HS := Lib.hid (string_b w.heap.size w.heap.size _ wr hb3 hext.out.size)
      clear hb3
      go_wp2_with (go_at_call 108; refine (HS.out).mono ?_; rintro e w2 ⟨rfl, x2⟩; have X2 := Lib.hid x2; clear x2)
      go_ret
      exact ⟨rfl, hext.out.trans3 X2.out⟩
theorem Uints_any (w : World) (p : Option Addr) (c n : Nat) (l : List Nat) (hn : l.length = n) (h : ValsP w p (vU l)) (hx : ∀ x ∈ l, x < 18446744073709551616) (hlen : (l.flatMap wn).length ≤ 1000000) (hn6 : n ≤ 1000000) :
    Calls Tryz.prog 76 #[.slice p n c] w fun e w' => e = .returned (.string ⟨(l.flatMap wn).toArray⟩) ∧ Ext w w' := by
  have HH := Lib.hid (bytesU_any w p c n l hn h hx hlen hn6)
  clear h hx hlen hn
  go_enter Tryz.func76, Tryz.ntmps76
  go_wp2_with (go_at_call 95; refine (HH.out).mono ?_; rintro e w2 ⟨rfl, x2⟩; have X2 := Lib.hid x2; clear x2)
  go_ret
  exact ⟨rfl, X2.out⟩

end Go.Proofs.YtbekdcpdfmfopaaGreat
end

section
namespace Go.Proofs.YtbekdcpdfmfopaaGreat
open Go.RowKit
theorem wbit_of {L : Array Bool} {j : Nat} (h : L.getD j false = true) : L.getD j true = true := by
  by_cases hj : j < L.size
  · simpa [Array.getD, hj] using h
  · simp [Array.getD, hj] at h
theorem results_two {fn : Func} {u v : Tmp} (h : fn.results = #[.tmp u, .tmp v]) (tmps : Array Value) (w : World) :
    (results fn tmps).run Tryz.prog w = .ok (.tuple #[tmps.getD u undef, tmps.getD v undef]) w := by
  simp [results, h]
theorem headT_parts (k g : Nat) (t : ByteArray) : (⟨#[UInt8.ofNat k]⟩ : ByteArray) ++ (⟨(wn g).toArray⟩ : ByteArray) ++ t = headT k g t := by
  apply ByteArray.ext
  rw [ByteArray.data_append, ByteArray.data_append]
  simp [headT]
theorem one_byte_text (w : World) (q k : Nat) (hk : k < 256) (h : Blk w q 5 [.int .u8 (k : Int)]) : (convert 41 9 (.slice (some ⟨q, 0, none⟩) 1 1)).run Tryz.prog w = .ok (.string ⟨#[UInt8.ofNat k]⟩) w := by
  have hb : Row w q 5 [UInt8.ofNat k] := by
    have e : ((UInt8.ofNat k).toNat : Int) = (k : Int) := by simp; omega
    unfold Row
    simp only [List.map_cons, List.map_nil, cellOf, e]
    exact h
  exact hb.text (P := Tryz.prog) 41 5 9 Tryz.underlying41 Tryz.underlying5 Tryz.underlying9 1 1 (by simp)
end Go.Proofs.YtbekdcpdfmfopaaGreat
end
