/- Plain: slices of bytes that grow by append. Contracts: inverses, boxes, their table, and what they are boxes of, by the document's answer. Plain: new blocks of zeros, of any size. Plain: new blocks of zeros. -/
import Derived.Test.YtcjdnifckngcfaaGreatDoorProg
import Derived.Test.YtcjdnifckngcfaaGreatDoorM00
import Derived.Test.YtcjdnifckngcfaaGreatDoorM06
import Derived.WalkSpells
import Derived.OwnWalk
import Derived.Laws.BitsAllLaws
import Derived.RegionTactic
import Derived.ChangeAlike
import Derived.BigRegion
import Derived.Deep.QuietTactic
import Derived.BigQuiet
import Derived.Deep.RegionLaw
import Derived.Test.YtcjdnifckngcfaaGreatDoorM25
import Derived.Test.YtcjdnifckngcfaaGreatDoorM26
import Derived.Test.YtcjdnifckngcfaaGreatDoorM02
section
namespace Go.Proofs.YtcjdnifckngcfaaGreatDoor
open Go.RowKit

/-- A slice of bytes of the call's own (nil, or in a block from B on) that holds just these. -/
def Buf (w : World) (B : Nat) (v : Value) (l : List UInt8) : Prop := w.ownsRow B 5 1 v l.length (l.map cellOf)
section
variable {w w' : World} {B : Nat} {v : Value} {l : List UInt8}
theorem Buf.nil (w : World) (B : Nat) : Buf w B (.slice none 0 0) [] := World.ownsRow_nil _ _ _ _
theorem Buf.made (w : World) (n : Nat) (hn : n ≤ maxLen) (hB : B ≤ w.heap.size) : Buf (w.alloc (.cells (madeCells #[.int .u8 0] n) 5)) B (.slice (some ⟨w.heap.size, 0, none⟩) 0 n) [] :=
  World.ownsRow_made w _ n hB hn (by simp [size_madeCells])
theorem Buf.alloc (h : Buf w B v l) (o : Obj) : Buf (w.alloc o) B v l := World.ownsRow.alloc h o
theorem Buf.drew (h : Buf w B v l) : Buf w.drew B v l := h
theorem Buf.text {P : Program} (h : Buf w B v l) (src dst : TypeId) (hs : P.underlying src = some (.slice 5)) (he : P.underlying 5 = some (.int .u8)) (hd : P.underlying dst = some .string) :
    (convert src dst v).run P w = .ok (.string ⟨l.toArray⟩) w := by
  unfold Buf at h
  rcases h.2 with ⟨rfl, h0⟩ | ⟨g, cap, cur, rfl, _, hg, hle, _, hsz, ht⟩
  · have : l = [] := List.length_eq_zero_iff.1 h0
    subst this
    exact run_convert_bytes_nil w src _ hs he _ _ dst hd
  · have hcell : ∀ i, i < l.length → w.cell? ⟨g, 0 + i, none⟩ = some (.int .u8 ((l.map fun b => (b.toNat : Int)).getD i 0)) := by
      intro i hi
      rw [cell_of_row w g (0 + i) cur _ (0, 0) hg]
      have e : cur.toList[i]? = (l.map cellOf)[i]? := by
        rw [← ht, List.getElem?_take, if_pos (by omega)]
      rw [Nat.zero_add, ← Array.getElem?_toList, e]
      simp [List.getD, List.getElem?_eq_getElem hi, cellOf]
    rw [run_convert_bytes_arg (P := P) w src _ hs he g 0 l.length cap (l.map fun b => (b.toNat : Int)) (by simp) hcell dst hd]
    have e : strOfNums (l.map fun b => (b.toNat : Int)) = ⟨l.toArray⟩ := by
      unfold strOfNums
      congr 2
      rw [List.map_map]
      conv => rhs; rw [← List.map_id l]
      apply List.map_congr_left
      intro b _
      simp
    rw [e]
end
theorem Row.one (w : World) (t : TypeId) (x : Int) (b : UInt8) (hx : x = (b.toNat : Int)) : Row (w.alloc (.cells #[.int .u8 x] t)) w.heap.size t [b] := by
  subst hx; exact heap_alloc_new w _
theorem Row.two (w : World) (t : TypeId) (x y : Int) (b c : UInt8) (hx : x = (b.toNat : Int)) (hy : y = (c.toNat : Int)) : Row (w.alloc (.cells #[.int .u8 x, .int .u8 y] t)) w.heap.size t [b, c] := by
  subst hx hy; exact heap_alloc_new w _

/-- append(b, ..) of a block of new bytes. -/
theorem append_bytes {w : World} {ops : Array Oper} {rest : List Oper} {o : Oper} {a : Act} {Q : Exit → Act → World → Prop} (hgd : o.guard = none) (s x : Operand)
    (ho : o.op = .call { callee := .builtin .append, args := #[s, x], argTypes := #[43, 43] })
    (B : Nat) (v : Value) (l : List UInt8) (hs : a.eval s = v) (hbuf : Buf w B v l) (g m : Nat) (news : List UInt8) (hx : a.eval x = .slice (some ⟨g, 0, none⟩) m m) (hl : news.length = m) (hrow : Row w g 5 news)
    (hlen : l.length + m ≤ 140737488355328) (hB : B ≤ w.heap.size)
    (h : ∀ v' w', Buf w' B v' (l ++ news) → Below B w w' → wpList Tryz.prog ops Q rest (a.put o.dst v') w') : wpList Tryz.prog ops Q (o :: rest) a w := by
  obtain ⟨i0, hi, hz0, hz1, hz2⟩ := info_parts info5
  refine wpList_append_own w hgd s x 43 ho B 5 i0 (.int .u8 0) 1 1 Tryz.underlying43 hi hz0 hz1 hz2 rfl (by decide) v l.length (l.map cellOf) hs hbuf ⟨g, 0, none⟩ m m (news.map cellOf) hx (by simp [hl]) ?_ ?_ (by unfold maxLen; omega) (by omega) hB ?_
  · intro j u hj
    have e : ((⟨g, 0, none⟩ : Addr).add j) = ⟨g, j, none⟩ := by unfold Addr.add; split <;> simp_all
    rw [e, cell_of_row w g j _ _ (0, 0) hrow]
    simpa using hj
  · intro u hu
    simp only [List.mem_map] at hu
    obtain ⟨b, _, rfl⟩ := hu
    rfl
  · intro v' w' h1 h2 _
    refine h v' w' ?_ (Below.grown (Below.refl _ _) h2 hB fun k hk => (World.ownsRow.lt hbuf k hk).1)
    unfold Buf
    simpa [hl] using h1

/-- The same, as a step of a region that draws its order. -/
theorem step_append_bytes {w : World} {ops : Array Oper} {o : Oper} {a : Act} {K : Act → World → Prop} {Q : Exit → Act → World → Prop} {E : Prop} (hg : o.guard = none) (s x : Operand)
    (ho : o.op = .call { callee := .builtin .append, args := #[s, x], argTypes := #[43, 43] })
    (B : Nat) (v : Value) (l : List UInt8) (hs : a.eval s = v) (hbuf : Buf w B v l) (g m : Nat) (news : List UInt8) (hx : a.eval x = .slice (some ⟨g, 0, none⟩) m m) (hl : news.length = m) (hrow : Row w g 5 news)
    (hlen : l.length + m ≤ 140737488355328) (hB : B ≤ w.heap.size)
    (h : ∀ v' w', Buf w' B v' (l ++ news) → Below B w w' → K (a.put o.dst v') w') : if Region.wanted o (yielded ops a.tmps) = true then Oper.wp Tryz.prog o a w K Q else E := by
  have hw : Region.wanted o (yielded ops a.tmps) = true := by simp [Region.wanted, hg]
  rw [if_pos hw]
  obtain ⟨i0, hi, hz0, hz1, hz2⟩ := info_parts info5
  refine wp_append_own w s x 43 ho B 5 i0 (.int .u8 0) 1 1 Tryz.underlying43 hi hz0 hz1 hz2 rfl (by decide) v l.length (l.map cellOf) hs hbuf ⟨g, 0, none⟩ m m (news.map cellOf) hx (by simp [hl]) ?_ ?_ (by unfold maxLen; omega) (by omega) hB ?_
  · intro j u hj
    have e : ((⟨g, 0, none⟩ : Addr).add j) = ⟨g, j, none⟩ := by unfold Addr.add; split <;> simp_all
    rw [e, cell_of_row w g j _ _ (0, 0) hrow]
    simpa using hj
  · intro u hu
    simp only [List.mem_map] at hu
    obtain ⟨b, _, rfl⟩ := hu
    rfl
  · intro v' w' h1 h2 _
    refine h v' w' ?_ (Below.grown (Below.refl _ _) h2 hB fun k hk => (World.ownsRow.lt hbuf k hk).1)
    unfold Buf
    simpa [hl] using h1

/-- make([]byte, 0, n). -/
theorem make_empty (n : Nat) (hn : n ≤ 281474976710656) : ∀ u : World, (Instr.makeSlice 43 (.int .i64 0) (.int .i64 (n : Int))).run Tryz.prog u =
      .ok (.slice (some ⟨u.heap.size, 0, none⟩) 0 n) (u.alloc (.cells (madeCells #[.int .u8 0] n) 5)) := fun u => by
  obtain ⟨i0, hi, hz0, hz1, hz2⟩ := info_parts info5
  have h := run_make (P := Tryz.prog) u 43 5 i0 (.int .u8 0) Tryz.underlying43 hi hz0 .i64 .i64 0 (n : Int) (Int.le_refl _) (by omega) (by rw [hz2]; omega) (by omega)
  simpa [hz1, Value.cells] using h
end Go.Proofs.YtcjdnifckngcfaaGreatDoor
end

section
namespace Go.Proofs.YtcjdnifckngcfaaGreatDoor
open Go.RowKit

/-- The inverses; of 0 it is 0. -/
def invT : List Nat := [0, 1, 141, 246, 203, 82, 123, 209, 232, 79, 41, 192, 176, 225, 229, 199, 116, 180, 170, 75, 153, 43, 96, 95, 88, 63, 253, 204, 255, 64, 238, 178, 58, 110, 90, 241, 85, 77, 168, 201, 193, 10, 152, 21, 48, 68, 162, 194, 44, 69, 146, 108, 243, 57, 102, 66, 242, 53, 32, 111, 119, 187, 89, 25, 29, 254, 55, 103, 45, 49, 245, 105, 167, 100, 171, 19, 84, 37, 233, 9, 237, 92, 5, 202, 76, 36, 135, 191, 24, 62, 34, 240, 81, 236, 97, 23, 22, 94, 175, 211, 73, 166, 54, 67, 244, 71, 145, 223, 51, 147, 33, 59, 121, 183, 151, 133, 16, 181, 186, 60, 182, 112, 208, 6, 161, 250, 129, 130, 131, 126, 127, 128, 150, 115, 190, 86, 155, 158, 149, 217, 247, 2, 185, 164, 222, 106, 50, 109, 216, 138, 132, 114, 42, 20, 159, 136, 249, 220, 137, 154, 251, 124, 46, 195, 143, 184, 101, 72, 38, 200, 18, 74, 206, 231, 210, 98, 12, 224, 31, 239, 17, 117, 120, 113, 165, 142, 118, 61, 189, 188, 134, 87, 11, 40, 47, 163, 218, 212, 228, 15, 169, 39, 83, 4, 27, 252, 172, 230, 122, 7, 174, 99, 197, 219, 226, 234, 148, 139, 196, 213, 157, 248, 144, 107, 177, 13, 214, 235, 198, 14, 207, 173, 8, 78, 215, 227, 93, 80, 30, 179, 91, 35, 56, 52, 104, 70, 3, 140, 221, 156, 125, 160, 205, 26, 65, 28]
def invN (b : Nat) : Nat := invT.getD b 0
theorem invN_spec : ∀ b, b < 256 → invN b < 256 ∧ (b = 0 ∨ 1 ≤ invN b ∧ tm b (invN b) = 1) := by decide +kernel
theorem invN_zero : invN 0 = 0 := rfl
/-- No other byte than the inverse has the product 1. -/
theorem inv_only {b j : Nat} (hb : b < 256) (hj : j < 256) (h : tm b j = 1) : j = invN b := by
  obtain ⟨hi, h0 | ⟨_, h2⟩⟩ := invN_spec b hb
  · subst h0
    rw [tm_comm (by decide) hj, tm_zero] at h
    cases h
  · have e : j = tm j (tm b (invN b)) := by rw [h2, tm_one j hj]
    rw [e, tm_assoc hj hb hi, tm_comm hj hb, h, tm_comm (by decide) hi, tm_one _ hi]
/-- A box, bit by bit. -/
def nb (c i : Nat) : Nat := c / 2 ^ i ^^^ c / 2 ^ ((i + 4) % 8) ^^^ c / 2 ^ ((i + 5) % 8) ^^^ c / 2 ^ ((i + 6) % 8) ^^^ c / 2 ^ ((i + 7) % 8) ^^^ 99 / 2 ^ i
def rb (c : Nat) : Nat → Nat
  | 0 => 0
  | i + 1 => rb c i ||| (nb c i &&& 1) * 2 ^ i
theorem rb_box0 : ∀ b, b < 256 → rb (invN b) 8 = (boxB (UInt8.ofNat b)).toNat := by decide +kernel
attribute [irreducible] invN
set_option maxRecDepth 100000 in
set_option maxHeartbeats 1000000 in
theorem rinv_any (b : Nat) (hb : b < 256) (w : World) :
    Calls Tryz.prog 209 #[.int .u8 (b : Int)] w fun e w' => e = .returned (.int .u8 (invN b : Nat)) ∧ w = w' := by
  have HI := Lib.hid (invN_spec b hb)
  have HO := Lib.hid (fun j (hj : j < 256) (h : tm b j = 1) => inv_only hb hj h)
  have HT := Lib.hid (fun j (hj : j < 256) u => rTimes_any b j hb hj u)
  go_enter Tryz.func209, Tryz.ntmps209
  go_wp2
  go_loop [3] (fun i => ∃ j : Nat, 1 ≤ j ∧ j ≤ 256 ∧ i = .int .i64 j ∧ (b ≠ 0 → j ≤ invN b)) (fun i => 256 - (intOf i).toNat)
  case atStart => exact ⟨1, by omega, by omega, rfl, fun h => by have := HI.out.2; omega⟩
  case round =>
    obtain ⟨j, h1, hj, rfl, hb2⟩ := hrel
    have HB2 := Lib.hid hb2
    clear hb2
    by_cases hlt : j < 256
    · have HTj := Lib.hid (HT.out j hlt)
      have htl := tm_lt hb j
      have hji : (j : Int) < 256 := by omega
      have hwj : IntKind.u8.wrap (j : Int) = (j : Int) := IntWalk.u8_in _ ⟨by omega, by omega⟩
      by_cases he : tm b j = 1
      · have HJ2 := Lib.hid (HO.out j hlt he)
        have HT1 : Hid (∀ u, Calls Tryz.prog 210 #[.int .u8 (b : Int), .int .u8 (j : Int)] u fun e w' => e = .returned (.int .u8 1) ∧ u = w') := Lib.hid (fun u => by have h := HTj.out u; rw [he] at h; exact h)
        clear he
        go_wp2_with (go_at_call 210; (with_reducible refine (HT1.out _).mono ?_); rintro e w1 ⟨rfl, rfl⟩)
        go_ret
        exact ⟨by rw [← HJ2.out]; rfl, rfl⟩
      · have hne : ¬ ((tm b j : Nat) : Int) = 1 := by omega
        have HN := Lib.hid he
        clear he
        go_wp2_with (go_at_call 210; (with_reducible refine (HTj.out _).mono ?_); rintro e w1 ⟨rfl, rfl⟩)
        go_round
        case rel => exact ⟨j + 1, by omega, by omega, by go_num, fun hb0 => by
          have h3 := HB2.out hb0
          rcases Nat.lt_or_eq_of_le h3 with h4 | h4
          · exact h4
          · exfalso
            rcases HI.out.2 with h5 | ⟨_, h5⟩
            · exact hb0 h5
            · rw [← h4] at h5; exact HN.out h5⟩
        case measure => simp [intOf]; omega
    · obtain rfl : j = 256 := by omega
      have h0 : b = 0 := by
        have := HI.out.1
        rcases Nat.eq_zero_or_pos b with h | h
        · exact h
        · have := HB2.out (by omega); omega
      have e256 : ((256 : Nat) : Int) = 256 := rfl
      rw [e256]
      clear e256
      go_wp2
      go_ret
      exact ⟨by first | (rw [invN_zero]; rfl) | (rw [h0, invN_zero]; rfl), rfl⟩
theorem div_lt256 {c : Nat} (h : c < 256) (i : Nat) : c / 2 ^ i < 256 := Nat.lt_of_le_of_lt (Nat.div_le_self _ _) h
theorem nb_lt {c : Nat} (h : c < 256) (i : Nat) : nb c i < 256 := by
  unfold nb
  exact xor_lt256 (xor_lt256 (xor_lt256 (xor_lt256 (xor_lt256 (div_lt256 h _) (div_lt256 h _)) (div_lt256 h _)) (div_lt256 h _)) (div_lt256 h _)) (div_lt256 (by decide) _)
theorem bit_lt (n : Nat) {i : Nat} (hi : i < 8) : (n &&& 1) * 2 ^ i < 256 := by
  have h1 : n &&& 1 ≤ 1 := Nat.and_le_right
  have h2 : 2 ^ i ≤ 2 ^ 7 := Nat.pow_le_pow_right (by decide) (by omega)
  have h3 : (n &&& 1) * 2 ^ i ≤ 1 * 2 ^ i := Nat.mul_le_mul_right _ h1
  omega
theorem rb_lt (c : Nat) : ∀ i, i ≤ 8 → rb c i < 256
  | 0, _ => by simp [rb]
  | i + 1, h => Nat.or_lt_two_pow (n := 8) (rb_lt c i (by omega)) (bit_lt _ (by omega))
theorem nb_int (c i a b d e : Nat) (hc : c < 256) (ha : a = (i + 4) % 8) (hb : b = (i + 5) % 8) (hd : d = (i + 6) % 8) (he : e = (i + 7) % 8) :
    bits BinOp.xor IntKind.u8 (bits BinOp.xor IntKind.u8 (bits BinOp.xor IntKind.u8 (bits BinOp.xor IntKind.u8 (bits BinOp.xor IntKind.u8 ((c : Int) / 2 ^ i) ((c : Int) / 2 ^ a)) ((c : Int) / 2 ^ b)) ((c : Int) / 2 ^ d)) ((c : Int) / 2 ^ e)) ((99 : Int) / 2 ^ i) = ((nb c i : Nat) : Int) := by
  subst ha hb hd he
  have h99 : ((99 : Int) / 2 ^ i) = ((99 / 2 ^ i : Nat) : Int) := div_cast 99 i
  have l := div_lt256 hc
  rw [h99, div_cast, div_cast, div_cast, div_cast, div_cast, u8_xor_nat _ _ (l _) (l _), u8_xor_nat _ _ (xor_lt256 (l _) (l _)) (l _), u8_xor_nat _ _ (xor_lt256 (xor_lt256 (l _) (l _)) (l _)) (l _),
    u8_xor_nat _ _ (xor_lt256 (xor_lt256 (xor_lt256 (l _) (l _)) (l _)) (l _)) (l _), u8_xor_nat _ _ (xor_lt256 (xor_lt256 (xor_lt256 (xor_lt256 (l _) (l _)) (l _)) (l _)) (l _)) (div_lt256 (by decide) _)]
  rfl
set_option maxRecDepth 100000 in
set_option maxHeartbeats 2000000 in
theorem rbox_any (b : Nat) (hb : b < 256) (w : World) :
    Calls Tryz.prog 182 #[.int .u8 (b : Int)] w fun e w' => e = .returned (.int .u8 ((boxB (UInt8.ofNat b)).toNat : Int)) ∧ w = w' := by
  have HI := Lib.hid (rinv_any b hb)
  have HE := Lib.hid (rb_box0 b hb)
  have hc := (invN_spec b hb).1
  generalize invN b = c at *
  generalize (boxB (UInt8.ofNat b)).toNat = X at *
  go_enter Tryz.func182, Tryz.ntmps182
  go_wp2_with (go_at_call 209; refine (HI.out _).mono ?_; rintro e w1 ⟨rfl, rfl⟩)
  go_loop [4, 5] (fun o i => ∃ j : Nat, j ≤ 8 ∧ i = .int .i64 j ∧ o = .int .u8 (rb c j : Nat)) (fun _ i => 8 - (intOf i).toNat)
  case atStart => exact ⟨0, by omega, rfl, rfl⟩
  case round =>
    obtain ⟨j, hj, rfl, rfl⟩ := hrel
    by_cases hlt : j < 8
    · have hj0 : (0 : Int) ≤ (j : Int) := by omega
      obtain ⟨k4, q4⟩ : ∃ k : Nat, ((j : Int) + 4) % 8 = (k : Int) := ⟨(j + 4) % 8, by omega⟩
      obtain ⟨k5, q5⟩ : ∃ k : Nat, ((j : Int) + 5) % 8 = (k : Int) := ⟨(j + 5) % 8, by omega⟩
      obtain ⟨k6, q6⟩ : ∃ k : Nat, ((j : Int) + 6) % 8 = (k : Int) := ⟨(j + 6) % 8, by omega⟩
      obtain ⟨k7, q7⟩ : ∃ k : Nat, ((j : Int) + 7) % 8 = (k : Int) := ⟨(j + 7) % 8, by omega⟩
      have hx := nb_int c j k4 k5 k6 k7 hc (by omega) (by omega) (by omega) (by omega)
      have hnl := nb_lt hc j
      have hrl := rb_lt c j hj
      have hbl := bit_lt (nb c j) hlt
      have hn : rb c (j + 1) = rb c j ||| (nb c j &&& 1) * 2 ^ j := rfl
      have ha := u8_and_nat (nb c j) 1 hnl (by decide)
      have HN := Lib.hid hn
      clear hn
      generalize nb c j = N at *
      obtain ⟨t, ht⟩ : ∃ t, N &&& 1 = t := ⟨_, rfl⟩
      rw [ht] at ha hbl HN
      have ho := u8_or_nat (rb c j) (t * 2 ^ j) hrl hbl
      rw [mul_cast] at ho
      have hw : IntKind.u8.wrap ((t : Int) * 2 ^ j) = (t : Int) * 2 ^ j := by rw [← mul_cast]; exact IntWalk.u8_in _ ⟨by omega, by omega⟩
      have ha2 : bits BinOp.and IntKind.u8 (N : Int) 1 = (t : Int) := ha
      clear ha
      go_wp2
      go_round
      case rel => exact ⟨j + 1, hlt, by go_num, by rw [HN.out]⟩
      case measure => simp [intOf]; omega
    · obtain rfl : j = 8 := by omega
      rw [HE.out]
      go_wp2
      go_ret
      exact ⟨rfl, rfl⟩
end Go.Proofs.YtcjdnifckngcfaaGreatDoor
end

section
namespace Go.Proofs.YtcjdnifckngcfaaGreatDoor
open Go.RowKit

/-- n bytes 0. -/
def zc (n : Nat) : Array Value := ((List.replicate n (0 : UInt8)).map cellOf).toArray
theorem zero_run {P : Program} {t : TypeId} {z : Value} (h : (P.info? t).bind (·.zero) = some z) (w : World) : (zeroValue t).run P w = .ok z w := by
  cases hq : P.info? t with
  | none => simp [hq] at h
  | some i =>
    have hz : i.zero = some z := by simpa [hq] using h
    simp [zeroValue, typeInfo, hq, hz]
theorem Row.zero (w : World) (t : TypeId) (n : Nat) : Row (w.alloc (.cells (zc n) t)) w.heap.size t (List.replicate n 0) := heap_alloc_new w _
theorem sized {t n : Nat} {l : List UInt8} (h : (Tryz.prog.info? t).map (·.size) = some n) (hl : l.length = n) : (Tryz.prog.info? t).map (·.size) = some ((l.map cellOf).toArray).size := by simp [h, hl]
end Go.Proofs.YtcjdnifckngcfaaGreatDoor
end

section
namespace Go.Proofs.YtcjdnifckngcfaaGreatDoor
open Go.RowKit

theorem zero255 : (Tryz.prog.info? 259).bind (·.zero) = some (.agg (zc 255)) := by kernel_rfl
theorem zero256 : (Tryz.prog.info? 204).bind (·.zero) = some (.agg (zc 256)) := by kernel_rfl
theorem zero512 : (Tryz.prog.info? 206).bind (·.zero) = some (.agg (zc 512)) := by kernel_rfl
theorem zero176 : (Tryz.prog.info? 210).bind (·.zero) = some (.agg (zc 176)) := by kernel_rfl
theorem zero16 : (Tryz.prog.info? 209).bind (·.zero) = some (.agg (zc 16)) := by kernel_rfl
theorem size255 : (Tryz.prog.info? 259).map (·.size) = some 255 := by kernel_rfl
theorem size256 : (Tryz.prog.info? 204).map (·.size) = some 256 := by kernel_rfl
theorem size512 : (Tryz.prog.info? 206).map (·.size) = some 512 := by kernel_rfl
theorem size176 : (Tryz.prog.info? 210).map (·.size) = some 176 := by kernel_rfl
theorem size16 : (Tryz.prog.info? 209).map (·.size) = some 16 := by kernel_rfl
end Go.Proofs.YtcjdnifckngcfaaGreatDoor
end
