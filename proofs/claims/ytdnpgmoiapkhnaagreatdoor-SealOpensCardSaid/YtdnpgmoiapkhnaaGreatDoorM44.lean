/- Contracts: the document's own xor. Contract: numbers written as bytes, by the document's answer. Contracts: numbers turned, by the document's answer. Contracts: hex texts, by the program and by the document's answer. Contracts: the words of a block, by the document's answer: a slice that grows. Contracts: the document's answer's turns by three numbers, either or. Contracts: the state behind a block, by the document's answer. Contracts: the sum of a text, by the document's answer. Contracts: the document's answers of layer 3: a key's block, a text's tag, whether a tag is right, by the reference. Plain: texts joined; a text of one byte. Contracts: which bytes are derived, by the reference. Contracts: keys by epochs: the document's ring: where an epoch's key is; its two keys. Contracts: the table of boxes, and what bytes are boxes of, by the document's answer. Contracts: the columns of a block mixed, by the document's answer. A text's bytes in a row of their own, as a conversion lays them: what is read, and written, there. Plain: a text's bytes in a row of their own that grows by append. Plain: the round keys as texts. Contracts: the round keys of a key, by the document's answer. Sixteen bytes made, and filled. Contracts: a block ciphered, by the document's answer. Contract: a stream, by the document's answer. Contract: a text, either or a stream, by the document's answer. Plain words: whether two texts are the same, as the program tests it. Contracts: envelopes, by the document's answer. Contracts: envelopes, by the document's answer: Close. The walk of SealCloses: which envelope a text has, and which epoch it tells. Contracts: envelopes, by the document's answer: Open. -/
import Derived.Test.YtdnpgmoiapkhnaaGreatDoorM14
import Derived.Test.YtdnpgmoiapkhnaaGreatDoorM00
import Derived.Test.YtdnpgmoiapkhnaaGreatDoorM03
import Derived.Test.YtdnpgmoiapkhnaaGreatDoorM02
import Derived.IntWalk
import Derived.Test.YtdnpgmoiapkhnaaGreatDoorM01
import Derived.Deep.QuietTactic
import Derived.BigQuiet
import Derived.RegionTactic
import Derived.StillTailTactics
import Derived.Test.YtdnpgmoiapkhnaaGreatDoorM15
import Derived.Test.YtdnpgmoiapkhnaaGreatDoorM10
import Derived.Test.YtdnpgmoiapkhnaaGreatDoorM29
import Derived.Test.YtdnpgmoiapkhnaaGreatDoorM19
import Derived.Deep.RegionHeld3
import Derived.Outline
import Derived.Test.YtdnpgmoiapkhnaaGreatDoorM31
import Derived.ChangeAlike
import Derived.BigRegion
import Derived.Test.YtdnpgmoiapkhnaaGreatDoorProg
import Derived.Lib.ConvBytes
import Derived.Laws.AppendOwn
import Derived.Lib.FrozenHead
import Derived.Test.YtdnpgmoiapkhnaaGreatDoorM36
import Derived.Test.YtdnpgmoiapkhnaaGreatDoorM04
import Derived.Deep.RegionLaw
import Derived.Test.YtdnpgmoiapkhnaaGreatDoorM13
import Derived.Test.YtdnpgmoiapkhnaaGreatDoorM33
import Derived.Test.YtdnpgmoiapkhnaaGreatDoorM34
import Derived.WalkKit
import Derived.Test.YtdnpgmoiapkhnaaGreatDoorM39
import Derived.Test.YtdnpgmoiapkhnaaGreatDoorM42
import Derived.Test.YtdnpgmoiapkhnaaGreatDoorM30
section
namespace Go.Proofs.YtdnpgmoiapkhnaaGreatDoor
open Go.RowKit

theorem rXor_yes (a b : ByteArray) (hab : a.size = b.size) (ha : a.size ≤ 140737488351232) (w : World) :
    Calls Tryz.prog 77 #[.string a, .string b] w fun e w' => e = .returned (.string ⟨(xorL a.data.toList b.data.toList).toArray⟩) ∧ Ext w w' := by
  have hmk := make_bytes a.size (by omega)
  have Hab := Lib.hid hab; clear hab
  go_enter Tryz.func77, Tryz.ntmps77
  go_wp2
  go_loopw [6] (fun i wr => ∃ j : Nat, j ≤ a.size ∧ i = .int .i64 j ∧ Row wr w.heap.size 5 ((xorL a.data.toList b.data.toList).take j ++ List.replicate (a.size - j) 0) ∧ Ext w wr) (fun i _ => a.size - (intOf i).toNat)
  case atStart => exact ⟨0, Nat.zero_le _, rfl, by simpa using Row.made w 5 a.size, (Ext.refl w).alloc _⟩
  case round =>
    obtain ⟨j, hj, rfl, hrow, hext⟩ := hrel
    by_cases hlt : j < a.size
    · have hlt2 : j < b.size := by have := Hab.out; omega
      have hc := fill_cell hrow (xorL_length Hab.out) hlt
      have hf := hrow.frozen j
      go_wp2
      go_region
      go_wp2
      go_roundw
      case rel => exact ⟨j + 1, by omega, by go_num, (fill_step hrow (xorL_length Hab.out) hlt _ _ (xorL_at hlt hlt2) (or_sub_and _ _)).drew, (hext.setCell (Nat.le_refl _) _).drew⟩
      case measure => simp [intOf]; omega
    · obtain rfl : j = a.size := by omega
      have ht := (fill_done hrow (xorL_length Hab.out)).text (P := Tryz.prog) 53 5 9 Tryz.underlying53 Tryz.underlying5 Tryz.underlying9 a.size a.size (xorL_length Hab.out)
      clear hrow
      go_wp2
      go_ret
      exact ⟨rfl, hext⟩

end Go.Proofs.YtdnpgmoiapkhnaaGreatDoor
end

section
namespace Go.Proofs.YtdnpgmoiapkhnaaGreatDoor
open Go.RowKit

theorem quo_wrap {n j m : Nat} (hn : Hid (n < 2 ^ 64)) (hm : m = n / 256 ^ j) : IntKind.u64.wrap ((m : Int) / 256) = ((m / 256 : Nat) : Int) := by
  have h1 : m ≤ n := by rw [hm]; exact Nat.div_le_self _ _
  have := u64_nat (x := m / 256) (by have := hn.out; omega)
  simpa using this
set_option maxRecDepth 100000 in
theorem rPut_any (n : Nat) (hn : Hid (n < 2 ^ 64)) (k : Nat) (hk : k ≤ 8) (w : World) :
    Calls Tryz.prog 52 #[.int .u64 (n : Int), .int .i64 (k : Int)] w fun e w' => e = .returned (.string ⟨(be k n).toArray⟩) ∧ Ext w w' := by
  have hmk := make_bytes k (by omega)
  go_enter Tryz.func52, Tryz.ntmps52
  go_wp2
  go_loopw [6, 0] (fun i m wr => ∃ j : Nat, j ≤ k ∧ i = .int .i64 ((k : Int) - 1 - (j : Int)) ∧ m = .int .u64 ((n / 256 ^ j : Nat) : Int) ∧ Row wr w.heap.size 5 (List.replicate (k - j) 0 ++ be j n) ∧ Ext w wr) (fun i _ _ => (intOf i + 1).toNat)
  case atStart => exact ⟨0, Nat.zero_le _, by simp, by simp, by simpa [be] using Row.made w 5 k, (Ext.refl w).alloc _⟩
  case round =>
    obtain ⟨j, hj, rfl, rfl, hrow, hext⟩ := hrel
    by_cases hlt : j < k
    · have hc := put_cell hlt hrow
      have hf := hrow.frozen (k - 1 - j)
      obtain ⟨m, hm⟩ : ∃ m : Nat, m = n / 256 ^ j := ⟨_, rfl⟩
      rw [← hm]
      have Hm := Lib.hid hm; clear hm
      go_wp2
      go_roundw
      case rel => exact ⟨j + 1, by omega, int_eq (by omega), by rw [← div_step, ← Hm.out]; exact int_eq (quo_wrap hn Hm.out), quo_step Hm.out hlt hrow, hext.setCell (Nat.le_refl _) _⟩
      case measure => simp [intOf]; omega
    · obtain rfl : j = k := by omega
      have ht := hrow.text (P := Tryz.prog) 53 5 9 Tryz.underlying53 Tryz.underlying5 Tryz.underlying9 j j (by simp [be_length])
      clear hrow
      go_wp2
      go_ret
      exact ⟨by simp, hext⟩
end Go.Proofs.YtdnpgmoiapkhnaaGreatDoor
end

section
namespace Go.Proofs.YtdnpgmoiapkhnaaGreatDoor
open Go.RowKit

theorem rTurn_any (n : Nat) (hn : n < 4294967296) (b : Int) (w : World) :
    Calls Tryz.prog 162 #[.int .u32 (n : Int), .int .i64 b] w fun e w' => e = .returned (.int .u32 (rot n (places b) : Int)) ∧ w = w' := by
  have hb := places_i64 b
  have hr := places_lt b
  obtain ⟨r, hr'⟩ : ∃ r, r = places b := ⟨_, rfl⟩
  rw [← hr'] at hb hr ⊢
  clear hr'
  rw [← acc_rot n r hn hr]
  go_enter Tryz.func162, Tryz.ntmps162
  go_wp2
  go_loop [6, 7] (fun m i => ∃ j : Nat, j ≤ 32 ∧ i = .int .i64 j ∧ m = .int .u32 (acc n r j : Int)) (fun _ i => 32 - (intOf i).toNat)
  case atStart => exact ⟨0, Nat.zero_le _, rfl, rfl⟩
  case round =>
    clear hb
    obtain ⟨j, hj, rfl, rfl⟩ := hrel
    by_cases hlt : j < 32
    · have hbit := bit_test n j hn
      by_cases ht : n.testBit j = true
      · have hval := int_eq (k := .u32) (or_val n r j hr hlt ht)
        have Hval := Lib.hid hval; clear hval
        rw [ht] at hbit
        clear ht
        generalize hx : acc n r j = x at *
        have Hx := Lib.hid hx; clear hx
        go_wp2
        go_round
        case rel => exact ⟨j + 1, by omega, by go_num, Hval.out⟩
        case measure => simp [intOf]; omega
      · have hval : acc n r (j + 1) = acc n r j := by conv => lhs; unfold acc
                                                      rw [if_neg ht]
        have Hval := Lib.hid hval; clear hval
        rw [Bool.eq_false_iff.2 ht] at hbit
        clear ht
        generalize hx : acc n r j = x at *
        have Hx := Lib.hid hx; clear hx
        go_wp2
        go_round
        case rel => exact ⟨j + 1, by omega, by go_num, by rw [Hval.out]⟩
        case measure => simp [intOf]; omega
    · obtain rfl : j = 32 := by omega
      go_wp2
      go_ret
      exact ⟨rfl, rfl⟩
end Go.Proofs.YtdnpgmoiapkhnaaGreatDoor
end

section
namespace Go.Proofs.YtdnpgmoiapkhnaaGreatDoor
open Go.RowKit

/-- A hex digit of four bits. -/
def hexd (k : Nat) : UInt8 := UInt8.ofNat (if k < 10 then 48 + k else 87 + k)
def hexL : List UInt8 → List UInt8
  | [] => []
  | b :: r => hexd (b.toNat / 16) :: hexd (b.toNat % 16) :: hexL r
theorem hexL_snoc (l : List UInt8) (b : UInt8) : hexL (l ++ [b]) = hexL l ++ [hexd (b.toNat / 16), hexd (b.toNat % 16)] := by
  induction l with
  | nil => rfl
  | cons c r ih => simp [hexL, ih]
theorem hexL_length (l : List UInt8) : (hexL l).length = 2 * l.length := by
  induction l with
  | nil => rfl
  | cons c r ih => simp [hexL, ih]; omega

theorem hexd_at (k m : Nat) (h : k < ({ data := #[48, 49, 50, 51, 52, 53, 54, 55, 56, 57, 97, 98, 99, 100, 101, 102] } : ByteArray).size) (e : k = m) : ((({ data := #[48, 49, 50, 51, 52, 53, 54, 55, 56, 57, 97, 98, 99, 100, 101, 102] } : ByteArray)[k]'h).toNat : Int) = ((hexd m).toNat : Int) := by
  subst e
  have h16 : k < 16 := h
  have key : ∀ k : Fin 16, ((({ data := #[48, 49, 50, 51, 52, 53, 54, 55, 56, 57, 97, 98, 99, 100, 101, 102] } : ByteArray)[k.val]'(k.isLt)).toNat : Int) = ((hexd k.val).toNat : Int) := by decide
  exact key ⟨k, h16⟩
theorem hexL_take {s : ByteArray} {j : Nat} (h : j < s.size) : hexL (s.data.toList.take (j + 1)) = hexL (s.data.toList.take j) ++ [hexd (s[j].toNat / 16)] ++ [hexd (s[j].toNat % 16)] := by
  have hl : j < s.data.toList.length := by rw [size_list]; exact h
  have e : s.data.toList[j] = s[j] := rfl
  rw [List.take_succ_eq_append_getElem hl, hexL_snoc, e]
  simp


end Go.Proofs.YtdnpgmoiapkhnaaGreatDoor
end

section
namespace Go.Proofs.YtdnpgmoiapkhnaaGreatDoor
open Go.RowKit

theorem info29 : (Tryz.prog.info? 23).map (fun i => (i.zero, i.size, i.bytes)) = some (some (.int .u32 0), 1, 4) := by kernel_rfl
/-- A slice of numbers of the call's own (nil, or in a block from B on) that holds just these. -/
def Buf32 (w : World) (B : Nat) (v : Value) (l : List Nat) : Prop := w.ownsRow B 23 1 v l.length (l.map cell32)
/-- The first cells of block g are these numbers. -/
def Seg32 (w : World) (g : Nat) (l : List Nat) : Prop := ∃ cur : Array Value, w.heap[g]? = some (.cells cur 23 (0, 0)) ∧ cur.toList.take l.length = l.map cell32
section
variable {w w' : World} {B : Nat} {v : Value} {l : List Nat} {g : Nat}
theorem Seg32.lt (h : Seg32 w g l) : g < w.heap.size := by obtain ⟨cur, hg, _⟩ := h; exact heap_lt hg
theorem Seg32.cell (h : Seg32 w g l) (i : Nat) (hi : i < l.length) : w.cell? ⟨g, i, none⟩ = some (.int .u32 (l.getD i 0 : Nat)) := by
  obtain ⟨cur, hg, ht⟩ := h
  rw [cell_of_row w g i _ _ (0, 0) hg]
  have e : cur.toList[i]? = (l.map cell32)[i]? := by rw [← ht, List.getElem?_take, if_pos hi]
  rw [← Array.getElem?_toList, e]
  simp [List.getElem?_eq_getElem hi, cell32]
theorem Seg32.below {B : Nat} (h : Seg32 w g l) (hb : Below B w w') (hg : g < B) : Seg32 w' g l := by
  obtain ⟨cur, h1, h2⟩ := h; exact ⟨cur, (hb.block g hg).trans h1, h2⟩
theorem Seg32.ext (h : Seg32 w g l) (hb : Ext w w') : Seg32 w' g l := h.below hb h.lt
theorem Seg32.drew (h : Seg32 w g l) : Seg32 w.drew g l := h
theorem Seg32.alloc (h : Seg32 w g l) (o : Obj) : Seg32 (w.alloc o) g l := by
  have := h.lt
  obtain ⟨cur, h1, h2⟩ := h; exact ⟨cur, (Below.heap_alloc w o g this).trans h1, h2⟩
theorem Row32.seg (h : Row32 w g 23 l) : Seg32 w g l := ⟨_, h, by rw [List.take_of_length_le (by simp)]⟩
theorem Buf32.nil (w : World) (B : Nat) : Buf32 w B (.slice none 0 0) [] := World.ownsRow_nil _ _ _ _
theorem Buf32.alloc (h : Buf32 w B v l) (o : Obj) : Buf32 (w.alloc o) B v l := World.ownsRow.alloc h o
theorem Buf32.drew (h : Buf32 w B v l) : Buf32 w.drew B v l := h
theorem Buf32.parts (h : Buf32 w B v l) (h0 : 0 < l.length) : ∃ g cap, v = .slice (some ⟨g, 0, none⟩) l.length cap ∧ B ≤ g ∧ l.length ≤ cap ∧ cap ≤ maxLen ∧ Seg32 w g l := by
  rcases h.2 with ⟨rfl, hz⟩ | ⟨g, cap, cur, rfl, hb, hg, hle, hm, hsz, ht⟩
  · omega
  · exact ⟨g, cap, rfl, hb, hle, hm, cur, hg, by simpa using ht⟩
end
theorem Row32.one (w : World) (t : TypeId) (x : Int) (n : Nat) (hx : x = (n : Int)) : Row32 (w.alloc (.cells #[.int .u32 x] t)) w.heap.size t [n] := by
  subst hx; exact heap_alloc_new w _

/-- append(b, x) of a block of new numbers. -/
theorem append32 {w : World} {ops : Array Oper} {rest : List Oper} {o : Oper} {a : Act} {Q : Exit → Act → World → Prop} (hgd : o.guard = none) (s x : Operand)
    (ho : o.op = .call { callee := .builtin .append, args := #[s, x], argTypes := #[62, 62] })
    (B : Nat) (v : Value) (l : List Nat) (hs : a.eval s = v) (hbuf : Buf32 w B v l) (g m : Nat) (news : List Nat) (hx : a.eval x = .slice (some ⟨g, 0, none⟩) m m) (hl : news.length = m) (hrow : Row32 w g 23 news)
    (hlen : l.length + m ≤ 1099511627776) (hB : B ≤ w.heap.size)
    (h : ∀ v' w', Buf32 w' B v' (l ++ news) → Below B w w' → wpList Tryz.prog ops Q rest (a.put o.dst v') w') : wpList Tryz.prog ops Q (o :: rest) a w := by
  obtain ⟨i0, hi, hz0, hz1, hz2⟩ := info_parts info29
  refine wpList_append_own w hgd s x 62 ho B 23 i0 (.int .u32 0) 1 4 Tryz.underlying62 hi hz0 hz1 hz2 rfl (by decide) v l.length (l.map cell32) hs hbuf ⟨g, 0, none⟩ m m (news.map cell32) hx (by simp [hl]) ?_ ?_ (by unfold maxLen; omega) (by omega) hB ?_
  · intro j u hj
    have e : ((⟨g, 0, none⟩ : Addr).add j) = ⟨g, j, none⟩ := by unfold Addr.add; split <;> simp_all
    rw [e, cell_of_row w g j _ _ (0, 0) hrow]
    simpa using hj
  · intro u hu
    simp only [List.mem_map] at hu
    obtain ⟨b, _, rfl⟩ := hu
    rfl
  · intro v' w' h1 h2 _
    refine h v' w' ?_ (Below.grown (Below.refl _ _) h2 hB fun k hk => (World.ownsRow.lt hbuf k hk).1)
    unfold Buf32
    simpa [hl] using h1
/-- The same, as a step of a region that draws its order. -/
theorem step_append32 {w : World} {ops : Array Oper} {o : Oper} {a : Act} {K : Act → World → Prop} {Q : Exit → Act → World → Prop} {E : Prop} (hg : o.guard = none) (s x : Operand)
    (ho : o.op = .call { callee := .builtin .append, args := #[s, x], argTypes := #[62, 62] })
    (B : Nat) (v : Value) (l : List Nat) (hs : a.eval s = v) (hbuf : Buf32 w B v l) (g m : Nat) (news : List Nat) (hx : a.eval x = .slice (some ⟨g, 0, none⟩) m m) (hl : news.length = m) (hrow : Row32 w g 23 news)
    (hlen : l.length + m ≤ 1099511627776) (hB : B ≤ w.heap.size)
    (h : ∀ v' w', Buf32 w' B v' (l ++ news) → Below B w w' → K (a.put o.dst v') w') : if Region.wanted o (yielded ops a.tmps) = true then Oper.wp Tryz.prog o a w K Q else E := by
  have hw : Region.wanted o (yielded ops a.tmps) = true := by simp [Region.wanted, hg]
  rw [if_pos hw]
  obtain ⟨i0, hi, hz0, hz1, hz2⟩ := info_parts info29
  refine wp_append_own w s x 62 ho B 23 i0 (.int .u32 0) 1 4 Tryz.underlying62 hi hz0 hz1 hz2 rfl (by decide) v l.length (l.map cell32) hs hbuf ⟨g, 0, none⟩ m m (news.map cell32) hx (by simp [hl]) ?_ ?_ (by unfold maxLen; omega) (by omega) hB ?_
  · intro j u hj
    have e : ((⟨g, 0, none⟩ : Addr).add j) = ⟨g, j, none⟩ := by unfold Addr.add; split <;> simp_all
    rw [e, cell_of_row w g j _ _ (0, 0) hrow]
    simpa using hj
  · intro u hu
    simp only [List.mem_map] at hu
    obtain ⟨b, _, rfl⟩ := hu
    rfl
  · intro v' w' h1 h2 _
    refine h v' w' ?_ (Below.grown (Below.refl _ _) h2 hB fun k hk => (World.ownsRow.lt hbuf k hk).1)
    unfold Buf32
    simpa [hl] using h1

theorem rget4_any (s : ByteArray) (hs : s.size = 64) (t : Nat) (ht : t < 16) (w : World) :
    Calls Tryz.prog 56 #[.string s, .int .i64 (4 * (t : Int)), .int .i64 4] w fun e w' => e = .returned (.tuple #[.int .u64 ((wat s.data.toList t : Nat) : Int), .bool true]) ∧ w = w' := by
  have h := rGet_any s (4 * (t : Int)) 4 (by omega) (by omega) w
  have e : (4 * (t : Int)) = ((4 * t : Nat) : Int) := by omega
  rw [e] at h ⊢
  rw [getv_yes (by omega), gets_yes (by omega)] at h
  exact h
/-- The words of a block, in a new slice. -/
def WordsPost (l : List UInt8) (w : World) (e : Ending) (w' : World) : Prop := ∃ g cap, e = .returned (.slice (some ⟨g, 0, none⟩) 64 cap) ∧ 64 ≤ cap ∧ cap ≤ maxLen ∧ Seg32 w' g (ws l 64) ∧ Ext w w'

set_option maxRecDepth 100000 in
set_option maxHeartbeats 1000000 in
theorem rWords_any (s : ByteArray) (hs : s.size = 64) (w : World) :
    Calls Tryz.prog 138 #[.string s] w (WordsPost s.data.toList w) := by
  have CG := fun t ht u => rget4_any s hs t ht u
  have HG := Lib.hid CG; clear CG
  have Hs := Lib.hid hs; clear hs
  go_enter Tryz.func138, Tryz.ntmps138
  go_wp2
  go_loopw [3, 4] (fun v i wr => ∃ t : Nat, t ≤ 16 ∧ i = .int .i64 t ∧ Buf32 wr w.heap.size v (ws s.data.toList t) ∧ Ext w wr) (fun _ i _ => 16 - (intOf i).toNat)
  case atStart => exact ⟨0, Nat.zero_le _, rfl, Buf32.nil _ _, Ext.refl w⟩
  case round =>
    obtain ⟨t, ht, rfl, hbuf, hext⟩ := hrel
    by_cases hlt : t < 16
    · have hb := wat_lt s.data.toList t
      obtain ⟨x, ex⟩ : ∃ x, x = wat s.data.toList t := ⟨_, rfl⟩
      have C := HG.out t hlt
      rw [← ex] at hb C
      have E := Lib.hid ex; clear ex
      have HC := Lib.hid C; clear C
      have H2 : Hid ((ws s.data.toList t).length + 1 ≤ 1099511627776) := by rw [ws_length]; show _ ≤ _; omega
      go_wp2_with (first
        | (go_at_call 56; ((with_reducible refine (HC.out _).mono ?_); rintro e w1 ⟨rfl, rfl⟩))
        | (at_builtin; refine append32 rfl (.tmp 23) (.tmp 26) rfl w.heap.size _ _ rfl (hbuf.alloc _) wr.heap.size 1 [x] rfl rfl (Row32.one _ _ _ _ rfl) H2.out (hext.alloc _).size ?_; intro v1 w1 hbuf1 hb1; have hext1 : Ext w w1 := Below.trans (hext.alloc _) hb1; clear hb1))
      go_roundw
      case rel => exact ⟨t + 1, by omega, by go_num, by rw [ws, if_pos hlt, ← E.out]; exact hbuf1, hext1⟩
      case measure => simp [intOf]; omega
    · obtain rfl : t = 16 := by omega
      clear hlt ht
      have e16 : ((16 : Nat) : Int) = 16 := rfl
      rw [e16]
      clear e16
      go_wp2
      go_loopw [3, 7] (fun v i wr => ∃ t : Nat, 16 ≤ t ∧ t ≤ 64 ∧ i = .int .i64 t ∧ Buf32 wr w.heap.size v (ws s.data.toList t) ∧ Ext w wr) (fun _ i _ => 64 - (intOf i).toNat)
      case atStart => exact ⟨16, by omega, by omega, rfl, hbuf, hext⟩
      case round =>
        clear hbuf hext
        obtain ⟨t, h16, ht, rfl, hbuf, hext⟩ := hrel
        obtain ⟨g, cap, hv, hg, hcap, hm, hseg⟩ := hbuf.parts (by rw [ws_length]; omega)
        rw [ws_length] at hv hcap
        subst hv
        by_cases hlt : t < 64
        · have c2 := hseg.cell (t - 2) (by rw [ws_length]; omega)
          have c7 := hseg.cell (t - 7) (by rw [ws_length]; omega)
          have c15 := hseg.cell (t - 15) (by rw [ws_length]; omega)
          have c16 := hseg.cell (t - 16) (by rw [ws_length]; omega)
          have b2 := getD_lt (ws_lt s.data.toList t) (t - 2)
          have b15 := getD_lt (ws_lt s.data.toList t) (t - 15)
          have hgl := hseg.lt
          clear hseg
          obtain ⟨x2, e2⟩ : ∃ x, x = (ws s.data.toList t).getD (t - 2) 0 := ⟨_, rfl⟩
          obtain ⟨x7, e7⟩ : ∃ x, x = (ws s.data.toList t).getD (t - 7) 0 := ⟨_, rfl⟩
          obtain ⟨x15, e15⟩ : ∃ x, x = (ws s.data.toList t).getD (t - 15) 0 := ⟨_, rfl⟩
          obtain ⟨x16, e16⟩ : ∃ x, x = (ws s.data.toList t).getD (t - 16) 0 := ⟨_, rfl⟩
          rw [← e2] at c2 b2; rw [← e7] at c7; rw [← e15] at c15 b15; rw [← e16] at c16
          have E2 := Lib.hid e2; have E7 := Lib.hid e7; have E15 := Lib.hid e15; have E16 := Lib.hid e16
          clear e2 e7 e15 e16
          have v1 := sg1_int x2 b2
          have v0 := sg0_int x15 b15
          have H2 : Hid ((ws s.data.toList t).length + 1 ≤ 1099511627776) := by rw [ws_length]; show _ ≤ _; omega
          go_wp2
          go_region
          all_goals
            go_wp2_with (go_at_call 162; ((with_reducible refine (rTurn_any _ (by assumption) _ _).mono ?_); rintro e w1 ⟨rfl, rfl⟩))
          all_goals
            clear v1 v0
            have w7 : IntKind.i64.wrap ((t : Int) - 7) = (t : Int) - 7 := IntWalk.i64_in _ (by omega)
            have w16 : IntKind.i64.wrap ((t : Int) - 16) = (t : Int) - 16 := IntWalk.i64_in _ (by omega)
            have p7 : (0 : Int) ≤ (t : Int) - 7 := by omega
            have p16 : (0 : Int) ≤ (t : Int) - 16 := by omega
            have r7 : (7 : Int) ≤ (t : Int) := by omega
            have r16 : (16 : Int) ≤ (t : Int) := by omega
            have q7 : (t : Int) - 7 < (t : Int) := by omega
            have q16 : (t : Int) - 16 < (t : Int) := by omega
            have n7 : ((t : Int) - 7).toNat = t - 7 := by omega
            have n16 : ((t : Int) - 16).toNat = t - 16 := by omega
            go_region_law (refine step_append32 rfl (.tmp 58) (.tmp 74) rfl w.heap.size _ _ (by simp [Act.eval]) (hbuf.alloc _) wr.heap.size 1 [wnext (ws s.data.toList t) t] (by simp [Act.eval]) rfl (Row32.one _ _ _ _ (wnext_wrap _ _ _ _ _ _ E2.out E7.out E15.out E16.out)) H2.out (hext.alloc _).size ?_; intro v1 w1 hbuf1 hb1)
          all_goals
            have hext1 : Ext w w1 := Below.trans ((hext.alloc _).drew.drew) hb1
            clear hb1
            go_wp2
            go_roundw
            case rel => exact ⟨t + 1, by omega, by omega, by go_num, by rw [ws, if_neg (by omega)]; exact hbuf1, hext1⟩
            case measure => simp [intOf]; omega
        · obtain rfl : t = 64 := by omega
          have e64 : ((64 : Nat) : Int) = 64 := rfl
          rw [e64]
          clear e64
          go_wp2
          go_ret
          exact ⟨g, cap, rfl, hcap, hm, hseg, hext⟩
end Go.Proofs.YtdnpgmoiapkhnaaGreatDoor
end

section
namespace Go.Proofs.YtdnpgmoiapkhnaaGreatDoor
open Go.RowKit

theorem three_any (x : Nat) (hx : x < 4294967296) (a b c : Int) (w : World) :
    Calls Tryz.prog 139 #[.int .u32 (x : Int), .int .i64 a, .int .i64 b, .int .i64 c] w fun e w' => e = .returned (.int .u32 (((rot x (places a) ^^^ rot x (places b)) ^^^ rot x (places c) : Nat) : Int)) ∧ w = w' := by
  have l1 := rot_lt x (places a) hx
  have l2 := rot_lt x (places b) hx
  have l3 := rot_lt x (places c) hx
  have l4 := xor_lt32 l1 l2
  have h1 := xor32 _ _ l1 l2
  have h2 := xor32 _ _ l4 l3
  go_enter Tryz.func139, Tryz.ntmps139
  go_wp2_with (go_at_call 162; refine (rTurn_any _ hx _ _).mono ?_; rintro e w1 ⟨rfl, rfl⟩)
  go_ret
  exact ⟨rfl, rfl⟩
end Go.Proofs.YtdnpgmoiapkhnaaGreatDoor
end

section
namespace Go.Proofs.YtdnpgmoiapkhnaaGreatDoor
open Go.RowKit

theorem three1_any (x : Nat) (hx : x < 4294967296) (w : World) :
    Calls Tryz.prog 139 #[.int .u32 (x : Int), .int .i64 6, .int .i64 11, .int .i64 25] w fun e w' => e = .returned (.int .u32 ((sum1 x : Nat) : Int)) ∧ w = w' := three_any x hx 6 11 25 w
theorem three0_any (x : Nat) (hx : x < 4294967296) (w : World) :
    Calls Tryz.prog 139 #[.int .u32 (x : Int), .int .i64 2, .int .i64 13, .int .i64 22] w fun e w' => e = .returned (.int .u32 ((sum0 x : Nat) : Int)) ∧ w = w' := three_any x hx 2 13 22 w
theorem three1_q (x : Nat) (hx : x < 4294967296) (w : World) :
    Calls Tryz.prog 139 #[.int .u32 (x : Int), .int .i64 6, .int .i64 11, .int .i64 25] w fun e w' => e = .returned (.int .u32 ((sum1 x : Nat) : Int)) ∧ w' = w := (three1_any x hx w).mono fun _ _ h => ⟨h.1, h.2.symm⟩
/-- A new slice of just these numbers. -/
def NewPost (l : List Nat) (w : World) (e : Ending) (w' : World) : Prop := ∃ g, e = .returned (.slice (some ⟨g, 0, none⟩) l.length l.length) ∧ Row32 w' g 23 l ∧ w.heap.size ≤ g ∧ Ext w w'
theorem Row32.lit (w : World) (cs : Array Value) (t : TypeId) (l : List Nat) (h : cs = (l.map cell32).toArray) : Row32 (w.alloc (.cells cs t)) w.heap.size t l := by subst h; exact Row32.new w l t
set_option maxRecDepth 100000 in
theorem rK_any (w : World) : Calls Tryz.prog 137 #[] w (NewPost Kc w) := by
  go_enter Tryz.func137, Tryz.ntmps137
  go_wp2
  go_ret
  exact ⟨w.heap.size, rfl, Row32.lit w _ _ Kc rfl, Nat.le_refl _, (Ext.refl w).alloc _⟩

theorem rK64_any (w : World) : Calls Tryz.prog 137 #[] w fun e w' => ∃ g, e = .returned (.slice (some ⟨g, 0, none⟩) 64 64) ∧ Row32 w' g 23 Kc ∧ w.heap.size ≤ g ∧ Ext w w' := rK_any w
theorem seg8 {w : World} {g : Nat} {st : St} (h : Seg32 w g st.list) :
    w.cell? ⟨g, 0, none⟩ = some (.int .u32 (st.a : Nat)) ∧ w.cell? ⟨g, 1, none⟩ = some (.int .u32 (st.b : Nat)) ∧ w.cell? ⟨g, 2, none⟩ = some (.int .u32 (st.c : Nat)) ∧ w.cell? ⟨g, 3, none⟩ = some (.int .u32 (st.d : Nat)) ∧
    w.cell? ⟨g, 4, none⟩ = some (.int .u32 (st.e : Nat)) ∧ w.cell? ⟨g, 5, none⟩ = some (.int .u32 (st.f : Nat)) ∧ w.cell? ⟨g, 6, none⟩ = some (.int .u32 (st.g : Nat)) ∧ w.cell? ⟨g, 7, none⟩ = some (.int .u32 (st.h : Nat)) :=
  ⟨h.cell 0 (by simp [St.list]), h.cell 1 (by simp [St.list]), h.cell 2 (by simp [St.list]), h.cell 3 (by simp [St.list]), h.cell 4 (by simp [St.list]), h.cell 5 (by simp [St.list]), h.cell 6 (by simp [St.list]), h.cell 7 (by simp [St.list])⟩

set_option maxRecDepth 100000 in
set_option maxHeartbeats 1000000 in
theorem rstep_any (st : St) (ok : st.Ok) (s : ByteArray) (hs : s.size = 64) (g : Nat) (w : World) (hseg : Seg32 w g st.list) :
    Calls Tryz.prog 111 #[.slice (some ⟨g, 0, none⟩) 8 8, .string s] w (NewPost (stp s.data.toList st).list w) := by
  have CW := fun u => rWords_any s hs u
  have HW := Lib.hid CW; clear CW
  have Hs := Lib.hid hs; clear hs
  have hg := hseg.lt
  have HS := Lib.hid hseg; clear hseg
  obtain ⟨a, b, c, d, ee, f, gg, h⟩ := st
  go_enter Tryz.func111, Tryz.ntmps111
  go_wp2_with (first
    | (go_at_call 137; refine (rK64_any _).mono ?_; rintro e w1 ⟨gk, rfl, hK, hgk, h1⟩)
    | (go_at_call 138; refine (HW.out _).mono ?_; rintro e w2 ⟨gw, cw, rfl, hcw, hmw, hW, h2⟩))
  have hs2 := (HS.out.ext h1).ext h2
  have hK2 := hK.seg.ext h2
  have hx := h1.trans h2
  clear h1 h2 hK
  obtain ⟨k0, k1, k2, k3, k4, k5, k6, k7⟩ := seg8 hs2
  have HS2 := Lib.hid hs2; clear hs2 HS
  have HK2 := Lib.hid hK2; clear hK2
  have HW2 := Lib.hid hW; clear hW
  simp only at k0 k1 k2 k3 k4 k5 k6 k7
  go_quiet (fail)
  go_wp2
  go_quiet (fail)
  go_wp2
  clear k0 k1 k2 k3 k4 k5 k6 k7
  go_loopw [7, 8, 9, 10, 11, 12, 13, 14, 15] (fun va vb vc vd ve vf vg vh i wr => ∃ (t : Nat) (s2 : St), t ≤ 64 ∧ i = .int .i64 t ∧ s2 = rnds (ws s.data.toList 64) ⟨a, b, c, d, ee, f, gg, h⟩ t ∧ va = .int .u32 (s2.a : Int) ∧ vb = .int .u32 (s2.b : Int) ∧ vc = .int .u32 (s2.c : Int) ∧ vd = .int .u32 (s2.d : Int) ∧ ve = .int .u32 (s2.e : Int) ∧ vf = .int .u32 (s2.f : Int) ∧ vg = .int .u32 (s2.g : Int) ∧ vh = .int .u32 (s2.h : Int) ∧ Ext w2 wr) (fun _ _ _ _ _ _ _ _ i _ => 64 - (intOf i).toNat)
  case atStart => exact ⟨0, _, Nat.zero_le _, rfl, rfl, rfl, rfl, rfl, rfl, rfl, rfl, rfl, rfl, by first | exact (Ext.refl _).drewN _ | exact ((Ext.refl _).drewN _).drewN _⟩
  case round =>
    obtain ⟨t, ⟨a2, b2, c2, d2, e2, f2, g2, h2⟩, ht, rfl, hs3, rfl, rfl, rfl, rfl, rfl, rfl, rfl, rfl, hext⟩ := hrel
    have ok2 := rnds_ok ok (ws s.data.toList 64) t
    rw [← hs3] at ok2
    have HS3 := Lib.hid hs3; clear hs3
    have OK2 := Lib.hid ok2
    obtain ⟨o1, o2, o3, o4, o5, o6, o7, o8⟩ := ok2
    simp only at o1 o2 o3 o4 o5 o6 o7 o8
    by_cases hlt : t < 64
    · have hk := (HK2.out.ext hext).cell t (by rw [Kc_length]; exact hlt)
      have hw := (HW2.out.ext hext).cell t (by rw [ws_length]; exact hlt)
      have hgk := (HK2.out.ext hext).lt
      have hgw := (HW2.out.ext hext).lt
      obtain ⟨k, ek⟩ : ∃ k, k = Kc.getD t 0 := ⟨_, rfl⟩
      obtain ⟨x, ew⟩ : ∃ x, x = (ws s.data.toList 64).getD t 0 := ⟨_, rfl⟩
      rw [← ek] at hk; rw [← ew] at hw
      have EK := Lib.hid ek; have EW := Lib.hid ew; clear ek ew
      have hd : decide ((t : Int) < 64) = true := by simp; omega
      go_wp2_with fail
      go_quiet ((go_at_call 139; exact Calls.quiet_of_same (three1_q _ o5 _)))
      go_wp2_with (go_at_call 139; ((with_reducible refine (three0_any _ o1 _).mono ?_); rintro e w3 ⟨rfl, rfl⟩))
      go_roundw
      case rel =>
        refine ⟨t + 1, rnd ⟨a2, b2, c2, d2, e2, f2, g2, h2⟩ k x, by omega, by go_num, ?_, int_eq (rnd_a ⟨a2, b2, c2, d2, e2, f2, g2, h2⟩ OK2.out k x), rfl, rfl, rfl, int_eq (rnd_e ⟨a2, b2, c2, d2, e2, f2, g2, h2⟩ OK2.out k x), rfl, rfl, rfl, hext.drewN _⟩
        rw [rnds, ← HS3.out, ← EK.out, ← EW.out]
      case measure => simp [intOf]; omega
    · obtain rfl : t = 64 := by omega
      obtain ⟨k0, k1, k2, k3, k4, k5, k6, k7⟩ := seg8 (HS2.out.ext hext)
      simp only at k0 k1 k2 k3 k4 k5 k6 k7
      have hd : decide (((64 : Nat) : Int) < 64) = false := rfl
      have hgl := (HS2.out.ext hext).lt
      have e64 : ((64 : Nat) : Int) = 64 := rfl
      rw [e64] at hd ⊢
      clear e64
      have hx5 : Ext w wr.drew := (hx.trans hext).drew
      have hp := stp_eq s.data.toList ⟨a, b, c, d, ee, f, gg, h⟩ _ HS3.out
      have HP := Lib.hid hp; clear hp
      go_wp2_with fail
      go_still_tail 40, (by kernel_rfl)
      change wpList _ _ _ _ _ wr.drew
      generalize wr.drew = w4 at hx5 ⊢
      go_wp2
      go_ret
      exact ⟨w4.heap.size, by rw [HP.out]; rfl, by rw [HP.out]; exact Row32.lit w4 _ _ _ (by simp [St.list, plus, cell32]), hx5.size, hx5.alloc _⟩
end Go.Proofs.YtdnpgmoiapkhnaaGreatDoor
end

section
namespace Go.Proofs.YtdnpgmoiapkhnaaGreatDoor
open Go.RowKit

theorem rput8 (n : Nat) (hn : n ≤ 1099511627776) (w : World) : Calls Tryz.prog 52 #[.int .u64 (8 * (n : Int)), .int .i64 8] w fun e w' => e = .returned (.string ⟨(be 8 (8 * n)).toArray⟩) ∧ Ext w w' := by
  have := rPut_any (8 * n) (show _ < _ by omega) 8 (by omega) w
  have e : ((8 * n : Nat) : Int) = 8 * (n : Int) := by omega
  rw [e] at this
  exact this
theorem rput4 (n : Nat) (hn : n < 4294967296) (w : World) : Calls Tryz.prog 52 #[.int .u64 (n : Int), .int .i64 4] w fun e w' => e = .returned (.string ⟨(be 4 n).toArray⟩) ∧ Ext w w' :=
  rPut_any n (show _ < _ by omega) 4 (by omega) w

set_option maxRecDepth 100000 in
set_option maxHeartbeats 1000000 in
theorem rOf_any (s : ByteArray) (hs : s.size ≤ 1099511627776) (w : World) :
    Calls Tryz.prog 90 #[.string s] w fun e w' => e = .returned (.string ⟨(shaL s.data.toList).toArray⟩) ∧ Ext w w' := by
  have hz := zeros_le s.size
  have hp0 := PD_zero s
  go_enter Tryz.func90, Tryz.ntmps90
  go_wp2_with fail
  go_loop [3] (fun p => RP s p) (fun p => s.size + 1 + zeros s.size - strLen p)
  case atStart => exact ⟨0, Nat.zero_le _, rfl⟩
  case round =>
    clear hp0
    obtain ⟨j, hj, rfl⟩ := hrel
    have hsz := PD_size s j
    have hp1 := PD_succ s j
    have hb1 : (PD s j).size ≤ 1099511627776 + 64 := by omega
    have hb2 : (PD s (j + 1)).size = s.size + 1 + (j + 1) := PD_size s (j + 1)
    have Hsz := Lib.hid hsz; have Hb2 := Lib.hid hb2; clear hsz hb2
    by_cases hlt : j < zeros s.size
    · have hne := pad_step s.size j hlt
      have ht : (((PD s j).size : Int) % 64 != 56) = true := by rw [Hsz.out]; simp; omega
      have HN := Lib.hid hne; clear hne
      go_wp2_with fail
      go_round
      case rel => exact ⟨j + 1, hlt, rfl⟩
      case measure => simp only [strLen]; rw [Hb2.out, Hsz.out]; omega
    · obtain rfl : j = zeros s.size := by omega
      have ht : (((PD s (zeros s.size)).size : Int) % 64 != 56) = false := by rw [Hsz.out]; have := pad_end s.size; simp; omega
      have hpe := PAD_eq s
      have hps := PAD_size s
      clear hp1
      have hbl : (be 8 (8 * s.size)).length = 8 := be_length _ _
      go_wp2_with (go_at_call 52; ((with_reducible refine (rput8 s.size hs _).mono ?_); rintro e w1 ⟨rfl, h1⟩))
      clear hpe ht hb1 Hb2 Hsz hj hbl
      have hw : 64 * (((PAD s).size) / 64) = (PAD s).size := by have := pad_whole s.size; omega
      obtain ⟨N, hN⟩ : ∃ N, N = (PAD s).size / 64 := ⟨_, rfl⟩
      rw [← hN] at hw
      have hps2 : (PAD s).size ≤ 1099511627776 + 100 := by omega
      have hd : (PAD s).data.toList = pad s.data.toList := rfl
      have hfin : shaL s.data.toList = txt (folds N (pad s.data.toList) init) := by
        have : N = (s.data.toList.length + zeros s.data.toList.length + 9) / 64 := by rw [hN, hps, size_list]
        rw [this]; rfl
      have HW := Lib.hid hw; have HF := Lib.hid hfin; have HD := Lib.hid hd
      have hw1 : (PAD s).size = 64 * N := hw.symm
      clear hps hN hw hfin hd
      have HW1 := Lib.hid hw1; clear hw1
      generalize PAD s = P at *
      go_loopw [4, 5] (fun v i wr => ∃ (k : Nat) (g : Nat), k ≤ N ∧ i = .int .i64 (64 * (k : Int)) ∧ v = .slice (some ⟨g, 0, none⟩) 8 8 ∧ Row32 wr g 23 (folds k (pad s.data.toList) init).list ∧ Ext w wr) (fun _ i _ => 64 * N - (intOf i).toNat)
      case atStart => exact ⟨0, _, Nat.zero_le _, rfl, rfl, Row32.lit _ _ _ _ rfl, h1.alloc _⟩
      case round =>
        clear h1
        obtain ⟨k, g, hk, rfl, rfl, hrow, hext⟩ := hrel
        have hok := folds_ok k (pad s.data.toList) init_ok
        have hseg := hrow.seg
        have hf := pad_folds (pad s.data.toList) k
        have HO := Lib.hid hok; have HS := Lib.hid hseg; have HR := Lib.hid hrow; have HFF := Lib.hid hf
        clear hok hseg hrow hf
        by_cases hlt : k < N
        · have hq : 64 * k + 64 ≤ P.size := by rw [HW1.out]; omega
          have hq2 : ((64 * k : Nat) : Int) < (P.size : Int) := by omega
          have hsz : (P.extract (64 * k) (64 * k + 64)).size = 64 := by rw [ByteArray.size_extract]; omega
          have hdt : (P.extract (64 * k) (64 * k + 64)).data.toList = ((pad s.data.toList).drop (64 * k)).take 64 := by
            rw [Lib.extract_data, HD.out]; congr 1; omega
          have C := fun u h => rstep_any _ HO.out (P.extract (64 * k) (64 * k + 64)) hsz g u h
          rw [hdt, ← HFF.out] at C
          have HC := Lib.hid C; clear C hdt hsz
          go_wp2_with (go_at_call 111; refine (HC.out _ HS.out).mono ?_; rintro e w2 ⟨g2, he, hr2, _, h2⟩; obtain rfl : e = .returned (.slice (some ⟨g2, 0, none⟩) 8 8) := he)
          go_roundw
          case rel => exact ⟨k + 1, g2, hlt, int_eq (by omega), rfl, hr2, hext.trans h2⟩
          case measure => simp [intOf]; omega
        · obtain rfl : k = N := by omega
          have hq2 : (P.size : Int) ≤ 64 * (k : Int) := by have := HW1.out; omega
          have hF := HF.out
          obtain ⟨S, hS⟩ : ∃ S, S = folds k (pad s.data.toList) init := ⟨_, rfl⟩
          rw [← hS] at HO HS hF
          have HF2 := Lib.hid hF; clear hF
          clear hS HFF HR HF HD HW HW1
          go_wp2_with fail
          clear hq2
          go_loopw [6, 7] (fun p i wr2 => ∃ n : Nat, n ≤ 8 ∧ i = .int .i64 n ∧ p = .string ⟨(cat S.list n).toArray⟩ ∧ Ext wr wr2) (fun _ i _ => 8 - (intOf i).toNat)
          case atStart => exact ⟨0, by omega, rfl, rfl, Ext.refl _⟩
          case round =>
            obtain ⟨n, hn, rfl, rfl, hext3⟩ := hrel
            by_cases hlt8 : n < 8
            · have hc := (HS.out.ext hext3).cell n (by rw [list_slot]; exact hlt8)
              have hgl := (HS.out.ext hext3).lt
              have hx := getD_lt (l := S.list) (list_lt HO.out) n
              have hs1 := cat_succ S.list n (by rw [list_slot]; exact hlt8)
              obtain ⟨x, ex⟩ : ∃ x, x = S.list.getD n 0 := ⟨_, rfl⟩
              rw [← ex] at hc hx hs1
              clear ex
              have hs2 : (⟨(cat S.list n).toArray⟩ : ByteArray) ++ ⟨(be 4 x).toArray⟩ = ⟨(cat S.list (n + 1)).toArray⟩ := by rw [str_append, hs1]
              have hl1 := cat_length S.list n
              have hl2 : (be 4 x).length = 4 := be_length _ _
              have hl3 : (⟨(cat S.list n).toArray⟩ : ByteArray).size ≤ 4 * n := by rw [txt_size]; exact hl1
              have H3 := Lib.hid hext3
              clear hs1 hext3
              have HL3 := Lib.hid hl3; clear hl3
              go_wp2_with (go_at_call 52; ((with_reducible refine (rput4 x hx _).mono ?_); rintro e w3 ⟨rfl, h3⟩))
              go_roundw
              case rel => exact ⟨n + 1, hlt8, by go_num, by first | rfl | rw [hs2], H3.out.trans h3⟩
              case measure => simp [intOf]; omega
            · obtain rfl : n = 8 := by omega
              have e8 : ((8 : Nat) : Int) = 8 := rfl
              rw [e8, cat_all]
              clear e8
              go_wp2_with fail
              go_ret
              exact ⟨by rw [HF2.out]; rfl, hext.trans hext3⟩
end Go.Proofs.YtdnpgmoiapkhnaaGreatDoor
end

section
namespace Go.Proofs.YtdnpgmoiapkhnaaGreatDoor
open Go.RowKit

theorem blockL_at (K : ByteArray) (k : List UInt8) (h : K.data.toList = keyL k) (j : Nat) (hj : j < 64) : (blockL k)[j]? = some (if hlt : j < K.size then K[j] else 0) := by
  unfold blockL
  rw [← h]
  by_cases hlt : j < K.size
  · rw [dif_pos hlt, List.getElem?_append_left (by rw [size_list]; exact hlt), byte_at K j hlt]
  · rw [dif_neg hlt, List.getElem?_append_right (by rw [size_list]; omega), List.getElem?_replicate, if_pos (by rw [size_list]; omega)]
theorem mix_text (k : List UInt8) (c : UInt8) : xorL (⟨(blockL k).toArray⟩ : ByteArray).data.toList (⟨(List.replicate 64 c).toArray⟩ : ByteArray).data.toList = mixL k c := by simp [mixL]
theorem rmix (k : List UInt8) (c : UInt8) (w : World) : Calls Tryz.prog 77 #[.string ⟨(blockL k).toArray⟩, .string ⟨Array.replicate 64 c⟩] w fun e w' => e = .returned (.string ⟨(mixL k c).toArray⟩) ∧ Ext w w' := by
  have h := rXor_yes ⟨(blockL k).toArray⟩ ⟨(List.replicate 64 c).toArray⟩ (by rw [txt_size, txt_size, blockL_length, List.length_replicate]) (by rw [txt_size, blockL_length]; decide) w
  rw [mix_text] at h
  simpa only [List.toArray_replicate] using h
theorem rep_take (c : UInt8) (j : Nat) (h : j < 64) : (List.replicate 64 c)[j]? = some c := by rw [List.getElem?_replicate, if_pos h]

set_option maxRecDepth 100000 in
set_option maxHeartbeats 2000000 in
theorem rblock_any (key : ByteArray) (hk : key.size ≤ 1099511627776) (c : UInt8) (w : World) :
    Calls Tryz.prog 91 #[.string key, .int .u8 (c.toNat : Int)] w fun e w' => e = .returned (.string ⟨(mixL key.data.toList c).toArray⟩) ∧ Ext w w' := by
  have hmk := make_bytes 64 (by omega)
  have e64 : ((64 : Nat) : Int) = 64 := rfl
  rw [e64] at hmk
  clear e64
  by_cases hlong : 64 < key.size
  · have hK : (⟨(shaL key.data.toList).toArray⟩ : ByteArray).data.toList = keyL key.data.toList := by unfold keyL; rw [if_pos (by rw [size_list]; exact hlong)]
    have hKs : (⟨(shaL key.data.toList).toArray⟩ : ByteArray).size = 32 := by rw [txt_size, shaL_length]
    have HS := Lib.hid (rOf_any key hk)
    generalize (⟨(shaL key.data.toList).toArray⟩ : ByteArray) = K at *
    obtain ⟨k, ek⟩ : ∃ k, k = key.data.toList := ⟨_, rfl⟩
    rw [← ek] at hK ⊢
    clear ek
    go_enter Tryz.func91, Tryz.ntmps91
    go_wp2_with (go_at_call 90; refine (HS.out _).mono ?_; rintro e w1 ⟨rfl, hx⟩)
    go_loopw [6] (fun i wr => ∃ j : Nat, j ≤ 64 ∧ i = .int .i64 j ∧ Row wr w1.heap.size 5 ((blockL k).take j ++ List.replicate (64 - j) 0) ∧ Ext w wr) (fun i _ => 64 - (intOf i).toNat)
    case atStart => exact ⟨0, Nat.zero_le _, rfl, by simpa using Row.made w1 5 64, hx.alloc _⟩
    case round =>
      obtain ⟨j, hj, rfl, hrow, hext⟩ := hrel
      by_cases hlt : j < 64
      · have hc := fill_cell hrow (blockL_length k) hlt
        have hf := hrow.frozen j
        have hat := blockL_at K k hK j hlt
        by_cases hin : j < K.size
        · rw [dif_pos hin] at hat
          have HAT := Lib.hid hat; clear hat
          go_wp2
          go_roundw
          case rel => exact ⟨j + 1, hlt, by go_num, fill_step hrow (blockL_length k) hlt _ _ HAT.out rfl, hext.setCell (Nat.le_trans hx.size (Nat.le_refl _)) _⟩
          case measure => simp [intOf]; omega
        · rw [dif_neg hin] at hat
          have HAT := Lib.hid hat; clear hat
          go_wp2
          go_roundw
          case rel => exact ⟨j + 1, hlt, by go_num, fill_step hrow (blockL_length k) hlt _ _ HAT.out rfl, hext.setCell (Nat.le_trans hx.size (Nat.le_refl _)) _⟩
          case measure => simp [intOf]; omega
      · obtain rfl : j = 64 := by omega
        have hrow1 := fill_done hrow (blockL_length k)
        have HR1 := Lib.hid hrow1
        clear hrow hrow1
        have hszr := hext.size
        go_wp2
        go_loopw [9] (fun i wr2 => ∃ j : Nat, j ≤ 64 ∧ i = .int .i64 j ∧ Row wr2 wr.heap.size 5 ((List.replicate 64 c).take j ++ List.replicate (64 - j) 0) ∧ Ext wr wr2) (fun i _ => 64 - (intOf i).toNat)
        case atStart => exact ⟨0, Nat.zero_le _, rfl, by simpa using Row.made wr 5 64, (Ext.refl wr).alloc _⟩
        case round =>
          obtain ⟨j, hj, rfl, hrow, hext2⟩ := hrel
          by_cases hlt : j < 64
          · have hc := fill_cell hrow (List.length_replicate) hlt
            have hf := hrow.frozen j
            go_wp2
            go_roundw
            case rel => exact ⟨j + 1, hlt, by go_num, fill_step hrow (List.length_replicate) hlt _ _ (rep_take c j hlt) rfl, hext2.setCell (Nat.le_refl _) _⟩
            case measure => simp [intOf]; omega
          · obtain rfl : j = 64 := by omega
            have ht1 := (HR1.out.ext hext2).text (P := Tryz.prog) 53 5 9 Tryz.underlying53 Tryz.underlying5 Tryz.underlying9 64 64 (blockL_length k)
            have ht2 := (fill_done hrow (List.length_replicate)).text (P := Tryz.prog) 53 5 9 Tryz.underlying53 Tryz.underlying5 Tryz.underlying9 64 64 (List.length_replicate)
            simp only [List.toArray_replicate] at ht2
            clear hrow
            go_wp2_with (go_at_call 77; refine (rmix k c _).mono ?_; rintro e w4 ⟨rfl, h4⟩)
            go_ret
            exact ⟨rfl, (hext.trans hext2).trans h4⟩
  · have hK0 : key.data.toList = keyL key.data.toList := by unfold keyL; rw [if_neg (by rw [size_list]; exact hlong)]
    have hK1 : ∀ k, k = key.data.toList → key.data.toList = keyL k := by rintro k rfl; exact hK0
    obtain ⟨k, ek⟩ : ∃ k, k = key.data.toList := ⟨_, rfl⟩
    have hK := hK1 k ek
    rw [← ek]
    clear ek hK0 hK1
    have hx : Ext w w := Ext.refl w
    generalize key = K at *
    go_enter Tryz.func91, Tryz.ntmps91
    go_wp2
    go_loopw [6] (fun i wr => ∃ j : Nat, j ≤ 64 ∧ i = .int .i64 j ∧ Row wr w.heap.size 5 ((blockL k).take j ++ List.replicate (64 - j) 0) ∧ Ext w wr) (fun i _ => 64 - (intOf i).toNat)
    case atStart => exact ⟨0, Nat.zero_le _, rfl, by simpa using Row.made w 5 64, hx.alloc _⟩
    case round =>
      obtain ⟨j, hj, rfl, hrow, hext⟩ := hrel
      by_cases hlt : j < 64
      · have hc := fill_cell hrow (blockL_length k) hlt
        have hf := hrow.frozen j
        have hat := blockL_at K k hK j hlt
        by_cases hin : j < K.size
        · rw [dif_pos hin] at hat
          have HAT := Lib.hid hat; clear hat
          go_wp2
          go_roundw
          case rel => exact ⟨j + 1, hlt, by go_num, fill_step hrow (blockL_length k) hlt _ _ HAT.out rfl, hext.setCell (Nat.le_trans hx.size (Nat.le_refl _)) _⟩
          case measure => simp [intOf]; omega
        · rw [dif_neg hin] at hat
          have HAT := Lib.hid hat; clear hat
          go_wp2
          go_roundw
          case rel => exact ⟨j + 1, hlt, by go_num, fill_step hrow (blockL_length k) hlt _ _ HAT.out rfl, hext.setCell (Nat.le_trans hx.size (Nat.le_refl _)) _⟩
          case measure => simp [intOf]; omega
      · obtain rfl : j = 64 := by omega
        have hrow1 := fill_done hrow (blockL_length k)
        have HR1 := Lib.hid hrow1
        clear hrow hrow1
        have hszr := hext.size
        go_wp2
        go_loopw [9] (fun i wr2 => ∃ j : Nat, j ≤ 64 ∧ i = .int .i64 j ∧ Row wr2 wr.heap.size 5 ((List.replicate 64 c).take j ++ List.replicate (64 - j) 0) ∧ Ext wr wr2) (fun i _ => 64 - (intOf i).toNat)
        case atStart => exact ⟨0, Nat.zero_le _, rfl, by simpa using Row.made wr 5 64, (Ext.refl wr).alloc _⟩
        case round =>
          obtain ⟨j, hj, rfl, hrow, hext2⟩ := hrel
          by_cases hlt : j < 64
          · have hc := fill_cell hrow (List.length_replicate) hlt
            have hf := hrow.frozen j
            go_wp2
            go_roundw
            case rel => exact ⟨j + 1, hlt, by go_num, fill_step hrow (List.length_replicate) hlt _ _ (rep_take c j hlt) rfl, hext2.setCell (Nat.le_refl _) _⟩
            case measure => simp [intOf]; omega
          · obtain rfl : j = 64 := by omega
            have ht1 := (HR1.out.ext hext2).text (P := Tryz.prog) 53 5 9 Tryz.underlying53 Tryz.underlying5 Tryz.underlying9 64 64 (blockL_length k)
            have ht2 := (fill_done hrow (List.length_replicate)).text (P := Tryz.prog) 53 5 9 Tryz.underlying53 Tryz.underlying5 Tryz.underlying9 64 64 (List.length_replicate)
            simp only [List.toArray_replicate] at ht2
            clear hrow
            go_wp2_with (go_at_call 77; refine (rmix k c _).mono ?_; rintro e w4 ⟨rfl, h4⟩)
            go_ret
            exact ⟨rfl, (hext.trans hext2).trans h4⟩

theorem rmac_in (k s : ByteArray) (c : UInt8) : (⟨(mixL k.data.toList c).toArray⟩ : ByteArray) ++ s = ⟨(mixL k.data.toList c ++ s.data.toList).toArray⟩ := by
  have : s = ⟨s.data.toList.toArray⟩ := rfl
  conv => lhs; rw [this]
  exact str_append _ _
theorem rOf_list (l : List UInt8) (hl : l.length ≤ 1099511627776) (w : World) :
    Calls Tryz.prog 90 #[.string ⟨l.toArray⟩] w fun e w' => e = .returned (.string ⟨(shaL l).toArray⟩) ∧ Ext w w' := by
  have := rOf_any ⟨l.toArray⟩ (by rw [txt_size]; exact hl) w
  simpa using this
set_option maxRecDepth 100000 in
theorem rMac_any (key s : ByteArray) (hk : key.size ≤ 1099511627776) (hs : s.size ≤ 549755813888) (w : World) :
    Calls Tryz.prog 68 #[.string key, .string s] w fun e w' => e = .returned (.string ⟨(macL key.data.toList s.data.toList).toArray⟩) ∧ Ext w w' := by
  have HB1 := Lib.hid (show ∀ u : World, Calls Tryz.prog 91 #[.string key, .int .u8 92] u fun e w' => e = .returned (.string ⟨(mixL key.data.toList 92).toArray⟩) ∧ Ext u w' from fun u => rblock_any key hk 92 u)
  have HB2 := Lib.hid (show ∀ u : World, Calls Tryz.prog 91 #[.string key, .int .u8 54] u fun e w' => e = .returned (.string ⟨(mixL key.data.toList 54).toArray⟩) ∧ Ext u w' from fun u => rblock_any key hk 54 u)
  have H1 := rmac_in key s 54
  have l1 : (mixL key.data.toList 54).length = 64 := mixL_length _ _
  have l2 : (mixL key.data.toList 92).length = 64 := mixL_length _ _
  have z1 : (⟨(mixL key.data.toList 54).toArray⟩ : ByteArray).size = 64 := by rw [txt_size, l1]
  have z2 : (⟨(mixL key.data.toList 92).toArray⟩ : ByteArray).size = 64 := by rw [txt_size, l2]
  have z3 : (⟨(shaL (mixL key.data.toList 54 ++ s.data.toList)).toArray⟩ : ByteArray).size = 32 := by rw [txt_size, shaL_length]
  have R1 := Lib.hid (rOf_list (mixL key.data.toList 54 ++ s.data.toList) (by rw [List.length_append, l1, size_list]; omega))
  have R2 := Lib.hid (rOf_list (mixL key.data.toList 92 ++ shaL (mixL key.data.toList 54 ++ s.data.toList)) (by rw [List.length_append, l2, shaL_length]; decide))
  have e2 : (⟨(mixL key.data.toList 92).toArray⟩ : ByteArray) ++ ⟨(shaL (mixL key.data.toList 54 ++ s.data.toList)).toArray⟩ = ⟨(mixL key.data.toList 92 ++ shaL (mixL key.data.toList 54 ++ s.data.toList)).toArray⟩ := str_append _ _
  have HE := Lib.hid (macL_eq key.data.toList s.data.toList)
  have H1' := Lib.hid H1
  have E2 := Lib.hid e2
  clear H1 e2 l1 l2
  generalize (⟨(mixL key.data.toList 54).toArray⟩ : ByteArray) = A1 at *
  generalize (⟨(mixL key.data.toList 92).toArray⟩ : ByteArray) = A2 at *
  generalize (⟨(shaL (mixL key.data.toList 54 ++ s.data.toList)).toArray⟩ : ByteArray) = A3 at *
  rw [← H1'.out] at R1
  rw [← E2.out, ← HE.out] at R2
  clear H1' E2 HE
  go_enter Tryz.func68, Tryz.ntmps68
  go_wp2_with (first
    | (go_at_call 91; ((with_reducible refine (HB1.out _).mono ?_); rintro e w1 ⟨rfl, h1⟩))
    | (go_at_call 91; ((with_reducible refine (HB2.out _).mono ?_); rintro e w2 ⟨rfl, h2⟩))
    | (go_at_call 90; ((with_reducible refine (R1.out _).mono ?_); rintro e w3 ⟨rfl, h3⟩))
    | (go_at_call 90; ((with_reducible refine (R2.out _).mono ?_); rintro e w4 ⟨rfl, h4⟩)))
  go_ret
  exact ⟨rfl, ((h1.trans h2).trans h3).trans h4⟩
end Go.Proofs.YtdnpgmoiapkhnaaGreatDoor
end

section
namespace Go.Proofs.YtdnpgmoiapkhnaaGreatDoor
open Go.RowKit

theorem text_add (a : List UInt8) (s : ByteArray) : (⟨a.toArray⟩ : ByteArray) ++ s = ⟨(a ++ s.data.toList).toArray⟩ := by
  have : s = ⟨s.data.toList.toArray⟩ := rfl
  conv => lhs; rw [this]
  exact str_append _ _
theorem one_text2 (x : Int) (b : UInt8) (hx : x = (b.toNat : Int)) (t : TypeId) (u : World) : (convert 53 9 (.slice (some ⟨u.heap.size, 0, none⟩) 1 1)).run Tryz.prog (u.alloc (.cells #[.int .u8 x] t)) = .ok (.string ⟨#[b]⟩) (u.alloc (.cells #[.int .u8 x] t)) := by
  subst hx
  have hr : Row (u.alloc (.cells #[.int .u8 (b.toNat : Int)] t)) u.heap.size t [b] := heap_alloc_new u _
  exact hr.text (P := Tryz.prog) 53 5 9 Tryz.underlying53 Tryz.underlying5 Tryz.underlying9 1 1 rfl
end Go.Proofs.YtdnpgmoiapkhnaaGreatDoor
end

section
namespace Go.Proofs.YtdnpgmoiapkhnaaGreatDoor
open Go.RowKit

theorem rder_no (key label : ByteArray) (n : Int) (w : World) (h : n < 1 ∨ 8160 < n) :
    Calls Tryz.prog 43 #[.string key, .string label, .int .i64 n] w fun e w' => e = .returned (.string ⟨#[]⟩) ∧ Ext w w' := by
  go_enter Tryz.func43, Tryz.ntmps43
  rcases h with h | h
  · go_wp2
    go_ret
    exact ⟨rfl, Ext.refl w⟩
  · by_cases h0 : n < 1
    · omega
    · go_wp2
      go_ret
      exact ⟨rfl, Ext.refl w⟩
/-- The next tag, by the reference. -/
theorem rtag_next (u : World) (key label : ByteArray) (j : Nat) (b : UInt8) (hb : b = UInt8.ofNat (j + 1)) (hk : key.size ≤ 1099511627776) (hl : label.size ≤ 137438953472) :
    Calls Tryz.prog 68 #[.string key, .string ((⟨(tagL key.data.toList label.data.toList j).toArray⟩ : ByteArray) ++ label ++ ⟨#[b]⟩)] u fun e w' => e = .returned (.string ⟨(tagL key.data.toList label.data.toList (j + 1)).toArray⟩) ∧ Ext u w' := by
  subst hb
  have hle := tagL_le key.data.toList label.data.toList j
  have e1 : ((⟨(tagL key.data.toList label.data.toList j).toArray⟩ : ByteArray) ++ label ++ ⟨#[UInt8.ofNat (j + 1)]⟩) = ⟨(tagL key.data.toList label.data.toList j ++ label.data.toList ++ [UInt8.ofNat (j + 1)]).toArray⟩ := by
    rw [text_add, text_add]
  have h := rMac_any key ⟨(tagL key.data.toList label.data.toList j ++ label.data.toList ++ [UInt8.ofNat (j + 1)]).toArray⟩ hk (by rw [txt_size]; simp only [List.length_append, List.length_singleton, size_list]; omega) u
  rw [e1]
  have e2 : (⟨(tagL key.data.toList label.data.toList j ++ label.data.toList ++ [UInt8.ofNat (j + 1)]).toArray⟩ : ByteArray).data.toList = tagL key.data.toList label.data.toList j ++ label.data.toList ++ [UInt8.ofNat (j + 1)] := by simp
  rw [e2, ← tagL_succ] at h
  exact h
set_option maxRecDepth 100000 in
set_option maxHeartbeats 1000000 in
theorem rder_yes (key label : ByteArray) (n : Nat) (w : World) (hk : key.size ≤ 1099511627776) (hl : label.size ≤ 137438953472) (h1 : 1 ≤ n) (h2 : n ≤ 8160) :
    Calls Tryz.prog 43 #[.string key, .string label, .int .i64 (n : Int)] w fun e w' => e = .returned (.string ⟨(derL key.data.toList label.data.toList n).toArray⟩) ∧ Ext w w' := by
  have HT := Lib.hid (fun u j b (hb : b = UInt8.ofNat (j + 1)) => rtag_next u key label j b hb hk hl)
  have HL := Lib.hid (fun j => rowL_succ key.data.toList label.data.toList j)
  have HD := Lib.hid (fun j (h : n ≤ 32 * j) (hj : j ≤ 255) => derL_of key.data.toList label.data.toList n j h hj)
  have HZ := Lib.hid (fun j => rowL_length key.data.toList label.data.toList j)
  have HY := Lib.hid (fun j => tagL_length key.data.toList label.data.toList j)
  have HX := Lib.hid (fun j => tagL_le key.data.toList label.data.toList j)
  generalize derL key.data.toList label.data.toList n = D at *
  have T0 := Lib.hid (show tagL key.data.toList label.data.toList 0 = [] from rfl)
  have R0 := Lib.hid (show rowL key.data.toList label.data.toList 0 = [] from rfl)
  generalize tagL key.data.toList label.data.toList = T at *
  generalize rowL key.data.toList label.data.toList = R at *
  go_enter Tryz.func43, Tryz.ntmps43
  go_wp2
  go_loopw [7, 8, 9] (fun all t i wr => ∃ j : Nat, j ≤ 255 ∧ all = .string ⟨(R j).toArray⟩ ∧ t = .string ⟨(T j).toArray⟩ ∧ i = .int .i64 (j + 1 : Nat) ∧ Ext w wr) (fun _ _ i _ => 256 - (intOf i).toNat)
  case atStart => exact ⟨0, by omega, by rw [R0.out], by rw [T0.out], rfl, Ext.refl w⟩
  case round =>
    obtain ⟨j, hj, rfl, rfl, rfl, hext⟩ := hrel
    have hz : (⟨(R j).toArray⟩ : ByteArray).size = 32 * j := by rw [txt_size, HZ.out]
    by_cases hlt : 32 * j < n
    · have hy : (⟨(T (j + 1)).toArray⟩ : ByteArray).size = 32 := by rw [txt_size, HY.out]
      have hx : (⟨(T j).toArray⟩ : ByteArray).size ≤ 32 := by rw [txt_size]; exact HX.out j
      have hr : (⟨(R j).toArray⟩ : ByteArray) ++ ⟨(T (j + 1)).toArray⟩ = ⟨(R (j + 1)).toArray⟩ := by rw [str_append, HL.out j]
      obtain ⟨b, eb⟩ : ∃ b, b = UInt8.ofNat (j + 1) := ⟨_, rfl⟩
      have hcv := fun t u => one_text2 ((j : Int) + 1) b (by rw [eb]; simp; omega) t u
      have HN := Lib.hid (fun u => HT.out u j b eb)
      obtain ⟨T2, e2⟩ : ∃ x, (⟨(T (j + 1)).toArray⟩ : ByteArray) = x := ⟨_, rfl⟩
      rw [e2] at HN hy hr
      have Hr := Lib.hid hr; have E2 := Lib.hid e2; have HE := Lib.hid hext
      clear eb hr e2 hext
      generalize (⟨(T j).toArray⟩ : ByteArray) = T1 at *
      go_wp2_with (go_at_call 68; refine (HN.out _).mono ?_; rintro e w1 ⟨rfl, h3⟩)
      go_roundw
      case rel => exact ⟨j + 1, by omega, by rw [← Hr.out], by rw [E2.out], by go_num, (HE.out.alloc _).trans h3⟩
      case measure => simp [intOf]; omega
    · have hd := HD.out j (by omega) hj
      have hc := cut_text (R j) n
      have hnj : n ≤ 32 * j := by omega
      have HDc := Lib.hid (hd.trans rfl); have HC := Lib.hid hc
      clear hd hc
      generalize (⟨(R j).toArray⟩ : ByteArray) = R1 at *
      go_wp2
      go_ret
      exact ⟨by rw [HDc.out, ← HC.out]; rfl, hext⟩
end Go.Proofs.YtdnpgmoiapkhnaaGreatDoor
end

section
namespace Go.Proofs.YtdnpgmoiapkhnaaGreatDoor
open Go.RowKit
attribute [local irreducible] kd

theorem good_at {L : List (Nat × ByteArray)} (hG : GoodK L) {e : Nat} {s : ByteArray} (hm : (e, s) ∈ L) : ∃ k, k < 64 ∧ L[k]? = some (e, s) ∧ ∀ i x, i < k → L[i]? = some x → x.1 ≠ e := by
  obtain ⟨k, hk, he⟩ := List.getElem_of_mem hm
  have h64 := hG.few
  refine ⟨k, by omega, by rw [List.getElem?_eq_getElem hk, he], fun i x hi hx => ?_⟩
  obtain ⟨h1, h2⟩ := List.getElem?_eq_some_iff.1 hx
  have hp := List.pairwise_map.1 hG.up
  have := List.pairwise_iff_getElem.1 hp i k h1 hk hi
  rw [h2, he] at this
  simp at this
  omega
set_option maxRecDepth 100000 in
theorem rat_yes (w : World) (B d : Nat) (p : Option Addr) (c : Nat) (L : List (Nat × ByteArray)) (h : IsR w B d p c L) (h64 : L.length ≤ 64) (e k : Nat) (s : ByteArray) (hk : L[k]? = some (e, s)) (hf : ∀ i x, i < k → L[i]? = some x → x.1 ≠ e) :
    Calls Tryz.prog 40 #[.pointer (some ⟨d, 0, none⟩), .int .u32 (e : Int)] w fun x w' => x = .returned (.int .i64 (k : Int)) ∧ w = w' := by
  have hkl : k < L.length := (List.getElem?_eq_some_iff.1 hk).1
  have HR := Lib.hid h; have HK := Lib.hid hk; have HF := Lib.hid hf
  have c0 := h.ring.cell 0 _ rfl
  clear h hk hf
  go_enter Tryz.func40, Tryz.ntmps40
  go_wp2
  go_loopw [5] (fun iv wr => ∃ j : Nat, j ≤ k ∧ iv = .int .i64 (j : Int) ∧ w = wr) (fun iv _ => L.length - (intOf iv).toNat)
  case atStart => exact ⟨0, Nat.zero_le _, rfl, rfl⟩
  case round =>
    obtain ⟨j, hj, rfl, rfl⟩ := hrel
    have hlti : (j : Int) < (L.length : Int) := by omega
    obtain ⟨x, hx⟩ : ∃ x, L[j]? = some x := ⟨_, List.getElem?_eq_getElem (by omega)⟩
    obtain ⟨g, rfl, _, c1, _⟩ := HR.out.at_ hx
    by_cases he : j = k
    · subst he
      rw [HK.out] at hx
      cases hx
      go_wp2
      go_ret
      exact ⟨rfl, rfl⟩
    · have hne := HF.out j x (by omega) hx
      have hnei : ¬ (x.1 : Int) = (e : Int) := by omega
      clear hx hne
      generalize x.1 = y at *
      go_wp2
      go_roundw
      case rel => first | exact ⟨j + 1, by omega, by go_num, rfl⟩ | exact ⟨j + 1, by omega, by go_num, trivial⟩
      case measure => simp [intOf]; omega
set_option maxRecDepth 100000 in
theorem rat_no (w : World) (B d : Nat) (p : Option Addr) (c : Nat) (L : List (Nat × ByteArray)) (h : IsR w B d p c L) (h64 : L.length ≤ 64) (e : Nat) (hn : e ∉ eps L) :
    Calls Tryz.prog 40 #[.pointer (some ⟨d, 0, none⟩), .int .u32 (e : Int)] w fun x w' => x = .returned (.int .i64 (-1)) ∧ w = w' := by
  have HR := Lib.hid h
  have HF : Hid (∀ x ∈ L, x.1 ≠ e) := Lib.hid (fun x hx q => hn (List.mem_map.2 ⟨x, hx, q⟩))
  have c0 := h.ring.cell 0 _ rfl
  clear h hn
  go_enter Tryz.func40, Tryz.ntmps40
  go_wp2
  go_loopw [5] (fun iv wr => ∃ j : Nat, j ≤ L.length ∧ iv = .int .i64 (j : Int) ∧ w = wr) (fun iv _ => L.length - (intOf iv).toNat)
  case atStart => exact ⟨0, Nat.zero_le _, rfl, rfl⟩
  case round =>
    obtain ⟨j, hj, rfl, rfl⟩ := hrel
    by_cases hlt : j < L.length
    · have hlti : (j : Int) < (L.length : Int) := by omega
      obtain ⟨x, hx⟩ : ∃ x, L[j]? = some x := ⟨_, List.getElem?_eq_getElem hlt⟩
      obtain ⟨g, rfl, _, c1, _⟩ := HR.out.at_ hx
      have hne := HF.out x (List.mem_of_getElem? hx)
      have hnei : ¬ (x.1 : Int) = (e : Int) := by omega
      clear hx hne
      generalize x.1 = y at *
      go_wp2
      go_roundw
      case rel => first | exact ⟨j + 1, by omega, by go_num, rfl⟩ | exact ⟨j + 1, by omega, by go_num, trivial⟩
      case measure => simp [intOf]; omega
    · have hlti : ¬ (j : Int) < (L.length : Int) := by omega
      go_wp2
      go_ret
      exact ⟨rfl, rfl⟩
theorem rkeysK_no (w : World) (B d : Nat) (p : Option Addr) (c : Nat) (L : List (Nat × ByteArray)) (h : IsR w B d p c L) (h64 : L.length ≤ 64) (e : Nat) (hn : e ∉ eps L) :
    Calls Tryz.prog 18 #[.pointer (some ⟨d, 0, none⟩), .int .u32 (e : Int)] w fun x w' => x = .returned (.tuple #[.string ⟨#[]⟩, .string ⟨#[]⟩, .bool false]) ∧ Ext w w' := by
  have HA := Lib.hid (rat_no w B d p c L h h64 e hn)
  clear h hn
  go_enter Tryz.func18, Tryz.ntmps18
  go_wp2_with (go_at_call 40; refine (HA.out).mono ?_; rintro e w1 ⟨rfl, rfl⟩)
  go_ret3
  exact ⟨rfl, Ext.refl _⟩
set_option maxRecDepth 100000 in
set_option maxHeartbeats 2000000 in
theorem rkeysK_yes (w : World) (B d : Nat) (p : Option Addr) (c : Nat) (L : List (Nat × ByteArray)) (h : IsR w B d p c L) (hG : GoodK L) (e : Nat) (s : ByteArray) (hm : (e, s) ∈ L) :
    Calls Tryz.prog 18 #[.pointer (some ⟨d, 0, none⟩), .int .u32 (e : Int)] w fun x w' => x = .returned (.tuple #[.string (kd s cipB 16), .string (kd s tagB 32), .bool true]) ∧ Ext w w' := by
  obtain ⟨k, hk64, hk, hf⟩ := good_at hG hm
  have hs : s.size = 32 := (hG.each _ hm).2.2
  have HA := Lib.hid (rat_yes w B d p c L h hG.few e k s hk hf)
  have HD1 : Hid (∀ u, Calls Tryz.prog 43 #[.string s, .string ⟨#[99, 105, 112, 104, 101, 114]⟩, .int .i64 16] u fun x w' => x = .returned (.string (kd s cipB 16)) ∧ Ext u w') := Lib.hid (fun u => by
    have := rder_yes s cipB 16 u (by omega) (by decide) (by omega) (by omega)
    unfold kd
    exact this)
  have HD2 : Hid (∀ u, Calls Tryz.prog 43 #[.string s, .string ⟨#[116, 97, 103]⟩, .int .i64 32] u fun x w' => x = .returned (.string (kd s tagB 32)) ∧ Ext u w') := Lib.hid (fun u => by
    have := rder_yes s tagB 32 u (by omega) (by decide) (by omega) (by omega)
    unfold kd
    exact this)
  have c0 := h.ring.cell 0 _ rfl
  obtain ⟨g, rfl, _, _, c2⟩ := h.at_ hk
  have hkl : k < L.length := (List.getElem?_eq_some_iff.1 hk).1
  have hkli : (k : Int) < (L.length : Int) := by omega
  have hk0 : ¬ (k : Int) < 0 := by omega
  have hgb : g < w.heap.size := by
    obtain ⟨g', e', hlt, _⟩ := h.ents.cell (entL_at L k _ hk).1
    cases e'
    exact hlt
  have HKeep : Hid (∀ u, Ext w u → u.cell? ⟨d, 0, none⟩ = some (.slice (some ⟨g, 0, none⟩) L.length c) ∧ u.cell? ⟨g, k * 2 + 1, none⟩ = some (.string s) ∧ Ext w u) :=
    Lib.hid fun u hu => ⟨(h.ring.ext hu).cell 0 _ rfl, by rw [hu.below.cell (p := ⟨g, k * 2 + 1, none⟩) hgb]; exact c2, hu⟩
  have hS := HKeep.out w.drew (Ext.refl w).drew
  clear h hG hm hs hk hf hkl hgb
  generalize kd s cipB 16 = D1 at *
  generalize kd s tagB 32 = D2 at *
  go_enter Tryz.func18, Tryz.ntmps18
  go_upto_region 4 with (go_at_call 40; refine (HA.out).mono ?_; rintro e w1 ⟨rfl, rfl⟩)
  go_region_held3 (fun u => u.cell? ⟨d, 0, none⟩ = some (.slice (some ⟨g, 0, none⟩) L.length c) ∧ u.cell? ⟨g, k * 2 + 1, none⟩ = some (.string s) ∧ Ext w u) (first | exact hS | exact hS1 | exact hS2 | assumption | exact HKeep.out _ (by repeat' (first | assumption | exact Ext.refl _ | refine Ext.drew ?_ | refine Ext.alloc ?_ _)) | go_keep) (first
    | (go_at_call 43; (with_reducible refine (HD1.out _).mono ?_); rintro e w4 ⟨rfl, h4⟩; have y4 := Ext.trans (a := w) (by first | assumption | exact hS2.2.2 | (repeat' (first | assumption | exact Ext.refl _ | refine Ext.drew ?_ | refine Ext.alloc ?_ _))) h4; have hS1 := HKeep.out _ y4)
    | (go_at_call 43; (with_reducible refine (HD2.out _).mono ?_); rintro e w5 ⟨rfl, h5⟩; have y5 := Ext.trans (a := w) (by first | assumption | exact hS1.2.2 | (repeat' (first | assumption | exact Ext.refl _ | refine Ext.drew ?_ | refine Ext.alloc ?_ _))) h5; have hS2 := HKeep.out _ y5))
  all_goals
    go_wp2
    go_ret3
    exact ⟨rfl, by first | exact y5 | exact y4 | assumption⟩
end Go.Proofs.YtdnpgmoiapkhnaaGreatDoor
end

section
namespace Go.Proofs.YtdnpgmoiapkhnaaGreatDoor
open Go.RowKit

/-- A slice that reads as these bytes. -/
def BSl (w : World) (v : Value) (l : List UInt8) : Prop := ∃ g c, v = .slice (some ⟨g, 0, none⟩) l.length c ∧ g < w.heap.size ∧ ∀ (i : Nat) (b : UInt8), l[i]? = some b → w.cell? ⟨g, i, none⟩ = some (.int .u8 (b.toNat : Int))
theorem BSl.ext {w w' : World} {v : Value} {l : List UInt8} (h : BSl w v l) (hx : Ext w w') : BSl w' v l := by
  obtain ⟨g, c, h1, h2, h3⟩ := h
  exact ⟨g, c, h1, Nat.lt_of_lt_of_le h2 hx.size, fun i b hb => (hx.below.cell (p := ⟨g, i, none⟩) h2).trans (h3 i b hb)⟩
theorem Buf.sl {w : World} {B : Nat} {v : Value} {l : List UInt8} (h : Buf w B v l) (hl : l ≠ []) : BSl w v l := by
  unfold Buf at h
  rcases h.2 with ⟨_, h0⟩ | ⟨g, cap, cur, hv, _, hg, hle, _, hsz, ht⟩
  · exact absurd (List.length_eq_zero_iff.1 h0) hl
  · refine ⟨g, cap, hv, (Array.getElem?_eq_some_iff.1 hg).1, fun i b hb => ?_⟩
    have hi : i < l.length := (List.getElem?_eq_some_iff.1 hb).1
    rw [cell_of_row w g i cur _ (0, 0) hg]
    have e : cur.toList[i]? = (l.map cellOf)[i]? := by
      rw [← ht, List.getElem?_take, if_pos (by omega)]
    rw [← Array.getElem?_toList, e]
    simp [hb, cellOf]
theorem Row.sl {w : World} {g : Nat} {t : TypeId} {l : List UInt8} (h : Row w g t l) (c : Nat) : BSl w (.slice (some ⟨g, 0, none⟩) l.length c) l := ⟨g, c, rfl, h.lt, fun i b hb => h.cell i b hb⟩
set_option maxRecDepth 100000 in
set_option maxHeartbeats 1000000 in
theorem rtable_any (w : World) : Calls Tryz.prog 104 #[] w fun e w' => ∃ v, e = .returned v ∧ BSl w' v boxT ∧ Ext w w' := by
  have HB := Lib.hid (fun j (h : j < 256) u => rbox_any j h u)
  go_enter Tryz.func104, Tryz.ntmps104
  go_wp2
  go_loopw [1, 2] (fun v i wr => ∃ j : Nat, j ≤ 256 ∧ i = .int .i64 j ∧ Buf wr w.heap.size v (boxT.take j) ∧ Ext w wr) (fun _ i _ => 256 - (intOf i).toNat)
  case atStart => exact ⟨0, by omega, rfl, by simpa using Buf.nil w w.heap.size, Ext.refl w⟩
  case round =>
    obtain ⟨j, hj, rfl, hbuf, hext⟩ := hrel
    by_cases hlt : j < 256
    · have hji : (j : Int) < 256 := by omega
      have hwj : IntKind.u8.wrap (j : Int) = (j : Int) := IntWalk.u8_in _ ⟨by omega, by omega⟩
      have HJ := Lib.hid (HB.out j hlt)
      have HT := Lib.hid (boxT_take j hlt)
      have H2 : Hid ((boxT.take j).length + 1 ≤ 140737488355328) := Lib.hid (by rw [List.length_take]; omega)
      have HBf := Lib.hid hbuf; have HE := Lib.hid hext
      clear hbuf hext
      go_wp2_with (first
        | (go_at_call 123; (with_reducible refine (HJ.out _).mono ?_); rintro e w1 ⟨rfl, rfl⟩)
        | (at_builtin; refine append_bytes rfl (.tmp 7) (.tmp 11) rfl w.heap.size _ _ rfl (HBf.out.alloc _) wr.heap.size 1 [boxB (UInt8.ofNat j)] rfl rfl (Row.one _ _ _ _ rfl) H2.out (HE.out.alloc _).size ?_; intro v1 w2 hb1 hx1; have hext1 : Ext w w2 := Below.trans (HE.out.alloc _) hx1))
      go_roundw
      case rel => exact ⟨j + 1, by omega, by go_num, by rw [HT.out]; exact hb1, hext1⟩
      case measure => simp [intOf]; omega
    · obtain rfl : j = 256 := by omega
      have e256 : ((256 : Nat) : Int) = 256 := rfl
      rw [e256]
      clear e256
      rw [List.take_of_length_le (by rw [boxT_length]; exact Nat.le_refl _)] at hbuf
      have HS := Lib.hid (hbuf.sl (by intro h; have := boxT_length; rw [h] at this; cases this))
      clear hbuf
      go_wp2
      go_ret
      exact ⟨_, rfl, HS.out, hext⟩
end Go.Proofs.YtdnpgmoiapkhnaaGreatDoor
end

section
namespace Go.Proofs.YtdnpgmoiapkhnaaGreatDoor
open Go.RowKit

def facL : List UInt8 := [2, 3, 1, 1]
/-- The first k products of a row and a column. -/
def dotN (l : List UInt8) (c r : Nat) : Nat → UInt8
  | 0 => 0
  | k + 1 => dotN l c r k ^^^ mulB (l.getD (4 * c + k) 0) (facL.getD ((k + 4 - r) % 4) 0)
theorem dotN_mix (l : List UInt8) (c r : Nat) (hc : c < 4) (hr : r < 4) : (mixC l)[4 * c + r]? = some (dotN l c r 4) := by
  unfold mixC mixBy
  have e1 : (4 * c + r) / 4 = c := by omega
  have e2 : (4 * c + r) % 4 = r := by omega
  rw [List.getElem?_map, List.getElem?_range (by omega)]
  simp only [Option.map_some, e1, e2]
  congr 1
  rcases (show r = 0 ∨ r = 1 ∨ r = 2 ∨ r = 3 by omega) with rfl | rfl | rfl | rfl
  all_goals
    simp only [dotN, dot, fac, facL, List.getD_cons_zero, List.getD_cons_succ, Nat.add_zero, UInt8.zero_xor]
    rw [mulB_comm (l.getD (4 * c) 0), mulB_comm (l.getD (4 * c + 1) 0), mulB_comm (l.getD (4 * c + 2) 0), mulB_comm (l.getD (4 * c + 3) 0)]
    rfl
theorem rtimes_byte (a b : UInt8) (w : World) : Calls Tryz.prog 155 #[.int .u8 (a.toNat : Int), .int .u8 (b.toNat : Int)] w fun e w' => e = .returned (.int .u8 ((mulB a b).toNat : Int)) ∧ w = w' := by
  have h := rTimes_any a.toNat b.toNat a.toNat_lt b.toNat_lt w
  rwa [← mulB_nat] at h
theorem xorB (a b : UInt8) : bits BinOp.xor IntKind.u8 (a.toNat : Int) (b.toNat : Int) = ((a ^^^ b).toNat : Int) := by
  rw [u8_xor_nat _ _ a.toNat_lt b.toNat_lt, UInt8.toNat_xor]
theorem facL_at (m : Nat) (h : m < 4) : facL[m]? = some (facL.getD m 0) := by
  rcases (show m = 0 ∨ m = 1 ∨ m = 2 ∨ m = 3 by omega) with rfl | rfl | rfl | rfl <;> rfl
theorem getD_at {l : List UInt8} {i : Nat} (h : i < l.length) : l[i]? = some (l.getD i 0) := by
  rw [List.getD_eq_getElem?_getD, List.getElem?_eq_getElem h]; rfl
set_option maxRecDepth 100000 in
set_option maxHeartbeats 4000000 in
theorem rmixed_any (w : World) (v : Value) (l : List UInt8) (hl : l.length = 16) (hv : BSl w v l) :
    Calls Tryz.prog 125 #[v] w fun e w' => ∃ g, e = .returned (.slice (some ⟨g, 0, none⟩) 16 16) ∧ w.heap.size ≤ g ∧ Row w' g 5 (mixC l) ∧ Ext w w' := by
  have hmk := make_bytes 16 (by omega)
  have e16 : ((16 : Nat) : Int) = 16 := rfl
  rw [e16] at hmk
  clear e16
  obtain ⟨gb, cb, rfl, hgb, hcb⟩ := hv
  rw [hl]
  have HCB := Lib.hid hcb; have HL := Lib.hid hl; have HM := Lib.hid (fun c r hc hr => dotN_mix l c r hc hr); have HML := Lib.hid (mixC_length l)
  clear hcb hl
  generalize mixC l = M at *
  go_enter Tryz.func125, Tryz.ntmps125
  go_wp2
  have hf0 : Row (w.alloc (.cells #[.int .u8 2, .int .u8 3, .int .u8 1, .int .u8 1] 5)) w.heap.size 5 facL := heap_alloc_new w _
  have HF := Lib.hid (fun (u : World) (hu : Ext (w.alloc (.cells #[.int .u8 2, .int .u8 3, .int .u8 1, .int .u8 1] 5)) u) => hf0.ext hu)
  have hx0 : Ext w (w.alloc (.cells #[.int .u8 2, .int .u8 3, .int .u8 1, .int .u8 1] 5)) := (Ext.refl w).alloc _
  have hg0 : w.heap.size + 1 = (w.alloc (.cells #[.int .u8 2, .int .u8 3, .int .u8 1, .int .u8 1] 5)).heap.size := by simp
  have hrow0 : Row ((w.alloc (.cells #[.int .u8 2, .int .u8 3, .int .u8 1, .int .u8 1] 5)).alloc (.cells (madeCells #[.int .u8 0] 16) 5)) (w.heap.size + 1) 5 (List.replicate 16 0) := by rw [hg0]; exact Row.made _ _ _
  have HG0 := Lib.hid hg0
  clear hf0 hg0
  generalize w.alloc (.cells #[.int .u8 2, .int .u8 3, .int .u8 1, .int .u8 1] 5) = W0 at *
  have HX0 := Lib.hid hx0
  go_loopw [5] (fun i wr => ∃ c : Nat, c ≤ 4 ∧ i = .int .i64 c ∧ Row wr (w.heap.size + 1) 5 (M.take (4 * c) ++ List.replicate (16 - 4 * c) 0) ∧ Ext W0 wr) (fun i _ => 4 - (intOf i).toNat)
  case atStart => exact ⟨0, by omega, rfl, by simpa using hrow0, (Ext.refl W0).alloc _⟩
  case round =>
    clear hrow0 hx0
    obtain ⟨c, hc, rfl, hrow, hext⟩ := hrel
    by_cases hlt : c < 4
    · have hci : (c : Int) < 4 := by omega
      have HR := Lib.hid hrow; have HE := Lib.hid hext
      clear hrow hext
      go_wp2
      go_loopw [6] (fun i wr2 => ∃ r : Nat, r ≤ 4 ∧ i = .int .i64 r ∧ Row wr2 (w.heap.size + 1) 5 (M.take (4 * c + r) ++ List.replicate (16 - (4 * c + r)) 0) ∧ Ext W0 wr2) (fun i _ => 4 - (intOf i).toNat)
      case atStart => exact ⟨0, by omega, rfl, HR.out, HE.out⟩
      case round =>
        clear HR HE
        obtain ⟨r, hr, rfl, hrow, hext⟩ := hrel
        by_cases hlr : r < 4
        · have hri : (r : Int) < 4 := by omega
          have HR := Lib.hid hrow; have HE := Lib.hid hext
          clear hrow hext
          go_wp2
          go_loopw [7, 8] (fun n i wr3 => ∃ k : Nat, k ≤ 4 ∧ i = .int .i64 k ∧ n = .int .u8 ((dotN l c r k).toNat : Int) ∧ Row wr3 (w.heap.size + 1) 5 (M.take (4 * c + r) ++ List.replicate (16 - (4 * c + r)) 0) ∧ Ext W0 wr3) (fun _ i _ => 4 - (intOf i).toNat)
          case atStart => exact ⟨0, by omega, rfl, rfl, HR.out, HE.out⟩
          case round =>
            clear HR HE
            obtain ⟨k, hk, rfl, rfl, hrow, hext⟩ := hrel
            have HR := Lib.hid hrow; have HE := Lib.hid hext
            clear hrow hext
            by_cases hlk : k < 4
            · have hki : (k : Int) < 4 := by omega
              have hk0 : (0 : Int) ≤ (k : Int) := by omega
              obtain ⟨m, hm⟩ : ∃ m : Nat, ((k : Int) - (r : Int) + 4) % 4 = (m : Int) := ⟨(k + 4 - r) % 4, by omega⟩
              have hm2 : m = (k + 4 - r) % 4 := by omega
              have hmt : ((k : Int) - (r : Int) + 4).tmod 4 = (m : Int) := by rw [Int.tmod_eq_emod_of_nonneg (by omega)]; exact hm
              have hm4 : m < 4 := by omega
              have hmi : (m : Int) < 4 := by omega
              have hm0 : (0 : Int) ≤ (m : Int) := by omega
              obtain ⟨x, hx⟩ : ∃ x : Nat, 4 * (c : Int) + (k : Int) = (x : Int) := ⟨4 * c + k, by omega⟩
              have hx2 : x = 4 * c + k := by omega
              have hx16 : x < 16 := by omega
              have hxi : (x : Int) < 16 := by omega
              have hw1 : IntKind.i64.wrap ((k : Int) - (r : Int)) = (k : Int) - (r : Int) := IntWalk.i64_in _ ⟨by omega, by omega⟩
              have hw2 : IntKind.i64.wrap ((k : Int) - (r : Int) + 4) = (k : Int) - (r : Int) + 4 := IntWalk.i64_in _ ⟨by omega, by omega⟩
              have hw3 : IntKind.i64.wrap (4 * (c : Int)) = 4 * (c : Int) := IntWalk.i64_in _ ⟨by omega, by omega⟩
              have hw4 : IntKind.i64.wrap (4 * (c : Int) + (k : Int)) = 4 * (c : Int) + (k : Int) := IntWalk.i64_in _ ⟨by omega, by omega⟩
              have hw5 : IntKind.i64.wrap (x : Int) = (x : Int) := IntWalk.i64_in _ ⟨by omega, by omega⟩
              have hcb := (Below.cell HE.out.below (p := ⟨gb, x, none⟩) (Nat.lt_of_lt_of_le hgb HX0.out.size)).trans ((Below.cell HX0.out.below (p := ⟨gb, x, none⟩) hgb).trans (HCB.out x _ (getD_at (by rw [HL.out]; exact hx16))))
              have hcf := (HF.out _ HE.out).cell m _ (facL_at m hm4)
              have hnx : dotN l c r (k + 1) = dotN l c r k ^^^ mulB (l.getD x 0) (facL.getD m 0) := by rw [dotN, hx2, hm2]
              have HNX := Lib.hid hnx
              have hxor := xorB (dotN l c r k) (mulB (l.getD x 0) (facL.getD m 0))
              clear hnx hx2 hm2
              generalize l.getD x 0 = A at *
              generalize facL.getD m 0 = B at *
              have HT := Lib.hid (rtimes_byte A B)
              go_wp2
              go_quiet ((go_at_call 155; exact Calls.quiet_of_same ((HT.out _).mono fun _ _ h => ⟨h.1, h.2.symm⟩)))
              go_wp2
              go_roundw
              case rel => exact ⟨k + 1, by omega, by go_num, by rw [HNX.out, UInt8.toNat_xor], HR.out.drewN _, HE.out.drewN _⟩
              case measure => simp [intOf]; omega
            · obtain rfl : k = 4 := by omega
              have hq : 4 * c + r < 16 := by omega
              have hcell := fill_cell HR.out HML.out hq
              have hfz := HR.out.frozen (4 * c + r)
              have hat := HM.out c r hlt hlr
              have HAt := Lib.hid hat
              clear hat
              obtain ⟨y, hy⟩ : ∃ y : Nat, 4 * (c : Int) + (r : Int) = (y : Int) := ⟨4 * c + r, by omega⟩
              have hy2 : 4 * c + r = y := by omega
              have hyi : (y : Int) < 16 := by omega
              have hy16 : y < 16 := by omega
              have hw3 : IntKind.i64.wrap (4 * (c : Int)) = 4 * (c : Int) := IntWalk.i64_in _ ⟨by omega, by omega⟩
              have hw5 : IntKind.i64.wrap (y : Int) = (y : Int) := IntWalk.i64_in _ ⟨by omega, by omega⟩
              rw [hy2] at HR hcell hfz HAt
              have HY := Lib.hid hy2
              clear hy2 hq
              have e4 : ((4 : Nat) : Int) = 4 := rfl
              rw [e4]
              clear e4
              generalize dotN l c r 4 = V at *
              go_wp2
              go_roundw
              case rel => exact ⟨r + 1, by omega, by go_num, by
                have h := fill_step HR.out HML.out hy16 _ _ HAt.out rfl
                rw [← Nat.add_assoc, HY.out]
                exact h, HE.out.setCell (p := ⟨w.heap.size + 1, y, none⟩) (by rw [HG0.out]; exact Nat.le_refl _) _⟩
              case measure => simp [intOf]; omega
        · obtain rfl : r = 4 := by omega
          have e4 : ((4 : Nat) : Int) = 4 := rfl
          rw [e4]
          clear e4
          have HR := Lib.hid hrow; have HE := Lib.hid hext
          clear hrow hext
          go_wp2
          go_roundw
          case rel => exact ⟨c + 1, by omega, by go_num, by
            have h := HR.out
            rw [show 4 * c + 4 = 4 * (c + 1) by omega] at h
            exact h, HE.out⟩
          case measure => simp [intOf]; omega
    · obtain rfl : c = 4 := by omega
      have e4 : ((4 : Nat) : Int) = 4 := rfl
      rw [e4]
      clear e4
      have HR := Lib.hid (fill_done hrow HML.out); have HE := Lib.hid hext
      clear hrow hext
      go_wp2
      go_ret
      exact ⟨_, rfl, by rw [HG0.out]; exact HX0.out.size, HR.out, HX0.out.trans HE.out⟩
end Go.Proofs.YtdnpgmoiapkhnaaGreatDoor
end

section
namespace Go.Proofs.YtdnpgmoiapkhnaaGreatDoor
open Go.RowKit

/-- Block g begins with these bytes, and is not frozen there. -/
def BRow (w : World) (g : Nat) (t : TypeId) (l : List UInt8) : Prop := ∃ (rest : List Value) (fz : Nat × Nat), w.heap[g]? = some (.cells (l.map cellOf ++ rest).toArray t fz) ∧ l.length ≤ fz.1
section
variable {w w' : World} {g : Nat} {t : TypeId} {l : List UInt8}
theorem BRow.lt (h : BRow w g t l) : g < w.heap.size := by obtain ⟨_, _, h, _⟩ := h; exact heap_lt h
theorem BRow.cell (h : BRow w g t l) (i : Nat) (b : UInt8) (hb : l[i]? = some b) : w.cell? ⟨g, i, none⟩ = some (.int .u8 (b.toNat : Int)) := by
  obtain ⟨rest, fz, h, _⟩ := h
  have hi : i < l.length := (List.getElem?_eq_some_iff.1 hb).1
  rw [cell_of_row w g i _ t fz h]
  rw [List.getElem?_eq_getElem hi] at hb
  obtain rfl := Option.some.inj hb
  simp [List.getElem?_append_left, hi, cellOf]
theorem BRow.frozen (h : BRow w g t l) (i : Nat) (hi : i < l.length) : w.frozen? ⟨g, i, none⟩ = false := by
  obtain ⟨rest, ⟨lo, hi2⟩, h, hl⟩ := h
  have : ¬ lo ≤ i := by simp only at hl; omega
  simp [World.frozen?, h, this]
theorem BRow.set_ (h : BRow w g t l) (i : Nat) (hi : i < l.length) (x : Int) (b : UInt8) (hx : x = (b.toNat : Int)) : BRow (w.setCell ⟨g, i, none⟩ (.int .u8 x)) g t (l.set i b) := by
  subst hx
  obtain ⟨rest, fz, h, hl⟩ := h
  refine ⟨rest, fz, ?_, by simpa using hl⟩
  have e : (l.map cellOf ++ rest).set i (.int .u8 (b.toNat : Int)) = (l.set i b).map cellOf ++ rest := by
    rw [List.set_append_left _ _ (by simpa using hi), List.map_set]; rfl
  simp [World.setCell, Array.getElem?_modify, h]
  rw [e, List.map_set]
theorem BRow.ext (h : BRow w g t l) (hb : Ext w w') : BRow w' g t l := by
  have hlt := h.lt
  obtain ⟨rest, fz, h, hl⟩ := h
  exact ⟨rest, fz, (hb.block g hlt).trans h, hl⟩
set_option maxRecDepth 100000 in
/-- The text of the first n bytes. -/
theorem BRow.text (h : BRow w g t l) (n c : Nat) (hn : n ≤ l.length) :
    (convert 53 9 (.slice (some ⟨g, 0, none⟩) n c)).run Tryz.prog w = .ok (.string ⟨(l.take n).toArray⟩) w := by
  have hc := run_convert_bytes_arg (P := Tryz.prog) w 53 5 Tryz.underlying53 Tryz.underlying5 g 0 n c ((l.take n).map fun c => (c.toNat : Int)) (by simp; omega) (by
    intro i hi
    have hi2 : i < l.length := by omega
    have := h.cell i l[i] (List.getElem?_eq_getElem hi2)
    simpa [List.getD, hi, List.getElem?_eq_getElem hi2] using this) 9 Tryz.underlying9
  rw [hc]
  have e : strOfNums ((l.take n).map fun c => (c.toNat : Int)) = ⟨(l.take n).toArray⟩ := by
    unfold strOfNums
    congr 2
    rw [List.map_map]
    conv => rhs; rw [← List.map_id (l.take n)]
    apply List.map_congr_left
    intro b _
    simp
  rw [e]
end
/-- What a conversion of a text lays. -/
theorem bytes_of_text (w : World) (s : ByteArray) : ∃ (c : Nat) (W : World), (convert 9 53 (.string s)).run Tryz.prog w = .ok (.slice (some ⟨w.heap.size, 0, none⟩) s.size c) W ∧ s.size ≤ c ∧ Ext w W ∧ BRow W w.heap.size 5 s.data.toList := by
  refine ⟨grownCap w s.size 0 5, Lib.bytesWorld w 5 s, Lib.run_convert_string_bytes (P := Tryz.prog) w 9 53 5 s Tryz.underlying9 Tryz.underlying53 Tryz.underlying5, grownCap_ge w s.size 0 5, ?_, ?_⟩
  · refine ⟨?_, ?_, ?_, by rw [Lib.bytesWorld_size]; omega, fun k hk => Lib.bytesWorld_at_old w _ s k hk⟩
    all_goals
      unfold Lib.bytesWorld World.freeze
      split <;> rfl
  · refine ⟨List.replicate (grownCap w s.size 0 5 - s.size) (.int .u8 0), ((Lib.bytesCells w 5 s).size, (Lib.bytesCells w 5 s).size + 1), ?_, ?_⟩
    · rw [Lib.bytesWorld_at_new]
      have e : Lib.bytesCells w 5 s = (s.data.toList.map cellOf ++ List.replicate (grownCap w s.size 0 5 - s.size) (Value.int .u8 0)).toArray := by
        unfold Lib.bytesCells
        apply Array.toList_inj.1
        simp
        intro a _
        rfl
      rw [← e]
    · have := grownCap_ge w s.size 0 5
      simp [Lib.bytesCells]
end Go.Proofs.YtdnpgmoiapkhnaaGreatDoor
end

section
namespace Go.Proofs.YtdnpgmoiapkhnaaGreatDoor
open Go.RowKit

/-- A slice of bytes of the call's own, as a conversion lays it, or an append: the row is not frozen where bytes may come. -/
def BufT (w : World) (B : Nat) (v : Value) (l : List UInt8) : Prop :=
  ∃ g cap cur fz, v = .slice (some ⟨g, 0, none⟩) l.length cap ∧ B ≤ g ∧ w.heap[g]? = some (.cells cur 5 fz) ∧ (fz.2 = 0 ∨ cap ≤ fz.1) ∧ l.length ≤ cap ∧ cap ≤ maxLen ∧ cur.size = cap ∧ cur.toList.take l.length = l.map cellOf
section
variable {w w' : World} {B : Nat} {v : Value} {l : List UInt8}
theorem BufT.ext (h : BufT w B v l) (hx : Ext w w') : BufT w' B v l := by
  obtain ⟨g, cap, cur, fz, h1, h2, h3, h4⟩ := h
  exact ⟨g, cap, cur, fz, h1, h2, (hx.block g (heap_lt h3)).trans h3, h4⟩
theorem BufT.cells (h : BufT w B v l) : ∃ g c, v = .slice (some ⟨g, 0, none⟩) l.length c ∧ B ≤ g ∧ g < w.heap.size ∧ ∀ (i : Nat) (b : UInt8), l[i]? = some b → w.cell? ⟨g, i, none⟩ = some (.int .u8 (b.toNat : Int)) := by
  obtain ⟨g, cap, cur, fz, h1, h2, h3, h4, h5, h6, h7, h8⟩ := h
  refine ⟨g, cap, h1, h2, heap_lt h3, fun i b hb => ?_⟩
  have hi : i < l.length := (List.getElem?_eq_some_iff.1 hb).1
  rw [cell_of_row w g i cur _ fz h3]
  have e : cur.toList[i]? = (l.map cellOf)[i]? := by rw [← h8, List.getElem?_take, if_pos (by omega)]
  rw [← Array.getElem?_toList, e]
  simp [hb, cellOf]
theorem BufT.of_buf (h : Buf w B v l) (hl : l ≠ []) : BufT w B v l := by
  unfold Buf at h
  rcases h.2 with ⟨_, h0⟩ | ⟨g, cap, cur, hv, hB, hg, hle, hm, hsz, ht⟩
  · exact absurd (List.length_eq_zero_iff.1 h0) hl
  · exact ⟨g, cap, cur, (0, 0), hv, hB, hg, .inl rfl, hle, hm, by simpa using hsz, by simpa using ht⟩
end
/-- '[]byte(s)'. -/
theorem bufT_of_text (w : World) (s : ByteArray) (hs : s.size ≤ 1099511627776) : ∃ (c : Nat) (W : World), (convert 9 53 (.string s)).run Tryz.prog w = .ok (.slice (some ⟨w.heap.size, 0, none⟩) s.size c) W ∧ s.size ≤ c ∧ Ext w W ∧ BufT W w.heap.size (.slice (some ⟨w.heap.size, 0, none⟩) s.size c) s.data.toList := by
  have hge := grownCap_ge w s.size 0 5
  refine ⟨grownCap w s.size 0 5, Lib.bytesWorld w 5 s, Lib.run_convert_string_bytes (P := Tryz.prog) w 9 53 5 s Tryz.underlying9 Tryz.underlying53 Tryz.underlying5, hge, ?_, ?_⟩
  · refine ⟨?_, ?_, ?_, by rw [Lib.bytesWorld_size]; omega, fun k hk => Lib.bytesWorld_at_old w _ s k hk⟩
    all_goals
      unfold Lib.bytesWorld World.freeze
      split <;> rfl
  · have hcs : (Lib.bytesCells w 5 s).size = grownCap w s.size 0 5 := by
      unfold Lib.bytesCells
      simp
      show s.size + _ = _
      omega
    refine ⟨w.heap.size, _, Lib.bytesCells w 5 s, _, by rw [size_list], Nat.le_refl _, Lib.bytesWorld_at_new w _ s, .inr (by rw [hcs]; exact Nat.le_refl _), by rw [size_list]; exact hge, grownCap_le_maxLen w _ _ _ (by unfold maxLen; omega), hcs, ?_⟩
    unfold Lib.bytesCells
    rw [Array.toList_append, List.take_append_of_le_length (by simp), List.take_of_length_le (by simp)]
    simp
    intro a _
    rfl
theorem run_storeCells_atT (P : Program) (g o : Nat) (t : TypeId) (fz : Nat × Nat) : ∀ (vs : List Value) (i : Nat) (cur : Array Value) (w : World), w.heap[g]? = some (.cells cur t fz) → (fz.2 = 0 ∨ cur.size ≤ fz.1) → o + i + vs.length ≤ cur.size → (∀ v ∈ vs, v.oneCell' = true) →
    (storeCells ⟨g, o, none⟩ vs i).run P w = .ok () (w.setRow g (cur.toList.take (o + i) ++ vs ++ cur.toList.drop (o + i + vs.length)).toArray)
  | [], i, cur, w, hg, _, _, _ => by
    simp only [storeCells, List.append_nil, List.length_nil, Nat.add_zero, List.take_append_drop, Array.toArray_toList]
    rw [setRow_self w g cur t fz hg]
    rfl
  | v :: rest, i, cur, w, hg, hfz, hl, h1 => by
    have hi : o + i < cur.size := by simp at hl; omega
    have hadd : (⟨g, o, none⟩ : Addr).add i = ⟨g, o + i, none⟩ := by unfold Addr.add; split <;> simp_all
    have hcell : w.cell? ⟨g, o + i, none⟩ = some cur[o + i] := by simp [World.cell?, hg, hi]
    have hfro : w.frozen? ⟨g, o + i, none⟩ = false := by
      obtain ⟨lo, hi'⟩ := fz
      simp only [World.frozen?, hg, Bool.and_eq_false_iff, decide_eq_false_iff_not]
      simp only at hfz
      omega
    have hst : (store ((⟨g, o, none⟩ : Addr).add i) v).run P w = .ok () (w.setRow g (cur.setIfInBounds (o + i) v)) := by
      rw [hadd, run_store P w _ v _ (h1 v (by simp)), hcell]
      simp [hfro, setCell_eq_setRow w g (o + i) cur t fz v hg]
    have ih := run_storeCells_atT P g o t fz rest (i + 1) (cur.setIfInBounds (o + i) v) (w.setRow g (cur.setIfInBounds (o + i) v)) (setRow_heap w g cur _ t _ hg) (by simpa using hfz) (by simp at hl ⊢; omega) (fun x hx => h1 x (by simp [hx]))
    simp only [storeCells, Sem.run_bind, hst, Result.andThen_ok, ih, setRow_setRow]
    congr 3
    have e := list_seg_step cur.toList (o + i) v rest (by simp at hl ⊢; omega)
    simpa [Array.toList_setIfInBounds, Nat.add_assoc] using e
/-- 'append(b, ..)' of a block of new bytes, run. -/
theorem run_appendT (w : World) (ty : TypeId) (B : Nat) (v : Value) (l : List UInt8) (h : BufT w B v l) (g2 m : Nat) (news : List UInt8) (hl : news.length = m) (hrow : Row w g2 5 news) (hlen : l.length + m ≤ 140737488355328) (hB : B ≤ w.heap.size) (x : Nat) (hxs : x < w.heap.size) (hxv : ∀ n c, v ≠ .slice (some ⟨x, 0, none⟩) n c) :
    ∃ v' w', (Builtin.append_ #[53, 53] ty #[v, .slice (some ⟨g2, 0, none⟩) m m]).run Tryz.prog w = .ok v' w' ∧ BufT w' B v' (l ++ news) ∧ Below B w w' ∧ w'.heap[x]? = w.heap[x]? ∧ (∀ n c, v' ≠ .slice (some ⟨x, 0, none⟩) n c) := by
  obtain ⟨i0, hi, hz0, hz1, hz2⟩ := info_parts info5
  obtain ⟨g, cap, cur, fz, rfl, hbg, hg, hfz, hnc, hcm, hcs, htake⟩ := h
  have hnews : ∀ j u, (news.map cellOf)[j]? = some u → w.cell? ((⟨g2, 0, none⟩ : Addr).add j) = some u := by
    intro j u hj
    have e : ((⟨g2, 0, none⟩ : Addr).add j) = ⟨g2, j, none⟩ := by unfold Addr.add; split <;> simp_all
    rw [e, cell_of_row w g2 j _ _ (0, 0) hrow]
    simpa using hj
  have h1 : ∀ u ∈ news.map cellOf, u.oneCell' = true := by
    intro u hu
    simp only [List.mem_map] at hu
    obtain ⟨b, _, rfl⟩ := hu
    rfl
  have hln : (news.map cellOf).length = m * i0.size := by rw [hz1]; simp [hl]
  have hgx : g ≠ x := fun e => hxv l.length cap (by rw [e])
  by_cases hroom : l.length + m ≤ cap
  · have hf := run_firstCells_some (P := Tryz.prog) w i0.size m ⟨g2, 0, none⟩ m m (news.map cellOf) hln hnews
    have hst := run_storeCells_atT Tryz.prog g (l.length * i0.size) 5 fz (news.map cellOf) 0 cur w hg (by rw [hcs]; exact hfz) (by rw [hz1]; simp [hl]; omega) h1
    simp only [Nat.add_zero] at hst
    have hr : (Builtin.append_ #[53, 53] ty #[.slice (some ⟨g, 0, none⟩) l.length cap, .slice (some ⟨g2, 0, none⟩) m m]).run Tryz.prog w =
        .ok (.slice (some ⟨g, 0, none⟩) (l.length + m) cap) (w.setRow g (cur.toList.take (l.length * i0.size) ++ news.map cellOf ++ cur.toList.drop (l.length * i0.size + (news.map cellOf).length)).toArray) := by
      simp [Builtin.append_, run_underlying Tryz.underlying53, sizeOf, typeInfo, hi, Builtin.lenOf, hroom, hf, Addr.add_lit, hst]
    refine ⟨_, _, hr, ?_, ?_, setRow_other w g x _ (Ne.symm hgx), fun n c h => by injection h with h1; injection h1 with h2; injection h2 with h3; exact hgx h3⟩
    · refine ⟨g, cap, _, fz, by rw [List.length_append, hl], hbg, setRow_heap w g cur _ _ _ hg, hfz, by rw [List.length_append, hl]; exact hroom, hcm, ?_, ?_⟩
      · simp [hz1, hl, hcs]; omega
      · simp only [hz1, Nat.mul_one]
        rw [htake, List.map_append, List.length_append]
        exact List.take_left' (by simp)
    · exact ⟨rfl, rfl, rfl, by simp, fun k hk => setRow_other w g k _ (by omega)⟩
  · have holds : ∀ j u, (l.map cellOf)[j]? = some u → w.cell? ((⟨g, 0, none⟩ : Addr).add j) = some u := by
      intro j u hu
      have e : ((⟨g, 0, none⟩ : Addr).add j) = ⟨g, j, none⟩ := by unfold Addr.add; split <;> simp_all
      rw [e, cell_of_row w g j cur _ fz hg, ← Array.getElem?_toList]
      rw [← htake, List.getElem?_take] at hu
      split at hu
      · exact hu
      · cases hu
    have hr := run_append_grow (P := Tryz.prog) w 53 ty 5 i0 (.int .u8 0) Tryz.underlying53 hi hz0 ⟨g, 0, none⟩ l.length cap (l.map cellOf) (by rw [hz1]; simp) holds ⟨g2, 0, none⟩ m m (news.map cellOf) hln hnews (by omega) (by omega) (growslice_fits (by omega) (by rw [hz2]; omega))
    have hge := grownCap_ge w (l.length + m) cap 5
    have hcm2 := grownCap_le_maxLen w (l.length + m) cap 5 (by unfold maxLen; omega)
    refine ⟨_, _, hr, ⟨w.heap.size, _, _, (0, 0), by rw [List.length_append, hl], hB, heap_alloc_new w.drew _, .inl rfl, by rw [List.length_append, hl]; exact hge, hcm2, ?_, ?_⟩, ⟨rfl, rfl, rfl, by simp, fun k hk => Below.heap_alloc w.drew _ k (Nat.lt_of_lt_of_le hk hB)⟩, Below.heap_alloc w.drew _ x hxs, fun n c h => by injection h with h1; injection h1 with h2; injection h2 with h3; omega⟩
    · have hz : (Value.int IntKind.u8 0).cells.size = 1 := rfl
      simp [size_zeroCells, hl, hz]
      omega
    · rw [Array.toList_append, Array.toList_append, List.map_append, List.length_append]
      exact List.take_left' (by simp)
/-- The same, in a walk. -/
theorem wp_appendT {w : World} {o : Oper} {a : Act} {K : Act → World → Prop} {Q : Exit → Act → World → Prop} (s x : Operand)
    (ho : o.op = .call { callee := .builtin .append, args := #[s, x], argTypes := #[53, 53] })
    (B : Nat) (v : Value) (l : List UInt8) (hs : a.eval s = v) (hbuf : BufT w B v l) (g m : Nat) (news : List UInt8) (hx : a.eval x = .slice (some ⟨g, 0, none⟩) m m) (hl : news.length = m) (hrow : Row w g 5 news)
    (hlen : l.length + m ≤ 140737488355328) (hB : B ≤ w.heap.size) (y : Nat) (hxs : y < w.heap.size) (hxv : ∀ n c, v ≠ .slice (some ⟨y, 0, none⟩) n c)
    (h : ∀ v' w', BufT w' B v' (l ++ news) → Below B w w' → w'.heap[y]? = w.heap[y]? → (∀ n c, v' ≠ .slice (some ⟨y, 0, none⟩) n c) → K (a.put o.dst v') w') : Oper.wp Tryz.prog o a w K Q := by
  obtain ⟨v', w', hr, h2, h3, h4, h5⟩ := run_appendT w o.type B v l hbuf g m news hl hrow hlen hB y hxs hxv
  unfold Oper.wp execOp
  simp only [ho, resolve, invoke, builtin, Sem.run_bind, Sem.run_pure, Result.andThen_ok, List.map_toArray, List.map_cons, List.map_nil, hs, hx, hr]
  exact h v' w' h2 h3 h4 h5
theorem appendT {w : World} {ops : Array Oper} {rest : List Oper} {o : Oper} {a : Act} {Q : Exit → Act → World → Prop} (hgd : o.guard = none) (s x : Operand)
    (ho : o.op = .call { callee := .builtin .append, args := #[s, x], argTypes := #[53, 53] })
    (B : Nat) (v : Value) (l : List UInt8) (hs : a.eval s = v) (hbuf : BufT w B v l) (g m : Nat) (news : List UInt8) (hx : a.eval x = .slice (some ⟨g, 0, none⟩) m m) (hl : news.length = m) (hrow : Row w g 5 news)
    (hlen : l.length + m ≤ 140737488355328) (hB : B ≤ w.heap.size) (y : Nat) (hxs : y < w.heap.size) (hxv : ∀ n c, v ≠ .slice (some ⟨y, 0, none⟩) n c)
    (h : ∀ v' w', BufT w' B v' (l ++ news) → Below B w w' → w'.heap[y]? = w.heap[y]? → (∀ n c, v' ≠ .slice (some ⟨y, 0, none⟩) n c) → wpList Tryz.prog ops Q rest (a.put o.dst v') w') : wpList Tryz.prog ops Q (o :: rest) a w :=
  wpList_plain hgd fun _ hK => wp_appendT s x ho B v l hs hbuf g m news hx hl hrow hlen hB y hxs hxv fun v' w' h1 h2 h3 h4 => hK _ _ (h v' w' h1 h2 h3 h4)
theorem step_appendT {w : World} {ops : Array Oper} {o : Oper} {a : Act} {K : Act → World → Prop} {Q : Exit → Act → World → Prop} {E : Prop} (hg : o.guard = none) (s x : Operand)
    (ho : o.op = .call { callee := .builtin .append, args := #[s, x], argTypes := #[53, 53] })
    (B : Nat) (v : Value) (l : List UInt8) (hs : a.eval s = v) (hbuf : BufT w B v l) (g m : Nat) (news : List UInt8) (hx : a.eval x = .slice (some ⟨g, 0, none⟩) m m) (hl : news.length = m) (hrow : Row w g 5 news)
    (hlen : l.length + m ≤ 140737488355328) (hB : B ≤ w.heap.size) (y : Nat) (hxs : y < w.heap.size) (hxv : ∀ n c, v ≠ .slice (some ⟨y, 0, none⟩) n c)
    (h : ∀ v' w', BufT w' B v' (l ++ news) → Below B w w' → w'.heap[y]? = w.heap[y]? → (∀ n c, v' ≠ .slice (some ⟨y, 0, none⟩) n c) → K (a.put o.dst v') w') : if Region.wanted o (yielded ops a.tmps) = true then Oper.wp Tryz.prog o a w K Q else E := by
  have hw : Region.wanted o (yielded ops a.tmps) = true := by simp [Region.wanted, hg]
  rw [if_pos hw]
  exact wp_appendT s x ho B v l hs hbuf g m news hx hl hrow hlen hB y hxs hxv h
end Go.Proofs.YtdnpgmoiapkhnaaGreatDoor
end

section
namespace Go.Proofs.YtdnpgmoiapkhnaaGreatDoor
theorem rkey_text {key : List UInt8} (i : Nat) : ((expand key 40).drop (16 * i)).take 16 = rkey key i := by unfold rkey; rfl
def keyTexts (key : List UInt8) : List ByteArray := (List.range 11).map fun i => ⟨(rkey key i).toArray⟩
theorem keyTexts_length (key : List UInt8) : (keyTexts key).length = 11 := by simp [keyTexts]
theorem keyTexts_take (key : List UInt8) (i : Nat) (h : i < 11) : (keyTexts key).take (i + 1) = (keyTexts key).take i ++ [⟨(rkey key i).toArray⟩] := by
  have hl : i < (keyTexts key).length := by rw [keyTexts_length]; exact h
  rw [List.take_succ_eq_append_getElem hl]
  simp [keyTexts]
theorem keyTexts_at (key : List UInt8) (i : Nat) (h : i < 11) : (keyTexts key)[i]? = some ⟨(rkey key i).toArray⟩ := by unfold keyTexts; simp [h]
end Go.Proofs.YtdnpgmoiapkhnaaGreatDoor
end

section
namespace Go.Proofs.YtdnpgmoiapkhnaaGreatDoor
open Go.RowKit

/-- The word that goes into word i. -/
def gW (w : List UInt8) (i : Nat) : List UInt8 :=
  if i % 4 = 0 then [boxB (w.getD (4 * i - 3) 0) ^^^ rcon (i / 4 - 1), boxB (w.getD (4 * i - 2) 0), boxB (w.getD (4 * i - 1) 0), boxB (w.getD (4 * i - 4) 0)]
  else [w.getD (4 * i - 4) 0, w.getD (4 * i - 3) 0, w.getD (4 * i - 2) 0, w.getD (4 * i - 1) 0]
theorem nextW_at (w : List UInt8) (i : Nat) (k : Nat) (hk : k < 4) (hi : 4 ≤ i) : (nextW w i)[k]? = some (w.getD (4 * i - 16 + k) 0 ^^^ (gW w i).getD k 0) := by
  unfold nextW gW
  rw [List.getElem?_map, List.getElem?_range hk]
  have e1 : 4 * i - 4 + 1 = 4 * i - 3 := by omega
  have e2 : 4 * i - 4 + 2 = 4 * i - 2 := by omega
  have e3 : 4 * i - 4 + 3 = 4 * i - 1 := by omega
  simp only [Option.map_some, e1, e2, e3, Nat.add_zero]
theorem gW_length (w : List UInt8) (i : Nat) : (gW w i).length = 4 := by unfold gW; split <;> rfl
theorem nextW_take (w : List UInt8) (i : Nat) (hi : 4 ≤ i) (k : Nat) (hk : k < 4) : (nextW w i).take (k + 1) = (nextW w i).take k ++ [w.getD (4 * i - 16 + k) 0 ^^^ (gW w i).getD k 0] := by
  have h := nextW_at w i k hk hi
  have hl : k < (nextW w i).length := by rw [nextW_length]; exact hk
  rw [List.take_succ_eq_append_getElem hl]
  rw [List.getElem?_eq_getElem hl] at h
  rw [Option.some.inj h]
theorem getD_some {l : List UInt8} {i : Nat} (h : i < l.length) : l[i]? = some (l.getD i 0) := by
  rw [List.getD_eq_getElem?_getD, List.getElem?_eq_getElem h]; rfl
theorem gW_four {E : List UInt8} {n : Nat} (h : n % 4 = 0) : gW E n = [boxB (E.getD (4 * n - 3) 0) ^^^ rcon (n / 4 - 1), boxB (E.getD (4 * n - 2) 0), boxB (E.getD (4 * n - 1) 0), boxB (E.getD (4 * n - 4) 0)] := by unfold gW; rw [if_pos h]
theorem gW_plain {E : List UInt8} {n : Nat} (h : ¬ n % 4 = 0) : gW E n = [E.getD (4 * n - 4) 0, E.getD (4 * n - 3) 0, E.getD (4 * n - 2) 0, E.getD (4 * n - 1) 0] := by unfold gW; rw [if_neg h]
theorem Row.four (w : World) (t : TypeId) (g : Nat) (hg : w.heap.size = g) (a b c d : Int) (x y z u : UInt8) (ha : a = (x.toNat : Int)) (hb : b = (y.toNat : Int)) (hc : c = (z.toNat : Int)) (hd : d = (u.toNat : Int)) : Row (w.alloc (.cells #[.int .u8 a, .int .u8 b, .int .u8 c, .int .u8 d] t)) g t [x, y, z, u] := by
  subst ha hb hc hd hg; exact heap_alloc_new w _
theorem xorB8 (a b : UInt8) : bits BinOp.xor IntKind.u8 (a.toNat : Int) (b.toNat : Int) = ((a ^^^ b).toNat : Int) := by
  rw [u8_xor_nat _ _ a.toNat_lt b.toNat_lt, UInt8.toNat_xor]
theorem BufT.cells2 {w : World} {B : Nat} {v : Value} {l : List UInt8} (h : BufT w B v l) : ∃ g c, v = .slice (some ⟨g, 0, none⟩) l.length c ∧ l.length ≤ c ∧ g < w.heap.size ∧ ∀ (i : Nat) (b : UInt8), l[i]? = some b → w.cell? ⟨g, i, none⟩ = some (.int .u8 (b.toNat : Int)) := by
  obtain ⟨g, cap, cur, fz, h1, h2, h3, h4, h5, h6, h7, h8⟩ := h
  obtain ⟨g', c', e1, _, e3, e4⟩ := BufT.cells (w := w) (B := B) (v := v) (l := l) ⟨g, cap, cur, fz, h1, h2, h3, h4, h5, h6, h7, h8⟩
  subst h1
  injection e1 with a1 a2 a3
  injection a1 with a4
  injection a4 with a5
  subst a5 a3
  exact ⟨g, cap, rfl, h5, e3, e4⟩
/-- Bytes of a slice's middle, as a text. -/
theorem text_mid (w : World) (g p c : Nat) (R : List UInt8) (n : Nat) (hn : R.length = n) (hc : ∀ (i : Nat) (b : UInt8), R[i]? = some b → w.cell? ⟨g, p + i, none⟩ = some (.int .u8 (b.toNat : Int))) :
    (convert 53 9 (.slice (some ⟨g, p, none⟩) n c)).run Tryz.prog w = .ok (.string ⟨R.toArray⟩) w := by
  have h2 := run_convert_bytes_arg (P := Tryz.prog) w 53 5 Tryz.underlying53 Tryz.underlying5 g p n c (R.map fun c => (c.toNat : Int)) (by simp [hn]) (by
    intro i hi
    have hi2 : i < R.length := by omega
    have := hc i R[i] (List.getElem?_eq_getElem hi2)
    simpa [List.getD, List.getElem?_eq_getElem hi2] using this) 9 Tryz.underlying9
  rw [h2]
  have e : strOfNums (R.map fun c => (c.toNat : Int)) = ⟨R.toArray⟩ := by
    have hm : (R.map fun c => (c.toNat : Int)).map (fun n => UInt8.ofNat n.toNat) = R := by
      rw [List.map_map]
      conv => rhs; rw [← List.map_id R]
      apply List.map_congr_left
      intro b _
      simp
    exact congrArg (fun l : List UInt8 => (⟨l.toArray⟩ : ByteArray)) hm
  rw [e]
theorem elemB : Tryz.prog.elem 53 = 5 := by kernel_rfl
theorem sizeB_run (w : World) : (sizeOf 5).run Tryz.prog w = .ok 1 w := Tryz.sizeOf5 w
theorem slice_mid (g len cap p : Nat) (hp : p + 16 ≤ cap) (w : World) : (Instr.slice 53 (.slice (some ⟨g, 0, none⟩) len cap) (some (.int .i64 (p : Int))) (some (.int .i64 ((p : Int) + 16))) none).run Tryz.prog w = .ok (.slice (some ⟨g, p, none⟩) 16 (cap - p)) w := by
  have hu : Tryz.prog.underlying 53 = some (.slice (Tryz.prog.elem 53)) := by rw [elemB]; exact Tryz.underlying53
  rw [run_slice_lh (P := Tryz.prog) w 53 (some ⟨g, 0, none⟩) len cap hu .i64 .i64 (p : Int) ((p : Int) + 16) (by omega) (by omega) (by omega), elemB, sizeB_run]
  have e1 : ((p : Int) + 16).toNat = p + 16 := by omega
  simp only [Result.andThen, sliced, Int.toNat_natCast, e1, Nat.mul_one, Option.map_some]
  rw [if_neg (by omega), Addr.add_mid, Nat.zero_add, Nat.add_sub_cancel_left]
attribute [local irreducible] rkey expand keyTexts gW nextW rcon
set_option maxRecDepth 100000 in
set_option maxHeartbeats 4000000 in
theorem rrounds_any (w : World) (key : ByteArray) (hk : key.size = 16) (v : Value) (hv : BSl w v boxT) :
    Calls Tryz.prog 124 #[.string key, v] w fun e w' => ∃ v', e = .returned v' ∧ SSl w' v' (keyTexts key.data.toList) ∧ Ext w w' := by
  obtain ⟨gt, ct, rfl, hgt, hct⟩ := hv
  rw [boxT_length]
  have HCT := Lib.hid (fun u (hu : Ext w u) (b : UInt8) => (hu.below.cell (p := ⟨gt, b.toNat, none⟩) hgt).trans (hct b.toNat (boxB b) (by have := boxT_at b.toNat b.toNat_lt; rwa [UInt8.ofNat_toNat] at this)))
  obtain ⟨cap, W1, hcv, hcap, hx1, hbuf1⟩ := bufT_of_text w key (by omega)
  obtain ⟨kl, hkl⟩ : ∃ kl, key.data.toList = kl := ⟨_, rfl⟩
  have hkl16 : kl.length = 16 := by rw [← hkl, size_list, hk]
  rw [hkl] at hbuf1 ⊢
  have HB1 := Lib.hid hbuf1; have HX1 := Lib.hid hx1
  have HEL := Lib.hid (fun m => expand_length hkl16 m)
  have HE0 : Hid (expand kl 0 = kl) := Lib.hid (by unfold expand; rfl)
  have HES : Hid (∀ m, expand kl (m + 1) = expand kl m ++ nextW (expand kl m) (m + 4)) := Lib.hid (fun m => by rw [expand])
  clear hct hbuf1 hx1 hcap hkl hkl16
  go_enter Tryz.func124, Tryz.ntmps124
  go_wp2
  rw [hk] at HB1
  go_loopw [5, 6, 7] (fun v r i wr => ∃ m n : Nat, m ≤ 40 ∧ n = m + 4 ∧ i = .int .i64 (n : Int) ∧ r = .int .u8 ((rcon ((n - 1) / 4)).toNat : Int) ∧ BufT wr w.heap.size v (expand kl m) ∧ Ext w wr) (fun _ _ i _ => 44 - (intOf i).toNat)
  case atStart => exact ⟨0, 4, by omega, rfl, rfl, by rw [show (4 - 1) / 4 = 0 from rfl]; unfold rcon; rfl, by rw [HE0.out]; exact HB1.out, HX1.out⟩
  case round =>
    clear HB1 HX1 hcv
    obtain ⟨m, n, hm, hn, rfl, rfl, hbuf, hext⟩ := hrel
    by_cases hlt : m < 40
    · have hni : (n : Int) < 44 := by omega
      obtain ⟨gv, cv, hv, hgB, hgv, hcells⟩ := hbuf.cells
      subst hv
      have HBf := Lib.hid hbuf; have HE := Lib.hid hext
      have HESm := Lib.hid (HES.out m)
      have hel := HEL.out m
      have hgtw : gt < wr.heap.size := Nat.lt_of_lt_of_le hgt hext.size
      have hne : gv < wr.heap.size := hgv
      generalize expand kl m = E at *
      have hlen : E.length = 4 * n := by rw [hel]; omega
      rw [show m + 4 = n by omega] at HESm
      have HW := Lib.hid (fun k hk => nextW_take E n (by omega) k hk)
      have HNL := Lib.hid (nextW_length E n)
      have c0 := hcells (4 * n - 4) _ (getD_some (by omega)); have c1 := hcells (4 * n - 3) _ (getD_some (by omega)); have c2 := hcells (4 * n - 2) _ (getD_some (by omega)); have c3 := hcells (4 * n - 1) _ (getD_some (by omega))
      have G4 := Lib.hid (fun (h : n % 4 = 0) => gW_four (E := E) h)
      have GP := Lib.hid (fun (h : ¬ n % 4 = 0) => gW_plain (E := E) h)
      have HEn := Lib.hid (fun k (hk : k < 4) => getD_some (l := E) (i := 4 * n - 16 + k) (by omega))
      have HGk : Hid (∀ k, k < 4 → (gW E n)[k]? = some ((gW E n).getD k 0)) := Lib.hid (fun k hk => getD_some (by rw [gW_length]; exact hk))
      generalize gW E n = G at *
      generalize nextW E n = NW at *
      generalize E.getD (4 * n - 4) 0 = b0 at *
      generalize E.getD (4 * n - 3) 0 = b1 at *
      generalize E.getD (4 * n - 2) 0 = b2 at *
      generalize E.getD (4 * n - 1) 0 = b3 at *
      obtain ⟨j0, q0⟩ : ∃ j : Nat, 4 * (n : Int) - 4 = (j : Int) := ⟨4 * n - 4, by omega⟩
      obtain ⟨j1, q1⟩ : ∃ j : Nat, 4 * (n : Int) - 3 = (j : Int) := ⟨4 * n - 3, by omega⟩
      obtain ⟨j2, q2⟩ : ∃ j : Nat, 4 * (n : Int) - 2 = (j : Int) := ⟨4 * n - 2, by omega⟩
      obtain ⟨j3, q3⟩ : ∃ j : Nat, 4 * (n : Int) - 1 = (j : Int) := ⟨4 * n - 1, by omega⟩
      rw [show 4 * n - 4 = j0 by omega] at c0
      rw [show 4 * n - 3 = j1 by omega] at c1
      rw [show 4 * n - 2 = j2 by omega] at c2
      rw [show 4 * n - 1 = j3 by omega] at c3
      have w4n : IntKind.i64.wrap (4 * (n : Int)) = 4 * (n : Int) := IntWalk.i64_in _ ⟨by omega, by omega⟩
      have wj0 : IntKind.i64.wrap (j0 : Int) = (j0 : Int) := IntWalk.i64_in _ ⟨by omega, by omega⟩
      have wj1 : IntKind.i64.wrap (j1 : Int) = (j1 : Int) := IntWalk.i64_in _ ⟨by omega, by omega⟩
      have wj2 : IntKind.i64.wrap (j2 : Int) = (j2 : Int) := IntWalk.i64_in _ ⟨by omega, by omega⟩
      have wj3 : IntKind.i64.wrap (j3 : Int) = (j3 : Int) := IntWalk.i64_in _ ⟨by omega, by omega⟩
      rw [hlen] at HBf ⊢
      obtain ⟨len, hl4⟩ : ∃ len, 4 * n = len := ⟨_, rfl⟩
      rw [hl4] at HBf ⊢
      have l0 : (j0 : Int) < (len : Int) := by omega
      have l1 : (j1 : Int) < (len : Int) := by omega
      have l2 : (j2 : Int) < (len : Int) := by omega
      have l3 : (j3 : Int) < (len : Int) := by omega
      have n0 : j0 < len := by omega
      have n1 : j1 < len := by omega
      have n2 : j2 < len := by omega
      have n3 : j3 < len := by omega
      have HLen := Lib.hid hlen; have HL4 := Lib.hid hl4
      have HN := Lib.hid hn
      have HNk : Hid (4 ≤ n ∧ n < 44) := Lib.hid (by omega)
      clear hbuf hext hcells hel hlen hl4 hn
      have hlen8 : ∀ x : UInt8, (x.toNat : Int) < 256 := fun x => by have := x.toNat_lt; omega
      by_cases hm4 : n % 4 = 0
      case' pos =>
        have hmi : (n : Int) % 4 = 0 := by omega
        have hG := G4.out hm4
        have hrn : n / 4 - 1 = (n - 1) / 4 := by omega
        have hrn2 : n / 4 = (n - 1) / 4 + 1 := by omega
        rw [hrn] at hG
        have HRN : Hid ((rcon (n / 4)).toNat = tm (rcon ((n - 1) / 4)).toNat 2) := Lib.hid (by rw [hrn2, rcon_double])
        have TR := Lib.hid (fun u => rTimes_any (rcon ((n - 1) / 4)).toNat 2 (rcon ((n - 1) / 4)).toNat_lt (by decide) u)
        have hxor := xorB8 (boxB b1) (rcon ((n - 1) / 4))
        obtain ⟨W2, hW2⟩ : ∃ W2, W2 = (wr.alloc (.cells #[.int .u8 (b0.toNat : Int), .int .u8 (b1.toNat : Int), .int .u8 (b2.toNat : Int), .int .u8 (b3.toNat : Int)] 5)).drew := ⟨_, rfl⟩
        have x2 : Ext wr W2 := by rw [hW2]; exact ((Ext.refl wr).alloc _).drew
        have r2 : Row W2 wr.heap.size 5 [b0, b1, b2, b3] := by rw [hW2]; exact Row.drew (Row.four wr _ _ rfl _ _ _ _ b0 b1 b2 b3 rfl rfl rfl rfl)
        have D0 := Lib.hid (r2.cell 0 b0 rfl); have D1 := Lib.hid (r2.cell 1 b1 rfl); have D2 := Lib.hid (r2.cell 2 b2 rfl); have D3 := Lib.hid (r2.cell 3 b3 rfl)
        have hz2 : W2.heap.size = wr.heap.size + 1 := by rw [hW2]; simp
        have S0 := Lib.hid (HCT.out W2 (HE.out.trans x2) b0); have S1 := Lib.hid (HCT.out W2 (HE.out.trans x2) b1); have S2 := Lib.hid (HCT.out W2 (HE.out.trans x2) b2); have S3 := Lib.hid (HCT.out W2 (HE.out.trans x2) b3)
        have HW2 := Lib.hid hW2; have HX2 := Lib.hid x2; have HZ2 := Lib.hid hz2
        clear hW2 x2 r2 hz2
        have B0 := hlen8 b0; have B1 := hlen8 b1; have B2 := hlen8 b2; have B3 := hlen8 b3
        have HFour := Lib.hid (fun u => Row.four u 5 u.heap.size rfl ((boxB b1 ^^^ rcon ((n - 1) / 4)).toNat : Int) ((boxB b2).toNat : Int) ((boxB b3).toNat : Int) ((boxB b0).toNat : Int) _ _ _ _ rfl rfl rfl rfl)
        rw [← hG] at HFour
        clear hrn hrn2 hG hm4 hlen8
        generalize tm (rcon ((n - 1) / 4)).toNat 2 = r2 at *
        generalize (boxB b1 ^^^ rcon ((n - 1) / 4)).toNat = z at *
        generalize (rcon ((n - 1) / 4)).toNat = r at *
        generalize (boxB b0).toNat = y0 at *
        generalize (boxB b1).toNat = y1 at *
        generalize (boxB b2).toNat = y2 at *
        generalize (boxB b3).toNat = y3 at *
        generalize b0.toNat = b0 at *
        generalize b1.toNat = b1 at *
        generalize b2.toNat = b2 at *
        generalize b3.toNat = b3 at *
        go_wp2
        go_still_tail 24, (by kernel_rfl)
        change wpList _ _ _ _ _ wr.drew
        go_wp2
        rw [← HW2.out]
        have d0 := D0.out; have d1 := D1.out; have d2 := D2.out; have d3 := D3.out
        have s0 := S0.out; have s1 := S1.out; have s2 := S2.out; have s3 := S3.out
        clear c0 c1 c2 c3
        go_still_tail 26, (by kernel_rfl)
        change wpList _ _ _ _ _ W2.drew
        clear d0 d1 d2 d3 s0 s1 s2 s3
        go_wp2_with (go_at_call 155; refine (TR.out _).mono ?_; rintro e w3 ⟨rfl, rfl⟩)
        have hRG := (HFour.out W2).drew
        have hXG : Ext wr ((W2.alloc (.cells #[.int .u8 (z : Int), .int .u8 (y2 : Int), .int .u8 (y3 : Int), .int .u8 (y0 : Int)] 5)).drew) := (HX2.out.alloc _).drew
        have hgb1 : wr.heap.size ≤ W2.heap.size := HX2.out.size
        have hgb2 : W2.heap.size < ((W2.alloc (.cells #[.int .u8 (z : Int), .int .u8 (y2 : Int), .int .u8 (y3 : Int), .int .u8 (y0 : Int)] 5)).drew).heap.size := by simp
        generalize ((W2.alloc (.cells #[.int .u8 (z : Int), .int .u8 (y2 : Int), .int .u8 (y3 : Int), .int .u8 (y0 : Int)] 5)).drew) = W3 at *
        generalize W2.heap.size = gb at *
        have HRG := Lib.hid hRG; have HXG := Lib.hid hXG; have HG1 := Lib.hid hgb1; have HG2 := Lib.hid hgb2
        clear hRG hXG hgb1 hgb2 HFour S0 S1 S2 S3 D0 D1 D2 D3 HW2 HX2 HZ2 TR hxor B0 B1 B2 B3
      case' neg =>
        have hmi : ((n : Int) % 4 == 0) = false := by simp; omega
        have hG := GP.out hm4
        have hrn2 : n / 4 = (n - 1) / 4 := by omega
        have HRN : Hid ((rcon (n / 4)).toNat = (rcon ((n - 1) / 4)).toNat) := Lib.hid (by rw [hrn2])
        have HFour := Lib.hid (Row.four wr 5 wr.heap.size rfl (b0.toNat : Int) (b1.toNat : Int) (b2.toNat : Int) (b3.toNat : Int) _ _ _ _ rfl rfl rfl rfl)
        rw [← hG] at HFour
        clear hrn2 hG hm4 hlen8
        generalize (rcon ((n - 1) / 4)).toNat = r2 at *
        generalize b0.toNat = b0 at *
        generalize b1.toNat = b1 at *
        generalize b2.toNat = b2 at *
        generalize b3.toNat = b3 at *
        go_wp2
        go_still_tail 24, (by kernel_rfl)
        change wpList _ _ _ _ _ wr.drew
        go_wp2
        have hRG := HFour.out.drew
        have hXG : Ext wr ((wr.alloc (.cells #[.int .u8 (b0 : Int), .int .u8 (b1 : Int), .int .u8 (b2 : Int), .int .u8 (b3 : Int)] 5)).drew) := ((Ext.refl wr).alloc _).drew
        have hgb2 : wr.heap.size < ((wr.alloc (.cells #[.int .u8 (b0 : Int), .int .u8 (b1 : Int), .int .u8 (b2 : Int), .int .u8 (b3 : Int)] 5)).drew).heap.size := by simp
        generalize ((wr.alloc (.cells #[.int .u8 (b0 : Int), .int .u8 (b1 : Int), .int .u8 (b2 : Int), .int .u8 (b3 : Int)] 5)).drew) = W3 at *
        obtain ⟨gb, hgb⟩ : ∃ g, g = wr.heap.size := ⟨_, rfl⟩
        have hgb1 : wr.heap.size ≤ gb := by omega
        rw [← hgb] at hRG hgb2 ⊢
        have HRG := Lib.hid hRG; have HXG := Lib.hid hXG; have HG1 := Lib.hid hgb1; have HG2 := Lib.hid hgb2
        clear hRG hXG hgb1 hgb2 hgb HFour
        clear c0 c1 c2 c3
      all_goals
        clear q0 q1 q2 q3 wj0 wj1 wj2 wj3 l0 l1 l2 l3 n0 n1 n2 n3 hmi G4 GP
        go_loopw [5, 9] (fun v i wr => ∃ k : Nat, k ≤ 4 ∧ i = .int .i64 k ∧ BufT wr w.heap.size v (E ++ NW.take k) ∧ (∀ a c, v ≠ .slice (some ⟨gb, 0, none⟩) a c) ∧ Row wr gb 5 G ∧ Ext w wr) (fun _ i _ => 4 - (intOf i).toNat)
        case atStart => exact ⟨0, by omega, rfl, by rw [List.take_zero, List.append_nil]; exact HBf.out.ext HXG.out, fun a c h => by injection h with h1; injection h1 with h2; injection h2 with h3; have := HG1.out; omega, HRG.out, HE.out.trans HXG.out⟩
        case round =>
          obtain ⟨k, hk4, rfl, hbuf, hvne, hrg, hext⟩ := hrel
          clear HRG HBf HXG hgtw hne
          by_cases hltk : k < 4
          · have hki : (k : Int) < 4 := by omega
            have hk0 : (0 : Int) ≤ (k : Int) := by omega
            obtain ⟨g5, c5, hv5, _, hg5, hcells⟩ := hbuf.cells
            subst hv5
            obtain ⟨p, hp⟩ : ∃ p : Nat, 4 * (n : Int) - 16 + (k : Int) = (p : Int) := ⟨4 * n - 16 + k, by have := HNk.out; omega⟩
            have hp2 : 4 * n - 16 + k = p := by have := HNk.out; omega
            have hpl : p < E.length := by have := HLen.out; have := HNk.out; omega
            have cE := hcells p _ (by rw [List.getElem?_append_left hpl, ← hp2]; exact HEn.out k hltk)
            have cG := hrg.cell k _ (HGk.out k hltk)
            have HWk := Lib.hid (HW.out k hltk)
            have hlk : (E ++ NW.take k).length = 4 * n + k := by rw [List.length_append, List.length_take, HNL.out, HLen.out]; omega
            have hpk : p < 4 * n + k := by have := HLen.out; omega
            obtain ⟨lk, hlk2⟩ : ∃ lk, 4 * n + k = lk := ⟨_, rfl⟩
            have hxor := xorB8 (E.getD (4 * n - 16 + k) 0) (G.getD k 0)
            have H2 : Hid ((E ++ NW.take k).length + 1 ≤ 140737488355328) := Lib.hid (by rw [hlk]; have := HNk.out; omega)
            rw [hlk, hlk2] at hbuf hvne ⊢
            rw [hlk2] at hpk
            have hpki : (p : Int) < (lk : Int) := by omega
            have hp0 : (0 : Int) ≤ (p : Int) := by omega
            have w16 : IntKind.i64.wrap (4 * (n : Int) - 16) = 4 * (n : Int) - 16 := IntWalk.i64_in _ ⟨by omega, by have := HNk.out; omega⟩
            have wp : IntKind.i64.wrap (p : Int) = (p : Int) := IntWalk.i64_in _ ⟨by omega, by have := HLen.out; have := HNk.out; omega⟩
            have HX := Lib.hid hxor
            have HBuf := Lib.hid hbuf; have HVn := Lib.hid hvne; have HRg := Lib.hid hrg; have HExt := Lib.hid hext
            clear hp2 hpl hcells hlk hlk2 hxor hbuf hvne hrg hext hg5
            generalize E.getD (4 * n - 16 + k) 0 = A at *
            generalize G.getD k 0 = Bq at *
            have hxor := HX.out
            go_wp2
            go_region_law (refine step_appendT rfl (.tmp 79) (.tmp 93) rfl w.heap.size (.slice (some ⟨g5, 0, none⟩) lk c5) _ (by simp [Act.eval]) (HBuf.out.ext ((Ext.refl wr).alloc _).drew) wr.heap.size 1 [A ^^^ Bq] (by simp [Act.eval]) rfl (Row.one _ _ _ _ (by first | rfl | exact HX.out)) H2.out (HExt.out.alloc _).size gb (Nat.lt_of_lt_of_le HRg.out.lt (by simp)) HVn.out ?_; intro v1 w1 hb1 hx1 hh1 hn1)
            all_goals
              go_wp2
              go_roundw
              case rel => exact ⟨k + 1, hltk, by go_num, by rw [HWk.out, ← List.append_assoc]; exact hb1, hn1, hh1.trans (HRg.out.alloc _), Below.trans (HExt.out.alloc _).drew hx1⟩
              case measure => simp [intOf]; omega
          · obtain rfl : k = 4 := by omega
            rw [List.take_of_length_le (by rw [HNL.out]; exact Nat.le_refl _), ← HESm.out] at hbuf
            have HBuf := Lib.hid hbuf; have HExt := Lib.hid hext
            clear hbuf hvne hrg hext
            have e4 : ((4 : Nat) : Int) = 4 := rfl
            rw [e4]
            clear e4
            go_wp2
            go_roundw
            case rel => exact ⟨m + 1, n + 1, by omega, by have := HN.out; omega, by go_num, by rw [show (n + 1 - 1) / 4 = n / 4 by omega, HRN.out], HBuf.out, HExt.out⟩
            case measure => simp [intOf]; omega
    · obtain rfl : m = 40 := by omega
      obtain rfl : n = 44 := by omega
      obtain ⟨gv, cv, hv, hcv, hgv, hcells⟩ := hbuf.cells2
      subst hv
      have hel : (expand kl 40).length = 176 := by rw [HEL.out]
      rw [hel] at hcv hbuf ⊢
      have hRt : ∀ i, i < 11 → ∀ (j : Nat) (b : UInt8), (rkey kl i)[j]? = some b → wr.cell? ⟨gv, 16 * i + j, none⟩ = some (.int .u8 (b.toNat : Int)) := fun i hi j b hb => by
        rw [← rkey_text, List.getElem?_take] at hb
        split at hb
        · rw [List.getElem?_drop] at hb; exact hcells _ _ hb
        · cases hb
      have hRl : ∀ i, i < 11 → (rkey kl i).length = 16 := fun i hi => by
        rw [← rkey_text, List.length_take, List.length_drop, hel]; omega
      have HRt := Lib.hid hRt; have HRl := Lib.hid hRl; have HE := Lib.hid hext; have HCv := Lib.hid hcv
      have HKT := Lib.hid (keyTexts_take kl); have HKL := Lib.hid (keyTexts_length kl)
      clear hbuf hcells hRt hRl hext hcv hel
      have e44 : ((44 : Nat) : Int) = 44 := rfl
      rw [e44]
      clear e44
      obtain ⟨W5, rfl⟩ : ∃ W5, W5 = wr := ⟨_, rfl⟩
      go_wp2
      go_loopw [10, 11] (fun v i wr => ∃ k : Nat, k ≤ 11 ∧ i = .int .i64 k ∧ BufS wr W5.heap.size v ((keyTexts kl).take k) ∧ Ext W5 wr) (fun _ i _ => 11 - (intOf i).toNat)
      case atStart => exact ⟨0, by omega, rfl, by simpa using BufS.nil W5 W5.heap.size, Ext.refl _⟩
      case round =>
        obtain ⟨k, hk11, rfl, hbs, hext⟩ := hrel
        have HBs := Lib.hid hbs; have HX := Lib.hid hext
        by_cases hltk : k < 11
        · have hki : (k : Int) < 11 := by omega
          obtain ⟨p, hp⟩ : ∃ p : Nat, 16 * (k : Int) = (p : Int) := ⟨16 * k, by omega⟩
          have hp2 : 16 * k = p := by omega
          have hsl := fun u => slice_mid gv 176 cv p (by have := HCv.out; omega) u
          have HRk := Lib.hid (HRl.out k hltk)
          have HTk := Lib.hid (HKT.out k hltk)
          have htx := text_mid wr gv p (cv - p) (rkey kl k) 16 HRk.out (fun j b hb => (hext.below.cell (p := ⟨gv, p + j, none⟩) hgv).trans (by have := HRt.out k hltk j b hb; rw [hp2] at this; exact this))
          have H2 : Hid (((keyTexts kl).take k).length ≤ 1000000) := Lib.hid (by rw [List.length_take]; omega)
          clear hbs hext hp2
          generalize rkey kl k = R at *
          go_wp2_with (at_builtin; refine append_text rfl (.tmp 99) (.tmp 108) rfl W5.heap.size _ _ rfl (HBs.out.ext ((Ext.refl wr).alloc _)) wr.heap.size ⟨R.toArray⟩ rfl (by rw [World.cell?_alloc_at _ _ _ _ rfl]; rfl) H2.out (HX.out.alloc _).size ?_; intro v1 w2 hb1 hx2; have x2 : Ext W5 w2 := Below.trans (HX.out.alloc _) hx2)
          go_roundw
          case rel => exact ⟨k + 1, hltk, by go_num, by rw [HTk.out]; exact hb1, x2⟩
          case measure => simp [intOf]; omega
        · obtain rfl : k = 11 := by omega
          rw [List.take_of_length_le (by rw [HKL.out]; exact Nat.le_refl _)] at hbs
          have HS := Lib.hid (hbs.sl (by intro h; have := HKL.out; rw [h] at this; cases this))
          clear hbs
          have e11 : ((11 : Nat) : Int) = 11 := rfl
          rw [e11]
          clear e11
          go_wp2
          go_ret
          exact ⟨_, rfl, HS.out, HE.out.trans hext⟩
end Go.Proofs.YtdnpgmoiapkhnaaGreatDoor
end

section
namespace Go.Proofs.YtdnpgmoiapkhnaaGreatDoor
open Go.RowKit

/-- The first 16 bytes, with bytes 0 behind. -/
def fullL (s : ByteArray) : List UInt8 := (s.data.toList ++ List.replicate 16 0).take 16
theorem fullL_length (s : ByteArray) : (fullL s).length = 16 := by unfold fullL; rw [List.length_take, List.length_append, List.length_replicate]; omega
theorem make16 (u : World) : (Instr.makeSlice 53 (.int .i64 16) (.int .i64 16)).run Tryz.prog u = .ok (.slice (some ⟨u.heap.size, 0, none⟩) 16 16) (u.alloc (.cells (zc 16) 5)) := by
  have h := make_bytes 16 (by decide) u
  have e : madeCells #[Value.int .u8 0] 16 = zc 16 := by kernel_rfl
  rw [e] at h
  exact h
end Go.Proofs.YtdnpgmoiapkhnaaGreatDoor
end

section
namespace Go.Proofs.YtdnpgmoiapkhnaaGreatDoor
open Go.RowKit
attribute [local irreducible] rkey expand enc dec keyTexts subShift mixC addK

theorem BRow.sl {w : World} {g : Nat} {t : TypeId} {l : List UInt8} (h : BRow w g t l) (c : Nat) : BSl w (.slice (some ⟨g, 0, none⟩) l.length c) l := ⟨g, c, rfl, h.lt, fun i b hb => h.cell i b hb⟩
theorem BSl.text {w : World} {v : Value} {l : List UInt8} (h : BSl w v l) : (convert 53 9 v).run Tryz.prog w = .ok (.string ⟨l.toArray⟩) w := by
  obtain ⟨g, c, rfl, hg, hc⟩ := h
  have h2 := run_convert_bytes_arg (P := Tryz.prog) w 53 5 Tryz.underlying53 Tryz.underlying5 g 0 l.length c (l.map fun c => (c.toNat : Int)) (by simp) (by
    intro i hi
    have := hc i l[i] (List.getElem?_eq_getElem hi)
    simpa [List.getD, List.getElem?_eq_getElem hi] using this) 9 Tryz.underlying9
  rw [h2]
  have e : strOfNums (l.map fun c => (c.toNat : Int)) = ⟨l.toArray⟩ := by
    have hm : (l.map fun c => (c.toNat : Int)).map (fun n => UInt8.ofNat n.toNat) = l := by
      rw [List.map_map]
      conv => rhs; rw [← List.map_id l]
      apply List.map_congr_left
      intro b _
      simp
    exact congrArg (fun l : List UInt8 => (⟨l.toArray⟩ : ByteArray)) hm
  rw [e]
theorem subShift_at (l : List UInt8) (i : Nat) (hi : i < 16) : (subShift l)[i]? = some (boxB (l.getD (4 * ((i / 4 + i % 4) % 4) + i % 4) 0)) := by
  unfold subShift
  rw [List.getElem?_map, List.getElem?_range hi]; rfl
theorem brow_mixd {w : World} {g : Nat} {t : TypeId} {new old : List UInt8} (h : new.length = 16) (ho : old.length = 16) (j : Nat) (hj : j < 16) (hr : BRow w g t (mixd new old j)) (b : UInt8) (hb : new[j]? = some b) (x : Int) (hx : x = (b.toNat : Int)) :
    BRow (w.setCell ⟨g, j, none⟩ (.int .u8 x)) g t (mixd new old (j + 1)) := by
  have h2 := hr.set_ j (by rw [mixd_length h ho j (by omega)]; exact hj) x b hx
  rw [mixd_set h ho j hj b hb] at h2
  exact h2
set_option maxRecDepth 100000 in
set_option maxHeartbeats 4000000 in
theorem raes_any (w : World) (key s : ByteArray) (hk : key.size = 16) (hs : s.size = 16) (v : Value) (hv : BSl w v boxT) :
    Calls Tryz.prog 105 #[.string key, .string s, v] w fun e w' => e = .returned (.string ⟨(enc (rkey key.data.toList) s.data.toList).toArray⟩) ∧ Ext w w' := by
  have HR := Lib.hid (rrounds_any w key hk v hv)
  obtain ⟨gt, ct, rfl, hgt, hct⟩ := hv
  rw [boxT_length] at HR ⊢
  have HCT := Lib.hid (fun u (hu : Ext w u) (b : UInt8) => (hu.below.cell (p := ⟨gt, b.toNat, none⟩) hgt).trans (hct b.toNat (boxB b) (by have := boxT_at b.toNat b.toNat_lt; rwa [UInt8.ofNat_toNat] at this)))
  have hkl : key.data.toList.length = 16 := by rw [size_list]; exact hk
  have hsl : s.data.toList.length = 16 := by rw [size_list]; exact hs
  have hK : ∀ n, n ≤ 10 → (rkey key.data.toList n).length = 16 := fun n hn => rkey_length hkl n hn
  have HK := Lib.hid hK; have HSl := Lib.hid hsl
  have HE := Lib.hid (encS_all (rkey key.data.toList) s.data.toList)
  have HEL := Lib.hid (encS_length hK hsl)
  have HKA := Lib.hid (keyTexts_at key.data.toList)
  have HKL := Lib.hid (keyTexts_length key.data.toList)
  have HA0 := Lib.hid (addK_length (hK 0 (by omega)) hsl)
  have hmk := make16
  have hs0 : s.size = 16 := hs
  have HCV := Lib.hid (fun u => bytes_of_text u s)
  have hKLn := keyTexts_length key.data.toList
  clear hct hK hkl hsl
  generalize key.data.toList = kl at *
  generalize s.data.toList = sl at *
  go_enter Tryz.func105, Tryz.ntmps105
  go_wp2_with (go_at_call 124; refine (HR.out).mono ?_; rintro e w1 ⟨v1, rfl, ⟨gl, cl, rfl, hgl, hcl⟩, x1⟩; obtain ⟨c, W2, hcv, hc2, x2, hb2⟩ := HCV.out w1)
  have HB2 := Lib.hid hb2; have HX2 := Lib.hid x2; have HX1 := Lib.hid x1
  have HCL := Lib.hid (fun u (hu : Ext w1 u) i (hi : i < 11) => (hu.below.cell (p := ⟨gl, i, none⟩) hgl).trans (hcl i _ (HKA.out i hi)))
  have HTX : Hid (∀ i, i < 11 → ∃ T : ByteArray, T = ⟨(rkey kl i).toArray⟩ ∧ T.size = 16 ∧ (∀ j (h : j < T.size) (b : UInt8), (rkey kl i)[j]? = some b → T[j] = b)) := Lib.hid (fun i hi => ⟨_, rfl, by have := HK.out i (by omega); simpa [ByteArray.size] using this, fun j h b hb => text_at _ j b hb h⟩)
  clear hcl hb2 x2 x1 hcv hc2
  go_loopw [9] (fun i wr => ∃ j : Nat, j ≤ 16 ∧ i = .int .i64 j ∧ BRow wr w1.heap.size 5 (mixd (addK (rkey kl 0) sl) sl j) ∧ Ext w1 wr) (fun i _ => 16 - (intOf i).toNat)
  case atStart => exact ⟨0, Nat.zero_le _, rfl, by rw [mixd_zero]; exact HB2.out, HX2.out⟩
  case round =>
    clear HB2 HX2
    obtain ⟨j, hj, rfl, hrow, hext⟩ := hrel
    have HRow := Lib.hid hrow; have HExt := Lib.hid hext
    by_cases hlt : j < 16
    · have hji : (j : Int) < 16 := by omega
      have hj0 : (0 : Int) ≤ (j : Int) := by omega
      obtain ⟨x, hx⟩ : ∃ x, sl[j]? = some x := ⟨_, List.getElem?_eq_getElem (by rw [HSl.out]; exact hlt)⟩
      obtain ⟨y, hy⟩ : ∃ y, (rkey kl 0)[j]? = some y := ⟨_, List.getElem?_eq_getElem (by rw [HK.out 0 (by omega)]; exact hlt)⟩
      have hn : (addK (rkey kl 0) sl)[j]? = some (x ^^^ y) := by unfold addK; rw [List.getElem?_zipWith, hx, hy]
      have c1 := hrow.cell j x (by rw [mixd_at HA0.out j j (by omega) (Nat.le_refl _)]; exact hx)
      have f1 := hrow.frozen j (by rw [mixd_length HA0.out HSl.out j (by omega)]; exact hlt)
      have c2 := HCL.out wr hext 0 (by decide)
      obtain ⟨T, hT, hTs, hTg⟩ := HTX.out 0 (by decide)
      rw [← hT] at c2
      have hjT : j < T.size := by rw [hTs]; exact hlt
      have hjTi : (j : Int) < (T.size : Int) := by omega
      have hg := hTg j hjT y hy
      have hxor := xorB8 x y
      rw [← hg] at hxor
      have HS := Lib.hid (fun v hv => brow_mixd HA0.out HSl.out j hlt hrow _ hn v hv)
      have HG := Lib.hid hg
      clear hT hTs hTg hn hx hy hrow hext hg
      go_wp2
      go_region
      go_wp2
      go_roundw
      case rel => exact ⟨j + 1, by omega, by go_num, HS.out _ (by first | rfl | (rw [← HG.out]; first | rfl | exact hxor)), (HExt.out.setCell (Nat.le_refl _) _).drew⟩
      case measure => simp [intOf]; omega
    · obtain rfl : j = 16 := by omega
      rw [mixd_all HA0.out HSl.out, ← encS_zero] at hrow
      have hsl0 := hrow.sl c
      rw [HEL.out 0 (by omega)] at hsl0
      have HS0 := Lib.hid hsl0
      clear hrow hsl0 hext HRow
      have e16 : ((16 : Nat) : Int) = 16 := rfl
      rw [e16]
      clear e16
      go_wp2
      go_loopw [8, 10] (fun v i wr => ∃ n : Nat, 1 ≤ n ∧ n ≤ 11 ∧ i = .int .i64 n ∧ BSl wr v (encS (rkey kl) sl (n - 1)) ∧ Ext w1 wr) (fun _ i _ => 11 - (intOf i).toNat)
      case atStart => exact ⟨1, by omega, by omega, rfl, HS0.out, HExt.out⟩
      case round =>
        clear HS0 HExt
        obtain ⟨n, hn1, hn, rfl, hbs, hext⟩ := hrel
        by_cases hlt : n ≤ 10
        · have hni : (n : Int) ≤ 10 := by omega
          obtain ⟨W3, rfl⟩ : ∃ W3, W3 = wr := ⟨_, rfl⟩
          have HXL := Lib.hid (HEL.out (n - 1) (by omega))
          obtain ⟨X, hX⟩ : ∃ X, encS (rkey kl) sl (n - 1) = X := ⟨_, rfl⟩
          have HXe := Lib.hid hX
          rw [hX] at hbs HXL
          obtain ⟨gb, cb, rfl, hgb, hcb⟩ := hbs
          rw [HXL.out]
          have HCB := Lib.hid (fun u (hu : Ext W3 u) i (hi : i < 16) => (hu.below.cell (p := ⟨gb, i, none⟩) hgb).trans (hcb i _ (getD_some (by rw [HXL.out]; exact hi))))
          have HE3 := Lib.hid hext
          have HSA := Lib.hid (fun i hi => subShift_at X i hi); have HSL := Lib.hid (subShift_length X)
          clear hcb hext hX
          go_wp2
          go_loopw [12] (fun i wr => ∃ j : Nat, j ≤ 16 ∧ i = .int .i64 j ∧ Row wr W3.heap.size 5 ((subShift X).take j ++ List.replicate (16 - j) 0) ∧ Ext W3 wr) (fun i _ => 16 - (intOf i).toNat)
          case atStart => exact ⟨0, by omega, rfl, by simpa using Row.zero W3 5 16, (Ext.refl W3).alloc _⟩
          case round =>
            obtain ⟨i, hi, rfl, hrow, hext⟩ := hrel
            have HR := Lib.hid hrow; have HExt := Lib.hid hext
            by_cases hlti : i < 16
            · have hii : (i : Int) < 16 := by omega
              obtain ⟨r, hr⟩ : ∃ r : Nat, (i : Int) % 4 = (r : Int) := ⟨i % 4, by omega⟩
              obtain ⟨q, hq⟩ : ∃ r : Nat, (i : Int) / 4 = (r : Int) := ⟨i / 4, by omega⟩
              obtain ⟨t, ht⟩ : ∃ m : Nat, ((q : Int) + (r : Int)) % 4 = (m : Int) := ⟨(q + r) % 4, by omega⟩
              obtain ⟨p, hp⟩ : ∃ m : Nat, 4 * (t : Int) + (r : Int) = (m : Int) := ⟨4 * t + r, by omega⟩
              have hp2 : 4 * ((i / 4 + i % 4) % 4) + i % 4 = p := by omega
              have hp16 : p < 16 := by omega
              have hpi : (p : Int) < 16 := by omega
              have hat := HSA.out i hlti
              rw [hp2] at hat
              have c1 := HCB.out wr hext p hp16
              generalize X.getD p 0 = x at *
              have c2 := HCT.out wr ((HX1.out.trans HE3.out).trans hext) x
              have hxi : (x.toNat : Int) < 256 := by have := x.toNat_lt; omega
              have c3 := fill_cell hrow HSL.out hlti
              have f3 := hrow.frozen i
              have HS := Lib.hid (fun v hv => fill_step hrow HSL.out hlti v _ hat hv)
              have HP2 := Lib.hid hp2
              clear hat hrow hext hp2
              generalize (boxB x).toNat = y at *
              generalize x.toNat = xn at *
              go_wp2
              go_roundw
              case rel => exact ⟨i + 1, by omega, by go_num, HS.out _ rfl, HExt.out.setCell (Nat.le_refl _) _⟩
              case measure => simp [intOf]; omega
            · obtain rfl : i = 16 := by omega
              have hfull := fill_done hrow HSL.out
              have HM := Lib.hid hfull
              clear hrow hfull HR hext HSA
              have e16 : ((16 : Nat) : Int) = 16 := rfl
              rw [e16]
              clear e16
              by_cases h10 : n < 10
              case' pos =>
                have h10i : (n : Int) < 10 := by omega
                have HEn := Lib.hid (encS_mid (rkey kl) sl (n - 1) (by omega))
                rw [HXe.out, show n - 1 + 1 = n by omega] at HEn
                have hsv := HM.out.sl 16
                rw [HSL.out] at hsv
                have HSv := Lib.hid hsv
                have HML := Lib.hid (mixC_length (subShift X))
                clear hsv
                go_wp2_with (go_at_call 125; refine (rmixed_any _ _ (subShift X) HSL.out HSv.out).mono ?_; rintro e W4 ⟨gm, rfl, hgm, hM4, x4⟩)
                have HM4 := Lib.hid hM4; have HG4 := Lib.hid (show w1.heap.size ≤ gm from Nat.le_trans (HE3.out.trans HExt.out).size hgm); have HX4 := Lib.hid ((HE3.out.trans HExt.out).trans x4)
                clear hM4 hgm x4 HSv
                generalize mixC (subShift X) = M at *
              case' neg =>
                have h10i : ¬ (n : Int) < 10 := by omega
                have hn10 : n = 10 := by omega
                have HEn : Hid (encS (rkey kl) sl n = addK (rkey kl n) (subShift X)) := Lib.hid (by
                  have e := HXe.out
                  rw [hn10] at e ⊢
                  rw [encS_last, e])
                clear hn10
                have HML := Lib.hid (subShift_length X)
                have HM4 := Lib.hid HM.out; have HG4 := Lib.hid (show w1.heap.size ≤ W3.heap.size from HE3.out.size); have HX4 := Lib.hid (HE3.out.trans HExt.out)
                go_wp2
                generalize W3.heap.size = gm at *
                obtain ⟨W4, rfl⟩ : ∃ W4, W4 = wr := ⟨_, rfl⟩
                generalize subShift X = M at *
              all_goals
                have HKn := Lib.hid (HK.out n hlt)
                have HAn := Lib.hid (addK_length HKn.out HML.out)
                obtain ⟨T, hT, hTs, hTg⟩ := HTX.out n (by omega)
                have HTs := Lib.hid hTs; have HTg := Lib.hid hTg; have HT := Lib.hid hT
                have hlt11 : n < 11 := by omega
                have hnl : (n : Int) < 11 := by omega
                clear hT hTs hTg
                go_loopw [15] (fun i wr => ∃ j : Nat, j ≤ 16 ∧ i = .int .i64 j ∧ Row wr gm 5 (mixd (addK (rkey kl n) M) M j) ∧ Ext w1 wr) (fun i _ => 16 - (intOf i).toNat)
                case atStart => exact ⟨0, by omega, rfl, by rw [mixd_zero]; exact HM4.out, HX4.out⟩
                case round =>
                  clear HM4 HX4 HExt
                  obtain ⟨j, hj, rfl, hrow, hext⟩ := hrel
                  have HExt := Lib.hid hext
                  by_cases hltj : j < 16
                  · have hji : (j : Int) < 16 := by omega
                    have hj0 : (0 : Int) ≤ (j : Int) := by omega
                    obtain ⟨x, hx⟩ : ∃ x, M[j]? = some x := ⟨_, List.getElem?_eq_getElem (by rw [HML.out]; exact hltj)⟩
                    obtain ⟨y, hy⟩ : ∃ y, (rkey kl n)[j]? = some y := ⟨_, List.getElem?_eq_getElem (by rw [HKn.out]; exact hltj)⟩
                    have hn2 : (addK (rkey kl n) M)[j]? = some (x ^^^ y) := by unfold addK; rw [List.getElem?_zipWith, hx, hy]
                    have c1 := hrow.cell j x (by rw [mixd_at HAn.out j j (by omega) (Nat.le_refl _)]; exact hx)
                    have f1 := hrow.frozen j
                    have c2 := HCL.out wr hext n hlt11
                    rw [← HT.out] at c2
                    have hjT : j < T.size := by rw [HTs.out]; exact hltj
                    have hjTi : (j : Int) < (T.size : Int) := by omega
                    have hg := HTg.out j hjT y hy
                    have hxor := xorB8 x y
                    rw [← hg] at hxor
                    have HS := Lib.hid (fun v hv => row_mixd HAn.out HML.out j hltj hrow _ hn2 v hv)
                    have HG := Lib.hid hg
                    clear hn2 hx hy hrow hext hg
                    go_wp2
                    go_region
                    go_wp2
                    go_roundw
                    case rel => exact ⟨j + 1, by omega, by go_num, HS.out _ (by first | rfl | (rw [← HG.out]; first | rfl | exact hxor)), (HExt.out.setCell HG4.out _).drew⟩
                    case measure => simp [intOf]; omega
                  · obtain rfl : j = 16 := by omega
                    rw [mixd_all HAn.out HML.out, ← HEn.out] at hrow
                    have hsl2 := hrow.sl 16
                    rw [HEL.out n hlt] at hsl2
                    have HS2 := Lib.hid hsl2
                    clear hrow hsl2 hext
                    have e16 : ((16 : Nat) : Int) = 16 := rfl
                    rw [e16]
                    clear e16
                    go_wp2
                    go_roundw
                    case rel => exact ⟨n + 1, by omega, by omega, by go_num, by rw [Nat.add_sub_cancel]; exact HS2.out, HExt.out⟩
                    case measure => simp [intOf]; omega
        · obtain rfl : n = 11 := by omega
          rw [show 11 - 1 = 10 from rfl, HE.out] at hbs
          have ht := hbs.text
          have e11 : ((11 : Nat) : Int) = 11 := rfl
          rw [e11]
          clear e11 hbs
          go_wp2
          go_ret
          exact ⟨rfl, HX1.out.trans hext⟩
end Go.Proofs.YtdnpgmoiapkhnaaGreatDoor
end

section
namespace Go.Proofs.YtdnpgmoiapkhnaaGreatDoor
open Go.RowKit
attribute [local irreducible] rkey expand enc dec ctrB ctrC ctrL

theorem ctr_block (w : World) (key nonce : ByteArray) (x : Nat) (hk : key.size = 16) (hn : nonce.size = 12) (v : Value) (hv : BSl w v boxT) :
    Calls Tryz.prog 105 #[.string key, .string ⟨(nonce.data.toList ++ be 4 x).toArray⟩, v] w fun e w' => e = .returned (.string ⟨(ctrB key.data.toList nonce.data.toList x).toArray⟩) ∧ Ext w w' := by
  have h := raes_any w key ⟨(nonce.data.toList ++ be 4 x).toArray⟩ hk (by rw [txt_size, List.length_append, size_list, be_length, hn]) v hv
  unfold ctrB
  exact h
set_option maxRecDepth 100000 in
set_option maxHeartbeats 2000000 in
theorem rstream_yes (key nonce : ByteArray) (f n : Nat) (hk : key.size = 16) (hn : nonce.size = 12) (hn2 : n ≤ 1048576) (hfl : f < 4294967296) (hf : f + blocksOf n ≤ 4294967296) (w : World) :
    Calls Tryz.prog 76 #[.string key, .string nonce, .int .u32 (f : Int), .int .i64 (n : Int)] w
      fun e w' => e = .returned (.tuple #[.string ⟨(ctrL key.data.toList nonce.data.toList f n).toArray⟩, .int .i64 0]) ∧ Ext w w' := by
  have hki : ((key.size : Int) != 16) = false := by simp [hk]
  have hni : ((nonce.size : Int) != 12) = false := by simp [hn]
  obtain ⟨b, hb⟩ : ∃ b, b = blocksOf n := ⟨_, rfl⟩
  have hbi : ((n : Int) + 15) / 16 = (b : Int) := by rw [hb]; unfold blocksOf; omega
  have hkl : key.data.toList.length = 16 := by rw [size_list]; exact hk
  have hbl : b ≤ 65536 := by rw [hb]; unfold blocksOf; omega
  have hCL := Lib.hid (fun j => ctrC_length hkl nonce.data.toList f j)
  have hCS := Lib.hid (fun j => ctrC_succ key.data.toList nonce.data.toList f j)
  have hCO := Lib.hid (ctrL_of hkl nonce.data.toList f n b (by rw [hb]; exact blocksOf_le n))
  have hC0 := Lib.hid (ctrC_zero key.data.toList nonce.data.toList f)
  have HB := Lib.hid hb
  have HBL := Lib.hid (fun i => ctrB_length hkl nonce.data.toList i)
  rw [← hb] at hf
  have hfi : (f : Int) + (b : Int) ≤ 4294967296 := by omega
  have HCB := Lib.hid (fun u x v (hv : BSl u v boxT) => ctr_block u key nonce x hk hn v hv)
  clear hb
  go_enter Tryz.func76, Tryz.ntmps76
  go_wp2_with (go_at_call 104; refine (rtable_any _).mono ?_; rintro e w1 ⟨v, rfl, hv, hx⟩)
  have HBS := Lib.hid hv
  clear hv hkl
  go_loopw [12, 13] (fun s i wr => ∃ j : Nat, j ≤ b ∧ i = .int .u64 (j : Int) ∧ s = .string ⟨(ctrC key.data.toList nonce.data.toList f j).toArray⟩ ∧ Ext w1 wr) (fun _ i _ => b - (intOf i).toNat)
  case atStart => exact ⟨0, Nat.zero_le _, rfl, by rw [hC0.out], Ext.refl _⟩
  case round =>
    obtain ⟨j, hj, rfl, rfl, hext⟩ := hrel
    by_cases hlt : j < b
    · have hS := str_append (ctrC key.data.toList nonce.data.toList f j) (ctrB key.data.toList nonce.data.toList (f + j))
      rw [← hCS.out j] at hS
      have hx2 : (f : Int) + (j : Int) = ((f + j : Nat) : Int) := by omega
      have hP := Lib.hid (fun u => rPut_any (f + j) (Lib.hid (by omega)) 4 (by omega) u)
      have hT := txt_cat nonce (be 4 (f + j))
      have HE := Lib.hid hext
      have HCBj := Lib.hid (fun u (hu : Ext wr u) => HCB.out u (f + j) v ((HBS.out.ext hext).ext hu))
      have hwj : IntKind.u64.wrap ((f : Int) + (j : Int)) = ((f + j : Nat) : Int) := by rw [hx2]; exact IntWalk.u64_in _ ⟨by omega, by omega⟩
      have l1 : (ctrC key.data.toList nonce.data.toList f j).length = 16 * j := hCL.out j
      have l2 : (ctrB key.data.toList nonce.data.toList (f + j)).length = 16 := HBL.out _
      have l3 : (be 4 (f + j)).length = 4 := be_length _ _
      clear hext
      generalize ctrC key.data.toList nonce.data.toList f j = C0 at *
      generalize hC1 : ctrC key.data.toList nonce.data.toList f (j + 1) = C1 at *
      generalize ctrB key.data.toList nonce.data.toList (f + j) = B at *
      generalize be 4 (f + j) = P at *
      generalize hm : f + j = m at *
      go_wp2_with (first
        | (go_at_call 52; refine (hP.out _).mono ?_; rintro e w2 ⟨rfl, h2⟩)
        | (go_at_call 105; refine (HCBj.out _ h2).mono ?_; rintro e w3 ⟨rfl, h3⟩))
      go_roundw
      case rel => exact ⟨j + 1, hlt, by go_num, by first | rfl | rw [hC1], (HE.out.trans h2).trans h3⟩
      case measure => simp [intOf]; omega
    · obtain rfl : j = b := by omega
      have hX := txt_extract (ctrC key.data.toList nonce.data.toList f j) n
      rw [hCO.out] at hX
      have hsl := slice_upto ⟨(ctrC key.data.toList nonce.data.toList f j).toArray⟩ n (by rw [txt_size, hCL.out, HB.out]; exact blocksOf_le n)
      rw [hX] at hsl
      clear hX
      generalize (⟨(ctrC key.data.toList nonce.data.toList f j).toArray⟩ : ByteArray) = X at *
      go_wp2
      go_ret2
      exact ⟨rfl, hx.trans hext⟩
set_option maxRecDepth 100000 in
set_option maxHeartbeats 2000000 in
theorem rstream_arg (key nonce : ByteArray) (f : Nat) (n : Int) (h : badArg key nonce n) (w : World) :
    Calls Tryz.prog 76 #[.string key, .string nonce, .int .u32 (f : Int), .int .i64 n] w
      fun e w' => e = .returned (.tuple #[.string ⟨#[]⟩, .int .i64 2]) ∧ Ext w w' := by
  go_enter Tryz.func76, Tryz.ntmps76
  by_cases hk : key.size = 16
  · have hki : ((key.size : Int) != 16) = false := by simp [hk]
    by_cases hn : nonce.size = 12
    · have hni : ((nonce.size : Int) != 12) = false := by simp [hn]
      have hneg : n < 0 := by
        rcases h with h | h | h
        · exact absurd hk h
        · exact absurd hn h
        · exact h
      clear h hk hn
      go_wp2
      go_ret2
      exact ⟨rfl, Ext.refl _⟩
    · have hni : ((nonce.size : Int) != 12) = true := by simp; omega
      clear h hk hn
      go_wp2
      go_ret2
      exact ⟨rfl, Ext.refl _⟩
  · have hki : ((key.size : Int) != 16) = true := by simp; omega
    clear h hk
    go_wp2
    go_ret2
    exact ⟨rfl, Ext.refl _⟩
set_option maxRecDepth 100000 in
set_option maxHeartbeats 2000000 in
theorem rstream_long (key nonce : ByteArray) (f : Nat) (n : Int) (hk : key.size = 16) (hn : nonce.size = 12) (h0 : 0 ≤ n) (hm : n ≤ 9223372036854775807) (hfl : f < 4294967296) (h : tooLong f n) (w : World) :
    Calls Tryz.prog 76 #[.string key, .string nonce, .int .u32 (f : Int), .int .i64 n] w
      fun e w' => e = .returned (.tuple #[.string ⟨#[]⟩, .int .i64 5]) ∧ Ext w w' := by
  have hki : ((key.size : Int) != 16) = false := by simp [hk]
  have hni : ((nonce.size : Int) != 12) = false := by simp [hn]
  obtain ⟨b, hb⟩ : ∃ b : Nat, (n + 15) / 16 = (b : Int) := ⟨((n + 15) / 16).toNat, by omega⟩
  have hbl : b < 1152921504606846976 := by omega
  unfold tooLong at h
  rw [hb] at h
  clear hk hn
  have hfi : (f : Int) < 4294967296 := by omega
  obtain ⟨m, rfl⟩ : ∃ m : Nat, n = (m : Int) := ⟨n.toNat, by omega⟩
  clear h0 hfi
  go_enter Tryz.func76, Tryz.ntmps76
  by_cases h1 : 1048576 < (m : Int)
  · clear h
    go_wp2
    go_ret2
    exact ⟨rfl, Ext.refl _⟩
  · have h2 : 4294967296 < (f : Int) + (b : Int) := by
      rcases h with h | h
      · exact absurd h h1
      · exact h
    clear h
    go_wp2
    go_ret2
    exact ⟨rfl, Ext.refl _⟩
end Go.Proofs.YtdnpgmoiapkhnaaGreatDoor
end

section
namespace Go.Proofs.YtdnpgmoiapkhnaaGreatDoor
open Go.RowKit
attribute [local irreducible] rkey expand enc dec ctrB ctrC ctrL xorL

set_option maxRecDepth 100000 in
set_option maxHeartbeats 1000000 in
theorem rturn_yes (key nonce s : ByteArray) (f : Nat) (hk : key.size = 16) (hn : nonce.size = 12) (hn2 : s.size ≤ 1048576) (hfl : f < 4294967296) (hf : f + blocksOf s.size ≤ 4294967296) (w : World) :
    Calls Tryz.prog 51 #[.string key, .string nonce, .int .u32 (f : Int), .string s] w
      fun e w' => e = .returned (.tuple #[.string ⟨(turnL key.data.toList nonce.data.toList f s.data.toList).toArray⟩, .int .i64 0]) ∧ Ext w w' := by
  have HS := Lib.hid (fun u => rstream_yes key nonce f s.size hk hn hn2 hfl hf u)
  have hkl : key.data.toList.length = 16 := by rw [size_list]; exact hk
  have HX := Lib.hid (fun u => rXor_yes s ⟨(ctrL key.data.toList nonce.data.toList f s.size).toArray⟩ ((txt_size _).trans (ctrL_length hkl _ _ _)).symm (by omega) u)
  unfold turnL
  rw [size_list]
  clear hkl
  go_enter Tryz.func51, Tryz.ntmps51
  go_wp2_with (first
    | (go_at_call 76; refine (HS.out _).mono ?_; rintro e w1 ⟨rfl, h1⟩)
    | (go_at_call 77; refine (HX.out _).mono ?_; rintro e w2 ⟨rfl, h2⟩))
  go_ret2
  exact ⟨rfl, h1.trans h2⟩
theorem rturn_err (key nonce s : ByteArray) (f : Nat) (c : Int) (hc : (c == 0) = false) (w : World)
    (h : ∀ u, Calls Tryz.prog 76 #[.string key, .string nonce, .int .u32 (f : Int), .int .i64 (s.size : Int)] u fun e w' => e = .returned (.tuple #[.string ⟨#[]⟩, .int .i64 c]) ∧ Ext u w') :
    Calls Tryz.prog 51 #[.string key, .string nonce, .int .u32 (f : Int), .string s] w
      fun e w' => e = .returned (.tuple #[.string ⟨#[]⟩, .int .i64 c]) ∧ Ext w w' := by
  have hne : (c != 0) = true := by simp [bne, hc]
  clear hc
  go_enter Tryz.func51, Tryz.ntmps51
  go_wp2_with (go_at_call 76; refine (h _).mono ?_; rintro e w1 ⟨rfl, h1⟩)
  go_ret2
  exact ⟨rfl, h1⟩
end Go.Proofs.YtdnpgmoiapkhnaaGreatDoor
end

section
namespace Go.Proofs.YtdnpgmoiapkhnaaGreatDoor
open Go.RowKit

theorem same_test (a b : ByteArray) : decide (a = b) = (a.toList == b.toList) := by
  rw [ByteArray.toList_eq, ByteArray.toList_eq]
  by_cases h : a = b
  · simp [h]
  · have : ¬ a.data.toList = b.data.toList := by
      intro e
      apply h
      cases a; cases b
      congr
      exact Array.toList_inj.1 e
    rw [decide_eq_false h]
    exact (beq_eq_false_iff_ne.2 this).symm
theorem same_false (a b : ByteArray) (h : ¬ a.size = b.size) : (a.toList == b.toList) = false := by
  rw [← same_test]
  exact decide_eq_false (fun e => h (by rw [e]))
end Go.Proofs.YtdnpgmoiapkhnaaGreatDoor
end

section
namespace Go.Proofs.YtdnpgmoiapkhnaaGreatDoor
open Go.RowKit

/-! ### Plain -/
theorem env5_app (a b c d t : ByteArray) : (((a ++ b) ++ c) ++ d) ++ t = env5 a b c d t := by
  apply ByteArray.ext
  apply Array.toList_inj.1
  simp [env5]
theorem joinL7_app (a b c d e f g : ByteArray) : (((a ++ b) ++ c) ++ (((d ++ e) ++ f) ++ g)).data.toList = joinL [a, b, c, d, e, f, g] := by
  simp [joinL]
theorem chk_eq14 {T X : ByteArray} (hT : T.size = 32) (hX : X.size = 32) : (X.toList == T.toList) = chk T.data.toList X.data.toList := by
  rw [← same_test]
  unfold chk
  rw [size_list, hT]
  have e : X.data.toList.take 32 = X.data.toList := List.take_of_length_le (by rw [size_list]; omega)
  rw [e]
  by_cases h : X = T
  · subst h; simp
  · have h2 : ¬ T.data.toList = X.data.toList := fun q => h (ByteArray.ext (Array.toList_inj.1 q.symm))
    simp [h, h2]
theorem env5_cuts (E C D T : ByteArray) (hE : E.size = 4) (hC : C.size = 12) (hT : T.size = 32) :
    (env5 t1 E C D T).extract 0 (17 + D.size) = ((t1 ++ E) ++ C) ++ D ∧ (env5 t1 E C D T).extract (17 + D.size) (env5 t1 E C D T).size = T ∧ (env5 t1 E C D T).extract 5 17 = C ∧ (env5 t1 E C D T).extract 17 (17 + D.size) = D := by
  have hl : ∀ (a : ByteArray), a.data.toList.length = a.size := size_list
  have h1 : t1.data.toList = [1] := rfl
  have hz : (env5 t1 E C D T).size = 17 + D.size + 32 := by rw [env5_size, hE, hC, hT]; show 1 + _ = _; omega
  have key : (env5 t1 E C D T).data.toList = [1] ++ (E.data.toList ++ (C.data.toList ++ (D.data.toList ++ T.data.toList))) := rfl
  refine ⟨?_, ?_, ?_, ?_⟩
  · apply ByteArray.ext
    apply Array.toList_inj.1
    rw [Lib.extract_data, key]
    have e : [1] ++ (E.data.toList ++ (C.data.toList ++ (D.data.toList ++ T.data.toList))) = ([1] ++ (E.data.toList ++ (C.data.toList ++ D.data.toList))) ++ T.data.toList := by simp
    rw [e, List.drop_zero, List.take_append_of_le_length (by simp [hE, hC]; omega), List.take_of_length_le (by simp [hE, hC]; omega)]
    simp [h1]
  · apply ByteArray.ext
    apply Array.toList_inj.1
    rw [Lib.extract_data, key, hz]
    have e : [1] ++ (E.data.toList ++ (C.data.toList ++ (D.data.toList ++ T.data.toList))) = ([1] ++ (E.data.toList ++ (C.data.toList ++ D.data.toList))) ++ T.data.toList := by simp
    rw [e, List.drop_append_of_le_length (by simp [hE, hC]; omega), List.drop_of_length_le (by simp [hE, hC]; omega), List.nil_append, List.take_of_length_le (by rw [hl]; omega)]
  · apply ByteArray.ext
    apply Array.toList_inj.1
    rw [Lib.extract_data, key]
    have e : [1] ++ (E.data.toList ++ (C.data.toList ++ (D.data.toList ++ T.data.toList))) = ([1] ++ E.data.toList) ++ (C.data.toList ++ (D.data.toList ++ T.data.toList)) := by simp
    rw [e, List.drop_append_of_le_length (by simp [hE]), List.drop_of_length_le (by simp [hE]), List.nil_append, List.take_append_of_le_length (by rw [hl]; omega), List.take_of_length_le (by rw [hl]; omega)]
  · apply ByteArray.ext
    apply Array.toList_inj.1
    rw [Lib.extract_data, key]
    have e : [1] ++ (E.data.toList ++ (C.data.toList ++ (D.data.toList ++ T.data.toList))) = ([1] ++ (E.data.toList ++ C.data.toList)) ++ (D.data.toList ++ T.data.toList) := by simp
    rw [e, List.drop_append_of_le_length (by simp [hE, hC]), List.drop_of_length_le (by simp [hE, hC]), List.nil_append, List.take_append_of_le_length (by rw [hl]; omega), List.take_of_length_le (by rw [hl]; omega)]
attribute [local irreducible] rkey expand enc dec ctrB ctrC ctrL xorL turnL turnT kd t4 t8 env5 chk tagT sealT
/-! ### Size -/
theorem rSize_any (n : Nat) (h : n ≤ 140737488351232) (w : World) :
    Calls Tryz.prog 28 #[.int .i64 (n : Int)] w fun e w' => e = .returned (.int .i64 (17 + (n : Int) + 32)) ∧ w = w' := by
  have hm := run_max0
  have h1 : IntKind.i64.wrap (17 + (n : Int)) = 17 + (n : Int) := IntWalk.i64_in _ ⟨by omega, by omega⟩
  have h2 : IntKind.i64.wrap (17 + (n : Int) + 32) = 17 + (n : Int) + 32 := IntWalk.i64_in _ ⟨by omega, by omega⟩
  go_enter Tryz.func28, Tryz.ntmps28
  go_wp2
  go_ret
  exact ⟨rfl, rfl⟩
theorem rsize_zero (w : World) : Calls Tryz.prog 28 #[.int .i64 0] w fun e w' => e = .returned (.int .i64 49) ∧ w = w' := rSize_any 0 (by omega) w
theorem rsize_max (w : World) : Calls Tryz.prog 28 #[.int .i64 1048576] w fun e w' => e = .returned (.int .i64 1048625) ∧ w = w' := rSize_any 1048576 (by omega) w
/-! ### The tag -/
theorem rput4s (n : Nat) (hn : n < 4294967296) (w : World) : Calls Tryz.prog 52 #[.int .u64 (n : Int), .int .i64 4] w fun e w' => e = .returned (.string (t4 n)) ∧ Ext w w' := by
  unfold t4
  exact rPut_any n (Lib.hid (by omega)) 4 (by omega) w
theorem rput8s (n : Nat) (hn : n < 2 ^ 64) (w : World) : Calls Tryz.prog 52 #[.int .u64 (n : Int), .int .i64 8] w fun e w' => e = .returned (.string (t8 n)) ∧ Ext w w' := by
  unfold t8
  exact rPut_any n (Lib.hid hn) 8 (by omega) w
set_option maxRecDepth 100000 in
theorem rtag14_any (key path : ByteArray) (v : Nat) (s : ByteArray) (hk : key.size = 32) (hp : path.size ≤ 1048576) (hv : v < 2 ^ 64) (hs : s.size ≤ 1048600) (w : World) :
    Calls Tryz.prog 53 #[.string key, .string path, .int .u64 (v : Int), .string s] w fun e w' => e = .returned (.string ⟨(macL key.data.toList (((t4 path.size ++ path) ++ t8 v) ++ s).data.toList).toArray⟩) ∧ Ext w w' := by
  have H4 := Lib.hid (fun u => rput4s path.size (by omega) u)
  have H8 := Lib.hid (fun u => rput8s v hv u)
  have z4 := t4_size path.size
  have z8 := t8_size v
  have hz : (((t4 path.size ++ path) ++ t8 v) ++ s).size ≤ 549755813888 := by
    rw [ByteArray.size_append, ByteArray.size_append, ByteArray.size_append, z4, z8]; omega
  have HM := Lib.hid (fun u => rMac_any key (((t4 path.size ++ path) ++ t8 v) ++ s) (by omega) hz u)
  have hw : IntKind.u64.wrap (path.size : Int) = (path.size : Int) := by simp [IntKind.wrap, IntKind.signed, IntKind.bits]; omega
  clear hz
  generalize (⟨(macL key.data.toList (((t4 path.size ++ path) ++ t8 v) ++ s).data.toList).toArray⟩ : ByteArray) = X at *
  generalize t4 path.size = A at *
  generalize t8 v = V at *
  clear hk hv
  go_enter Tryz.func53, Tryz.ntmps53
  go_wp2_with (first
    | (go_at_call 52; (with_reducible refine (H4.out _).mono ?_); rintro e w1 ⟨rfl, x1⟩)
    | (go_at_call 52; (with_reducible refine (H8.out _).mono ?_); rintro e w2 ⟨rfl, x2⟩; have y2 := x1.trans x2)
    | (go_at_call 68; refine (HM.out _).mono ?_; rintro e w3 ⟨rfl, x3⟩))
  go_ret
  exact ⟨rfl, y2.trans x3⟩
theorem tagT_app (key path : ByteArray) (v : Nat) (a b c d : ByteArray) : (⟨(macL key.data.toList (((t4 path.size ++ path) ++ t8 v) ++ (((a ++ b) ++ c) ++ d)).data.toList).toArray⟩ : ByteArray) = tagT key path v a b c d := by
  rw [joinL7_app]
  unfold tagT
  rfl
/-! ### Epoch -/
theorem repoch_len (s : ByteArray) (h : s.size < 49 ∨ 1048625 < s.size) (w : World) :
    Calls Tryz.prog 26 #[.string s] w fun r w' => r = .returned (.tuple #[.int .u32 0, .int .i64 7]) ∧ w = w' := by
  by_cases h1 : s.size < 49
  · have h1i : (s.size : Int) < 49 := by omega
    go_enter Tryz.func26, Tryz.ntmps26
    go_wp2_with (first
      | (go_at_call 28; (with_reducible refine (rsize_zero _).mono ?_); rintro e w1 ⟨rfl, rfl⟩)
      | (go_at_call 28; (with_reducible refine (rsize_max _).mono ?_); rintro e w1 ⟨rfl, rfl⟩))
    go_ret2
    exact ⟨rfl, rfl⟩
  · have h1i : ¬ (s.size : Int) < 49 := by omega
    have h2i : (1048625 : Int) < (s.size : Int) := by omega
    go_enter Tryz.func26, Tryz.ntmps26
    go_wp2_with (first
      | (go_at_call 28; (with_reducible refine (rsize_zero _).mono ?_); rintro e w1 ⟨rfl, rfl⟩)
      | (go_at_call 28; (with_reducible refine (rsize_max _).mono ?_); rintro e w1 ⟨rfl, rfl⟩))
    go_ret2
    exact ⟨rfl, rfl⟩
section
variable {x : UInt8} {e : Nat} {C D T : ByteArray}
theorem env5_first : (env5 (b1 x) (t4 e) C D T).data.toList[0]? = some x := by unfold env5 b1; rfl
theorem repoch_first (hC : C.size = 12) (hT : T.size = 32) (hD : D.size ≤ 1048576) (hx : x ≠ 1) (w : World) :
    Calls Tryz.prog 26 #[.string (env5 (b1 x) (t4 e) C D T)] w fun r w' => r = .returned (.tuple #[.int .u32 0, .int .i64 7]) ∧ w = w' := by
  have hz := env5_size (b1 x) (t4 e) C D T
  rw [t4_size, hC, hT, show (b1 x).size = 1 from rfl] at hz
  have hi := fun u => index_text (env5 (b1 x) (t4 e) C D T) 0 x env5_first u
  rw [show ((0 : Nat) : Int) = 0 from rfl] at hi
  have hne : ((x.toNat : Int) == 1) = false := by
    have : x.toNat ≠ 1 := fun q => hx (UInt8.toNat_inj.1 q)
    simp; omega
  have hne2 : ¬ (x.toNat : Int) = 1 := by simpa using hne
  generalize env5 (b1 x) (t4 e) C D T = S at *
  generalize (x.toNat : Int) = X at *
  have h1i : ¬ (S.size : Int) < 49 := by omega
  have h2i : ¬ (1048625 : Int) < (S.size : Int) := by omega
  have h0i : (0 : Int) < (S.size : Int) := by omega
  clear hz hC hT hD
  go_enter Tryz.func26, Tryz.ntmps26
  go_wp2_with (first
    | (go_at_call 28; (with_reducible refine (rsize_zero _).mono ?_); rintro e w1 ⟨rfl, rfl⟩)
    | (go_at_call 28; (with_reducible refine (rsize_max _).mono ?_); rintro e w1 ⟨rfl, rfl⟩))
  · go_ret2
    exact ⟨rfl, rfl⟩
  · exfalso
    simp_all
theorem env5_sub : num (sub (env5 t1 (t4 e) C D T) 1 4) = e % 4294967296 := by
  have : sub (env5 t1 (t4 e) C D T) 1 4 = be 4 e := by
    unfold sub env5 t1 t4
    simp [be_length]
  rw [this, num_be]
theorem repoch_yes (he : e < 4294967296) (hC : C.size = 12) (hT : T.size = 32) (hD : D.size ≤ 1048576) (w : World) :
    Calls Tryz.prog 26 #[.string (env5 t1 (t4 e) C D T)] w fun r w' => r = .returned (.tuple #[.int .u32 (e : Int), .int .i64 0]) ∧ w = w' := by
  have hz := env5_size t1 (t4 e) C D T
  rw [t4_size, hC, hT, show t1.size = 1 from rfl] at hz
  have hi := fun u => index_text (env5 t1 (t4 e) C D T) 0 1 (env5_first (x := 1)) u
  rw [show ((0 : Nat) : Int) = 0 from rfl, show (((1 : UInt8).toNat : Nat) : Int) = 1 from rfl] at hi
  have hg := fun u => rGet_yes (env5 t1 (t4 e) C D T) 1 4 (by omega) (by omega) (by omega) u
  rw [env5_sub, Nat.mod_eq_of_lt he] at hg
  have HG : Hid (∀ u, Calls Tryz.prog 56 #[.string (env5 t1 (t4 e) C D T), .int .i64 1, .int .i64 4] u fun r w' => r = .returned (.tuple #[.int .u64 (e : Int), .bool true]) ∧ u = w') := Lib.hid hg
  generalize env5 t1 (t4 e) C D T = S at *
  have h1i : ¬ (S.size : Int) < 49 := by omega
  have h2i : ¬ (1048625 : Int) < (S.size : Int) := by omega
  have h0i : (0 : Int) < (S.size : Int) := by omega
  have hw : IntKind.u32.wrap (e : Int) = (e : Int) := by simp [IntKind.wrap, IntKind.signed, IntKind.bits]; omega
  clear hz hC hT hD hg
  go_enter Tryz.func26, Tryz.ntmps26
  go_wp2_with (first
    | (go_at_call 28; (with_reducible refine (rsize_zero _).mono ?_); rintro e w1 ⟨rfl, rfl⟩)
    | (go_at_call 28; (with_reducible refine (rsize_max _).mono ?_); rintro e w1 ⟨rfl, rfl⟩)
    | (go_at_call 56; refine (HG.out _).mono ?_; rintro e w2 ⟨rfl, rfl⟩))
  go_ret2
  exact ⟨rfl, rfl⟩
end
end Go.Proofs.YtdnpgmoiapkhnaaGreatDoor
end

section
namespace Go.Proofs.YtdnpgmoiapkhnaaGreatDoor
open Go.RowKit
attribute [local irreducible] rkey expand enc dec ctrB ctrC ctrL xorL turnL turnT kd t4 t8 env5 chk tagT sealT
/-! ### Close -/
theorem rclose_arg (w : World) (d : Nat) (path : ByteArray) (v : Int) (nonce text : ByteArray) (hn : nonce.size ≠ 12) :
    Calls Tryz.prog 24 #[.pointer (some ⟨d, 0, none⟩), .string path, .int .u64 v, .string nonce, .string text] w fun e w' => e = .returned (.tuple #[.string ⟨#[]⟩, .int .i64 2]) ∧ w = w' := by
  have hn2 : (nonce.size : Int) ≠ 12 := by omega
  have hn3 : ((nonce.size : Int) == 12) = false := by simpa using hn2
  go_enter Tryz.func24, Tryz.ntmps24
  go_wp2
  go_ret2
  exact ⟨rfl, rfl⟩
set_option maxRecDepth 100000 in
set_option maxHeartbeats 4000000 in
theorem rclose_yes (w : World) (B d : Nat) (p : Option Addr) (c : Nat) (L : List (Nat × ByteArray)) (h : IsR w B d p c L) (hG : GoodK L) (s : ByteArray) (hm : (top (eps L), s) ∈ L) (path : ByteArray) (v : Nat) (hv : v < 2 ^ 64) (nonce text : ByteArray) (hn : nonce.size = 12) (hp : path.size ≤ 1048576) (ht : text.size ≤ 1048500) :
    Calls Tryz.prog 24 #[.pointer (some ⟨d, 0, none⟩), .string path, .int .u64 (v : Int), .string nonce, .string text] w fun e w' => e = .returned (.tuple #[.string (sealT s (top (eps L)) path v nonce text), .int .i64 0]) ∧ Ext w w' := by
  have hn2 : (nonce.size : Int) = 12 := by omega
  have h1i : ¬ (1048576 : Int) < (path.size : Int) := by omega
  have h2i : ¬ (1048576 : Int) < (text.size : Int) := by omega
  have hk1 : (kd s cipB 16).size = 16 := kd_size _ _ _ (by omega)
  have hk2 : (kd s tagB 32).size = 32 := kd_size _ _ _ (by omega)
  have hbs : (turnT (kd s cipB 16) nonce 0 text).size = text.size := turnT_size _ _ _ _ hk1
  have ht32 : top (eps L) < 4294967296 := hG.top_lt
  have HR := Lib.hid h
  have HN := Lib.hid (fun u (hu : IsR u B d p c L) => rnewestK_any u B d p c L hu hG)
  have HKy := Lib.hid (fun u (hu : IsR u B d p c L) => rkeysK_yes u B d p c L hu hG (top (eps L)) s hm)
  have HTu : Hid (∀ u, Calls Tryz.prog 51 #[.string (kd s cipB 16), .string nonce, .int .u32 0, .string text] u fun e w' => e = .returned (.tuple #[.string (turnT (kd s cipB 16) nonce 0 text), .int .i64 0]) ∧ Ext u w') := Lib.hid (fun u => by
    have := rturn_yes (kd s cipB 16) nonce text 0 hk1 hn (by omega) (by omega) (by unfold blocksOf; omega) u
    unfold turnT
    exact this)
  have HP4 := Lib.hid (fun u => rput4s (top (eps L)) ht32 u)
  have htg := fun u => rtag14_any (kd s tagB 32) path v (((t1 ++ t4 (top (eps L))) ++ nonce) ++ turnT (kd s cipB 16) nonce 0 text) hk2 hp hv (by
    rw [ByteArray.size_append, ByteArray.size_append, ByteArray.size_append, t4_size, hn, hbs]
    have : t1.size = 1 := rfl
    omega) u
  rw [tagT_app] at htg
  have HTg := Lib.hid htg
  have he := env5_app t1 (t4 (top (eps L))) nonce (turnT (kd s cipB 16) nonce 0 text) (tagT (kd s tagB 32) path v t1 (t4 (top (eps L))) nonce (turnT (kd s cipB 16) nonce 0 text))
  have z4 := t4_size (top (eps L))
  have zT := tagT_size (kd s tagB 32) path v t1 (t4 (top (eps L))) nonce (turnT (kd s cipB 16) nonce 0 text)
  have hw32 : IntKind.u64.wrap (top (eps L) : Int) = (top (eps L) : Int) := by simp [IntKind.wrap, IntKind.signed, IntKind.bits]; omega
  unfold sealT
  rw [← he]
  clear h hG hm hk1 hk2 htg he hv
  unfold t1 at *
  generalize tagT (kd s tagB 32) path v ⟨#[1]⟩ (t4 (top (eps L))) nonce (turnT (kd s cipB 16) nonce 0 text) = X at *
  generalize turnT (kd s cipB 16) nonce 0 text = D at *
  generalize kd s cipB 16 = K1 at *
  generalize kd s tagB 32 = K2 at *
  generalize t4 (top (eps L)) = E at *
  generalize top (eps L) = tp at *
  have hs1 : ((⟨#[1]⟩ : ByteArray) ++ E).size = 5 := by rw [ByteArray.size_append, z4]; rfl
  have hs2 : ((⟨#[1]⟩ : ByteArray) ++ E ++ nonce).size = 17 := by rw [ByteArray.size_append, hs1, hn]
  have hs3 : ((⟨#[1]⟩ : ByteArray) ++ E ++ nonce ++ D).size ≤ 1048600 := by rw [ByteArray.size_append, hs2, hbs]; omega
  go_enter Tryz.func24, Tryz.ntmps24
  go_upto_region 8 with (first
    | (go_at_call 39; refine (HN.out _ HR.out).mono ?_; rintro e w1 ⟨rfl, x1⟩; replace HR := Lib.hid (HR.out.ext x1); first | (have y0 := y.trans x1; clear y; have y := y0; clear y0) | have y := x1)
    | (go_at_call 18; refine (HKy.out _ HR.out).mono ?_; rintro e w2 ⟨rfl, x2⟩; replace HR := Lib.hid (HR.out.ext x2); replace y := y.trans x2)
    | (go_at_call 51; refine (HTu.out _).mono ?_; rintro e w3 ⟨rfl, x3⟩; replace HR := Lib.hid (HR.out.ext x3); replace y := y.trans x3)
    | (go_at_call 52; refine (HP4.out _).mono ?_; rintro e w4 ⟨rfl, x4⟩; replace HR := Lib.hid (HR.out.ext x4); replace y := y.trans x4)
    | (go_at_call 53; refine (HTg.out _).mono ?_; rintro e w5 ⟨rfl, x5⟩; replace y := y.trans x5))
  have HY := Lib.hid y
  clear y
  generalize hZ : (⟨#[1]⟩ : ByteArray) ++ E ++ nonce ++ D = Z at *
  have HZ := Lib.hid hZ
  clear hs1 hs2 hZ
  have hzs : Z.size + X.size ≤ 1048700 := by omega
  go_wp2_with (go_at_call 53; refine (HTg.out _).mono ?_; rintro e w5 ⟨rfl, x5⟩)
  go_ret2
  exact ⟨by rw [HZ.out]; rfl, HY.out.trans x5⟩
end Go.Proofs.YtdnpgmoiapkhnaaGreatDoor
end

section
namespace Go.Proofs.YtdnpgmoiapkhnaaGreatDoor
open Go.RowKit
attribute [local irreducible] rkey expand enc dec ctrB ctrC ctrL xorL turnL turnT kd t4 t8 env5 chk f32B f12B tagT sealT ringOf lastOf outK

/-- Both Close, and both Epoch, of any nonce. -/
theorem closes_both (w : World) (hL : Laid w) (K : List ByteArray) (m : Nat) (hm : m ≤ 8) (path : ByteArray) (v : Nat) (hv : v < 2 ^ 64) (N text : ByteArray) (hp : path.size ≤ 1500) (ht : text.size ≤ 1500) :
    ∃ (S : ByteArray) (ce : Int) (en : Int) (ee : Int),
      (∀ u r k, Ext w u → IsK u r k (ringOf K m) → Calls Tryz.prog 23 #[.pointer (some ⟨r, 0, none⟩), .string path, .int .u64 (v : Int), .string N, .string text] u fun e w' => e = .returned (.tuple #[.string S, .int .i64 ce]) ∧ Ext u w') ∧
      (∀ u B d p c, IsR u B d p c (ringOf K m) → GoodK (ringOf K m) → Calls Tryz.prog 24 #[.pointer (some ⟨d, 0, none⟩), .string path, .int .u64 (v : Int), .string N, .string text] u fun e w' => e = .returned (.tuple #[.string S, .int .i64 ce]) ∧ Ext u w') ∧
      (∀ u, Calls Tryz.prog 25 #[.string S] u fun e w' => e = .returned (.tuple #[.int .u32 en, .int .i64 ee]) ∧ Ext u w') ∧
      (∀ u, Calls Tryz.prog 26 #[.string S] u fun e w' => e = .returned (.tuple #[.int .u32 en, .int .i64 ee]) ∧ Ext u w') := by
  have htop := ringOf_top K m
  have hlast := ringOf_last K m
  by_cases hN : N.size = 12
  · refine ⟨sealT (lastOf K m) (m + 1) path v N text, 0, ((m + 1 : Nat) : Int), 0, fun u r k hx hu => ?_, fun u B d p c hu hG => ?_, fun u => epoch_sealed (lastOf K m) (m + 1) (by omega) path v N text hN (by omega) u, fun u => ?_⟩
    · have := close_yes u r k _ (hL.ext hx) hu (lastOf K m) (by rw [htop]; exact hlast) path v N text hN (by omega) (by omega)
      rw [htop] at this
      exact this
    · have := rclose_yes u B d p c _ hu hG (lastOf K m) (by rw [htop]; exact hlast) path v hv N text hN (by omega) (by omega)
      rw [htop] at this
      exact this
    · have := repoch_yes (e := m + 1) (C := N) (D := turnT (kd (lastOf K m) cipB 16) N 0 text) (T := tagT (kd (lastOf K m) tagB 32) path v t1 (t4 (m + 1)) N (turnT (kd (lastOf K m) cipB 16) N 0 text)) (by omega) hN (tagT_size _ _ _ _ _ _ _) (by rw [turnT_size _ _ _ _ (kd_size _ _ _ (by omega))]; omega) u
      unfold sealT
      exact this.mono fun _ _ q => ⟨q.1, q.2 ▸ Ext.refl _⟩
  · refine ⟨⟨#[]⟩, 2, 0, 7, fun u r k _ hu => close_arg u r k _ hu path v N text hN, fun u B d p c _ _ => (rclose_arg u d path v N text hN).mono fun _ _ q => ⟨q.1, q.2 ▸ Ext.refl _⟩, fun u => (epoch_len ⟨#[]⟩ (.inl (by decide)) u).mono fun _ _ q => ⟨q.1, q.2 ▸ Ext.refl _⟩, fun u => (repoch_len ⟨#[]⟩ (.inl (by decide)) u).mono fun _ _ q => ⟨q.1, q.2 ▸ Ext.refl _⟩⟩
set_option maxRecDepth 1000000 in
set_option maxHeartbeats 8000000 in
theorem SealCloses_walk (w : World) (hL : Laid w) (p : Option Addr) (c : Nat) (K : List ByteArray) (hP : TextsP w p K) (hl : K.length ≤ 140737488355328) (hK : ∀ s, s ∈ K → s.size ≤ 140737488351232) (path : ByteArray) (zp : path.size ≤ 140737488351232) (v : Nat) (hv : v < 2 ^ 64) (n : ByteArray) (zn : n.size ≤ 140737488351232) (fit : Bool) (a : ByteArray) (za : a.size ≤ 140737488351232) :
    Calls Tryz.prog 4 #[.slice p K.length c, .string path, .int .u64 (v : Int), .string n, .bool fit, .string a] w fun e w' => e = .returned (.bool true) ∧ Ext w w' := by
  obtain ⟨W0, hW0⟩ : ∃ W0, w.alloc (.cells #[.string path, .string n, .string a] 9) = W0 := ⟨_, rfl⟩
  have hx0 : Ext w W0 := by rw [← hW0]; exact (Ext.refl w).alloc _
  have hq0 : TextsP W0 (some ⟨w.heap.size, 0, none⟩) [path, n, a] := by rw [← hW0]; exact texts_p (texts_lit w [path, n, a] 9)
  have HHv := Lib.hid (heavy14_any W0 p c K (hP.ext hx0) hK hl (some ⟨w.heap.size, 0, none⟩) 3 [path, n, a] hq0 (by intro s hs; simp at hs; rcases hs with rfl | rfl | rfl <;> assumption) (by simp))
  rw [show [path, n, a].length = 3 from rfl] at HHv
  have HW := Lib.hid (fun u (hu : Ext w u) => works14_any u (hL.ext hu))
  have HR := Lib.hid (fun u (hu : Ext w u) => rings_any u p c K (hP.ext hu) hl)
  have HN := Lib.hid (fun u => nonce_any n u)
  obtain ⟨m, hm⟩ : ∃ m, min K.length 8 = m := ⟨_, rfl⟩
  have hm8 : m ≤ 8 := by omega
  rw [hm] at HR
  have HX0 := Lib.hid hx0; have HLd := Lib.hid hL; have HV := Lib.hid hv
  clear hx0 hq0 hP hK hl hL zp zn za hm hv
  go_enter Tryz.func4, Tryz.ntmps4
  go_upto_region 3 with (first
    | (go_at_call 19; refine (HHv.out).mono ?_; rintro e w1 ⟨⟨hb, rfl, hlt⟩, rfl⟩; have HLt := Lib.hid hlt; clear hlt; cases hb)
    | (go_at_call 20; refine (HW.out _ HX0.out).mono ?_; rintro e w2 ⟨rfl, x2⟩))
  rotate_left
  · go_ret
    exact ⟨rfl, HX0.out.trans x2⟩
  obtain ⟨_, hsz⟩ := HLt.out (by trivial)
  have hp : path.size ≤ 1500 := hsz path (by simp)
  have ha : a.size ≤ 1500 := hsz a (by simp)
  clear HHv HLt hsz
  have HSz := Lib.hid (fun u => Size_any a.size (by omega) u)
  have HRz := Lib.hid (fun u => rSize_any a.size (by omega) u)
  have HBo := Lib.hid (fun N => closes_both w HLd.out K m hm8 path v HV.out N a hp ha)
  clear hp ha
  cases fit
  · obtain ⟨S, ce, en, ee, hc1, hc2, hc3, hc4⟩ := HBo.out n
    have C1 := Lib.hid hc1; have C2 := Lib.hid hc2; have C3 := Lib.hid hc3; have C4 := Lib.hid hc4
    clear hc1 hc2 hc3 hc4 HBo
    generalize ringOf K m = L at *
    go_wp2_with (first
      | (go_at_call 21; refine (HR.out _ HX0.out).mono ?_; rintro e w3 ⟨⟨r, bk, d, pd, cd, rfl, k3, d3, q3, p3⟩, x3⟩; have KA := Lib.hid k3; have DA := Lib.hid d3; have X := Lib.hid (HX0.out.trans x3); clear k3 d3 q3 p3 x3)
      | (go_at_call 23; (with_reducible refine (C1.out _ _ _ X.out KA.out).mono ?_); rintro e w5 ⟨rfl, x5⟩; replace KA := Lib.hid (KA.out.ext x5); replace DA := Lib.hid (DA.out.ext x5); replace X := Lib.hid (X.out.trans x5))
      | (go_at_call 24; refine (C2.out _ _ _ _ _ DA.out KA.out.good).mono ?_; rintro e w6 ⟨rfl, x6⟩; replace X := Lib.hid (X.out.trans x6))
      | (go_at_call 25; refine (C3.out _).mono ?_; rintro e w7 ⟨rfl, x7⟩; replace X := Lib.hid (X.out.trans x7))
      | (go_at_call 26; refine (C4.out _).mono ?_; rintro e w8 ⟨rfl, x8⟩; replace X := Lib.hid (X.out.trans x8))
      | (go_at_call 23; (with_reducible refine (close_nil _ _ _ _ _).mono ?_); rintro e w9 ⟨rfl, rfl⟩)
      | (go_at_call 27; refine (HSz.out _).mono ?_; rintro e w10 ⟨rfl, rfl⟩)
      | (go_at_call 28; refine (HRz.out _).mono ?_; rintro e w11 ⟨rfl, rfl⟩)
      | (go_at_call 20; refine (HW.out _ X.out).mono ?_; rintro e w17 ⟨rfl, x17⟩))
    all_goals
      go_ret
      exact ⟨by first | rfl | simp, X.out.trans x17⟩
  · obtain ⟨S, ce, en, ee, hc1, hc2, hc3, hc4⟩ := HBo.out (f12B n)
    have C1 := Lib.hid hc1; have C2 := Lib.hid hc2; have C3 := Lib.hid hc3; have C4 := Lib.hid hc4
    clear hc1 hc2 hc3 hc4 HBo
    generalize ringOf K m = L at *
    generalize f12B n = N at *
    go_wp2_with (first
      | (go_at_call 21; refine (HR.out _ HX0.out).mono ?_; rintro e w3 ⟨⟨r, bk, d, pd, cd, rfl, k3, d3, q3, p3⟩, x3⟩; have KA := Lib.hid k3; have DA := Lib.hid d3; have X := Lib.hid (HX0.out.trans x3); clear k3 d3 q3 p3 x3)
      | (go_at_call 22; refine (HN.out _).mono ?_; rintro e w4 ⟨rfl, x4⟩; replace KA := Lib.hid (KA.out.ext x4); replace DA := Lib.hid (DA.out.ext x4); replace X := Lib.hid (X.out.trans x4))
      | (go_at_call 23; (with_reducible refine (C1.out _ _ _ X.out KA.out).mono ?_); rintro e w5 ⟨rfl, x5⟩; replace KA := Lib.hid (KA.out.ext x5); replace DA := Lib.hid (DA.out.ext x5); replace X := Lib.hid (X.out.trans x5))
      | (go_at_call 24; refine (C2.out _ _ _ _ _ DA.out KA.out.good).mono ?_; rintro e w6 ⟨rfl, x6⟩; replace X := Lib.hid (X.out.trans x6))
      | (go_at_call 25; refine (C3.out _).mono ?_; rintro e w7 ⟨rfl, x7⟩; replace X := Lib.hid (X.out.trans x7))
      | (go_at_call 26; refine (C4.out _).mono ?_; rintro e w8 ⟨rfl, x8⟩; replace X := Lib.hid (X.out.trans x8))
      | (go_at_call 23; (with_reducible refine (close_nil _ _ _ _ _).mono ?_); rintro e w9 ⟨rfl, rfl⟩)
      | (go_at_call 27; refine (HSz.out _).mono ?_; rintro e w10 ⟨rfl, rfl⟩)
      | (go_at_call 28; refine (HRz.out _).mono ?_; rintro e w11 ⟨rfl, rfl⟩)
      | (go_at_call 20; refine (HW.out _ X.out).mono ?_; rintro e w17 ⟨rfl, x17⟩))
    all_goals
      go_ret
      exact ⟨by first | rfl | simp, X.out.trans x17⟩
end Go.Proofs.YtdnpgmoiapkhnaaGreatDoor
end

section
namespace Go.Proofs.YtdnpgmoiapkhnaaGreatDoor
open Go.RowKit
attribute [local irreducible] rkey expand enc dec ctrB ctrC ctrL xorL turnL turnT kd t4 t8 env5 chk tagT sealT

theorem ropen_form (w : World) (d : Nat) (path : ByteArray) (v : Int) (s : ByteArray) (hE : ∀ u, Calls Tryz.prog 26 #[.string s] u fun r w' => r = .returned (.tuple #[.int .u32 0, .int .i64 7]) ∧ u = w') :
    Calls Tryz.prog 30 #[.pointer (some ⟨d, 0, none⟩), .string path, .int .u64 v, .string s] w fun e w' => e = .returned (.tuple #[.string ⟨#[]⟩, .int .i64 7]) ∧ w = w' := by
  have HE := Lib.hid hE
  clear hE
  go_enter Tryz.func30, Tryz.ntmps30
  go_wp2_with (go_at_call 26; refine (HE.out _).mono ?_; rintro e w2 ⟨rfl, rfl⟩)
  go_ret2
  exact ⟨rfl, rfl⟩
section
variable {B d c e : Nat} {p : Option Addr} {L : List (Nat × ByteArray)} {C D T : ByteArray}
theorem ropen_epoch (w : World) (h : IsR w B d p c L) (h64 : L.length ≤ 64) (path : ByteArray) (v : Int) (he : e < 4294967296) (hC : C.size = 12) (hT : T.size = 32) (hD : D.size ≤ 1048576) (hp : path.size ≤ 1048576) (hn : e ∉ eps L) :
    Calls Tryz.prog 30 #[.pointer (some ⟨d, 0, none⟩), .string path, .int .u64 v, .string (env5 t1 (t4 e) C D T)] w fun x w' => x = .returned (.tuple #[.string ⟨#[]⟩, .int .i64 140]) ∧ Ext w w' := by
  have HE := Lib.hid (fun u => repoch_yes he hC hT hD u)
  have HKy := Lib.hid (rkeysK_no w B d p c L h h64 e hn)
  have hpi : ¬ (1048576 : Int) < (path.size : Int) := by omega
  generalize env5 t1 (t4 e) C D T = S at *
  clear h hC hT hD hn
  go_enter Tryz.func30, Tryz.ntmps30
  go_wp2_with (first
    | (go_at_call 26; refine (HE.out _).mono ?_; rintro e w2 ⟨rfl, rfl⟩)
    | (go_at_call 18; refine (HKy.out).mono ?_; rintro e w3 ⟨rfl, x3⟩))
  go_ret2
  exact ⟨rfl, x3⟩
set_option maxRecDepth 100000 in
set_option maxHeartbeats 4000000 in
theorem ropen_key (w : World) (h : IsR w B d p c L) (hG : GoodK L) (s : ByteArray) (hm : (e, s) ∈ L) (path : ByteArray) (v : Nat) (hv : v < 2 ^ 64) (hC : C.size = 12) (hT : T.size = 32) (hD : D.size ≤ 1048576) (hp : path.size ≤ 1048576) :
    Calls Tryz.prog 30 #[.pointer (some ⟨d, 0, none⟩), .string path, .int .u64 (v : Int), .string (env5 t1 (t4 e) C D T)] w fun x w' => x = .returned (OpenE (chk T.data.toList (tagT (kd s tagB 32) path v t1 (t4 e) C D).data.toList) (turnT (kd s cipB 16) C 0 D)) ∧ Ext w w' := by
  have he : e < 4294967296 := (hG.each _ hm).2.1
  have HE := Lib.hid (fun u => repoch_yes he hC hT hD u)
  have hk1 : (kd s cipB 16).size = 16 := kd_size _ _ _ (by omega)
  have hk2 : (kd s tagB 32).size = 32 := kd_size _ _ _ (by omega)
  have HKy := Lib.hid (rkeysK_yes w B d p c L h hG e s hm)
  have HTu : Hid (∀ u, Calls Tryz.prog 51 #[.string (kd s cipB 16), .string C, .int .u32 0, .string D] u fun e w' => e = .returned (.tuple #[.string (turnT (kd s cipB 16) C 0 D), .int .i64 0]) ∧ Ext u w') := Lib.hid (fun u => by
    have := rturn_yes (kd s cipB 16) C D 0 hk1 hC hD (by omega) (by unfold blocksOf; omega) u
    unfold turnT
    exact this)
  have htg := fun u => rtag14_any (kd s tagB 32) path v (((t1 ++ t4 e) ++ C) ++ D) hk2 hp hv (by
    rw [ByteArray.size_append, ByteArray.size_append, ByteArray.size_append, t4_size, hC]
    have : t1.size = 1 := rfl
    omega) u
  rw [tagT_app] at htg
  have HTg := Lib.hid htg
  obtain ⟨c1, c2, c3, c4⟩ := env5_cuts (t4 e) C D T (t4_size e) hC hT
  have hz := env5_size t1 (t4 e) C D T
  rw [t4_size, hC, hT, show t1.size = 1 from rfl] at hz
  have hck := chk_eq14 hT (tagT_size (kd s tagB 32) path v t1 (t4 e) C D)
  have s1 := fun u => cut_to (env5 t1 (t4 e) C D T) (17 + D.size) (by omega) u
  have s2 := fun u => cut_from (env5 t1 (t4 e) C D T) (17 + D.size) (by omega) u
  have s3 := fun u => cut_mid (env5 t1 (t4 e) C D T) 5 17 (by omega) (by omega) u
  have s4 := fun u => cut_mid (env5 t1 (t4 e) C D T) 17 (17 + D.size) (by omega) (by omega) u
  rw [c1] at s1
  rw [c2] at s2
  rw [c3] at s3
  rw [c4] at s4
  have hpi : ¬ (1048576 : Int) < (path.size : Int) := by omega
  have hzi : ((env5 t1 (t4 e) C D T).size : Int) - 32 = ((17 + D.size : Nat) : Int) := by omega
  have hwz : IntKind.i64.wrap (((env5 t1 (t4 e) C D T).size : Int) - 32) = ((17 + D.size : Nat) : Int) := (IntWalk.i64_in _ ⟨by omega, by omega⟩).trans hzi
  have hwy : wrap64 (((env5 t1 (t4 e) C D T).size : Int) - 32) = ((17 + D.size : Nat) : Int) := (IntWalk.wrap64_in _ ⟨by omega, by omega⟩).trans hzi
  clear h hG hm hk1 hk2 htg hC hT hD hp c1 c2 c3 c4 hz hzi hv
  generalize 17 + D.size = k at *
  generalize env5 t1 (t4 e) C D T = S at *
  generalize hZ : ((t1 ++ t4 e) ++ C) ++ D = Z at *
  clear hZ
  generalize turnT (kd s cipB 16) C 0 D = X at *
  generalize tagT (kd s tagB 32) path v t1 (t4 e) C D = G at *
  generalize chk T.data.toList G.data.toList = ok at *
  generalize kd s cipB 16 = K1 at *
  generalize kd s tagB 32 = K2 at *
  have s3' : ∀ u, (Instr.slice 9 (.string S) (some (.int .i64 5)) (some (.int .i64 17)) none).run Tryz.prog u = .ok (.string C) u := s3
  have s4' : ∀ u, (Instr.slice 9 (.string S) (some (.int .i64 17)) (some (.int .i64 (k : Int))) none).run Tryz.prog u = .ok (.string D) u := s4
  clear s3 s4
  go_enter Tryz.func30, Tryz.ntmps30
  go_upto_region 10 with (first
    | (go_at_call 26; refine (HE.out _).mono ?_; rintro e w2 ⟨rfl, rfl⟩)
    | (go_at_call 18; refine (HKy.out).mono ?_; rintro e w3 ⟨rfl, x3⟩))
  have X3 := Lib.hid x3
  have x0 : Ext w3 w3.drew := (Ext.refl w3).drew
  clear x3
  go_region_held3 (fun u => Ext w3 u) (first | assumption | go_keep) (first
    | (go_at_call 53; refine (HTg.out _).mono ?_; rintro e w4 ⟨rfl, h4⟩; have y4 := Ext.trans (a := w3) (by assumption) h4))
  all_goals
    have Y4 := Lib.hid y4
    clear y4 x0
    cases ok
    · go_wp2
      go_ret2
      exact ⟨rfl, X3.out.trans Y4.out⟩
    · go_upto_region 12 with (fail)
      have z0 : Ext w4 w4.drew := (Ext.refl w4).drew
      go_region_held3 (fun u => Ext w4 u) (first | assumption | go_keep) (first
        | (go_at_call 51; refine (HTu.out _).mono ?_; rintro e w5 ⟨rfl, h5⟩; have y5 := Ext.trans (a := w4) (by assumption) h5))
      all_goals
        go_wp2
        go_ret2
        exact ⟨rfl, X3.out.trans (Y4.out.trans y5)⟩
end
end Go.Proofs.YtdnpgmoiapkhnaaGreatDoor
end
