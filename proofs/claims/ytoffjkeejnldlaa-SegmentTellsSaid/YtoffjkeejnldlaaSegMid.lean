/- Contract: whether a segment is too heavy for the laws. Contract: a frame that is not too long; frames of a row; the next number. Contract: a segment's bytes, by the program. Contract: the document's bytes of a number. Contract: a record's frame, by the document's answer. Contract: a head's bytes, by the document. Plain: a text's bytes in a row of their own that grows by append. Plain: a text appended to a row of bytes that a conversion laid; such a row as a text. Contract: a segment's bytes, by the document. Contract: the segment in front of bytes, by the document: any bytes. Contract: whether two lists of texts are the same, by the document. Contract: whether two segments are the same, by the document. -/
import Derived.Test.YtoffjkeejnldlaaSegB
import Derived.Test.YtoffjkeejnldlaaTextsP
import Derived.Outline
import Derived.Test.YtoffjkeejnldlaaFrameP
import Derived.Test.YtoffjkeejnldlaaSegBase
import Derived.Test.YtoffjkeejnldlaaWireL
import Derived.Test.YtoffjkeejnldlaaBuf
import Derived.Test.YtoffjkeejnldlaaTxt
import Derived.Deep.QuietTactic
import Derived.BigQuiet
import Derived.Test.YtoffjkeejnldlaaREnc
import Derived.Test.YtoffjkeejnldlaaBlk
import Derived.Deep.RegionHeld3
import Derived.Test.YtoffjkeejnldlaaSegMay
import Derived.Deep.DeepCutAuto
import Derived.Deep.RegionWith
import Derived.Test.YtoffjkeejnldlaaBRow
import Derived.Lib.FrozenHead
import Derived.Lib.AppendStr
import Derived.StillTailTactics
import Derived.Test.YtoffjkeejnldlaaRParseW
import Derived.Test.YtoffjkeejnldlaaBegun
import Derived.Lib.Strings
import Derived.Test.YtoffjkeejnldlaaSegL
section
namespace Go.Proofs.Ytoffjkeejnldlaa
open Go.RowKit

set_option maxRecDepth 100000 in
set_option maxHeartbeats 4000000 in
theorem heavy_any (x : Seg) (p : Option Addr) (c : Nat) (w : World) (hr : TextsP w p x.r) (ht : x.t.size ≤ 140737488351232) (hs : ∀ s ∈ x.r, s.size ≤ 140737488351232) (hl : x.r.length ≤ 140737488355328) :
    Calls Try.prog 7 #[segV x (.slice p x.r.length c)] w fun e w' => ∃ b, e = .returned (.bool b) ∧ Ext w w' ∧ (b = false → x.Light) := by
  have HR := Lib.hid (hr.ext ((Ext.refl w).alloc (.cells #[.int .u8 (x.k : Int), .int .u64 (x.g : Int), .int .u64 (x.f : Int), .string x.t, .slice p x.r.length c, .int .i64 x.u, .bool x.w] 25)))
  have HS := Lib.hid hs
  have hb : Blk (w.alloc (.cells #[.int .u8 (x.k : Int), .int .u64 (x.g : Int), .int .u64 (x.f : Int), .string x.t, .slice p x.r.length c, .int .i64 x.u, .bool x.w] 25)) w.heap.size 25 [.int .u8 (x.k : Int), .int .u64 (x.g : Int), .int .u64 (x.f : Int), .string x.t, .slice p x.r.length c, .int .i64 x.u, .bool x.w] := Blk.new w _ _
  have c3 := hb.cell 3 _ rfl
  have c4 := hb.cell 4 _ rfl
  have HX := Lib.hid ((Ext.refl w).alloc (.cells #[.int .u8 (x.k : Int), .int .u64 (x.g : Int), .int .u64 (x.f : Int), .string x.t, .slice p x.r.length c, .int .i64 x.u, .bool x.w] 25))
  clear hb hr hs
  unfold segV
  go_enter Try.func7, Try.ntmps7
  go_wp2
  generalize (w.alloc (.cells #[.int .u8 (x.k : Int), .int .u64 (x.g : Int), .int .u64 (x.f : Int), .string x.t, .slice p x.r.length c, .int .i64 x.u, .bool x.w] 25)) = W at *
  go_loop [3, 4] (fun nv iv => ∃ j N : Nat, j ≤ x.r.length ∧ N ≤ 140737488363520 ∧ iv = .int .i64 (j : Int) ∧ nv = .int .i64 (N : Int) ∧ Hid (x.t.size ≤ N ∧ ∀ i s, i < j → x.r[i]? = some s → s.size ≤ N)) (fun _ iv => x.r.length - (intOf iv).toNat)
  case atStart => exact ⟨0, x.t.size, Nat.zero_le _, by omega, rfl, rfl, Lib.hid ⟨Nat.le_refl _, fun i s hi => by omega⟩⟩
  case round =>
    obtain ⟨j, N, hj, hN, rfl, rfl, hin⟩ := hrel
    by_cases hlt : j < x.r.length
    · by_cases h8 : N ≤ 8192
      · have h8i : (N : Int) ≤ 8192 := by omega
        obtain ⟨s, hs⟩ : ∃ s, x.r[j]? = some s := ⟨_, List.getElem?_eq_getElem hlt⟩
        obtain ⟨a, rfl, _, hc⟩ := HR.out j s hs
        have hs2 := HS.out s (List.mem_of_getElem? hs)
        have HSj := Lib.hid hs
        clear hs
        go_wp2
        go_round
        case rel =>
          refine ⟨j + 1, N + s.size, hlt, by omega, by go_num, by go_num, Lib.hid ⟨by have := hin.out.1; omega, fun i s' hi hs' => ?_⟩⟩
          by_cases hij : i = j
          · subst hij
            rw [HSj.out] at hs'
            cases hs'
            omega
          · have := hin.out.2 i s' (by omega) hs'
            omega
        case measure => simp [intOf]; omega
      · have h8i : ¬ (N : Int) ≤ 8192 := by omega
        have h8j : (8192 : Int) < (N : Int) := by omega
        clear hin
        go_wp2
        go_ret
        exact .inr ⟨rfl, HX.out⟩
    · obtain rfl : j = x.r.length := by omega
      by_cases h8 : N ≤ 8192
      · have h8i : (N : Int) ≤ 8192 := by omega
        have h8j : ¬ (8192 : Int) < (N : Int) := by omega
        have HF : Hid (x.r.length ≤ 60 → x.Light) := Lib.hid (fun h60 => ⟨by have := hin.out.1; omega, h60, fun s hs => by
          obtain ⟨i, hi⟩ := List.getElem?_of_mem hs
          have := hin.out.2 i s (List.getElem?_eq_some_iff.1 hi).1 hi
          omega⟩)
        clear hin
        go_wp2
        go_ret
        by_cases h60 : x.r.length ≤ 60
        · exact .inl ⟨by
            rw [show decide ((60 : Int) < (x.r.length : Int)) = false from by rw [decide_eq_false_iff_not]; omega]
            rfl, HX.out, HF.out h60⟩
        · exact .inr ⟨by
            rw [show decide ((60 : Int) < (x.r.length : Int)) = true from by rw [decide_eq_true_iff]; omega]
            rfl, HX.out⟩
      · have h8i : ¬ (N : Int) ≤ 8192 := by omega
        have h8j : (8192 : Int) < (N : Int) := by omega
        clear hin
        go_wp2
        go_ret
        exact .inr ⟨rfl, HX.out⟩
end Go.Proofs.Ytoffjkeejnldlaa
end

section
namespace Go.Proofs.Ytoffjkeejnldlaa
open Go.RowKit

theorem enc_yes (r : Rec) (hr : r.n < 18446744073709551616) (hs : r.t.size ≤ 65536) (w : World) :
    Calls Try.prog 23 #[.agg #[.int .u64 (r.n : Int), .string r.t]] w fun e w' => e = .returned (.tuple #[.string (frameT r), .int .i64 0]) ∧ Ext w w' := by
  have h := Encode_any r hr (Nat.le_trans hs (by decide)) w
  rw [show encF r = (frameT r, 0) from by unfold encF; rw [if_neg (by omega)]] at h
  exact h
theorem row_cat (l : List Rec) (r : Rec) : (⟨(rowF l).toArray⟩ : ByteArray) ++ frameT r = ⟨(rowF (l ++ [r])).toArray⟩ := by
  unfold frameT
  rw [str_append, rowF_append]
  simp [rowF]
theorem add_mod (first j : Nat) (hf : first < 18446744073709551616) (hj : j ≤ 1000000) : IntKind.u64.wrap ((first : Int) + (j : Int)) = (((first + j) % 18446744073709551616 : Nat) : Int) := by
  by_cases h : first + j < 18446744073709551616
  · rw [Nat.mod_eq_of_lt h]
    exact u64_nat (x := first + j) h
  · have e : (first + j) % 18446744073709551616 = first + j - 18446744073709551616 := by omega
    rw [e]
    simp [IntKind.wrap, IntKind.signed, IntKind.bits]
    omega
end Go.Proofs.Ytoffjkeejnldlaa
end

section
namespace Go.Proofs.Ytoffjkeejnldlaa
open Go.RowKit

/-- What is written of a segment when so many records are. -/
def upTo (x : Seg) (j : Nat) : List UInt8 := frameL (headR x.k x.g x.f x.t) ++ rowF (recsF (x.r.take j) x.f)
theorem upTo_step (x : Seg) (hf : x.f < 18446744073709551616) (j : Nat) (s : ByteArray) (h : x.r[j]? = some s) : upTo x j ++ (frameT ⟨(x.f + j) % 18446744073709551616, s⟩).data.toList = upTo x (j + 1) := by
  unfold upTo
  rw [recsF_take x.r x.f j s hf h, rowF_append, List.append_assoc]
  simp [rowF, frameT_list]
theorem upTo_all (x : Seg) : upTo x x.r.length = bytesL x := by
  unfold upTo bytesL
  rw [List.take_of_length_le (Nat.le_refl _)]
theorem upTo_le {x : Seg} (h : x.Light) (j : Nat) : (upTo x j).length ≤ 900000 := by
  have h1 := totF_light (x.r.take j) (fun s hs => h.r s (List.mem_of_mem_take hs))
  have h2 := headT_le x.k x.g x.t
  have h3 := h.t
  have h4 := h.n
  have h5 : (x.r.take j).length ≤ 60 := by rw [List.length_take]; omega
  unfold upTo
  rw [List.length_append, frameL_length, rowF_length]
  show 16 + (headT x.k x.g x.t).size + _ ≤ _
  omega
theorem nextN_small {x : Seg} (hm : MayB x.k x.g x.f x.t) (hl : x.Light) : nextN x = x.f + x.r.length := by
  have h1 := hm.2.2.2
  have h2 := hl.n
  unfold nextN
  rw [Nat.mod_eq_of_lt (by omega)]
set_option maxRecDepth 100000 in
set_option maxHeartbeats 4000000 in
theorem Bytes_any (x : Seg) (hok : x.Ok) (hl : x.Light) (p : Option Addr) (c : Nat) (w : World) (hr : TextsP w p x.r) :
    Calls Try.prog 11 #[segV x (.slice p x.r.length c)] w fun e w' => e = .returned (.tuple #[.string (bytesF x).1, .int .i64 ((bytesF x).2 : Int)]) ∧ Ext w w' := by
  have HH := Lib.hid (fun u => Head_any x.k x.g x.f x.t hok.k hok.g hok.f hl.t u)
  have HN := Lib.hid (fun u => Next_any x p c hok.n u)
  have HUS := Lib.hid (fun j s h => upTo_step x hok.f j s h)
  have HUA := Lib.hid (upTo_all x)
  have HUL := Lib.hid (fun j => upTo_le hl j)
  have HR := Lib.hid hr
  have hn60 := hl.n
  have HS := Lib.hid hl.r
  have hf64 := hok.f
  have hU0 : upTo x 0 = frameL (headR x.k x.g x.f x.t) := by unfold upTo; rw [List.take_zero]; simp [recsF, rowF]
  have HU0 := Lib.hid hU0
  obtain ⟨n, hn⟩ : ∃ n, n = x.r.length := ⟨_, rfl⟩
  have HL := Lib.hid hn
  rw [← hn] at HN HUA hn60 ⊢
  unfold segV at HN ⊢
  have hb : Blk (w.alloc (.cells #[.int .u8 (x.k : Int), .int .u64 (x.g : Int), .int .u64 (x.f : Int), .string x.t, .slice p n c, .int .i64 x.u, .bool x.w] 25)) w.heap.size 25 (segC x (.slice p n c)) := Blk.new w _ _
  have hx0 : Ext w (w.alloc (.cells #[.int .u8 (x.k : Int), .int .u64 (x.g : Int), .int .u64 (x.f : Int), .string x.t, .slice p n c, .int .i64 x.u, .bool x.w] 25)) := (Ext.refl w).alloc _
  have hsz : w.heap.size < (w.alloc (.cells #[.int .u8 (x.k : Int), .int .u64 (x.g : Int), .int .u64 (x.f : Int), .string x.t, .slice p n c, .int .i64 x.u, .bool x.w] 25)).heap.size := by simp
  have HX0 := Lib.hid hx0; have HB0 := Lib.hid hb; have HSZ := Lib.hid hsz
  have c0 := hb.cell 0 _ rfl
  have c1 := hb.cell 1 _ rfl
  have c2 := hb.cell 2 _ rfl
  have c3 := hb.cell 3 _ rfl
  rcases headF_or x.k x.g x.f x.t with ⟨hm, he⟩ | ⟨hm, he⟩
  · rw [he] at HH
    dsimp only at HH
    rw [show ((0 : Nat) : Int) = 0 from rfl] at HH
    have hnx := nextN_small hm hl
    rw [← hn] at hnx
    rw [hnx] at HN
    have HM := Lib.hid hm
    clear hok hl hr hm he hnx hx0 hb hsz hU0
    by_cases hbig : x.f + n ≤ 281474976710657
    · have hbi : ¬ (281474976710657 : Int) < ((x.f + n : Nat) : Int) := by omega
      have hbf : bytesF x = (bytesT x, 0) := by unfold bytesF; rw [if_pos ⟨HM.out, by rw [HL.out] at hbig; exact hbig⟩]
      rw [hbf]
      dsimp only
      rw [show ((0 : Nat) : Int) = 0 from rfl]
      have HT : Hid ((⟨(upTo x n).toArray⟩ : ByteArray) = bytesT x) := Lib.hid (by rw [HUA.out]; rfl)
      have HFD : Hid ((frameT (headR x.k x.g x.f x.t)).data.toList = upTo x 0) := Lib.hid (by rw [HU0.out]; rfl)
      clear hbf hn hbig
      generalize bytesT x = BT at *
      generalize frameT (headR x.k x.g x.f x.t) = FH at *
      generalize ((x.f + n : Nat) : Int) = nx at *
      generalize hxr : x.r = r at *
      clear hxr
      go_enter Try.func11, Try.ntmps11
      go_wp2_with (first
        | (go_at_call 9; refine (HH.out _).mono ?_; rintro e w1 ⟨rfl, x1⟩; have hb1 := HB0.out.ext x1; have HB1 := Lib.hid hb1; have d0 := hb1.cell 0 _ rfl; have d1 := hb1.cell 1 _ rfl; have d2 := hb1.cell 2 _ rfl; have d3 := hb1.cell 3 _ rfl; have d4 := hb1.cell 4 _ rfl; have d5 := hb1.cell 5 _ rfl; have d6 := hb1.cell 6 _ rfl; have X1 := Lib.hid x1; clear x1 hb1 c0 c1 c2 c3)
        | (go_at_call 16; refine (HN.out _).mono ?_; rintro e w2 ⟨rfl, x2⟩; have HB2 := Lib.hid (HB1.out.ext x2); have X2 := Lib.hid (X1.out.trans x2); have HIB := Lib.hid (IsB.new w2 w2.heap.size (Nat.le_refl _)); clear x2 d0 d1 d2 d3 d4 d5 d6)
        | (go_at_call 28; refine (write_b w2.heap.size w2.heap.size [] FH.data.toList _ HIB.out (by have := HUL.out 0; rw [HFD.out]; simp; omega) (by simp)).mono ?_; rintro e w3 ⟨rfl, hb3, x3⟩; have HB3 := Lib.hid hb3; have X3 := Lib.hid x3; have hbl3 := (HB2.out.alloc (.cells #[.pointer none, .slice none 0 0] 66)).below x3 HB2.out.lt; have HBl3 := Lib.hid hbl3; have g4 := hbl3.cell 4 _ rfl; clear hb3 x3 hbl3))
      have hB3 := HB3.out
      rw [List.nil_append, HFD.out] at hB3
      have HB3' := Lib.hid hB3
      have HW3 := Lib.hid (show Ext w w3 from ((HX0.out.trans X2.out).alloc (.cells #[.pointer none, .slice none 0 0] 66)).trans3 (Below.mono X3.out (by have := (HX0.out.trans X2.out).size; omega)))
      have HSB := Lib.hid (show w.heap.size < w2.heap.size from Nat.lt_of_lt_of_le HSZ.out X2.out.size)
      have HSW := Lib.hid (show w2.heap.size ≤ w3.heap.size from by have := X3.out.size; simp at this; omega)
      clear hB3 HB3 HIB HB2 X1 X2 HB1 X3
      generalize w2.heap.size = B at *
      go_loopw [36] (fun i wr => ∃ j : Nat, j ≤ n ∧ i = .int .i64 (j : Int) ∧ Hid (IsB wr B B (upTo x j)) ∧ Hid (Blk wr w.heap.size 25 (segC x (.slice p n c))) ∧ Hid (Ext w wr) ∧ Hid (B ≤ wr.heap.size)) (fun i _ => n - (intOf i).toNat)
      case atStart => exact ⟨0, Nat.zero_le _, rfl, HB3', HBl3, HW3, HSW⟩
      case round =>
        obtain ⟨j, hj, rfl, hib, hbl, hex, hbs⟩ := hrel
        by_cases hlt : j < n
        · obtain ⟨s, hs⟩ : ∃ s, r[j]? = some s := ⟨_, List.getElem?_eq_getElem (by have := HL.out; omega)⟩
          obtain ⟨a, rfl, ha, hc0⟩ := HR.out j s hs
          have hc := (hex.out.below.cell (p := a.add j) (by rw [add_block]; exact ha)).trans hc0
          have e2 := hbl.out.cell 2 _ rfl
          have hs2 := HS.out s (List.mem_of_getElem? hs)
          have HSt := Lib.hid (HUS.out j s hs)
          have hwj : IntKind.u64.wrap (j : Int) = (j : Int) := u64_nat (x := j) (by omega)
          have hsum := add_mod x.f j hf64 (by omega)
          obtain ⟨n', hn'⟩ : ∃ n', n' = (x.f + j) % 18446744073709551616 := ⟨_, rfl⟩
          rw [← hn'] at hsum HSt
          have hn64 : n' < 18446744073709551616 := by rw [hn']; exact Nat.mod_lt _ (by decide)
          have HE := Lib.hid (fun u => enc_yes ⟨n', s⟩ hn64 (by show s.size ≤ 65536; omega) u)
          dsimp only at HE
          have hfs : (frameT ⟨n', s⟩).data.toList.length ≤ 10000 := by rw [size_list, frameT_size]; show 16 + s.size ≤ _; omega
          have HFS := Lib.hid hfs
          clear hs hn' ha hc0 hs2 hfs hn64
          generalize frameT ⟨n', s⟩ = F at *
          go_wp2_with (first
            | (go_at_call 23; refine (HE.out _).mono ?_; rintro e w4 ⟨rfl, x4⟩; have X4 := Lib.hid x4; have HI4 := Lib.hid (hib.out.ext x4); have HS4 := Lib.hid (Nat.le_trans hbs.out x4.size); have HB4 := Lib.hid (hbl.out.ext x4); clear x4)
            | (go_at_call 28; refine (write_b B B (upTo x j) F.data.toList w4 HI4.out (by have h1 := HUL.out j; have h2 := HFS.out; omega) HS4.out).mono ?_; rintro e w5 ⟨rfl, hb5, x5⟩; have HI5 := Lib.hid hb5; have X5 := Lib.hid x5; clear hb5 x5))
          go_roundw
          case rel => exact ⟨j + 1, hlt, by go_num, Lib.hid (by rw [← HSt.out]; exact HI5.out), Lib.hid (HB4.out.below X5.out HSB.out), Lib.hid ((hex.out.trans X4.out).trans3 (Below.mono X5.out (Nat.le_of_lt (Nat.lt_of_le_of_lt (Nat.le_refl _) HSB.out)))), Lib.hid (Nat.le_trans HS4.out X5.out.size)⟩
          case measure => simp [intOf]; omega
        · obtain rfl : j = n := by omega
          have HSt := Lib.hid (string_b B B (upTo x j) wr hib.out hbs.out)
          rw [HT.out] at HSt
          go_wp2_with (go_at_call 29; refine (HSt.out).mono ?_; rintro e w6 ⟨rfl, x6⟩; have X6 := Lib.hid x6; clear x6)
          go_ret2
          exact ⟨rfl, hex.out.trans3 (Below.mono X6.out (Nat.le_of_lt HSB.out))⟩
    · have hbi : (281474976710657 : Int) < ((x.f + n : Nat) : Int) := by omega
      have hbf : bytesF x = (⟨#[]⟩, 2) := by unfold bytesF; rw [if_neg (fun h => hbig (by rw [HL.out]; exact h.2))]
      rw [hbf]
      dsimp only
      clear hbf hn hbig
      generalize frameT (headR x.k x.g x.f x.t) = FH at *
      generalize ((x.f + n : Nat) : Int) = nx at *
      go_enter Try.func11, Try.ntmps11
      go_wp2_with (first
        | (go_at_call 9; refine (HH.out _).mono ?_; rintro e w1 ⟨rfl, x1⟩; have hb1 := HB0.out.ext x1; have HB1 := Lib.hid hb1; have d0 := hb1.cell 0 _ rfl; have d1 := hb1.cell 1 _ rfl; have d2 := hb1.cell 2 _ rfl; have d3 := hb1.cell 3 _ rfl; have d4 := hb1.cell 4 _ rfl; have d5 := hb1.cell 5 _ rfl; have d6 := hb1.cell 6 _ rfl; have X1 := Lib.hid x1; clear x1 hb1 c0 c1 c2 c3)
        | (go_at_call 16; refine (HN.out _).mono ?_; rintro e w2 ⟨rfl, x2⟩; have X2 := Lib.hid (X1.out.trans x2); clear x2 d0 d1 d2 d3 d4 d5 d6))
      go_ret2
      exact ⟨rfl, HX0.out.trans X2.out⟩
  · rw [he] at HH
    have hbf : bytesF x = (⟨#[]⟩, 2) := by unfold bytesF; rw [if_neg (fun h => hm h.1)]
    rw [hbf]
    dsimp only at HH ⊢
    rw [show ((2 : Nat) : Int) = 2 from rfl] at HH ⊢
    clear hbf hok hl hr hm he hx0 hb hsz hU0 hn
    go_enter Try.func11, Try.ntmps11
    go_wp2_with (go_at_call 9; refine (HH.out _).mono ?_; rintro e w1 ⟨rfl, x1⟩; have X1 := Lib.hid x1; clear x1)
    go_ret2
    exact ⟨rfl, HX0.out.trans X1.out⟩
end Go.Proofs.Ytoffjkeejnldlaa
end

section
namespace Go.Proofs.Ytoffjkeejnldlaa
open Go.RowKit
attribute [local irreducible] wnF

set_option maxRecDepth 100000 in
set_option maxHeartbeats 1000000 in
theorem rUint_any (n : Nat) (hn : n < 18446744073709551616) (w : World) :
    Calls Try.prog 27 #[.int .u64 (n : Int)] w fun e w' => e = .returned (.string ⟨(wn n).toArray⟩) ∧ Ext w w' := by
  have HN := Lib.hid hn
  clear hn
  go_enter Try.func27, Try.ntmps27
  go_wp2
  go_loopw [0, 3] (fun x v wr => ∃ (k m : Nat) (z : List UInt8), x = .int .u64 (m : Int) ∧ Hid (z ++ wnF k m = wn n ∧ m < 2 * 128 ^ k ∧ m < 18446744073709551616 ∧ z.length ≤ 9 - k ∧ k ≤ 9) ∧ Hid (Buf wr w.heap.size v z) ∧ Hid (Ext w wr)) (fun x _ _ => (intOf x).toNat)
  case atStart => exact ⟨9, n, [], rfl, Lib.hid ⟨rfl, by have := HN.out; omega, HN.out, by simp, by omega⟩, Lib.hid (Buf.nil _ _), Lib.hid (Ext.refl _)⟩
  case round =>
    obtain ⟨k, m, z, rfl, hk, hb, hx⟩ := hrel
    obtain ⟨hz, hm, hm64, hzl, hk9⟩ := hk.out
    clear hk
    by_cases h128 : m < 128
    · have h128i : (m : Int) < 128 := by omega
      rw [wnF_low _ _ h128] at hz
      have HZ := Lib.hid hz
      have HW := Lib.hid (show (m : Int) = ((UInt8.ofNat m).toNat : Int) by rw [ofNat_toNat _ (by omega)])
      have HL := Lib.hid (show z.length + 1 ≤ 140737488355328 by omega)
      clear hz
      go_wp2_with (at_builtin
                   have q1 := hx.out.alloc (.cells #[.int .u8 (m : Int)] 5)
                   have q2 := (hb.out.alloc (.cells #[.int .u8 (m : Int)] 5))
                   have q3 := Row.one wr 5 (m : Int) (UInt8.ofNat m) HW.out
                   have q4 := HL.out
                   refine append_bytes rfl (.tmp 15) (.tmp 18) rfl w.heap.size _ _ rfl q2 wr.heap.size 1 [UInt8.ofNat m] rfl rfl q3 q4 q1.size ?_
                   intro v1 w3 hb3 x3
                   have htx := hb3.text 55 9 Try.underlying55 Try.underlying5 Try.underlying9
                   rw [HZ.out] at htx
                   have X3 := Lib.hid (q1.trans3 x3)
                   clear hb3 x3 q1 q2 q3 q4)
      go_ret
      exact ⟨rfl, X3.out⟩
    · obtain ⟨k', rfl⟩ : ∃ k', k = k' + 1 := by
        cases k with
        | zero => simp at hm; omega
        | succ k' => exact ⟨k', rfl⟩
      rw [wnF_high _ _ h128] at hz
      have h128i : ¬ (m : Int) < 128 := by omega
      have HZ := Lib.hid hz
      have HW := Lib.hid (show (m : Int) % 128 + 128 = ((UInt8.ofNat (m % 128 + 128)).toNat : Int) by rw [ofNat_toNat _ (by omega)]; omega)
      have HL := Lib.hid (show z.length + 1 ≤ 140737488355328 by omega)
      clear hz
      generalize UInt8.ofNat (m % 128 + 128) = c at *
      go_wp2_with (at_builtin
                   have q1 := hx.out.alloc (.cells #[.int .u8 ((m : Int) % 128 + 128)] 5)
                   have q2 := (hb.out.alloc (.cells #[.int .u8 ((m : Int) % 128 + 128)] 5))
                   have q3 := Row.one wr 5 ((m : Int) % 128 + 128) c HW.out
                   have q4 := HL.out
                   refine append_bytes rfl (.tmp 6) (.tmp 11) rfl w.heap.size _ _ rfl q2 wr.heap.size 1 [c] rfl rfl q3 q4 q1.size ?_
                   intro v1 w3 hb3 x3
                   have HB3 := Lib.hid hb3
                   have X3 := Lib.hid (q1.trans3 x3)
                   clear hb3 x3 q1 q2 q3 q4)
      go_roundw
      case rel =>
        refine ⟨k', m / 128, z ++ [c], by go_num, Lib.hid ⟨?_, ?_, by omega, ?_, by omega⟩, HB3, X3⟩
        · rw [← HZ.out, List.append_assoc, List.singleton_append]
        · rw [pow_step] at hm; omega
        · rw [List.length_append, List.length_singleton]; omega
      case measure => simp [intOf]; omega
end Go.Proofs.Ytoffjkeejnldlaa
end

section
namespace Go.Proofs.Ytoffjkeejnldlaa
open Go.RowKit

theorem head_text (k n : Nat) : (⟨(be 4 k).toArray⟩ : ByteArray) ++ ⟨(be 8 n).toArray⟩ = ⟨(headL k n).toArray⟩ := str_append _ _
theorem sum_text (k n : Nat) (t : ByteArray) : (⟨(headL k n).toArray⟩ : ByteArray) ++ t = ⟨(headL k n ++ t.data.toList).toArray⟩ := by
  rw [← str_append]
theorem frame_text (k n : Nat) (t : ByteArray) : (⟨(headL k n).toArray⟩ : ByteArray) ++ ⟨(be 4 (sumN (headL k n ++ t.data.toList))).toArray⟩ = ⟨(headS k n t.data.toList).toArray⟩ := str_append _ _
theorem frame_text2 (r : Rec) : (⟨(headS r.t.size r.n r.t.data.toList).toArray⟩ : ByteArray) ++ r.t = frameT r := by
  unfold frameT frameL
  rw [← str_append]
set_option maxRecDepth 100000 in
set_option maxHeartbeats 2000000 in
theorem rEncode_any (r : Rec) (hr : r.n < 18446744073709551616) (hs : r.t.size ≤ 1000000) (w : World) :
    Calls Try.prog 26 #[recV r] w fun e w' => e = .returned (.tuple #[.string (encF r).1, .int .i64 ((encF r).2 : Int)]) ∧ Ext w w' := by
  obtain ⟨n, t⟩ := r
  dsimp only at hr hs ⊢
  unfold recV
  dsimp only
  have hb : Blk (w.alloc (.cells #[.int .u64 (n : Int), .string t] 60)) w.heap.size 60 [.int .u64 (n : Int), .string t] := Blk.new w _ _
  have hx : Ext w (w.alloc (.cells #[.int .u64 (n : Int), .string t] 60)) := (Ext.refl w).alloc _
  by_cases h : 65536 < t.size
  · have he : encF ⟨n, t⟩ = (⟨#[]⟩, 5) := by unfold encF; rw [if_pos h]
    rw [he]
    have c1 := hb.cell 1 _ rfl
    clear hb
    go_enter Try.func26, Try.ntmps26
    go_wp2
    go_ret2
    exact ⟨rfl, hx⟩
  · have he : encF ⟨n, t⟩ = (frameT ⟨n, t⟩, 0) := by unfold encF; rw [if_neg h]
    rw [he]
    have HX := Lib.hid hx
    have hwn : IntKind.u64.wrap (t.size : Int) = (t.size : Int) := IntWalk.u64_in _ ⟨by omega, by omega⟩
    have HK := Lib.hid (fun u (hu : Ext (w.alloc (.cells #[.int .u64 (n : Int), .string t] 60)) u) => (⟨(hb.ext hu).cell 0 _ rfl, (hb.ext hu).cell 1 _ rfl⟩ : u.cell? ⟨w.heap.size, 0, none⟩ = some (.int .u64 (n : Int)) ∧ u.cell? ⟨w.heap.size, 1, none⟩ = some (.string t)))
    have H4 := Lib.hid (fun u => rBytes4_any t.size (by omega) u)
    have H8 := Lib.hid (fun u => rBytes8_any n hr u)
    have hT1 := head_text t.size n
    have hT2 := sum_text t.size n t
    have HS := Lib.hid (fun u => rsum_any ((⟨(headL t.size n).toArray⟩ : ByteArray) ++ t) (by rw [hT2]; show (headL t.size n ++ t.data.toList).length ≤ _; rw [List.length_append, headL_length, size_list]; omega) u)
    have e2 : (((⟨(headL t.size n).toArray⟩ : ByteArray) ++ t).data.toList) = headL t.size n ++ t.data.toList := by rw [hT2]
    rw [e2] at HS
    have hT3 := frame_text t.size n t
    have hT4 := frame_text2 ⟨n, t⟩
    dsimp only at hT4
    have hm := sumN_lt (headL t.size n ++ t.data.toList)
    have HS2 : Hid (∀ u, Calls Try.prog 45 #[.string ((⟨(headL t.size n).toArray⟩ : ByteArray) ++ t)] u fun e w' => e = .returned (.int .u32 (sumN (headL t.size n ++ t.data.toList) : Int)) ∧ u = w') := HS
    have HB4 := Lib.hid (fun u => rBytes4_any (sumN (headL t.size n ++ t.data.toList)) (by omega) u)
    clear HS e2 hT2 hb hx he
    have z1 : (⟨(be 4 t.size).toArray⟩ : ByteArray).size = 4 := by rw [txt_size, be_length]
    have z2 : (⟨(be 8 n).toArray⟩ : ByteArray).size = 8 := by rw [txt_size, be_length]
    have z3 : (⟨(be 4 (sumN (headL t.size n ++ t.data.toList))).toArray⟩ : ByteArray).size = 4 := by rw [txt_size, be_length]
    have z4 : (⟨(headL t.size n).toArray⟩ : ByteArray).size = 12 := by rw [txt_size, headL_length]
    have z5 : (⟨(headS t.size n t.data.toList).toArray⟩ : ByteArray).size = 16 := by rw [txt_size, headS_length]
    obtain ⟨F, hF⟩ : ∃ F, F = frameT ⟨n, t⟩ := ⟨_, rfl⟩
    rw [← hF] at hT4 ⊢
    generalize sumN (headL t.size n ++ t.data.toList) = m at *
    generalize (⟨(headS t.size n t.data.toList).toArray⟩ : ByteArray) = Z3 at *
    generalize (⟨(headL t.size n).toArray⟩ : ByteArray) = Z2 at *
    generalize (⟨(be 4 t.size).toArray⟩ : ByteArray) = A4 at *
    generalize (⟨(be 8 n).toArray⟩ : ByteArray) = A8 at *
    generalize (⟨(be 4 m).toArray⟩ : ByteArray) = M4 at *
    generalize hW0 : (w.alloc (.cells #[.int .u64 (n : Int), .string t] 60)) = W0 at HX HK
    have hk0 := HK.out W0 (Ext.refl _)
    obtain ⟨c0, c1⟩ := hk0
    go_enter Try.func26, Try.ntmps26
    go_wp2_with fail
    have x0 : Ext W0 W0.drew := (Ext.refl W0).drew
    have hS : W0.drew.cell? ⟨w.heap.size, 0, none⟩ = some (.int .u64 (n : Int)) ∧ W0.drew.cell? ⟨w.heap.size, 1, none⟩ = some (.string t) ∧ Ext W0 W0.drew := ⟨c0, c1, x0⟩
    go_region_held3 (fun u => u.cell? ⟨w.heap.size, 0, none⟩ = some (.int .u64 (n : Int)) ∧ u.cell? ⟨w.heap.size, 1, none⟩ = some (.string t) ∧ Ext W0 u) (first | exact hS | exact hS3 | exact hS4 | assumption | go_keep) (first
      | (go_at_call 44; (with_reducible refine (H4.out _).mono ?_); rintro e w3 ⟨rfl, x3⟩; have y3 := Ext.trans (a := W0) (by assumption) x3; have hS3 := (⟨(HK.out _ y3).1, (HK.out _ y3).2, y3⟩ : w3.cell? ⟨w.heap.size, 0, none⟩ = some (.int .u64 (n : Int)) ∧ w3.cell? ⟨w.heap.size, 1, none⟩ = some (.string t) ∧ Ext W0 w3))
      | (go_at_call 44; (with_reducible refine (H8.out _).mono ?_); rintro e w4 ⟨rfl, x4⟩; have y4 := Ext.trans (a := W0) (by assumption) x4; have hS4 := (⟨(HK.out _ y4).1, (HK.out _ y4).2, y4⟩ : w4.cell? ⟨w.heap.size, 0, none⟩ = some (.int .u64 (n : Int)) ∧ w4.cell? ⟨w.heap.size, 1, none⟩ = some (.string t) ∧ Ext W0 w4)))
    have HY4 := Lib.hid y4
    have ht1 : ¬ 9223372036854775807 < Z2.size + t.size := by omega
    have ht2 : ¬ 9223372036854775807 < Z3.size + t.size := by omega
    have ht3 : ¬ 9223372036854775807 < Z2.size + M4.size := by omega
    clear z1 z2 z3 z4 z5
    have hwm : IntKind.u64.wrap (m : Int) = (m : Int) := IntWalk.u64_in _ ⟨by omega, by omega⟩
    clear hS hS3 hS4 x0 x3 x4 y3 y4 c0 c1 H4 H8
    have hk4 := HK.out w4 HY4.out
    obtain ⟨c0, c1⟩ := hk4
    go_wp2_with fail
    have x0 : Ext W0 w4.drew := HY4.out.drew
    have hS : w4.drew.cell? ⟨w.heap.size, 1, none⟩ = some (.string t) ∧ Ext W0 w4.drew := ⟨c1, x0⟩
    go_region_held3 (fun u => u.cell? ⟨w.heap.size, 1, none⟩ = some (.string t) ∧ Ext W0 u) (first | exact hS | exact hS5 | exact hS6 | assumption | go_keep) (first
      | (go_at_call 45; (with_reducible refine (HS2.out _).mono ?_); rintro e w5 ⟨rfl, rfl⟩)
      | (go_at_call 44; (with_reducible refine (HB4.out _).mono ?_); rintro e w6 ⟨rfl, x6⟩; have y6 := Ext.trans (a := W0) (by assumption) x6; have hS6 := (⟨(HK.out _ y6).2, y6⟩ : w6.cell? ⟨w.heap.size, 1, none⟩ = some (.string t) ∧ Ext W0 w6)))
    have HY6 := Lib.hid y6
    clear hS hS6 x0 x6 y6 c0 c1
    go_wp2
    go_ret2
    exact ⟨by rw [hF]; rfl, HX.out.trans HY6.out⟩
end Go.Proofs.Ytoffjkeejnldlaa
end

section
namespace Go.Proofs.Ytoffjkeejnldlaa
open Go.RowKit
/-- What each operation of the region leaves in its slot. -/
def RHdF (k g f : Nat) (K G t E : ByteArray) (j : Nat) (v : Value) (w : World) : Prop :=
  match j with
  | 0 => v = .int .u64 (f : Int)
  | 1 => v = .int .u8 (k : Int)
  | 2 => ∃ q, v = .slice (some ⟨q, 0, none⟩) 1 1 ∧ Blk w q 5 [.int .u8 (k : Int)]
  | 3 => v = .string K
  | 4 => v = .int .u64 (g : Int)
  | 5 => v = .string G
  | 6 => v = .string (K ++ G)
  | 7 => v = .string t
  | 8 => v = .string (K ++ G ++ t)
  | 9 => v = .agg #[.int .u64 (f : Int), .string (K ++ G ++ t)]
  | 10 => v = .tuple #[.string E, .int .i64 0]
  | 11 => v = .string E
  | 12 => v = .int .i64 0
  | 13 => v = .string E
  | 14 => v = .int .i64 0
  | _ => True
theorem RHdF_ext (k g f : Nat) (K G t E : ByteArray) (j : Nat) (v : Value) (w w' : World) (hx : Ext w w') (h : RHdF k g f K G t E j v w) : RHdF k g f K G t E j v w' := by
  unfold RHdF at h ⊢
  split at h
  all_goals first
    | exact h
    | (obtain ⟨g, h1, h2⟩ := h; exact ⟨g, h1, h2.ext hx⟩)
def rHdSlots : List Nat := [31, 32, 33, 34, 35, 36, 37, 38, 39, 40, 41, 42, 43, 8, 9]
abbrev RHdWay (k g f : Nat) (K G t E : ByteArray) (w0 : World) : Array Bool → Act → World → Prop := Way 15 44 rHdSlots [(0, .int .u8 (k : Int)), (1, .int .u64 (g : Int)), (2, .int .u64 (f : Int)), (3, .string t)] (RHdF k g f K G t E) w0
theorem rHdSlots_ok : ∀ t, t ∈ rHdSlots → t < 44 ∧ 0 ≠ t ∧ 1 ≠ t ∧ 2 ≠ t ∧ 3 ≠ t := by decide
theorem RHdWay.go {k g f : Nat} {K G t E : ByteArray} {w0 w w' : World} {L : Array Bool} {a : Act} (h : RHdWay k g f K G t E w0 L a w) (i sl : Nat) (hsl : rHdSlots[i]? = some sl) (v : Value) (hx : Ext w w') (hv : RHdF k g f K G t E i v w') : RHdWay k g f K G t E w0 (L.setIfInBounds i true) (a.put (some sl) v) w' :=
  h.put (RHdF_ext k g f K G t E) (by decide) (fun t ht => ⟨(rHdSlots_ok t ht).1, fun p hp => by
    obtain ⟨_, h0, h1, h2, h3⟩ := rHdSlots_ok t ht
    simp only [List.mem_cons, List.not_mem_nil, or_false] at hp
    rcases hp with rfl | rfl | rfl | rfl
    · exact h0
    · exact h1
    · exact h2
    · exact h3⟩) hsl v hx hv
theorem RHdWay.at {k g f : Nat} {K G t E : ByteArray} {w0 w : World} {L : Array Bool} {a : Act} (h : RHdWay k g f K G t E w0 L a w) (j sl : Nat) (hsl : rHdSlots[j]? = some sl) (hj : L.getD j false = true) : RHdF k g f K G t E j (a.tmps[sl]?.getD undef) w := by
  have := h.facts j sl hsl (wbit_of hj)
  rwa [Array.getD_eq_getD_getElem?] at this
theorem RHdWay.ahead {k g f : Nat} {K G t E : ByteArray} {w0 w : World} {L : Array Bool} {a : Act} (h : RHdWay k g f K G t E w0 L a w) (p : Nat × Value) (hp : p ∈ [(0, .int .u8 (k : Int)), (1, .int .u64 (g : Int)), (2, .int .u64 (f : Int)), (3, .string t)]) : a.tmps[p.1]?.getD undef = p.2 := by
  have := h.base p hp
  rwa [Array.getD_eq_getD_getElem?] at this
theorem txt_none (t : ByteArray) : decide (t.size = 0) = true ↔ t.size = 0 := by simp
set_option maxRecDepth 100000 in
set_option maxHeartbeats 4000000 in
theorem rHead_any (k g f : Nat) (t : ByteArray) (hk : k < 256) (hg : g < 18446744073709551616) (hf : f < 18446744073709551616) (ht : t.size ≤ 8192) (w : World) :
    Calls Try.prog 10 #[.int .u8 (k : Int), .int .u64 (g : Int), .int .u64 (f : Int), .string t] w fun e w' => e = .returned (.tuple #[.string (headF k g f t).1, .int .i64 ((headF k g f t).2 : Int)]) ∧ Ext w w' := by
  have HMg := Lib.hid (fun u => may_any g u)
  have HMf := Lib.hid (fun u => may_any f u)
  rcases headF_or k g f t with ⟨h, he⟩ | ⟨h, he⟩
  · rw [he]
    dsimp only
    rw [decide_eq_true h.2.1] at HMg
    rw [decide_eq_true h.2.2] at HMf
    have HE := Lib.hid (fun u => rEncode_any (headR k g f t) hf (by have := headT_le k g t; show (headT k g t).size ≤ _; omega) u)
    rw [enc_head k g f t ht] at HE
    obtain ⟨E, hE⟩ : ∃ E, E = frameT (headR k g f t) := ⟨_, rfl⟩
    rw [← hE] at HE ⊢
    have eT := headT_parts k g t
    unfold recV headR at HE
    dsimp only at HE
    rw [← eT, show ((0 : Nat) : Int) = 0 from rfl] at HE
    have HU := Lib.hid (fun u => rUint_any g hg u)
    have HK := Lib.hid (fun (u : World) (q : Nat) (hq : Blk u q 5 [.int .u8 (k : Int)]) => one_byte_text u q k hk hq)
    have hl1 : ¬ 9223372036854775807 < (⟨#[UInt8.ofNat k]⟩ : ByteArray).size + (⟨(wn g).toArray⟩ : ByteArray).size := by
      have := (wn_length g).2
      show ¬ 9223372036854775807 < 1 + (wn g).length; omega
    have hl2 : ¬ 9223372036854775807 < ((⟨#[UInt8.ofNat k]⟩ : ByteArray) ++ (⟨(wn g).toArray⟩ : ByteArray)).size + t.size := by
      have := (wn_length g).2
      rw [ByteArray.size_append]
      show ¬ 9223372036854775807 < 1 + (wn g).length + t.size; omega
    have hl3 : ¬ 9223372036854775807 < (⟨#[UInt8.ofNat k]⟩ : ByteArray).size + (⟨(wn g).toArray⟩ : ByteArray).size + t.size := by
      rwa [ByteArray.size_append] at hl2
    have hk1 : ¬ (1 : Int) < (k : Int) := by rcases h.1 with h | ⟨h, _⟩ <;> omega
    have hk0 : (k = 1 ∧ ((k : Int) == 0) = false) ∨ (((k : Int) == 0) = true ∧ ¬ 0 < t.size) := by
      rcases h.1 with h | ⟨h, h2⟩
      · exact .inl ⟨h, by rw [beq_eq_false_iff_ne]; omega⟩
      · exact .inr ⟨by rw [beq_iff_eq]; omega, by omega⟩
    clear h he eT hk hg hf ht hE
    generalize (⟨#[UInt8.ofNat k]⟩ : ByteArray) = K at *
    generalize (⟨(wn g).toArray⟩ : ByteArray) = G at *
    go_enter Try.func10, Try.ntmps10
    rcases hk0 with ⟨h1, h0⟩ | ⟨h0, hs⟩
    case' inl =>
      clear h1
      go_upto_region 3 with (first
        | (go_at_call 25; (with_reducible refine (HMg.out _).mono ?_); rintro e w1 ⟨rfl, rfl⟩)
        | (go_at_call 25; (with_reducible refine (HMf.out _).mono ?_); rintro e w1 ⟨rfl, rfl⟩))
    case' inr =>
      go_upto_region 3 with (first
        | (go_at_call 25; (with_reducible refine (HMg.out _).mono ?_); rintro e w1 ⟨rfl, rfl⟩)
        | (go_at_call 25; (with_reducible refine (HMf.out _).mono ?_); rintro e w1 ⟨rfl, rfl⟩))
    all_goals
      refine wp_region_any (by kernel_rfl) ?_
      refine wpAny_inv (RHdWay k g f K G t E _) ?hsize ?step ?last _ _ _ _ (by decide) ⟨rfl, rfl, rfl, ?base, (Ext.refl _).drew, fun j sl hsl hj => ?none⟩
      case hsize => exact fun L a w h => h.size
      case base =>
        intro p hp
        simp only [List.mem_cons, List.not_mem_nil, or_false] at hp
        rcases hp with rfl | rfl | rfl | rfl <;> rfl
      case none =>
        exfalso
        have hj2 : j < 15 := (List.getElem?_eq_some_iff.1 hsl).1
        have h0 : (Array.replicate 15 false).getD j true = false := by simp [Array.getD, hj2]
        have h1 : (Array.replicate 15 false).getD j true = true := hj
        rw [h0] at h1
        cases h1
      case step =>
        intro L a w' i h hi
        have hlt : i < 15 := (ready_spec hi).1
        obtain ⟨X, D⟩ := a
        obtain rfl : D = [] := h.defers
        have b0 : X[0]?.getD undef = .int .u8 (k : Int) := h.ahead (0, _) (by simp)
        have b1 : X[1]?.getD undef = .int .u64 (g : Int) := h.ahead (1, _) (by simp)
        have b2 : X[2]?.getD undef = .int .u64 (f : Int) := h.ahead (2, _) (by simp)
        have b3 : X[3]?.getD undef = .string t := h.ahead (3, _) (by simp)
        rcases (show i = 0 ∨ i = 1 ∨ i = 2 ∨ i = 3 ∨ i = 4 ∨ i = 5 ∨ i = 6 ∨ i = 7 ∨ i = 8 ∨ i = 9 ∨ i = 10 ∨ i = 11 ∨ i = 12 ∨ i = 13 ∨ i = 14 by omega) with rfl | rfl | rfl | rfl | rfl | rfl | rfl | rfl | rfl | rfl | rfl | rfl | rfl | rfl | rfl
        · refine wpOp_step rfl (fun K hK => ?_)
          go_simp
          exact hK _ _ (h.go 0 31 rfl _ (Ext.refl _) rfl)
        · refine wpOp_step rfl (fun K hK => ?_)
          go_simp
          exact hK _ _ (h.go 1 32 rfl _ (Ext.refl _) rfl)
        · have d1 := ready_after hi _ rfl 0 _ rfl rfl
          have f1 : X[32]?.getD undef = .int .u8 (k : Int) := h.at 1 32 rfl d1
          refine wpOp_step rfl (fun K hK => ?_)
          go_simp
          exact hK _ _ (h.go 2 33 rfl _ ((Ext.refl _).alloc _) ⟨_, rfl, Blk.new _ _ _⟩)
        · have d2 := ready_after hi _ rfl 0 _ rfl rfl
          obtain ⟨q2, f2, r2⟩ : ∃ q, X[33]?.getD undef = .slice (some ⟨q, 0, none⟩) 1 1 ∧ Blk w' q 5 [.int .u8 (k : Int)] := h.at 2 33 rfl d2
          have ht := HK.out w' q2 r2
          refine wpOp_step rfl (fun K hK => ?_)
          go_simp
          exact hK _ _ (h.go 3 34 rfl _ (Ext.refl _) rfl)
        · refine wpOp_step rfl (fun K hK => ?_)
          go_simp
          exact hK _ _ (h.go 4 35 rfl _ (Ext.refl _) rfl)
        · have d4 := ready_after hi _ rfl 0 _ rfl rfl
          have f4 : X[35]?.getD undef = .int .u64 (g : Int) := h.at 4 35 rfl d4
          refine wpOp_step rfl (fun K hK => ?_)
          go_simp
          go_at_call 27
          refine (HU.out _).mono ?_
          rintro e w5 ⟨rfl, h5⟩
          exact hK _ _ (h.go 5 36 rfl _ h5 rfl)
        · have d3 := ready_after hi _ rfl 0 _ rfl rfl
          have f3 : X[34]?.getD undef = .string K := h.at 3 34 rfl d3
          have d5 := ready_after hi _ rfl 1 _ rfl rfl
          have f5 : X[36]?.getD undef = .string G := h.at 5 36 rfl d5
          refine wpOp_step rfl (fun K hK => ?_)
          go_simp
          exact hK _ _ (h.go 6 37 rfl _ (Ext.refl _) rfl)
        · refine wpOp_step rfl (fun K hK => ?_)
          go_simp
          exact hK _ _ (h.go 7 38 rfl _ (Ext.refl _) rfl)
        · have d6 := ready_after hi _ rfl 0 _ rfl rfl
          have f6 : X[37]?.getD undef = .string (K ++ G) := h.at 6 37 rfl d6
          have d7 := ready_after hi _ rfl 1 _ rfl rfl
          have f7 : X[38]?.getD undef = .string t := h.at 7 38 rfl d7
          refine wpOp_step rfl (fun K hK => ?_)
          go_simp
          exact hK _ _ (h.go 8 39 rfl _ (Ext.refl _) rfl)
        · have d0 := ready_after hi _ rfl 0 _ rfl rfl
          have f0 : X[31]?.getD undef = .int .u64 (f : Int) := h.at 0 31 rfl d0
          have d8 := ready_after hi _ rfl 1 _ rfl rfl
          have f8 : X[39]?.getD undef = .string (K ++ G ++ t) := h.at 8 39 rfl d8
          refine wpOp_step rfl (fun K hK => ?_)
          go_simp
          exact hK _ _ (h.go 9 40 rfl _ (Ext.refl _) rfl)
        · have d9 := ready_after hi _ rfl 0 _ rfl rfl
          have f9 : X[40]?.getD undef = .agg #[.int .u64 (f : Int), .string (K ++ G ++ t)] := h.at 9 40 rfl d9
          refine wpOp_step rfl (fun K hK => ?_)
          go_simp
          go_at_call 26
          refine (HE.out _).mono ?_
          rintro e w5 ⟨rfl, h5⟩
          exact hK _ _ (h.go 10 41 rfl _ h5 rfl)
        · have d10 := ready_after hi _ rfl 0 _ rfl rfl
          have f10 : X[41]?.getD undef = .tuple #[.string E, .int .i64 0] := h.at 10 41 rfl d10
          refine wpOp_step rfl (fun K hK => ?_)
          go_simp
          exact hK _ _ (h.go 11 42 rfl _ (Ext.refl _) rfl)
        · have d10 := ready_after hi _ rfl 0 _ rfl rfl
          have f10 : X[41]?.getD undef = .tuple #[.string E, .int .i64 0] := h.at 10 41 rfl d10
          refine wpOp_step rfl (fun K hK => ?_)
          go_simp
          exact hK _ _ (h.go 12 43 rfl _ (Ext.refl _) rfl)
        · have d11 := ready_after hi _ rfl 0 _ rfl rfl
          have f11 : X[42]?.getD undef = .string E := h.at 11 42 rfl d11
          refine wpOp_step rfl (fun K hK => ?_)
          go_simp
          exact hK _ _ (h.go 13 8 rfl _ (Ext.refl _) rfl)
        · have d12 := ready_after hi _ rfl 0 _ rfl rfl
          have f12 : X[43]?.getD undef = .int .i64 0 := h.at 12 43 rfl d12
          refine wpOp_step rfl (fun K hK => ?_)
          go_simp
          exact hK _ _ (h.go 14 9 rfl _ (Ext.refl _) rfl)
      case last =>
        intro L a w' h hr
        have hA := h.facts 13 8 rfl (all_done_b h.size (by kernel_rfl) hr 13 (by decide))
        have hB := h.facts 14 9 rfl (all_done_b h.size (by kernel_rfl) hr 14 (by decide))
        have hx := h.ext
        obtain ⟨X, D⟩ := a
        obtain rfl : D = [] := h.defers
        have hA' : X.getD 8 undef = .string E := hA
        have hB' : X.getD 9 undef = .int .i64 0 := hB
        go_wp2
        refine bodyPost_ret (results_two rfl _ _) rfl ⟨?_, hx⟩
        rw [hA', hB'] <;> rfl
  · rw [he]
    dsimp only
    rw [show ((2 : Nat) : Int) = 2 from rfl]
    clear he hk hg hf ht
    by_cases hk1 : 1 < k
    · have hk1i : (1 : Int) < (k : Int) := by omega
      clear h HMg HMf hk1
      go_enter Try.func10, Try.ntmps10
      go_wp2
      go_ret2
      exact ⟨rfl, Ext.refl _⟩
    have hk1i : ¬ (1 : Int) < (k : Int) := by omega
    by_cases hg : NumOk g
    · rw [decide_eq_true hg] at HMg
      by_cases hf : NumOk f
      · rw [decide_eq_true hf] at HMf
        have hk0 : ((k : Int) == 0) = true ∧ 0 < t.size := by
          unfold MayB at h
          by_cases h0 : k = 0
          · refine ⟨by rw [beq_iff_eq]; omega, ?_⟩
            rcases Nat.eq_zero_or_pos t.size with e | e
            · exact absurd ⟨.inr ⟨h0, e⟩, hg, hf⟩ h
            · exact e
          · exact absurd ⟨.inl (by omega), hg, hf⟩ h
        obtain ⟨h0, hs⟩ := hk0
        clear h hk1 hg hf
        go_enter Try.func10, Try.ntmps10
        go_wp2_with (first
          | (go_at_call 25; (with_reducible refine (HMg.out _).mono ?_); rintro e w1 ⟨rfl, rfl⟩)
          | (go_at_call 25; (with_reducible refine (HMf.out _).mono ?_); rintro e w1 ⟨rfl, rfl⟩))
        go_ret2
        exact ⟨rfl, Ext.refl _⟩
      · rw [decide_eq_false hf] at HMf
        clear h hk1 hg hf
        go_enter Try.func10, Try.ntmps10
        go_wp2_with (first
          | (go_at_call 25; (with_reducible refine (HMg.out _).mono ?_); rintro e w1 ⟨rfl, rfl⟩)
          | (go_at_call 25; (with_reducible refine (HMf.out _).mono ?_); rintro e w1 ⟨rfl, rfl⟩))
        go_ret2
        exact ⟨rfl, Ext.refl _⟩
    · rw [decide_eq_false hg] at HMg
      clear h hk1 hg HMf
      go_enter Try.func10, Try.ntmps10
      go_wp2_with (go_at_call 25; (with_reducible refine (HMg.out _).mono ?_); rintro e w1 ⟨rfl, rfl⟩)
      go_ret2
      exact ⟨rfl, Ext.refl _⟩
end Go.Proofs.Ytoffjkeejnldlaa
end

section
namespace Go.Proofs.Ytoffjkeejnldlaa
open Go.RowKit

/-- A slice of bytes of the call's own, as a conversion lays it, or an append: the row is not frozen where bytes may come. -/
def BufT (w : World) (B : Nat) (v : Value) (l : List UInt8) : Prop :=
  ∃ g cap cur fz, v = .slice (some ⟨g, 0, none⟩) l.length cap ∧ B ≤ g ∧ w.heap[g]? = some (.cells cur 5 fz) ∧ (fz.2 = 0 ∨ cap ≤ fz.1) ∧ l.length ≤ cap ∧ cap ≤ maxLen ∧ cur.size = cap ∧ cur.toList.take l.length = l.map cellOf
section
variable {w w' : World} {B : Nat} {v : Value} {l : List UInt8}
theorem BufT.ext (h : BufT w B v l) (hx : Ext w w') : BufT w' B v l := by
  obtain ⟨g, cap, cur, fz, h1, h2, h3, h4⟩ := h
  exact ⟨g, cap, cur, fz, h1, h2, (hx.block g (heap_lt h3)).trans h3, h4⟩
theorem BufT.cells (h : BufT w B v l) : ∃ g c, v = .slice (some ⟨g, 0, none⟩) l.length c ∧ B ≤ g ∧ g < w.heap.size ∧ ∀ (i : Nat) (b : UInt8), l[i]? = some b → w.cell? ⟨g, i, none⟩ = some (.int .u8 (b.toNat : Int)) := by
  obtain ⟨g, cap, cur, fz, h1, h2, h3, h4, h5, h6, h7, h8⟩ := h
  refine ⟨g, cap, h1, h2, heap_lt h3, fun i b hb => ?_⟩
  have hi : i < l.length := (List.getElem?_eq_some_iff.1 hb).1
  rw [cell_of_row w g i cur _ fz h3]
  have e : cur.toList[i]? = (l.map cellOf)[i]? := by rw [← h8, List.getElem?_take, if_pos (by omega)]
  rw [← Array.getElem?_toList, e]
  simp [hb, cellOf]
theorem BufT.of_buf (h : Buf w B v l) (hl : l ≠ []) : BufT w B v l := by
  unfold Buf at h
  rcases h.2 with ⟨_, h0⟩ | ⟨g, cap, cur, hv, hB, hg, hle, hm, hsz, ht⟩
  · exact absurd (List.length_eq_zero_iff.1 h0) hl
  · exact ⟨g, cap, cur, (0, 0), hv, hB, hg, .inl rfl, hle, hm, by simpa using hsz, by simpa using ht⟩
end
/-- '[]byte(s)'. -/
theorem bufT_of_text (w : World) (s : ByteArray) (hs : s.size ≤ 1099511627776) : ∃ (c : Nat) (W : World), (convert 9 55 (.string s)).run Try.prog w = .ok (.slice (some ⟨w.heap.size, 0, none⟩) s.size c) W ∧ s.size ≤ c ∧ Ext w W ∧ BufT W w.heap.size (.slice (some ⟨w.heap.size, 0, none⟩) s.size c) s.data.toList := by
  have hge := grownCap_ge w s.size 0 5
  refine ⟨grownCap w s.size 0 5, Lib.bytesWorld w 5 s, Lib.run_convert_string_bytes (P := Try.prog) w 9 55 5 s Try.underlying9 Try.underlying55 Try.underlying5, hge, ?_, ?_⟩
  · refine ⟨?_, ?_, ?_, by rw [Lib.bytesWorld_size]; omega, fun k hk => Lib.bytesWorld_at_old w _ s k hk⟩
    all_goals
      unfold Lib.bytesWorld World.freeze
      split <;> rfl
  · have hcs : (Lib.bytesCells w 5 s).size = grownCap w s.size 0 5 := by
      unfold Lib.bytesCells
      simp
      show s.size + _ = _
      omega
    refine ⟨w.heap.size, _, Lib.bytesCells w 5 s, _, by rw [size_list], Nat.le_refl _, Lib.bytesWorld_at_new w _ s, .inr (by rw [hcs]; exact Nat.le_refl _), by rw [size_list]; exact hge, grownCap_le_maxLen w _ _ _ (by unfold maxLen; omega), hcs, ?_⟩
    unfold Lib.bytesCells
    rw [Array.toList_append, List.take_append_of_le_length (by simp), List.take_of_length_le (by simp)]
    simp
    intro a _
    rfl
theorem run_storeCells_atT (P : Program) (g o : Nat) (t : TypeId) (fz : Nat × Nat) : ∀ (vs : List Value) (i : Nat) (cur : Array Value) (w : World), w.heap[g]? = some (.cells cur t fz) → (fz.2 = 0 ∨ cur.size ≤ fz.1) → o + i + vs.length ≤ cur.size → (∀ v ∈ vs, v.oneCell' = true) →
    (storeCells ⟨g, o, none⟩ vs i).run P w = .ok () (w.setRow g (cur.toList.take (o + i) ++ vs ++ cur.toList.drop (o + i + vs.length)).toArray)
  | [], i, cur, w, hg, _, _, _ => by
    simp only [storeCells, List.append_nil, List.length_nil, Nat.add_zero, List.take_append_drop, Array.toArray_toList]
    rw [setRow_self w g cur t fz hg]
    rfl
  | v :: rest, i, cur, w, hg, hfz, hl, h1 => by
    have hi : o + i < cur.size := by simp at hl; omega
    have hadd : (⟨g, o, none⟩ : Addr).add i = ⟨g, o + i, none⟩ := by unfold Addr.add; split <;> simp_all
    have hcell : w.cell? ⟨g, o + i, none⟩ = some cur[o + i] := by simp [World.cell?, hg, hi]
    have hfro : w.frozen? ⟨g, o + i, none⟩ = false := by
      obtain ⟨lo, hi'⟩ := fz
      simp only [World.frozen?, hg, Bool.and_eq_false_iff, decide_eq_false_iff_not]
      simp only at hfz
      omega
    have hst : (store ((⟨g, o, none⟩ : Addr).add i) v).run P w = .ok () (w.setRow g (cur.setIfInBounds (o + i) v)) := by
      rw [hadd, run_store P w _ v _ (h1 v (by simp)), hcell]
      simp [hfro, setCell_eq_setRow w g (o + i) cur t fz v hg]
    have ih := run_storeCells_atT P g o t fz rest (i + 1) (cur.setIfInBounds (o + i) v) (w.setRow g (cur.setIfInBounds (o + i) v)) (setRow_heap w g cur _ t _ hg) (by simpa using hfz) (by simp at hl ⊢; omega) (fun x hx => h1 x (by simp [hx]))
    simp only [storeCells, Sem.run_bind, hst, Result.andThen_ok, ih, setRow_setRow]
    congr 3
    have e := list_seg_step cur.toList (o + i) v rest (by simp at hl ⊢; omega)
    simpa [Array.toList_setIfInBounds, Nat.add_assoc] using e
/-- 'append(b, ..)' of a block of new bytes, run. -/
theorem run_appendT (w : World) (ty : TypeId) (B : Nat) (v : Value) (l : List UInt8) (h : BufT w B v l) (g2 m : Nat) (news : List UInt8) (hl : news.length = m) (hrow : Row w g2 5 news) (hlen : l.length + m ≤ 140737488355328) (hB : B ≤ w.heap.size) (x : Nat) (hxs : x < w.heap.size) (hxv : ∀ n c, v ≠ .slice (some ⟨x, 0, none⟩) n c) :
    ∃ v' w', (Builtin.append_ #[55, 55] ty #[v, .slice (some ⟨g2, 0, none⟩) m m]).run Try.prog w = .ok v' w' ∧ BufT w' B v' (l ++ news) ∧ Below B w w' ∧ w'.heap[x]? = w.heap[x]? ∧ (∀ n c, v' ≠ .slice (some ⟨x, 0, none⟩) n c) := by
  obtain ⟨i0, hi, hz0, hz1, hz2⟩ := info_parts info5
  obtain ⟨g, cap, cur, fz, rfl, hbg, hg, hfz, hnc, hcm, hcs, htake⟩ := h
  have hnews : ∀ j u, (news.map cellOf)[j]? = some u → w.cell? ((⟨g2, 0, none⟩ : Addr).add j) = some u := by
    intro j u hj
    have e : ((⟨g2, 0, none⟩ : Addr).add j) = ⟨g2, j, none⟩ := by unfold Addr.add; split <;> simp_all
    rw [e, cell_of_row w g2 j _ _ (0, 0) hrow]
    simpa using hj
  have h1 : ∀ u ∈ news.map cellOf, u.oneCell' = true := by
    intro u hu
    simp only [List.mem_map] at hu
    obtain ⟨b, _, rfl⟩ := hu
    rfl
  have hln : (news.map cellOf).length = m * i0.size := by rw [hz1]; simp [hl]
  have hgx : g ≠ x := fun e => hxv l.length cap (by rw [e])
  by_cases hroom : l.length + m ≤ cap
  · have hf := run_firstCells_some (P := Try.prog) w i0.size m ⟨g2, 0, none⟩ m m (news.map cellOf) hln hnews
    have hst := run_storeCells_atT Try.prog g (l.length * i0.size) 5 fz (news.map cellOf) 0 cur w hg (by rw [hcs]; exact hfz) (by rw [hz1]; simp [hl]; omega) h1
    simp only [Nat.add_zero] at hst
    have hr : (Builtin.append_ #[55, 55] ty #[.slice (some ⟨g, 0, none⟩) l.length cap, .slice (some ⟨g2, 0, none⟩) m m]).run Try.prog w =
        .ok (.slice (some ⟨g, 0, none⟩) (l.length + m) cap) (w.setRow g (cur.toList.take (l.length * i0.size) ++ news.map cellOf ++ cur.toList.drop (l.length * i0.size + (news.map cellOf).length)).toArray) := by
      simp [Builtin.append_, run_underlying Try.underlying55, sizeOf, typeInfo, hi, Builtin.lenOf, hroom, hf, Addr.add_lit, hst]
    refine ⟨_, _, hr, ?_, ?_, setRow_other w g x _ (Ne.symm hgx), fun n c h => by injection h with h1; injection h1 with h2; injection h2 with h3; exact hgx h3⟩
    · refine ⟨g, cap, _, fz, by rw [List.length_append, hl], hbg, setRow_heap w g cur _ _ _ hg, hfz, by rw [List.length_append, hl]; exact hroom, hcm, ?_, ?_⟩
      · simp [hz1, hl, hcs]; omega
      · simp only [hz1, Nat.mul_one]
        rw [htake, List.map_append, List.length_append]
        exact List.take_left' (by simp)
    · exact ⟨rfl, rfl, rfl, by simp, fun k hk => setRow_other w g k _ (by omega)⟩
  · have holds : ∀ j u, (l.map cellOf)[j]? = some u → w.cell? ((⟨g, 0, none⟩ : Addr).add j) = some u := by
      intro j u hu
      have e : ((⟨g, 0, none⟩ : Addr).add j) = ⟨g, j, none⟩ := by unfold Addr.add; split <;> simp_all
      rw [e, cell_of_row w g j cur _ fz hg, ← Array.getElem?_toList]
      rw [← htake, List.getElem?_take] at hu
      split at hu
      · exact hu
      · cases hu
    have hr := run_append_grow (P := Try.prog) w 55 ty 5 i0 (.int .u8 0) Try.underlying55 hi hz0 ⟨g, 0, none⟩ l.length cap (l.map cellOf) (by rw [hz1]; simp) holds ⟨g2, 0, none⟩ m m (news.map cellOf) hln hnews (by omega) (by omega) (growslice_fits (by omega) (by rw [hz2]; omega))
    have hge := grownCap_ge w (l.length + m) cap 5
    have hcm2 := grownCap_le_maxLen w (l.length + m) cap 5 (by unfold maxLen; omega)
    refine ⟨_, _, hr, ⟨w.heap.size, _, _, (0, 0), by rw [List.length_append, hl], hB, heap_alloc_new w.drew _, .inl rfl, by rw [List.length_append, hl]; exact hge, hcm2, ?_, ?_⟩, ⟨rfl, rfl, rfl, by simp, fun k hk => Below.heap_alloc w.drew _ k (Nat.lt_of_lt_of_le hk hB)⟩, Below.heap_alloc w.drew _ x hxs, fun n c h => by injection h with h1; injection h1 with h2; injection h2 with h3; omega⟩
    · have hz : (Value.int IntKind.u8 0).cells.size = 1 := rfl
      simp [size_zeroCells, hl, hz]
      omega
    · rw [Array.toList_append, Array.toList_append, List.map_append, List.length_append]
      exact List.take_left' (by simp)
/-- The same, in a walk. -/
theorem wp_appendT {w : World} {o : Oper} {a : Act} {K : Act → World → Prop} {Q : Exit → Act → World → Prop} (s x : Operand)
    (ho : o.op = .call { callee := .builtin .append, args := #[s, x], argTypes := #[55, 55] })
    (B : Nat) (v : Value) (l : List UInt8) (hs : a.eval s = v) (hbuf : BufT w B v l) (g m : Nat) (news : List UInt8) (hx : a.eval x = .slice (some ⟨g, 0, none⟩) m m) (hl : news.length = m) (hrow : Row w g 5 news)
    (hlen : l.length + m ≤ 140737488355328) (hB : B ≤ w.heap.size) (y : Nat) (hxs : y < w.heap.size) (hxv : ∀ n c, v ≠ .slice (some ⟨y, 0, none⟩) n c)
    (h : ∀ v' w', BufT w' B v' (l ++ news) → Below B w w' → w'.heap[y]? = w.heap[y]? → (∀ n c, v' ≠ .slice (some ⟨y, 0, none⟩) n c) → K (a.put o.dst v') w') : Oper.wp Try.prog o a w K Q := by
  obtain ⟨v', w', hr, h2, h3, h4, h5⟩ := run_appendT w o.type B v l hbuf g m news hl hrow hlen hB y hxs hxv
  unfold Oper.wp execOp
  simp only [ho, resolve, invoke, builtin, Sem.run_bind, Sem.run_pure, Result.andThen_ok, List.map_toArray, List.map_cons, List.map_nil, hs, hx, hr]
  exact h v' w' h2 h3 h4 h5
theorem appendT {w : World} {ops : Array Oper} {rest : List Oper} {o : Oper} {a : Act} {Q : Exit → Act → World → Prop} (hgd : o.guard = none) (s x : Operand)
    (ho : o.op = .call { callee := .builtin .append, args := #[s, x], argTypes := #[55, 55] })
    (B : Nat) (v : Value) (l : List UInt8) (hs : a.eval s = v) (hbuf : BufT w B v l) (g m : Nat) (news : List UInt8) (hx : a.eval x = .slice (some ⟨g, 0, none⟩) m m) (hl : news.length = m) (hrow : Row w g 5 news)
    (hlen : l.length + m ≤ 140737488355328) (hB : B ≤ w.heap.size) (y : Nat) (hxs : y < w.heap.size) (hxv : ∀ n c, v ≠ .slice (some ⟨y, 0, none⟩) n c)
    (h : ∀ v' w', BufT w' B v' (l ++ news) → Below B w w' → w'.heap[y]? = w.heap[y]? → (∀ n c, v' ≠ .slice (some ⟨y, 0, none⟩) n c) → wpList Try.prog ops Q rest (a.put o.dst v') w') : wpList Try.prog ops Q (o :: rest) a w :=
  wpList_plain hgd fun _ hK => wp_appendT s x ho B v l hs hbuf g m news hx hl hrow hlen hB y hxs hxv fun v' w' h1 h2 h3 h4 => hK _ _ (h v' w' h1 h2 h3 h4)
theorem step_appendT {w : World} {ops : Array Oper} {o : Oper} {a : Act} {K : Act → World → Prop} {Q : Exit → Act → World → Prop} {E : Prop} (hg : o.guard = none) (s x : Operand)
    (ho : o.op = .call { callee := .builtin .append, args := #[s, x], argTypes := #[55, 55] })
    (B : Nat) (v : Value) (l : List UInt8) (hs : a.eval s = v) (hbuf : BufT w B v l) (g m : Nat) (news : List UInt8) (hx : a.eval x = .slice (some ⟨g, 0, none⟩) m m) (hl : news.length = m) (hrow : Row w g 5 news)
    (hlen : l.length + m ≤ 140737488355328) (hB : B ≤ w.heap.size) (y : Nat) (hxs : y < w.heap.size) (hxv : ∀ n c, v ≠ .slice (some ⟨y, 0, none⟩) n c)
    (h : ∀ v' w', BufT w' B v' (l ++ news) → Below B w w' → w'.heap[y]? = w.heap[y]? → (∀ n c, v' ≠ .slice (some ⟨y, 0, none⟩) n c) → K (a.put o.dst v') w') : if Region.wanted o (yielded ops a.tmps) = true then Oper.wp Try.prog o a w K Q else E := by
  have hw : Region.wanted o (yielded ops a.tmps) = true := by simp [Region.wanted, hg]
  rw [if_pos hw]
  exact wp_appendT s x ho B v l hs hbuf g m news hx hl hrow hlen hB y hxs hxv h
end Go.Proofs.Ytoffjkeejnldlaa
end

section
namespace Go.Proofs.Ytoffjkeejnldlaa
open Go.RowKit

theorem strCells_cellOf (s : ByteArray) : Lib.strCells s = s.data.toList.map cellOf := rfl
set_option maxRecDepth 100000 in
/-- 'append(b, s...)' of a text, run. -/
theorem run_appendTs (w : World) (ty : TypeId) (B : Nat) (v : Value) (l : List UInt8) (h : BufT w B v l) (s : ByteArray) (hlen : l.length + s.size ≤ 140737488355328) (hB : B ≤ w.heap.size) :
    ∃ v' w', (Builtin.append_ #[55, 9] ty #[v, .string s]).run Try.prog w = .ok v' w' ∧ BufT w' B v' (l ++ s.data.toList) ∧ Below B w w' := by
  obtain ⟨i0, hi, hz0, hz1, hz2⟩ := info_parts info5
  obtain ⟨g, cap, cur, fz, rfl, hbg, hg, hfz, hnc, hcm, hcs, htake⟩ := h
  have hl : s.data.toList.length = s.size := size_list s
  have h1 : ∀ u ∈ s.data.toList.map cellOf, u.oneCell' = true := by
    intro u hu
    simp only [List.mem_map] at hu
    obtain ⟨b, _, rfl⟩ := hu
    rfl
  by_cases hroom : l.length + s.size ≤ cap
  · have hf := Lib.run_firstCells_string (P := Try.prog) w i0.size s
    rw [strCells_cellOf] at hf
    have hst := run_storeCells_atT Try.prog g (l.length * i0.size) 5 fz (s.data.toList.map cellOf) 0 cur w hg (by rw [hcs]; exact hfz) (by rw [hz1]; simp; omega) h1
    simp only [Nat.add_zero] at hst
    have hr : (Builtin.append_ #[55, 9] ty #[.slice (some ⟨g, 0, none⟩) l.length cap, .string s]).run Try.prog w =
        .ok (.slice (some ⟨g, 0, none⟩) (l.length + s.size) cap) (w.setRow g (cur.toList.take (l.length * i0.size) ++ s.data.toList.map cellOf ++ cur.toList.drop (l.length * i0.size + (s.data.toList.map cellOf).length)).toArray) := by
      simp [Builtin.append_, run_underlying Try.underlying55, run_underlying Try.underlying9, sizeOf, typeInfo, hi, Builtin.lenOf, hroom, hf, Addr.add_lit, hst]
    refine ⟨_, _, hr, ?_, ?_⟩
    · refine ⟨g, cap, _, fz, by rw [List.length_append, hl], hbg, setRow_heap w g cur _ _ _ hg, hfz, by rw [List.length_append, hl]; exact hroom, hcm, ?_, ?_⟩
      · simp [hz1, hcs]; omega
      · simp only [hz1, Nat.mul_one]
        rw [htake, List.map_append, List.length_append]
        exact List.take_left' (by simp)
    · exact ⟨rfl, rfl, rfl, by simp, fun k hk => setRow_other w g k _ (by omega)⟩
  · have holds : ∀ j u, (l.map cellOf)[j]? = some u → w.cell? ((⟨g, 0, none⟩ : Addr).add j) = some u := by
      intro j u hu
      have e : ((⟨g, 0, none⟩ : Addr).add j) = ⟨g, j, none⟩ := by unfold Addr.add; split <;> simp_all
      rw [e, cell_of_row w g j cur _ fz hg, ← Array.getElem?_toList]
      rw [← htake, List.getElem?_take] at hu
      split at hu
      · exact hu
      · cases hu
    have hr := Lib.run_append_grow_string (P := Try.prog) w 55 9 ty 5 i0 (.int .u8 0) Try.underlying55 Try.underlying9 hi hz0 ⟨g, 0, none⟩ l.length cap (l.map cellOf) (by rw [hz1]; simp) holds s (by omega) (by omega) (growslice_fits (by omega) (by rw [hz2]; omega))
    rw [strCells_cellOf] at hr
    have hge := grownCap_ge w (l.length + s.size) cap 5
    have hcm2 := grownCap_le_maxLen w (l.length + s.size) cap 5 (by unfold maxLen; omega)
    refine ⟨_, _, hr, ⟨w.heap.size, _, _, (0, 0), by rw [List.length_append, hl], hB, heap_alloc_new w.drew _, .inl rfl, by rw [List.length_append, hl]; exact hge, hcm2, ?_, ?_⟩, ⟨rfl, rfl, rfl, by simp, fun k hk => Below.heap_alloc w.drew _ k (Nat.lt_of_lt_of_le hk hB)⟩⟩
    · have hz : (Value.int IntKind.u8 0).cells.size = 1 := rfl
      simp [size_zeroCells, hz]
      omega
    · rw [Array.toList_append, Array.toList_append, List.map_append, List.length_append]
      exact List.take_left' (by simp)
theorem appendTs {w : World} {ops : Array Oper} {rest : List Oper} {o : Oper} {a : Act} {Q : Exit → Act → World → Prop} (hgd : o.guard = none) (s x : Operand)
    (ho : o.op = .call { callee := .builtin .append, args := #[s, x], argTypes := #[55, 9] })
    (B : Nat) (v : Value) (l : List UInt8) (hs : a.eval s = v) (hbuf : BufT w B v l) (t : ByteArray) (hx : a.eval x = .string t)
    (hlen : l.length + t.size ≤ 140737488355328) (hB : B ≤ w.heap.size)
    (h : ∀ v' w', BufT w' B v' (l ++ t.data.toList) → Below B w w' → wpList Try.prog ops Q rest (a.put o.dst v') w') : wpList Try.prog ops Q (o :: rest) a w := by
  refine wpList_plain hgd fun K hK => ?_
  obtain ⟨v', w', hr, h2, h3⟩ := run_appendTs w o.type B v l hbuf t hlen hB
  unfold Oper.wp execOp
  simp only [ho, resolve, invoke, builtin, Sem.run_bind, Sem.run_pure, Result.andThen_ok, List.map_toArray, List.map_cons, List.map_nil, hs, hx, hr]
  exact hK _ _ (h v' w' h2 h3)
set_option maxRecDepth 100000 in
theorem BufT.text {w : World} {B : Nat} {v : Value} {l : List UInt8} (h : BufT w B v l) : (convert 55 9 v).run Try.prog w = .ok (.string ⟨l.toArray⟩) w := by
  obtain ⟨g, cap, cur, fz, rfl, hbg, hg, hfz, hnc, hcm, hcs, ht⟩ := h
  have hcell : ∀ i, i < l.length → w.cell? ⟨g, 0 + i, none⟩ = some (.int .u8 ((l.map fun b => (b.toNat : Int)).getD i 0)) := by
    intro i hi
    rw [cell_of_row w g (0 + i) cur _ fz hg]
    have e : cur.toList[i]? = (l.map cellOf)[i]? := by
      rw [← ht, List.getElem?_take, if_pos (by omega)]
    rw [Nat.zero_add, ← Array.getElem?_toList, e]
    simp [List.getD, List.getElem?_eq_getElem hi, cellOf]
  rw [run_convert_bytes_arg (P := Try.prog) w 55 _ Try.underlying55 Try.underlying5 g 0 l.length cap (l.map fun b => (b.toNat : Int)) (by simp) hcell 9 Try.underlying9]
  have e : strOfNums (l.map fun b => (b.toNat : Int)) = ⟨l.toArray⟩ := by
    unfold strOfNums
    congr 2
    rw [List.map_map]
    conv => rhs; rw [← List.map_id l]
    apply List.map_congr_left
    intro b _
    simp
  rw [e]
end Go.Proofs.Ytoffjkeejnldlaa
end

section
namespace Go.Proofs.Ytoffjkeejnldlaa
open Go.RowKit

theorem renc_yes (r : Rec) (hr : r.n < 18446744073709551616) (hs : r.t.size ≤ 65536) (w : World) :
    Calls Try.prog 26 #[.agg #[.int .u64 (r.n : Int), .string r.t]] w fun e w' => e = .returned (.tuple #[.string (frameT r), .int .i64 0]) ∧ Ext w w' := by
  have h := rEncode_any r hr (Nat.le_trans hs (by decide)) w
  rw [show encF r = (frameT r, 0) from by unfold encF; rw [if_neg (by omega)]] at h
  exact h
set_option maxRecDepth 100000 in
set_option maxHeartbeats 4000000 in
theorem rBytes_any11 (x : Seg) (hok : x.Ok) (hl : x.Light) (p : Option Addr) (c : Nat) (w : World) (hr : TextsP w p x.r) :
    Calls Try.prog 12 #[segV x (.slice p x.r.length c)] w fun e w' => e = .returned (.tuple #[.string (bytesF x).1, .int .i64 ((bytesF x).2 : Int)]) ∧ Ext w w' := by
  have HH := Lib.hid (fun u => rHead_any x.k x.g x.f x.t hok.k hok.g hok.f hl.t u)
  have HUS := Lib.hid (fun j s h => upTo_step x hok.f j s h)
  have HUA := Lib.hid (upTo_all x)
  have HUL := Lib.hid (fun j => upTo_le hl j)
  have HR := Lib.hid hr
  have hn60 := hl.n
  have HS := Lib.hid hl.r
  have hf64 := hok.f
  have hU0 : upTo x 0 = frameL (headR x.k x.g x.f x.t) := by unfold upTo; rw [List.take_zero]; simp [recsF, rowF]
  have HU0 := Lib.hid hU0
  obtain ⟨n, hn⟩ : ∃ n, n = x.r.length := ⟨_, rfl⟩
  have HL := Lib.hid hn
  rw [← hn] at HUA hn60 ⊢
  unfold segV
  have hb : Blk (w.alloc (.cells #[.int .u8 (x.k : Int), .int .u64 (x.g : Int), .int .u64 (x.f : Int), .string x.t, .slice p n c, .int .i64 x.u, .bool x.w] 25)) w.heap.size 25 (segC x (.slice p n c)) := Blk.new w _ _
  have hx0 : Ext w (w.alloc (.cells #[.int .u8 (x.k : Int), .int .u64 (x.g : Int), .int .u64 (x.f : Int), .string x.t, .slice p n c, .int .i64 x.u, .bool x.w] 25)) := (Ext.refl w).alloc _
  have hsz : w.heap.size < (w.alloc (.cells #[.int .u8 (x.k : Int), .int .u64 (x.g : Int), .int .u64 (x.f : Int), .string x.t, .slice p n c, .int .i64 x.u, .bool x.w] 25)).heap.size := by simp
  have HX0 := Lib.hid hx0; have HB0 := Lib.hid hb; have HSZ := Lib.hid hsz
  have c0 := hb.cell 0 _ rfl
  have c1 := hb.cell 1 _ rfl
  have c2 := hb.cell 2 _ rfl
  have c3 := hb.cell 3 _ rfl
  rcases headF_or x.k x.g x.f x.t with ⟨hm, he⟩ | ⟨hm, he⟩
  · rw [he] at HH
    dsimp only at HH
    rw [show ((0 : Nat) : Int) = 0 from rfl] at HH
    have HM := Lib.hid hm
    have hf48 := hm.2.2.2
    have hw1 : IntKind.u64.wrap (n : Int) = (n : Int) := u64_nat (x := n) (by omega)
    have hw2 : IntKind.u64.wrap ((x.f : Int) + (n : Int)) = ((x.f + n : Nat) : Int) := u64_nat (x := x.f + n) (by omega)
    obtain ⟨m, hmm⟩ : ∃ m, m = x.f + n - 1 := ⟨_, rfl⟩
    have hbig0 : (x.f + n ≤ 281474976710657) ↔ ¬ (0 < n ∧ 281474976710656 < m) := by omega
    have hw3 : 0 < n → IntKind.u64.wrap (((x.f + n : Nat) : Int) - 1) = (m : Int) := fun h0 => by
      have : ((x.f + n : Nat) : Int) - 1 = (m : Int) := by omega
      rw [this]; exact u64_nat (x := m) (by omega)
    clear hok hl hr hm he hx0 hb hsz hU0 hf48 hmm
    by_cases hbig : x.f + n ≤ 281474976710657
    · have hbf : bytesF x = (bytesT x, 0) := by unfold bytesF; rw [if_pos ⟨HM.out, by rw [HL.out] at hbig; exact hbig⟩]
      rw [hbf]
      dsimp only
      rw [show ((0 : Nat) : Int) = 0 from rfl]
      have HT : Hid ((⟨(upTo x n).toArray⟩ : ByteArray) = bytesT x) := Lib.hid (by rw [HUA.out]; rfl)
      have HFD : Hid ((frameT (headR x.k x.g x.f x.t)).data.toList = upTo x 0) := Lib.hid (by rw [HU0.out]; rfl)
      have HC : Hid (n = 0 ∨ (0 < n ∧ m ≤ 281474976710656)) := Lib.hid (by have := hbig0.1 hbig; omega)
      have HFZ : Hid ((frameT (headR x.k x.g x.f x.t)).size ≤ 900000) := Lib.hid (by rw [← size_list, HFD.out]; exact HUL.out 0)
      clear hbf hn hbig hbig0
      generalize bytesT x = BT at *
      generalize frameT (headR x.k x.g x.f x.t) = FH at *
      generalize ((x.f + n : Nat) : Int) = nx at *
      generalize hxr : x.r = r at *
      clear hxr
      go_enter Try.func12, Try.ntmps12
      rcases HC.out with h0 | ⟨h0, h1⟩
      case' inl =>
        have hn0 : ¬ (0 : Int) < (n : Int) := by omega
        clear h0 hw3
        go_upto_region 6 with (go_at_call 10; refine (HH.out _).mono ?_; rintro e w1 ⟨rfl, x1⟩; have hb1 := HB0.out.ext x1; have HB1 := Lib.hid hb1; have d2 := hb1.cell 2 _ rfl; have d4 := hb1.cell 4 _ rfl; have X1 := Lib.hid x1; clear x1 hb1 c0 c1 c2 c3)
        clear hn0
      case' inr =>
        have hn0 : (0 : Int) < (n : Int) := by omega
        have hw3' := hw3 h0
        have h1i : ¬ (281474976710656 : Int) < (m : Int) := by omega
        clear h0 hw3 h1
        go_upto_region 6 with (go_at_call 10; refine (HH.out _).mono ?_; rintro e w1 ⟨rfl, x1⟩; have hb1 := HB0.out.ext x1; have HB1 := Lib.hid hb1; have d2 := hb1.cell 2 _ rfl; have d4 := hb1.cell 4 _ rfl; have X1 := Lib.hid x1; clear x1 hb1 c0 c1 c2 c3)
        clear hn0 hw3' h1i
      all_goals
        obtain ⟨cp, W3, hcv, hcp, hx3, hb3⟩ := bufT_of_text w1 FH (by have := HFZ.out; omega)
        have HSB := Lib.hid (show w.heap.size < w1.heap.size from Nat.lt_of_lt_of_le HSZ.out X1.out.size)
        have HSW := Lib.hid hx3.size
        have HBl3 := Lib.hid (HB1.out.ext hx3)
        have HW3 := Lib.hid ((HX0.out.trans X1.out).trans hx3)
        rw [HFD.out] at hb3
        have HB3 := Lib.hid hb3
        have g4 := (HB1.out.ext hx3).cell 4 _ rfl
        clear hcp hx3 hb3 d2 d4 X1 HB1
        go_wp2
        generalize w1.heap.size = B at *
        go_loopw [6, 7] (fun bv i wr => ∃ j : Nat, j ≤ n ∧ i = .int .i64 (j : Int) ∧ Hid (BufT wr B bv (upTo x j)) ∧ Hid (Blk wr w.heap.size 25 (segC x (.slice p n c))) ∧ Hid (Ext w wr) ∧ Hid (B ≤ wr.heap.size)) (fun _ i _ => n - (intOf i).toNat)
        case atStart => exact ⟨0, Nat.zero_le _, rfl, HB3, HBl3, HW3, HSW⟩
        case round =>
          obtain ⟨j, hj, rfl, hib, hbl, hex, hbs⟩ := hrel
          have e4 := hbl.out.cell 4 _ rfl
          clear g4 hcv
          by_cases hlt : j < n
          · first
            | (exfalso; omega)
            | (obtain ⟨s, hs⟩ : ∃ s, r[j]? = some s := ⟨_, List.getElem?_eq_getElem (by have := HL.out; omega)⟩
               obtain ⟨a, rfl, ha, hc0⟩ := HR.out j s hs
               have hc := (hex.out.below.cell (p := a.add j) (by rw [add_block]; exact ha)).trans hc0
               have e2 := hbl.out.cell 2 _ rfl
               have hs2 := HS.out s (List.mem_of_getElem? hs)
               have HSt := Lib.hid (HUS.out j s hs)
               have hwj : IntKind.u64.wrap (j : Int) = (j : Int) := u64_nat (x := j) (by omega)
               have hsum := add_mod x.f j hf64 (by omega)
               obtain ⟨n', hn'⟩ : ∃ n', n' = (x.f + j) % 18446744073709551616 := ⟨_, rfl⟩
               rw [← hn'] at hsum HSt
               have hn64 : n' < 18446744073709551616 := by rw [hn']; exact Nat.mod_lt _ (by decide)
               have HE := Lib.hid (fun u => renc_yes ⟨n', s⟩ hn64 (by show s.size ≤ 65536; omega) u)
               dsimp only at HE
               have hfs : (frameT ⟨n', s⟩).size ≤ 10000 := by rw [frameT_size]; show 16 + s.size ≤ _; omega
               have HFS := Lib.hid hfs
               have HC0 := Lib.hid (fun u (y : Ext wr u) => ((hex.out.trans y).below.cell (p := a.add j) (by rw [add_block]; exact ha)).trans hc0)
               clear hs hn' ha hc0 hs2 hfs hn64
               generalize frameT ⟨n', s⟩ = F at *
               go_wp2
               have x0 : Ext wr wr.drew := (Ext.refl wr).drew
               have hS : wr.drew.cell? ⟨w.heap.size, 2, none⟩ = some (.int .u64 (x.f : Int)) ∧ wr.drew.cell? ⟨w.heap.size, 4, none⟩ = some (.slice (some a) n c) ∧ wr.drew.cell? (a.add j) = some (.string s) ∧ Ext wr wr.drew := ⟨e2, e4, hc, x0⟩
               go_region_held3 (fun u => u.cell? ⟨w.heap.size, 2, none⟩ = some (.int .u64 (x.f : Int)) ∧ u.cell? ⟨w.heap.size, 4, none⟩ = some (.slice (some a) n c) ∧ u.cell? (a.add j) = some (.string s) ∧ Ext wr u) (first | exact hS | exact hS4 | assumption | go_keep) (first
                 | (go_at_call 26; refine (HE.out _).mono ?_; rintro e w4 ⟨rfl, x4⟩; have y4 := Ext.trans (a := wr) (by assumption) x4; have hS4 := (⟨(hbl.out.ext y4).cell 2 _ rfl, (hbl.out.ext y4).cell 4 _ rfl, HC0.out _ y4, y4⟩ : w4.cell? ⟨w.heap.size, 2, none⟩ = some (.int .u64 (x.f : Int)) ∧ w4.cell? ⟨w.heap.size, 4, none⟩ = some (.slice (some a) n c) ∧ w4.cell? (a.add j) = some (.string s) ∧ Ext wr w4)))
               have HI4 := Lib.hid (hib.out.ext y4); have HS4 := Lib.hid (Nat.le_trans hbs.out y4.size); have HB4 := Lib.hid (hbl.out.ext y4); have X4 := Lib.hid y4
               clear hS hS4 x0 x4 y4 e2 e4 hc
               go_wp2_with (refine appendTs rfl (.tmp 66) (.tmp 67) rfl B _ (upTo x j) rfl HI4.out F rfl (by have h1 := HUL.out j; have h2 := HFS.out; omega) HS4.out ?_; intro v5 w5 hb5 x5; have HI5 := Lib.hid hb5; have X5 := Lib.hid x5; clear hb5 x5)
               go_roundw
               case rel => exact ⟨j + 1, hlt, by go_num, Lib.hid (by rw [← HSt.out]; exact HI5.out), Lib.hid (HB4.out.below X5.out HSB.out), Lib.hid ((hex.out.trans X4.out).trans3 (Below.mono X5.out (Nat.le_of_lt HSB.out))), Lib.hid (Nat.le_trans HS4.out X5.out.size)⟩
               case measure => simp [intOf]; omega)
          · obtain rfl : j = n := by omega
            have htx := hib.out.text
            rw [HT.out] at htx
            go_wp2
            go_ret2
            exact ⟨rfl, hex.out⟩
    · have hbf : bytesF x = (⟨#[]⟩, 2) := by unfold bytesF; rw [if_neg (fun h => hbig (by rw [HL.out]; exact h.2))]
      rw [hbf]
      dsimp only
      have h01 : 0 < n ∧ 281474976710656 < m := by
        rcases Classical.em (0 < n ∧ 281474976710656 < m) with h | h
        · exact h
        · exact absurd (hbig0.2 h) hbig
      have hn0 : (0 : Int) < (n : Int) := by omega
      have hw3' := hw3 h01.1
      have h1i : (281474976710656 : Int) < (m : Int) := by omega
      clear hbf hn hbig hbig0 hw3 h01
      generalize frameT (headR x.k x.g x.f x.t) = FH at *
      generalize ((x.f + n : Nat) : Int) = nx at *
      go_enter Try.func12, Try.ntmps12
      go_wp2_with (go_at_call 10; refine (HH.out _).mono ?_; rintro e w1 ⟨rfl, x1⟩; have hb1 := HB0.out.ext x1; have d2 := hb1.cell 2 _ rfl; have d4 := hb1.cell 4 _ rfl; have X1 := Lib.hid x1; clear x1 hb1 c0 c1 c2 c3)
      go_ret2
      exact ⟨rfl, HX0.out.trans X1.out⟩
  · rw [he] at HH
    have hbf : bytesF x = (⟨#[]⟩, 2) := by unfold bytesF; rw [if_neg (fun h => hm h.1)]
    rw [hbf]
    dsimp only at HH ⊢
    rw [show ((2 : Nat) : Int) = 2 from rfl] at HH ⊢
    clear hbf hok hl hr hm he hx0 hb hsz hU0 hn
    go_enter Try.func12, Try.ntmps12
    go_wp2_with (go_at_call 10; refine (HH.out _).mono ?_; rintro e w1 ⟨rfl, x1⟩; have X1 := Lib.hid x1; clear x1)
    go_ret2
    exact ⟨rfl, HX0.out.trans X1.out⟩
end Go.Proofs.Ytoffjkeejnldlaa
end

section
namespace Go.Proofs.Ytoffjkeejnldlaa
open Go.RowKit

theorem rParse_any (s : ByteArray) (hs : s.size ≤ 1000000) (w : World) :
    Calls Try.prog 14 #[.string s] w fun e w' => ∃ p c, e = .returned (.tuple #[segV (parseF s).1 (.slice p (parseF s).1.r.length c), .int .i64 ((parseF s).2 : Int)]) ∧ Ext w w' ∧ TextsP w' p (parseF s).1.r := by
  obtain ⟨r0, u0, e0, hd⟩ : ∃ r0 u0 e0, decF s = (r0, u0, e0) := ⟨_, _, _, rfl⟩
  by_cases he : e0 = 0
  · subst he
    have h2 : (decF s).2.2 = 0 := by rw [hd]
    have hfm : begF r0 = none → parseF s = (Seg.zero, 7) := fun h => parseF_form h2 (by rw [hd]; exact h)
    have hok : ∀ {k g t}, begF r0 = some (k, g, t) → parseF s = (segP s r0.n u0 k g t, 0) := fun h => by rw [parseF_ok h2 (by rw [hd]; exact h), hd]
    cases hT : r0.t.data.toList with
    | nil =>
      have h0 : r0.t.size = 0 := by rw [← size_list, hT]; rfl
      rw [hfm (by show begL r0.n r0.t r0.t.data.toList = _; rw [hT]; rfl)]
      refine (rParse_none s hs r0 u0 hd h0 w).mono ?_
      rintro e w' ⟨rfl, hx⟩
      exact ⟨none, 0, rfl, hx, TextsP.none _⟩
    | cons b l =>
      have hl := begF_cons r0.n r0.t b l hT
      have hb : begF r0 = _ := begl_eq r0.n r0.t b l hT
      have h1 : 1 ≤ r0.t.size := by rw [← size_list, hT]; simp
      rcases numR_or l with ⟨v, sz, hn, _, hv64, h1', h10, hsl⟩ | hn | hn
      · rw [hn] at hb
        dsimp only at hb
        rw [if_pos rfl] at hb
        have hh := rParse_head s hs r0 u0 hd b l hT v sz (by rw [hl]; exact hn) w
        by_cases hm : MayB b.toNat v r0.n (r0.t.extract (1 + sz) r0.t.size)
        · rw [if_pos hm] at hb
          rw [hok hb]
          simp only [if_pos hm] at hh
          exact hh
        · rw [if_neg hm] at hb
          rw [hfm hb]
          simp only [if_neg hm] at hh
          exact hh
      · rw [hn, if_neg (by simp)] at hb
        rw [hfm hb]
        refine (rParse_num s hs r0 u0 hd h1 6 (by decide) (by rw [hl]; exact hn) w).mono ?_
        rintro e w' ⟨rfl, hx⟩
        exact ⟨none, 0, rfl, hx, TextsP.none _⟩
      · rw [hn, if_neg (by simp)] at hb
        rw [hfm hb]
        refine (rParse_num s hs r0 u0 hd h1 7 (by decide) (by rw [hl]; exact hn) w).mono ?_
        rintro e w' ⟨rfl, hx⟩
        exact ⟨none, 0, rfl, hx, TextsP.none _⟩
  · rw [parseF_bad (by rw [hd]; exact he), hd]
    refine (rParse_bad s hs e0 he r0 u0 hd w).mono ?_
    rintro e w' ⟨rfl, hx⟩
    exact ⟨none, 0, rfl, hx, TextsP.none _⟩
end Go.Proofs.Ytoffjkeejnldlaa
end

section
namespace Go.Proofs.Ytoffjkeejnldlaa
open Go.RowKit

theorem lists_eq {l m : List ByteArray} (hlm : l.length = m.length) (h : ∀ i, i < l.length → l[i]? = m[i]?) : l = m := by
  apply List.ext_getElem? 
  intro i
  by_cases hi : i < l.length
  · exact h i hi
  · rw [List.getElem?_eq_none (by omega), List.getElem?_eq_none (by omega)]
theorem txt_ne {x y : ByteArray} (h : ¬ x = y) : (x.toList == y.toList) = false := by
  rw [beq_eq_false_iff_ne]
  intro e
  rw [Lib.toList_data, Lib.toList_data] at e
  exact h (txt_ext e)
set_option maxRecDepth 100000 in
set_option maxHeartbeats 2000000 in
theorem same_is (w : World) (p q : Option Addr) (c d n k : Nat) (l m : List ByteArray) (hn : l.length = n) (hk : m.length = k) (hl : TextsP w p l) (hm : TextsP w q m) (hn6 : n ≤ 1000000) (hk6 : k ≤ 1000000) (b : Bool) (hb : b = true ↔ l = m) :
    Calls Try.prog 21 #[.slice p n c, .slice q k d] w fun e w' => e = .returned (.bool b) ∧ Ext w w' := by
  have HL := Lib.hid (fun u (hu : Ext w u) => hl.ext hu)
  have HM := Lib.hid (fun u (hu : Ext w u) => hm.ext hu)
  have HB := Lib.hid hb
  by_cases hnk : n = k
  · subst hnk
    have HE := Lib.hid (fun h => lists_eq (l := l) (m := m) (by omega) h)
    have HN := Lib.hid hn; have HK := Lib.hid hk
    clear hl hm hb hn hk
    go_enter Try.func21, Try.ntmps21
    go_wp2
    go_loopw [5] (fun i wr => ∃ j : Nat, j ≤ n ∧ i = .int .i64 (j : Int) ∧ Hid (∀ i, i < j → l[i]? = m[i]?) ∧ Hid (Ext w wr)) (fun i _ => n - (intOf i).toNat)
    case atStart => exact ⟨0, Nat.zero_le _, rfl, Lib.hid (fun i hi => by omega), Lib.hid (Ext.refl _)⟩
    case round =>
      obtain ⟨j, hj, rfl, hs, hx⟩ := hrel
      by_cases hlt : j < n
      · obtain ⟨x, hxj⟩ : ∃ x, l[j]? = some x := ⟨_, List.getElem?_eq_getElem (by have := HN.out; omega)⟩
        obtain ⟨y, hyj⟩ : ∃ y, m[j]? = some y := ⟨_, List.getElem?_eq_getElem (by have := HK.out; omega)⟩
        obtain ⟨a, rfl, _, hc1⟩ := HL.out _ hx.out j x hxj
        obtain ⟨a2, rfl, _, hc2⟩ := HM.out _ hx.out j y hyj
        have HX := Lib.hid hxj; have HY := Lib.hid hyj
        clear hxj hyj
        by_cases hxy : x = y
        · subst hxy
          go_wp2
          go_quiet (fail)
          go_wp2
          go_roundw
          case rel => 
            refine ⟨j + 1, hlt, by go_num, Lib.hid fun i hi => ?_, Lib.hid (hx.out.drewN _)⟩
            by_cases hij : i = j
            · rw [hij, HX.out, HY.out]
            · exact hs.out i (by omega)
          case measure => simp [intOf]; omega
        · have hne := txt_ne hxy
          have hbf : b = false := by
            cases b with
            | false => rfl
            | true =>
              have := HB.out.1 rfl
              subst this
              have h1 := HX.out
              rw [HY.out] at h1
              exact absurd (Option.some.inj h1).symm hxy
          subst hbf
          go_wp2
          go_quiet (fail)
          go_wp2
          go_ret
          exact ⟨rfl, hx.out.drewN _⟩
      · obtain rfl : j = n := by omega
        have hbt : b = true := HB.out.2 (HE.out (by have := HN.out; intro i hi; exact hs.out i (by omega)))
        subst hbt
        go_wp2
        go_ret
        exact ⟨rfl, hx.out⟩
  · have hbf : b = false := by
      cases b with
      | false => rfl
      | true => exact absurd (congrArg List.length (hb.1 rfl)) (by omega)
    subst hbf
    have hnk2 : ((n : Int) != (k : Int)) = true := by rw [bne_iff_ne]; omega
    clear hl hm hb hn hk
    go_enter Try.func21, Try.ntmps21
    go_wp2
    go_ret
    exact ⟨rfl, Ext.refl _⟩
theorem same_dec (w : World) (p q : Option Addr) (c d n k : Nat) (l m : List ByteArray) (hn : l.length = n) (hk : m.length = k) (hl : TextsP w p l) (hm : TextsP w q m) (hn6 : n ≤ 1000000) (hk6 : k ≤ 1000000) :
    Calls Try.prog 21 #[.slice p n c, .slice q k d] w fun e w' => e = .returned (.bool (decide (l = m))) ∧ Ext w w' :=
  same_is w p q c d n k l m hn hk hl hm hn6 hk6 _ (by simp)
end Go.Proofs.Ytoffjkeejnldlaa
end

section
namespace Go.Proofs.Ytoffjkeejnldlaa
open Go.RowKit

theorem seg_ext {x y : Seg} (h0 : x.k = y.k) (h1 : x.g = y.g) (h2 : x.f = y.f) (h3 : x.t = y.t) (h4 : x.u = y.u) (h5 : x.w = y.w) (h6 : x.r = y.r) : x = y := by
  cases x; cases y; simp_all
instance segDec (x y : Seg) : Decidable (x = y) := decidable_of_iff (x.k = y.k ∧ x.g = y.g ∧ x.f = y.f ∧ x.t = y.t ∧ x.u = y.u ∧ x.w = y.w ∧ x.r = y.r) ⟨fun h => seg_ext h.1 h.2.1 h.2.2.1 h.2.2.2.1 h.2.2.2.2.1 h.2.2.2.2.2.1 h.2.2.2.2.2.2, fun h => by subst h; exact ⟨rfl, rfl, rfl, rfl, rfl, rfl, rfl⟩⟩
set_option maxRecDepth 100000 in
set_option maxHeartbeats 8000000 in
theorem rSameS_any (x y : Seg) (p q : Option Addr) (c d : Nat) (w : World) (hx : TextsP w p x.r) (hy : TextsP w q y.r) (hxl : x.r.length ≤ 1000000) (hyl : y.r.length ≤ 1000000) :
    Calls Try.prog 15 #[segV x (.slice p x.r.length c), segV y (.slice q y.r.length d)] w fun e w' => e = .returned (.bool (decide (x = y))) ∧ Ext w w' := by
  have hbx := Blk.new w [.int .u8 (x.k : Int), .int .u64 (x.g : Int), .int .u64 (x.f : Int), .string x.t, .slice p x.r.length c, .int .i64 x.u, .bool x.w] 25
  have hby := Blk.new (w.alloc (.cells #[.int .u8 (x.k : Int), .int .u64 (x.g : Int), .int .u64 (x.f : Int), .string x.t, .slice p x.r.length c, .int .i64 x.u, .bool x.w] 25)) [.int .u8 (y.k : Int), .int .u64 (y.g : Int), .int .u64 (y.f : Int), .string y.t, .slice q y.r.length d, .int .i64 y.u, .bool y.w] 25
  have hbx2 := hbx.alloc (.cells #[.int .u8 (y.k : Int), .int .u64 (y.g : Int), .int .u64 (y.f : Int), .string y.t, .slice q y.r.length d, .int .i64 y.u, .bool y.w] 25)
  have hE := ((Ext.refl w).alloc (.cells #[.int .u8 (x.k : Int), .int .u64 (x.g : Int), .int .u64 (x.f : Int), .string x.t, .slice p x.r.length c, .int .i64 x.u, .bool x.w] 25)).alloc (.cells #[.int .u8 (y.k : Int), .int .u64 (y.g : Int), .int .u64 (y.f : Int), .string y.t, .slice q y.r.length d, .int .i64 y.u, .bool y.w] 25)
  have HE := Lib.hid hE
  have HSm := Lib.hid (same_dec _ p q c d x.r.length y.r.length x.r y.r rfl rfl (hx.ext hE) (hy.ext hE) hxl hyl)
  have c0 := hbx2.cell 0 _ rfl
  have c1 := hbx2.cell 1 _ rfl
  have c2 := hbx2.cell 2 _ rfl
  have c3 := hbx2.cell 3 _ rfl
  have c4 := hbx2.cell 4 _ rfl
  have c5 := hbx2.cell 5 _ rfl
  have c6 := hbx2.cell 6 _ rfl
  have d0 := hby.cell 0 _ rfl
  have d1 := hby.cell 1 _ rfl
  have d2 := hby.cell 2 _ rfl
  have d3 := hby.cell 3 _ rfl
  have d4 := hby.cell 4 _ rfl
  have d5 := hby.cell 5 _ rfl
  have d6 := hby.cell 6 _ rfl
  clear hbx hby hbx2 hE hx hy
  by_cases h0 : x.k = y.k
  · have i0 : ((x.k : Int) == (y.k : Int)) = true := by rw [beq_iff_eq]; omega
    by_cases h1 : x.g = y.g
    · have i1 : ((x.g : Int) == (y.g : Int)) = true := by rw [beq_iff_eq]; omega
      by_cases h2 : x.f = y.f
      · have i2 : ((x.f : Int) == (y.f : Int)) = true := by rw [beq_iff_eq]; omega
        by_cases h3 : x.t = y.t
        · have i3 : (x.t.toList == y.t.toList) = true := by rw [h3]; simp
          by_cases h4 : x.u = y.u
          · have i4 : (x.u == y.u) = true := by rw [beq_iff_eq]; exact h4
            by_cases h5 : x.w = y.w
            · have i5 : (x.w == y.w) = true := by rw [beq_iff_eq]; exact h5
              have HD : Hid (decide (x.r = y.r) = decide (x = y)) := Lib.hid (by
                rw [decide_eq_decide]
                exact ⟨fun h => seg_ext h0 h1 h2 h3 h4 h5 h, fun h => by rw [h]⟩)
              rw [← HD.out]
              clear h0 h1 h2 h3 h4 h5 HD
              unfold segV
              go_enter Try.func15, Try.ntmps15
              go_wp2_with (go_at_call 21; refine (HSm.out).mono ?_; rintro e w2 ⟨rfl, x2⟩; have X2 := Lib.hid x2; clear x2)
              go_ret
              exact ⟨rfl, HE.out.trans X2.out⟩
            · have i5 : (x.w == y.w) = false := by rw [beq_eq_false_iff_ne]; exact h5
              rw [decide_eq_false (fun h => h5 (by rw [h]))]
              clear h0 h1 h2 h3 h4 h5
              unfold segV
              go_enter Try.func15, Try.ntmps15
              go_wp2
              go_ret
              exact ⟨rfl, HE.out⟩
          · have i4 : (x.u == y.u) = false := by rw [beq_eq_false_iff_ne]; exact h4
            rw [decide_eq_false (fun h => h4 (by rw [h]))]
            clear h0 h1 h2 h3 h4
            unfold segV
            go_enter Try.func15, Try.ntmps15
            go_wp2
            go_ret
            exact ⟨rfl, HE.out⟩
        · have i3 : (x.t.toList == y.t.toList) = false := txt_ne h3
          rw [decide_eq_false (fun h => h3 (by rw [h]))]
          clear h0 h1 h2 h3
          unfold segV
          go_enter Try.func15, Try.ntmps15
          go_wp2
          go_ret
          exact ⟨rfl, HE.out⟩
      · have i2 : ((x.f : Int) == (y.f : Int)) = false := by rw [beq_eq_false_iff_ne]; omega
        rw [decide_eq_false (fun h => h2 (by rw [h]))]
        clear h0 h1 h2
        unfold segV
        go_enter Try.func15, Try.ntmps15
        go_wp2
        go_ret
        exact ⟨rfl, HE.out⟩
    · have i1 : ((x.g : Int) == (y.g : Int)) = false := by rw [beq_eq_false_iff_ne]; omega
      rw [decide_eq_false (fun h => h1 (by rw [h]))]
      clear h0 h1
      unfold segV
      go_enter Try.func15, Try.ntmps15
      go_wp2
      go_ret
      exact ⟨rfl, HE.out⟩
  · have i0 : ((x.k : Int) == (y.k : Int)) = false := by rw [beq_eq_false_iff_ne]; omega
    rw [decide_eq_false (fun h => h0 (by rw [h]))]
    clear h0
    unfold segV
    go_enter Try.func15, Try.ntmps15
    go_wp2
    go_ret
    exact ⟨rfl, HE.out⟩
end Go.Proofs.Ytoffjkeejnldlaa
end
