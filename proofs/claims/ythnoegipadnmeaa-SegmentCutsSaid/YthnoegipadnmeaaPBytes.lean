/- Contract: a segment's bytes, by the program. -/
import Derived.Test.YthnoegipadnmeaaFAdd
import Derived.Test.YthnoegipadnmeaaTextsP
import Derived.Test.YthnoegipadnmeaaSegBase
import Derived.Outline
namespace Go.Proofs.Ythnoegipadnmeaa
open Go.RowKit

/-- What is written of a segment when so many records are. -/
def upTo (x : Seg) (j : Nat) : List UInt8 := frameL (headR x.k x.g x.f x.t) ++ rowF (recsF (x.r.take j) x.f)
theorem upTo_step (x : Seg) (hf : x.f < 18446744073709551616) (j : Nat) (s : ByteArray) (h : x.r[j]? = some s) : upTo x j ++ (frameT ⟨(x.f + j) % 18446744073709551616, s⟩).data.toList = upTo x (j + 1) := by
  unfold upTo
  rw [recsF_take x.r x.f j s hf h, rowF_append, List.append_assoc]
  simp [rowF, frameT_list]
theorem upTo_all (x : Seg) : upTo x x.r.length = bytesL x := by
  unfold upTo bytesL
  rw [List.take_of_length_le (Nat.le_refl _)]
theorem upTo_le {x : Seg} (h : x.Light) (j : Nat) : (upTo x j).length ≤ 900000 := by
  have h1 := totF_light (x.r.take j) (fun s hs => h.r s (List.mem_of_mem_take hs))
  have h2 := headT_le x.k x.g x.t
  have h3 := h.t
  have h4 := h.n
  have h5 : (x.r.take j).length ≤ 60 := by rw [List.length_take]; omega
  unfold upTo
  rw [List.length_append, frameL_length, rowF_length]
  show 16 + (headT x.k x.g x.t).size + _ ≤ _
  omega
theorem nextN_small {x : Seg} (hm : MayB x.k x.g x.f x.t) (hl : x.Light) : nextN x = x.f + x.r.length := by
  have h1 := hm.2.2.2
  have h2 := hl.n
  unfold nextN
  rw [Nat.mod_eq_of_lt (by omega)]
set_option maxRecDepth 100000 in
set_option maxHeartbeats 4000000 in
theorem Bytes_any (x : Seg) (hok : x.Ok) (hl : x.Light) (p : Option Addr) (c : Nat) (w : World) (hr : TextsP w p x.r) :
    Calls Try.prog 11 #[segV x (.slice p x.r.length c)] w fun e w' => e = .returned (.tuple #[.string (bytesF x).1, .int .i64 ((bytesF x).2 : Int)]) ∧ Ext w w' := by
  have HH := Lib.hid (fun u => Head_any x.k x.g x.f x.t hok.k hok.g hok.f hl.t u)
  have HN := Lib.hid (fun u => Next_any x p c hok.n u)
  have HUS := Lib.hid (fun j s h => upTo_step x hok.f j s h)
  have HUA := Lib.hid (upTo_all x)
  have HUL := Lib.hid (fun j => upTo_le hl j)
  have HR := Lib.hid hr
  have hn60 := hl.n
  have HS := Lib.hid hl.r
  have hf64 := hok.f
  have hU0 : upTo x 0 = frameL (headR x.k x.g x.f x.t) := by unfold upTo; rw [List.take_zero]; simp [recsF, rowF]
  have HU0 := Lib.hid hU0
  obtain ⟨n, hn⟩ : ∃ n, n = x.r.length := ⟨_, rfl⟩
  have HL := Lib.hid hn
  rw [← hn] at HN HUA hn60 ⊢
  unfold segV at HN ⊢
  have hb : Blk (w.alloc (.cells #[.int .u8 (x.k : Int), .int .u64 (x.g : Int), .int .u64 (x.f : Int), .string x.t, .slice p n c, .int .i64 x.u, .bool x.w] 25)) w.heap.size 25 (segC x (.slice p n c)) := Blk.new w _ _
  have hx0 : Ext w (w.alloc (.cells #[.int .u8 (x.k : Int), .int .u64 (x.g : Int), .int .u64 (x.f : Int), .string x.t, .slice p n c, .int .i64 x.u, .bool x.w] 25)) := (Ext.refl w).alloc _
  have hsz : w.heap.size < (w.alloc (.cells #[.int .u8 (x.k : Int), .int .u64 (x.g : Int), .int .u64 (x.f : Int), .string x.t, .slice p n c, .int .i64 x.u, .bool x.w] 25)).heap.size := by simp
  have HX0 := Lib.hid hx0; have HB0 := Lib.hid hb; have HSZ := Lib.hid hsz
  have c0 := hb.cell 0 _ rfl
  have c1 := hb.cell 1 _ rfl
  have c2 := hb.cell 2 _ rfl
  have c3 := hb.cell 3 _ rfl
  rcases headF_or x.k x.g x.f x.t with ⟨hm, he⟩ | ⟨hm, he⟩
  · rw [he] at HH
    dsimp only at HH
    rw [show ((0 : Nat) : Int) = 0 from rfl] at HH
    have hnx := nextN_small hm hl
    rw [← hn] at hnx
    rw [hnx] at HN
    have HM := Lib.hid hm
    clear hok hl hr hm he hnx hx0 hb hsz hU0
    by_cases hbig : x.f + n ≤ 281474976710657
    · have hbi : ¬ (281474976710657 : Int) < ((x.f + n : Nat) : Int) := by omega
      have hbf : bytesF x = (bytesT x, 0) := by unfold bytesF; rw [if_pos ⟨HM.out, by rw [HL.out] at hbig; exact hbig⟩]
      rw [hbf]
      dsimp only
      rw [show ((0 : Nat) : Int) = 0 from rfl]
      have HT : Hid ((⟨(upTo x n).toArray⟩ : ByteArray) = bytesT x) := Lib.hid (by rw [HUA.out]; rfl)
      have HFD : Hid ((frameT (headR x.k x.g x.f x.t)).data.toList = upTo x 0) := Lib.hid (by rw [HU0.out]; rfl)
      clear hbf hn hbig
      generalize bytesT x = BT at *
      generalize frameT (headR x.k x.g x.f x.t) = FH at *
      generalize ((x.f + n : Nat) : Int) = nx at *
      generalize hxr : x.r = r at *
      clear hxr
      go_enter Try.func11, Try.ntmps11
      go_wp2_with (first
        | (go_at_call 9; refine (HH.out _).mono ?_; rintro e w1 ⟨rfl, x1⟩; have hb1 := HB0.out.ext x1; have HB1 := Lib.hid hb1; have d0 := hb1.cell 0 _ rfl; have d1 := hb1.cell 1 _ rfl; have d2 := hb1.cell 2 _ rfl; have d3 := hb1.cell 3 _ rfl; have d4 := hb1.cell 4 _ rfl; have d5 := hb1.cell 5 _ rfl; have d6 := hb1.cell 6 _ rfl; have X1 := Lib.hid x1; clear x1 hb1 c0 c1 c2 c3)
        | (go_at_call 16; refine (HN.out _).mono ?_; rintro e w2 ⟨rfl, x2⟩; have HB2 := Lib.hid (HB1.out.ext x2); have X2 := Lib.hid (X1.out.trans x2); have HIB := Lib.hid (IsB.new w2 w2.heap.size (Nat.le_refl _)); clear x2 d0 d1 d2 d3 d4 d5 d6)
        | (go_at_call 28; refine (write_b w2.heap.size w2.heap.size [] FH.data.toList _ HIB.out (by have := HUL.out 0; rw [HFD.out]; simp; omega) (by simp)).mono ?_; rintro e w3 ⟨rfl, hb3, x3⟩; have HB3 := Lib.hid hb3; have X3 := Lib.hid x3; have hbl3 := (HB2.out.alloc (.cells #[.pointer none, .slice none 0 0] 66)).below x3 HB2.out.lt; have HBl3 := Lib.hid hbl3; have g4 := hbl3.cell 4 _ rfl; clear hb3 x3 hbl3))
      have hB3 := HB3.out
      rw [List.nil_append, HFD.out] at hB3
      have HB3' := Lib.hid hB3
      have HW3 := Lib.hid (show Ext w w3 from ((HX0.out.trans X2.out).alloc (.cells #[.pointer none, .slice none 0 0] 66)).trans3 (Below.mono X3.out (by have := (HX0.out.trans X2.out).size; omega)))
      have HSB := Lib.hid (show w.heap.size < w2.heap.size from Nat.lt_of_lt_of_le HSZ.out X2.out.size)
      have HSW := Lib.hid (show w2.heap.size ≤ w3.heap.size from by have := X3.out.size; simp at this; omega)
      clear hB3 HB3 HIB HB2 X1 X2 HB1 X3
      generalize w2.heap.size = B at *
      go_loopw [36] (fun i wr => ∃ j : Nat, j ≤ n ∧ i = .int .i64 (j : Int) ∧ Hid (IsB wr B B (upTo x j)) ∧ Hid (Blk wr w.heap.size 25 (segC x (.slice p n c))) ∧ Hid (Ext w wr) ∧ Hid (B ≤ wr.heap.size)) (fun i _ => n - (intOf i).toNat)
      case atStart => exact ⟨0, Nat.zero_le _, rfl, HB3', HBl3, HW3, HSW⟩
      case round =>
        obtain ⟨j, hj, rfl, hib, hbl, hex, hbs⟩ := hrel
        by_cases hlt : j < n
        · obtain ⟨s, hs⟩ : ∃ s, r[j]? = some s := ⟨_, List.getElem?_eq_getElem (by have := HL.out; omega)⟩
          obtain ⟨a, rfl, ha, hc0⟩ := HR.out j s hs
          have hc := (hex.out.below.cell (p := a.add j) (by rw [add_block]; exact ha)).trans hc0
          have e2 := hbl.out.cell 2 _ rfl
          have hs2 := HS.out s (List.mem_of_getElem? hs)
          have HSt := Lib.hid (HUS.out j s hs)
          have hwj : IntKind.u64.wrap (j : Int) = (j : Int) := u64_nat (x := j) (by omega)
          have hsum := add_mod x.f j hf64 (by omega)
          obtain ⟨n', hn'⟩ : ∃ n', n' = (x.f + j) % 18446744073709551616 := ⟨_, rfl⟩
          rw [← hn'] at hsum HSt
          have hn64 : n' < 18446744073709551616 := by rw [hn']; exact Nat.mod_lt _ (by decide)
          have HE := Lib.hid (fun u => enc_yes ⟨n', s⟩ hn64 (by show s.size ≤ 65536; omega) u)
          dsimp only at HE
          have hfs : (frameT ⟨n', s⟩).data.toList.length ≤ 10000 := by rw [size_list, frameT_size]; show 16 + s.size ≤ _; omega
          have HFS := Lib.hid hfs
          clear hs hn' ha hc0 hs2 hfs hn64
          generalize frameT ⟨n', s⟩ = F at *
          go_wp2_with (first
            | (go_at_call 23; refine (HE.out _).mono ?_; rintro e w4 ⟨rfl, x4⟩; have X4 := Lib.hid x4; have HI4 := Lib.hid (hib.out.ext x4); have HS4 := Lib.hid (Nat.le_trans hbs.out x4.size); have HB4 := Lib.hid (hbl.out.ext x4); clear x4)
            | (go_at_call 28; refine (write_b B B (upTo x j) F.data.toList w4 HI4.out (by have h1 := HUL.out j; have h2 := HFS.out; omega) HS4.out).mono ?_; rintro e w5 ⟨rfl, hb5, x5⟩; have HI5 := Lib.hid hb5; have X5 := Lib.hid x5; clear hb5 x5))
          go_roundw
          case rel => exact ⟨j + 1, hlt, by go_num, Lib.hid (by rw [← HSt.out]; exact HI5.out), Lib.hid (HB4.out.below X5.out HSB.out), Lib.hid ((hex.out.trans X4.out).trans3 (Below.mono X5.out (Nat.le_of_lt (Nat.lt_of_le_of_lt (Nat.le_refl _) HSB.out)))), Lib.hid (Nat.le_trans HS4.out X5.out.size)⟩
          case measure => simp [intOf]; omega
        · obtain rfl : j = n := by omega
          have HSt := Lib.hid (string_b B B (upTo x j) wr hib.out hbs.out)
          rw [HT.out] at HSt
          go_wp2_with (go_at_call 29; refine (HSt.out).mono ?_; rintro e w6 ⟨rfl, x6⟩; have X6 := Lib.hid x6; clear x6)
          go_ret2
          exact ⟨rfl, hex.out.trans3 (Below.mono X6.out (Nat.le_of_lt HSB.out))⟩
    · have hbi : (281474976710657 : Int) < ((x.f + n : Nat) : Int) := by omega
      have hbf : bytesF x = (⟨#[]⟩, 2) := by unfold bytesF; rw [if_neg (fun h => hbig (by rw [HL.out]; exact h.2))]
      rw [hbf]
      dsimp only
      clear hbf hn hbig
      generalize frameT (headR x.k x.g x.f x.t) = FH at *
      generalize ((x.f + n : Nat) : Int) = nx at *
      go_enter Try.func11, Try.ntmps11
      go_wp2_with (first
        | (go_at_call 9; refine (HH.out _).mono ?_; rintro e w1 ⟨rfl, x1⟩; have hb1 := HB0.out.ext x1; have HB1 := Lib.hid hb1; have d0 := hb1.cell 0 _ rfl; have d1 := hb1.cell 1 _ rfl; have d2 := hb1.cell 2 _ rfl; have d3 := hb1.cell 3 _ rfl; have d4 := hb1.cell 4 _ rfl; have d5 := hb1.cell 5 _ rfl; have d6 := hb1.cell 6 _ rfl; have X1 := Lib.hid x1; clear x1 hb1 c0 c1 c2 c3)
        | (go_at_call 16; refine (HN.out _).mono ?_; rintro e w2 ⟨rfl, x2⟩; have X2 := Lib.hid (X1.out.trans x2); clear x2 d0 d1 d2 d3 d4 d5 d6))
      go_ret2
      exact ⟨rfl, HX0.out.trans X2.out⟩
  · rw [he] at HH
    have hbf : bytesF x = (⟨#[]⟩, 2) := by unfold bytesF; rw [if_neg (fun h => hm h.1)]
    rw [hbf]
    dsimp only at HH ⊢
    rw [show ((2 : Nat) : Int) = 2 from rfl] at HH ⊢
    clear hbf hok hl hr hm he hx0 hb hsz hU0 hn
    go_enter Try.func11, Try.ntmps11
    go_wp2_with (go_at_call 9; refine (HH.out _).mono ?_; rintro e w1 ⟨rfl, x1⟩; have X1 := Lib.hid x1; clear x1)
    go_ret2
    exact ⟨rfl, HX0.out.trans X1.out⟩
end Go.Proofs.Ythnoegipadnmeaa
