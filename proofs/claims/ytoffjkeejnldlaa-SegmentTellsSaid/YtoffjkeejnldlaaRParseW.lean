/- Contract: the segment in front of bytes, by the document: its records. -/
import Derived.Test.YtoffjkeejnldlaaRParse
import Derived.Test.YtoffjkeejnldlaaRScan
import Derived.Test.YtoffjkeejnldlaaWz
import Derived.RegionTactic
namespace Go.Proofs.Ytoffjkeejnldlaa
open Go.RowKit

/-- What each operation of the region that appends a record's text leaves in its slot. -/
def RpF (XB pq j c n : Nat) (q : Option Addr) (c' : Nat) (T : ByteArray) (g : Nat) (i : Nat) (v : Value) : Prop := match i with
  | 0 => v = .pointer (some ⟨XB, 4, none⟩)
  | 1 => v = .slice q j c'
  | 2 => v = .slice (some ⟨pq, 0, none⟩) n c
  | 3 => v = .int .i64 (j : Int)
  | 4 => v = .pointer (some ⟨pq, j * 2, none⟩)
  | 5 => v = .pointer (some ⟨pq, j * 2 + 1, none⟩)
  | 6 => v = .string T
  | 7 => v = .slice (some ⟨g, 0, none⟩) 1 1
  | 9 => v = .pointer (some ⟨XB, 4, none⟩)
  | _ => True
def MidR (W : World) (B j : Nat) (l : List ByteArray) (v : Value) (u : World) : Prop := ∃ p2 c2, v = .slice p2 (j + 1) c2 ∧ BufS u B (.slice p2 (j + 1) c2) l ∧ Below B W u
def FinR (W : World) (B j XB : Nat) (l : List ByteArray) (v : Value) (u : World) : Prop := ∃ p2 c2 u0, v = .slice p2 (j + 1) c2 ∧ BufS u0 B (.slice p2 (j + 1) c2) l ∧ Below B W u0 ∧ u = u0.setCell ⟨XB, 4, none⟩ (.slice p2 (j + 1) c2)
set_option maxRecDepth 100000 in
set_option maxHeartbeats 8000000 in
theorem rParse_head (s : ByteArray) (hs : s.size ≤ 1000000) (r0 : Rec) (u0 : Nat) (hd : decF s = (r0, u0, 0)) (b : UInt8) (l : List UInt8) (hT : r0.t.data.toList = b :: l) (v sz : Nat) (hn : numR (r0.t.extract 1 r0.t.size).data.toList = (v, sz, 0)) (w : World) :
    Calls Try.prog 14 #[.string s] w fun e w' => ∃ p c, e = .returned (.tuple #[segV (if MayB b.toNat v r0.n (r0.t.extract (1 + sz) r0.t.size) then segP s r0.n u0 b.toNat v (r0.t.extract (1 + sz) r0.t.size) else Seg.zero) (.slice p (if MayB b.toNat v r0.n (r0.t.extract (1 + sz) r0.t.size) then segP s r0.n u0 b.toNat v (r0.t.extract (1 + sz) r0.t.size) else Seg.zero).r.length c), .int .i64 (if MayB b.toNat v r0.n (r0.t.extract (1 + sz) r0.t.size) then 0 else 7)]) ∧ Ext w w' ∧ TextsP w' p (if MayB b.toNat v r0.n (r0.t.extract (1 + sz) r0.t.size) then segP s r0.n u0 b.toNat v (r0.t.extract (1 + sz) r0.t.size) else Seg.zero).r := by
  have HD := Lib.hid (fun u => rDecode_any s hs u)
  have hsz := (decF_itm s).1
  have hn64 := (decF_itm s).2.1
  have hus := (decF_used s (by rw [hd])).2.1
  rw [hd] at HD hsz hn64 hus
  dsimp only at HD hsz hn64 hus
  unfold recV at HD
  rw [show ((0 : Nat) : Int) = 0 from rfl] at HD
  have h0 : 1 ≤ r0.t.size := by rw [← size_list, hT]; simp
  have hei : ((r0.t.size : Int) == 0) = false := by rw [beq_eq_false_iff_ne]; omega
  have hsl := cut_from r0.t 1 h0
  rw [show ((1 : Nat) : Int) = 1 from rfl] at hsl
  have hix := index_head r0.t b l hT
  obtain ⟨_, hv64, _, hs10, hszl⟩ := numR_from _ _ _ hn
  rw [size_list, ByteArray.size_extract] at hszl
  have hsl2 := cut_from r0.t (1 + sz) (by omega)
  rw [show ((1 + sz : Nat) : Int) = 1 + (sz : Int) by omega] at hsl2
  have hw1 : IntKind.i64.wrap (1 + (sz : Int)) = 1 + (sz : Int) := IntWalk.i64_in _ ⟨by omega, by omega⟩
  have HN := Lib.hid (fun u => rNumber8_any (r0.t.extract 1 r0.t.size) (by rw [ByteArray.size_extract]; omega) u)
  rw [hn] at HN
  dsimp only at HN
  rw [show ((0 : Nat) : Int) = 0 from rfl] at HN
  have hsc := fun u => cut_from s u0 hus u
  have HSc := Lib.hid (fun u => rScan_any u (s.extract u0 s.size) (by rw [ByteArray.size_extract]; omega) r0.n hn64)
  have hLl : (scanF (s.extract u0 s.size) r0.n).1.length ≤ 1000000 := Nat.le_trans (scanF_length _ _) (by rw [ByteArray.size_extract]; omega)
  have HLs := Lib.hid (scanF_size (s.extract u0 s.size) r0.n)
  have HSP := Lib.hid (fun k g t => (rfl : segP s r0.n u0 k g t = segP s r0.n u0 k g t))
  have hk256 := b.toNat_lt
  clear hd hT hn hszl h0
  have hb : Blk (w.alloc (.cells zero7.toArray 25)) w.heap.size 25 zero7 := Blk.new w _ _
  have HB := Lib.hid hb
  have HE := Lib.hid ((Ext.refl w).alloc (.cells zero7.toArray 25))
  clear hb
  unfold zero7 at HB HE
  generalize b.toNat = k at *
  generalize r0.t.extract (1 + sz) r0.t.size = Tx at *
  generalize r0.t.extract 1 r0.t.size = S1 at *
  generalize r0.t = T at *
  generalize r0.n = n at *
  generalize hXX : (if MayB k v n Tx then segP s n u0 k v Tx else Seg.zero) = XX
  have HXX := Lib.hid hXX
  generalize hEE : (if MayB k v n Tx then (0 : Int) else 7) = EE
  have HEE := Lib.hid hEE
  clear hXX hEE
  go_enter Try.func14, Try.ntmps14
  go_upto_region 9 with (first
    | (go_at_call 34; refine (HD.out _).mono ?_; rintro e w1 ⟨rfl, x1⟩; have HB1 := Lib.hid ((HB.out.ext x1).alloc (.cells #[.int .u64 (n : Int), .string T] 60)); have X1 := Lib.hid ((HE.out.trans x1).alloc (.cells #[.int .u64 (n : Int), .string T] 60)); have hr1 := Blk.new w1 [.int .u64 (n : Int), .string T] 60; have q0 := hr1.cell 0 _ rfl; have q1 := hr1.cell 1 _ rfl; have HR1 := Lib.hid hr1; clear x1 hr1)
    | (go_at_call 35; refine (HN.out _).mono ?_; rintro e w2 ⟨rfl, rfl⟩))
  clear HD HN hei hsl
  generalize (w1.alloc (.cells #[.int .u64 (n : Int), .string T] 60)) = W2 at *
  have hr2 := HR1.out.alloc (.cells #[.int .u8 0, .int .u64 0, .int .u64 0, .string ⟨#[]⟩, .slice none 0 0, .int .i64 0, .bool false] 25)
  have p0 := hr2.cell 0 _ rfl
  have p1 := hr2.cell 1 _ rfl
  clear hr2
  go_region
  have HX3 := Lib.hid (X1.out.alloc (.cells #[.int .u8 (k : Int), .int .u64 (v : Int), .int .u64 (n : Int), .string Tx, .slice none 0 0, .int .i64 0, .bool false] 25)).drew
  have HB3 := Lib.hid (HB1.out.alloc (.cells #[.int .u8 (k : Int), .int .u64 (v : Int), .int .u64 (n : Int), .string Tx, .slice none 0 0, .int .i64 0, .bool false] 25)).drew
  have HZ3 := Lib.hid (Blk.new W2 [.int .u8 (k : Int), .int .u64 (v : Int), .int .u64 (n : Int), .string Tx, .slice none 0 0, .int .i64 0, .bool false] 25).drew
  have HXB := Lib.hid HB1.out.lt
  clear HB1 X1 HR1 q0 q1 p0 p1
  generalize ((W2.alloc (.cells #[.int .u8 (k : Int), .int .u64 (v : Int), .int .u64 (n : Int), .string Tx, .slice none 0 0, .int .i64 0, .bool false] 25)).drew) = W3 at *
  generalize W2.heap.size = XB at *
  go_upto_region 10 with (fail)
  go_cut [78] (fun q wx => q = .bool (decide (¬ MayB k v n Tx)) ∧ W3 = wx)
  case first =>
    have z0 := HZ3.out.cell 0 _ rfl
    have z1 := HZ3.out.cell 1 _ rfl
    have z2 := HZ3.out.cell 2 _ rfl
    have z3 := HZ3.out.cell 3 _ rfl
    have HMg := Lib.hid (fun u => may_any v u)
    have HMf := Lib.hid (fun u => may_any n u)
    clear hix hsl2 hsc
    by_cases hk1 : 1 < k
    · have hd : (decide (¬ MayB k v n Tx)) = true := decide_eq_true (fun h => by rcases h.1 with h | h <;> omega)
      have HDd := Lib.hid hd
      have hk1i : (1 : Int) < (k : Int) := by omega
      clear hk1 hd
      go_wp2_with (fail)
      go_meet
      exact ⟨by rw [HDd.out], rfl⟩
    have hk1i : ¬ (1 : Int) < (k : Int) := by omega
    by_cases hg : NumOk v
    · rw [decide_eq_true hg] at HMg
      by_cases hf : NumOk n
      · rw [decide_eq_true hf] at HMf
        by_cases h0 : k = 0
        · have hk0 : ((k : Int) == 0) = true := by rw [beq_iff_eq]; omega
          by_cases hts : 0 < Tx.size
          · have hd : (decide (¬ MayB k v n Tx)) = true := decide_eq_true (fun h => by rcases h.1 with h | h <;> omega)
            have HDd := Lib.hid hd
            clear hk1 hd h0 hg hf
            go_wp2_with (first
              | (go_at_call 25; (with_reducible refine (HMg.out _).mono ?_); rintro e w1 ⟨rfl, rfl⟩)
              | (go_at_call 25; (with_reducible refine (HMf.out _).mono ?_); rintro e w1 ⟨rfl, rfl⟩))
            go_meet
            exact ⟨by rw [HDd.out], rfl⟩
          · have hd : (decide (¬ MayB k v n Tx)) = false := decide_eq_false (fun h => h ⟨.inr ⟨h0, by omega⟩, hg, hf⟩)
            have HDd := Lib.hid hd
            clear hk1 hd h0 hg hf
            go_wp2_with (first
              | (go_at_call 25; (with_reducible refine (HMg.out _).mono ?_); rintro e w1 ⟨rfl, rfl⟩)
              | (go_at_call 25; (with_reducible refine (HMf.out _).mono ?_); rintro e w1 ⟨rfl, rfl⟩))
            go_meet
            exact ⟨by rw [HDd.out], rfl⟩
        · have hk0 : ((k : Int) == 0) = false := by rw [beq_eq_false_iff_ne]; omega
          have hd : (decide (¬ MayB k v n Tx)) = false := decide_eq_false (fun h => h ⟨.inl (by omega), hg, hf⟩)
          have HDd := Lib.hid hd
          clear hk1 hd h0 hg hf
          go_wp2_with (first
            | (go_at_call 25; (with_reducible refine (HMg.out _).mono ?_); rintro e w1 ⟨rfl, rfl⟩)
            | (go_at_call 25; (with_reducible refine (HMf.out _).mono ?_); rintro e w1 ⟨rfl, rfl⟩))
          go_meet
          exact ⟨by rw [HDd.out], rfl⟩
      · rw [decide_eq_false hf] at HMf
        have hd : (decide (¬ MayB k v n Tx)) = true := decide_eq_true (fun h => hf h.2.2)
        have HDd := Lib.hid hd
        clear hk1 hd hg hf
        go_wp2_with (first
          | (go_at_call 25; (with_reducible refine (HMg.out _).mono ?_); rintro e w1 ⟨rfl, rfl⟩)
          | (go_at_call 25; (with_reducible refine (HMf.out _).mono ?_); rintro e w1 ⟨rfl, rfl⟩))
        go_meet
        exact ⟨by rw [HDd.out], rfl⟩
    · rw [decide_eq_false hg] at HMg
      have hd : (decide (¬ MayB k v n Tx)) = true := decide_eq_true (fun h => hg h.2.1)
      have HDd := Lib.hid hd
      clear hk1 hd hg
      go_wp2_with (go_at_call 25; (with_reducible refine (HMg.out _).mono ?_); rintro e w1 ⟨rfl, rfl⟩)
      go_meet
      exact ⟨by rw [HDd.out], rfl⟩
  case rest =>
    obtain ⟨rfl, rfl⟩ := hcut
    by_cases hMay : MayB k v n Tx
    · have HMay := Lib.hid hMay
      have hdf : decide (¬ MayB k v n Tx) = false := decide_eq_false (fun h => h hMay)
      rw [hdf]
      have x0 : Ext W3 W3.drew := (Ext.refl W3).drew
      have q2 := HZ3.out.cell 2 _ rfl
      have hS : W3.drew.cell? ⟨XB, 2, none⟩ = some (.int .u64 (n : Int)) ∧ Ext W3 W3.drew := ⟨q2, x0⟩
      obtain ⟨R, hR⟩ : ∃ R, R = (scanF (s.extract u0 s.size) n) := ⟨_, rfl⟩
      rw [← hR] at HSc hLl HLs
      have HR := Lib.hid hR
      clear hR hdf hMay
      obtain ⟨L, ra, rb⟩ := R
      dsimp only at HSc hLl HLs
      have HXS := Lib.hid HZ3.out.lt
      go_wp2
      go_region_held3 (fun u => u.cell? ⟨XB, 2, none⟩ = some (.int .u64 (n : Int)) ∧ Ext W3 u) (first | exact hS | exact hS4 | assumption | go_keep) (first
        | (go_at_call 36; refine (HSc.out _).mono ?_; rintro e w4 ⟨v4, rfl, x4, hv4⟩; obtain ⟨p, c, rfl, hp4, hpB⟩ := hv4.recs; have y4 := Ext.trans (a := W3) (by assumption) x4; have hS4 := (⟨(HZ3.out.ext y4).cell 2 _ rfl, y4⟩ : w4.cell? ⟨XB, 2, none⟩ = some (.int .u64 (n : Int)) ∧ Ext W3 w4)))
      have HPB : Hid (∀ q, p = some q → XB < q.block) := Lib.hid (fun q hq => Nat.lt_of_lt_of_le HXS.out (hpB q hq))
      clear hpB
      have HP4 := Lib.hid hp4; have X4 := Lib.hid (HX3.out.trans y4); have HB4 := Lib.hid (HB3.out.ext y4); have HZ4 := Lib.hid (HZ3.out.ext y4)
      have HS4 := Lib.hid (Nat.lt_of_lt_of_le HXS.out y4.size)
      clear hS hS4 hp4 hv4 x4 x0 q2 y4 HB3 HZ3 HX3 HXS hsc hix hsl2
      go_wp2
      have HB0 : Hid (XB < w4.heap.size) := HS4
      obtain ⟨B, hBd⟩ : ∃ B, B = w4.heap.size := ⟨_, rfl⟩
      have HBd := Lib.hid hBd
      rw [← hBd] at HB0 HS4
      clear hBd
      go_loopw [5, 14] (fun us i wr => ∃ (j uj : Nat) (q : Option Addr) (c' : Nat), j ≤ L.length ∧ i = .int .i64 (j : Int) ∧ us = .int .i64 (uj : Int) ∧ Hid (∀ i r, i < j → L[i]? = some r → r.n ≤ 281474976710656) ∧ Hid (uj = u0 + lenRs (L.take j)) ∧
        Hid (Blk wr XB 25 [.int .u8 (k : Int), .int .u64 (v : Int), .int .u64 (n : Int), .string Tx, .slice q j c', .int .i64 0, .bool false]) ∧ Hid (BufS wr B (.slice q j c') (txtR (L.take j))) ∧
        Hid (Blk wr w.heap.size 25 zero7) ∧ Hid (Ext w wr) ∧ Hid (∀ g, XB < g → g < B → wr.heap[g]? = w4.heap[g]?) ∧ Hid (B ≤ wr.heap.size)) (fun _ i _ => L.length - (intOf i).toNat)
      case atStart => exact ⟨0, u0, none, 0, Nat.zero_le _, rfl, rfl, Lib.hid (fun i r hi => by omega), Lib.hid (by simp [lenRs]), HZ4, Lib.hid (BufS.nil _ _), HB4, X4, Lib.hid (fun _ _ _ => rfl), Lib.hid (Nat.le_of_eq HBd.out)⟩
      case round =>
        obtain ⟨j, uj, q, c', hj, rfl, rfl, hlo, huj, hz, hs', hb, hx, hmid, hBw⟩ := hrel
        by_cases hlt : j < L.length
        · obtain ⟨r, hr⟩ : ∃ r, L[j]? = some r := ⟨_, List.getElem?_eq_getElem hlt⟩
          obtain ⟨pq, rfl, hq4, e0, e1⟩ := HP4.out j r hr
          have hqX := HPB.out _ rfl
          have hqm := hmid.out pq hqX (by rw [HBd.out]; exact hq4)
          have HMk : Hid (∀ u : World, u.heap[pq]? = w4.heap[pq]? → u.cell? ⟨pq, j * 2 + 1, none⟩ = some (.string r.t)) := Lib.hid (fun u hu => (World.cell?_of_block (a := ⟨pq, j * 2 + 1, none⟩) hu).trans e1)
          have m0 := (World.cell?_of_block (a := ⟨pq, j * 2, none⟩) hqm).trans e0
          have m1 := (World.cell?_of_block (a := ⟨pq, j * 2 + 1, none⟩) hqm).trans e1
          have HPQ := Lib.hid (show XB < pq ∧ pq < B from ⟨hqX, by rw [HBd.out]; exact hq4⟩)
          have HSnoc := Lib.hid (take_snoc' L j r hr)
          have hrs := HLs.out r (List.mem_of_getElem? hr)
          have HRr := Lib.hid hr
          clear hr hqX hqm e0 e1 hq4
          by_cases hbig : r.n ≤ 281474976710656
          · have hbi : (r.n : Int) ≤ 281474976710656 := by omega
            have hlj : (txtR (L.take j)).length = j := by rw [txtR_length, List.length_take, Nat.min_eq_left hj]
            have HLJ := Lib.hid hlj
            have c4 := hz.out.cell 4 _ rfl
            have hz1 := hz.out.alloc (.cells #[.string r.t] 9)
            have d4 := hz1.cell 4 _ rfl
            have HZ1 := Lib.hid hz1.drew
            have n1 := (Blk.alloc (Blk.drew hz.out) (.cells #[.string r.t] 9)).cell 4 _ rfl
            have m2 : (wr.alloc (.cells #[.string r.t] 9)).cell? ⟨pq, j * 2 + 1, none⟩ = some (.string r.t) := HMk.out _ ((Below.heap_alloc wr _ pq (Nat.lt_of_lt_of_le HPQ.out.2 hBw.out)).trans (hmid.out pq HPQ.out.1 HPQ.out.2))
            obtain ⟨uj2, huj2⟩ : ∃ u, u = uj + (16 + r.t.size) := ⟨_, rfl⟩
            have hul := lenRs_le (L.take j) (fun x hx => HLs.out x (List.mem_of_mem_take hx))
            have hujo := huj.out
            have hLj : (L.take j).length ≤ 1000000 := by rw [List.length_take]; omega
            have hws0 : IntKind.i64.wrap ((uj : Int) + 16) = (uj : Int) + 16 := IntWalk.i64_in _ ⟨by omega, by omega⟩
            have hws : IntKind.i64.wrap ((uj : Int) + 16 + (r.t.size : Int)) = (uj2 : Int) := by
              rw [IntWalk.i64_in _ ⟨by omega, by omega⟩]; omega
            have HU2 : Hid (uj2 = u0 + lenRs (L.take (j + 1))) := Lib.hid (by rw [HSnoc.out, lenRs_snoc]; omega)
            have HLo2 : Hid (∀ i r, i < j + 1 → L[i]? = some r → r.n ≤ 281474976710656) := Lib.hid (fun i x hi hx => by
              by_cases hij : i = j
              · rw [hij, HRr.out] at hx; cases hx; exact hbig
              · exact hlo.out i x (by omega) hx)
            have hj6 : j ≤ 1000000 := by omega
            have HBn : Hid (∀ u : World, (u.alloc (.cells #[.string r.t] 9)).cell? ⟨u.heap.size, 0, none⟩ = some (.string r.t)) := Lib.hid (fun u => Blk.cell (Blk.new u [.string r.t] 9) 0 _ rfl)
            have HX1 := Lib.hid ((Ext.refl wr).alloc (.cells #[.string r.t] 9)).drew
            clear hul hujo hLj huj2 hlj hlo huj hbig hz1
            go_wp2
            have HCell : Hid (∀ (b7 b8 : Bool) (v : Value) (u : World), MkI wr.drew (.cells #[.string r.t] 9) (MidR (wr.drew.alloc (.cells #[.string r.t] 9)) B j (txtR (L.take j) ++ [r.t])) (FinR (wr.drew.alloc (.cells #[.string r.t] 9)) B j XB (txtR (L.take j) ++ [r.t])) b7 b8 false v u → u.cell? ⟨XB, 4, none⟩ = some (.slice q j c') ∧ u.cell? ⟨pq, j * 2 + 1, none⟩ = some (.string r.t)) := Lib.hid (fun b7 b8 v u h => by
              refine h.cell (C := fun u => u.cell? ⟨XB, 4, none⟩ = some (.slice q j c') ∧ u.cell? ⟨pq, j * 2 + 1, none⟩ = some (.string r.t)) ⟨c4, m1⟩ ⟨d4, m2⟩ ?_
              rintro v u ⟨p2, c2, _, _, hx5⟩
              exact ⟨(HZ1.out.below hx5 HB0.out).cell 4 _ rfl, HMk.out _ ((hx5.block pq HPQ.out.2).trans ((Below.heap_alloc wr _ pq (Nat.lt_of_lt_of_le HPQ.out.2 hBw.out)).trans (hmid.out pq HPQ.out.1 HPQ.out.2)))⟩)
            have hbase : ∀ q : Nat × Value, q ∈ [(10, .pointer (some ⟨XB, 0, none⟩)), (11, .slice (some ⟨pq, 0, none⟩) L.length c), (14, .int .i64 (j : Int))] → q.1 < 104 := by
              intro q hq
              simp only [List.mem_cons, List.not_mem_nil, or_false] at hq
              rcases hq with rfl | rfl | rfl <;> simp
            refine wp_region_any (by kernel_rfl) ?_
            refine wpAny_inv (Wz _ 11 131 104 7 8 [(10, .pointer (some ⟨XB, 0, none⟩)), (11, .slice (some ⟨pq, 0, none⟩) L.length c), (14, .int .i64 (j : Int))] (RpF XB pq j c L.length q c' r.t wr.heap.size) (MkI wr.drew (.cells #[.string r.t] 9) (MidR (wr.drew.alloc (.cells #[.string r.t] 9)) B j (txtR (L.take j) ++ [r.t])) (FinR (wr.drew.alloc (.cells #[.string r.t] 9)) B j XB (txtR (L.take j) ++ [r.t])))) ?hsize ?step ?last _ _ _ _ (by decide) (Wz.start rfl ?size ?base (by decide) (by decide) (fun v => rfl))
            case hsize => exact fun L a w h => h.size
            case size => rfl
            case base =>
              intro q hq
              simp only [List.mem_cons, List.not_mem_nil, or_false] at hq
              rcases hq with rfl | rfl | rfl
              · rfl
              · rfl
              · rfl
            case step =>
              intro L' a' w' i h hi
              have hlt' : i < 11 := (ready_spec hi).1
              obtain ⟨Y, D⟩ := a'
              obtain rfl : D = [] := h.defers
              have b10 : Y[10]?.getD undef = .pointer (some ⟨XB, 0, none⟩) := h.ahead (10, _) (by simp)
              have b11 : Y[11]?.getD undef = .slice (some ⟨pq, 0, none⟩) L.length c := h.ahead (11, _) (by simp)
              have b14 : Y[14]?.getD undef = .int .i64 (j : Int) := h.ahead (14, _) (by simp)
              have hinv := Lib.hid h.inv
              rcases (show i = 0 ∨ i = 1 ∨ i = 2 ∨ i = 3 ∨ i = 4 ∨ i = 5 ∨ i = 6 ∨ i = 7 ∨ i = 8 ∨ i = 9 ∨ i = 10 by omega) with rfl | rfl | rfl | rfl | rfl | rfl | rfl | rfl | rfl | rfl | rfl
              · refine wpOp_step rfl (fun K hK => ?_)
                go_simp
                exact hK _ _ (h.put (by decide) hbase 0 104 (by decide) (by decide) (by decide) rfl (ready_spec hi).2.1 _ rfl)
              · have d0 := ready_after hi _ rfl 0 _ rfl rfl
                have f0 : Y[104]?.getD undef = .pointer (some ⟨XB, 4, none⟩) := h.at 0 104 (by decide) (by decide) rfl d0
                have hnb := h.not (i := 1) (by decide) (ready_spec hi).2.1
                have hci := hinv.out
                rw [hnb] at hci
                have cb := (HCell.out _ _ _ _ hci).1
                refine wpOp_step rfl (fun K hK => ?_)
                go_simp
                exact hK _ _ (h.put (by decide) hbase 1 105 (by decide) (by decide) (by decide) rfl (ready_spec hi).2.1 _ rfl)
              · refine wpOp_step rfl (fun K hK => ?_)
                go_simp
                exact hK _ _ (h.put (by decide) hbase 2 106 (by decide) (by decide) (by decide) rfl (ready_spec hi).2.1 _ rfl)
              · refine wpOp_step rfl (fun K hK => ?_)
                go_simp
                exact hK _ _ (h.put (by decide) hbase 3 107 (by decide) (by decide) (by decide) rfl (ready_spec hi).2.1 _ rfl)
              · have d2 := ready_after hi _ rfl 0 _ rfl rfl
                have f2 : Y[106]?.getD undef = .slice (some ⟨pq, 0, none⟩) L.length c := h.at 2 106 (by decide) (by decide) rfl d2
                have d3 := ready_after hi _ rfl 1 _ rfl rfl
                have f3 : Y[107]?.getD undef = .int .i64 (j : Int) := h.at 3 107 (by decide) (by decide) rfl d3
                refine wpOp_step rfl (fun K hK => ?_)
                go_simp
                exact hK _ _ (h.put (by decide) hbase 4 108 (by decide) (by decide) (by decide) rfl (ready_spec hi).2.1 _ rfl)
              · have d4 := ready_after hi _ rfl 0 _ rfl rfl
                have f4 : Y[108]?.getD undef = .pointer (some ⟨pq, j * 2, none⟩) := h.at 4 108 (by decide) (by decide) rfl d4
                refine wpOp_step rfl (fun K hK => ?_)
                go_simp
                exact hK _ _ (h.put (by decide) hbase 5 109 (by decide) (by decide) (by decide) rfl (ready_spec hi).2.1 _ rfl)
              · have d5 := ready_after hi _ rfl 0 _ rfl rfl
                have f5 : Y[109]?.getD undef = .pointer (some ⟨pq, j * 2 + 1, none⟩) := h.at 5 109 (by decide) (by decide) rfl d5
                have hnb := h.not (i := 6) (by decide) (ready_spec hi).2.1
                have hci := hinv.out
                rw [hnb] at hci
                have cb := (HCell.out _ _ _ _ hci).2
                refine wpOp_step rfl (fun K hK => ?_)
                go_simp
                exact hK _ _ (h.put (by decide) hbase 6 110 (by decide) (by decide) (by decide) rfl (ready_spec hi).2.1 _ rfl)
              · have d6 := ready_after hi _ rfl 0 _ rfl rfl
                have f6 : Y[110]?.getD undef = .string r.t := h.at 6 110 (by decide) (by decide) rfl d6
                have hx7 : L'.getD 7 true = false := (ready_spec hi).2.1
                have hnb := h.not (i := 7) (by decide) hx7
                have h1 := hinv.out
                rw [hx7, hnb] at h1
                rcases hb8 : L'.getD 8 true with _ | _
                · rw [hb8] at h1
                  obtain rfl : w' = wr.drew := h1
                  refine wpOp_step rfl (fun K hK => ?_)
                  go_simp
                  exact hK _ _ (h.make (by decide) hbase 111 (by decide) (by decide) rfl hx7 _ rfl (by rw [hb8]; exact rfl))
                · rw [hb8] at h1
                  exact absurd h1 (fun x => x)
              · have d1 := ready_after hi _ rfl 0 _ rfl rfl
                have f1 : Y[105]?.getD undef = .slice q j c' := h.at 1 105 (by decide) (by decide) rfl d1
                have d7 := ready_after hi _ rfl 1 _ rfl rfl
                have f7 : Y[111]?.getD undef = .slice (some ⟨wr.heap.size, 0, none⟩) 1 1 := h.at 7 111 (by decide) (by decide) rfl d7
                have q7 : L'.getD 7 true = true := bit_of d7
                have hx8 : L'.getD 8 true = false := (ready_spec hi).2.1
                have hnb := h.not (i := 8) (by decide) hx8
                have h1 := hinv.out
                rw [q7, hx8, hnb] at h1
                obtain rfl : w' = wr.drew.alloc (.cells #[.string r.t] 9) := h1
                refine wpOp_step rfl (fun K hK => ?_)
                refine step_append_textG rfl (.tmp 105) (.tmp 111) rfl B (.slice q j c') (txtR (L.take j)) (by simpa [Act.eval] using f1) (hs'.out.ext HX1.out) wr.heap.size r.t (by simpa [Act.eval] using f7) (HBn.out wr) (by rw [HLJ.out]; exact hj6) (Nat.le_trans hBw.out HX1.out.size) ?_
                intro p2 c2 w5 hb5 hx5
                rw [HLJ.out] at hb5 ⊢
                exact hK _ _ (h.law (by decide) hbase 112 (by decide) (by decide) rfl hx8 _ (by rw [q7]; exact ⟨p2, c2, rfl, hb5, hx5⟩))
              · refine wpOp_step rfl (fun K hK => ?_)
                go_simp
                exact hK _ _ (h.put (by decide) hbase 9 113 (by decide) (by decide) (by decide) rfl (ready_spec hi).2.1 _ rfl)
              · have d9 := ready_after hi _ rfl 0 _ rfl rfl
                have f9 : Y[113]?.getD undef = .pointer (some ⟨XB, 4, none⟩) := h.at 9 113 (by decide) (by decide) rfl d9
                have d8 := ready_after hi _ rfl 1 _ rfl rfl
                have q8 : L'.getD 8 true = true := bit_of d8
                have hall := ready_all hi _ rfl 10 (by kernel_rfl)
                have q7 := hall 7 (by decide)
                have hx10 : L'.getD (11 - 1) true = false := (ready_spec hi).2.1
                have h1 := hinv.out
                rw [q7, q8, hx10] at h1
                obtain ⟨p2, c2, hv8, hb5, hx5⟩ := h1
                have hz5 := HZ1.out.below hx5 HB0.out
                have f4' := hz5.frozen 4
                have l4 := hz5.cell 4 _ rfl
                have f8 : Y[112]?.getD undef = .slice p2 (j + 1) c2 := by rw [← Array.getD_eq_getD_getElem?]; exact hv8
                have HB5 := Lib.hid hb5
                have HX5 := Lib.hid hx5
                clear hb5 hx5 hz5
                refine wpOp_step rfl (fun K hK => ?_)
                go_simp
                exact hK _ _ (h.store (by decide) (by decide) hall ⟨p2, c2, w', hv8, HB5.out, HX5.out, rfl⟩ undef)
            case last =>
              intro L' a' w6 h hr'
              have q10 : L'.getD (11 - 1) true = true := all_done h.size (by kernel_rfl) hr' 10 (by decide)
              have q8 : L'.getD 8 true = true := all_done h.size (by kernel_rfl) hr' 8 (by decide)
              have q7 : L'.getD 7 true = true := all_done h.size (by kernel_rfl) hr' 7 (by decide)
              have hv := h.inv
              rw [q10, q8, q7] at hv
              obtain ⟨p2, c2, w5, hv8, hb5, hx5, rfl⟩ := hv
              have HB5 := Lib.hid hb5; have HX5 := Lib.hid hx5
              obtain ⟨Z, D⟩ := a'
              obtain rfl : D = [] := h.defers
              have hfr := h.frame (by rfl) (by decide) (by decide) [.pointer (some ⟨XB, 4, none⟩), .slice q j c', .slice (some ⟨pq, 0, none⟩) L.length c, .int .i64 (j : Int), .pointer (some ⟨pq, j * 2, none⟩), .pointer (some ⟨pq, j * 2 + 1, none⟩), .string r.t, .slice (some ⟨wr.heap.size, 0, none⟩) 1 1, .slice p2 (j + 1) c2, .pointer (some ⟨XB, 4, none⟩)] rfl (by
                intro t v ht
                have ht10 : t < 10 := (List.getElem?_eq_some_iff.1 ht).1
                rcases (show t = 0 ∨ t = 1 ∨ t = 2 ∨ t = 3 ∨ t = 4 ∨ t = 5 ∨ t = 6 ∨ t = 7 ∨ t = 8 ∨ t = 9 by omega) with rfl | rfl | rfl | rfl | rfl | rfl | rfl | rfl | rfl | rfl
                · cases ht; exact h.facts 0 (by decide) (by decide) (all_done h.size (by kernel_rfl) hr' 0 (by decide))
                · cases ht; exact h.facts 1 (by decide) (by decide) (all_done h.size (by kernel_rfl) hr' 1 (by decide))
                · cases ht; exact h.facts 2 (by decide) (by decide) (all_done h.size (by kernel_rfl) hr' 2 (by decide))
                · cases ht; exact h.facts 3 (by decide) (by decide) (all_done h.size (by kernel_rfl) hr' 3 (by decide))
                · cases ht; exact h.facts 4 (by decide) (by decide) (all_done h.size (by kernel_rfl) hr' 4 (by decide))
                · cases ht; exact h.facts 5 (by decide) (by decide) (all_done h.size (by kernel_rfl) hr' 5 (by decide))
                · cases ht; exact h.facts 6 (by decide) (by decide) (all_done h.size (by kernel_rfl) hr' 6 (by decide))
                · cases ht; exact h.facts 7 (by decide) (by decide) (all_done h.size (by kernel_rfl) hr' 7 (by decide))
                · cases ht; exact hv8
                · cases ht; exact h.facts 9 (by decide) (by decide) (all_done h.size (by kernel_rfl) hr' 9 (by decide)))
              clear h hr'
              rw [hfr]
              clear hfr
              clear q10 q8 q7 hv8 hb5 hx5 hbase
              have hz6 := (HZ1.out.below HX5.out HB0.out).set_ 4 (.slice p2 (j + 1) c2)
              have n6 : (w5.setCell ⟨XB, 4, none⟩ (.slice p2 (j + 1) c2)).cell? ⟨pq, j * 2 + 1, none⟩ = some (.string r.t) := HMk.out _ ((Below.heap_setCell _ ⟨XB, 4, none⟩ _ pq (by show pq ≠ XB; have := HPQ.out.1; omega)).trans ((HX5.out.block pq HPQ.out.2).trans ((Below.heap_alloc wr _ pq (Nat.lt_of_lt_of_le HPQ.out.2 hBw.out)).trans (hmid.out pq HPQ.out.1 HPQ.out.2))))
              have HZ6 := Lib.hid hz6
              have HS6 : Hid (BufS (w5.setCell ⟨XB, 4, none⟩ (.slice p2 (j + 1) c2)) B (.slice p2 (j + 1) c2) (txtR (L.take j) ++ [r.t])) := Lib.hid (BufS.low HB5.out HB0.out 4 _)
              have HB6 : Hid (Blk (w5.setCell ⟨XB, 4, none⟩ (.slice p2 (j + 1) c2)) w.heap.size 25 zero7) := Lib.hid (((hb.out.ext HX1.out).below HX5.out (Nat.lt_trans HXB.out HB0.out)).other (Nat.ne_of_lt HXB.out) 4 _)
              have HX6 : Hid (Ext w (w5.setCell ⟨XB, 4, none⟩ (.slice p2 (j + 1) c2))) := Lib.hid (((hx.out.trans HX1.out).trans3 (Below.mono HX5.out (Nat.le_of_lt (Nat.lt_trans HXB.out HB0.out)))).setCell (p := ⟨XB, 4, none⟩) (Nat.le_of_lt HXB.out) _)
              have HM6 : Hid (∀ g, XB < g → g < B → (w5.setCell ⟨XB, 4, none⟩ (.slice p2 (j + 1) c2)).heap[g]? = w4.heap[g]?) := Lib.hid (fun g h1 h2 =>
                (Below.heap_setCell _ ⟨XB, 4, none⟩ _ g (by show g ≠ XB; omega)).trans ((HX5.out.block g h2).trans ((Below.heap_alloc wr _ g (Nat.lt_of_lt_of_le h2 hBw.out)).trans (hmid.out g h1 h2))))
              have HW6 : Hid (B ≤ (w5.setCell ⟨XB, 4, none⟩ (.slice p2 (j + 1) c2)).heap.size) := Lib.hid (by
                have h1 := HX5.out.size
                have h2 := hBw.out
                simp [World.setCell] at h1 ⊢
                omega)
              clear c4 d4 n1 m2 m0 m1 hz6
              generalize (w5.setCell ⟨XB, 4, none⟩ (.slice p2 (j + 1) c2)) = W6 at *
              simp only [putAll]
              go_wp2
              go_roundw
              case rel =>
                refine ⟨j + 1, uj2, p2, c2, hlt, by go_num, rfl, HLo2, HU2, HZ6, Lib.hid ?_, HB6, HX6, HM6, HW6⟩
                rw [HSnoc.out, txtR_snoc]
                exact HS6.out
              case measure => simp [intOf]; omega
          · have hbi : ¬ (r.n : Int) ≤ 281474976710656 := by omega
            have HLow := Lib.hid (lowR_take L j hlo.out (.inr ⟨r, HRr.out, hbig⟩))
            clear hbig
            have hZ5 : Blk (wr.setCell ⟨XB, 5, none⟩ (.int .i64 (uj : Int))) XB 25 [.int .u8 (k : Int), .int .u64 (v : Int), .int .u64 (n : Int), .string Tx, .slice q j c', .int .i64 (uj : Int), .bool false] := hz.out.set_ 5 _
            have hZ6 : Blk ((wr.setCell ⟨XB, 5, none⟩ (.int .i64 (uj : Int))).setCell ⟨XB, 6, none⟩ (.bool (decide (uj = s.size)))) XB 25 [.int .u8 (k : Int), .int .u64 (v : Int), .int .u64 (n : Int), .string Tx, .slice q j c', .int .i64 (uj : Int), .bool (decide (uj = s.size))] := hZ5.set_ 6 _
            have hB6 := (hb.out.other (g := XB) (by have := HXB.out; omega) 5 (.int .i64 (uj : Int))).other (g := XB) (by have := HXB.out; omega) 6 (.bool (decide (uj = s.size)))
            have HX2 : Hid (XX = ⟨k, v, n, Tx, txtR (L.take j), (uj : Int), decide (uj = s.size)⟩) := Lib.hid (by
              rw [← HXX.out, if_pos HMay.out]
              unfold segP
              rw [← HR.out]
              dsimp only
              rw [HLow.out, huj.out])
            have hbe : ((uj : Int) == (s.size : Int)) = decide (uj = s.size) := by rw [Bool.eq_iff_iff, beq_iff_eq, decide_eq_true_iff]; omega
            have a5 := hz.out.cell 5 _ rfl
            have af5 := hz.out.frozen 5
            have a6 := hZ5.cell 6 _ rfl
            have af6 := hZ5.frozen 6
            have z0 := hZ6.cell 0 _ rfl
            have z1 := hZ6.cell 1 _ rfl
            have z2 := hZ6.cell 2 _ rfl
            have z3 := hZ6.cell 3 _ rfl
            have z4 := hZ6.cell 4 _ rfl
            have z5 := hZ6.cell 5 _ rfl
            have z6 := hZ6.cell 6 _ rfl
            have t0 := hB6.cell 0 _ rfl
            have t1 := hB6.cell 1 _ rfl
            have t2 := hB6.cell 2 _ rfl
            have t3 := hB6.cell 3 _ rfl
            have t4 := hB6.cell 4 _ rfl
            have t5 := hB6.cell 5 _ rfl
            have t6 := hB6.cell 6 _ rfl
            have g0 := hB6.frozen 0
            have g1 := hB6.frozen 1
            have g2 := hB6.frozen 2
            have g3 := hB6.frozen 3
            have g4 := hB6.frozen 4
            have g5 := hB6.frozen 5
            have g6 := hB6.frozen 6
            have HB6 := Lib.hid hB6
            have HE2 := Lib.hid (HEE.out.symm.trans (if_pos HMay.out))
            clear hB6 hZ6 hZ5
            generalize decide (uj = s.size) = be at *
            go_wp2
            refine bodyPost_ret (results_seg rfl _ _ w.heap.size 25 _ _ _ _ _ _ _ (0, 0) rfl (Blk.set7 HB6.out _ _ _ _ _ _ _)) rfl ?_
            obtain ⟨q2, c2, e2, ht2, hq2, _⟩ := BufS.texts hs'.out
            have eq2 : q2 = q := ((Value.slice.inj e2).1).symm
            rw [eq2] at ht2 hq2
            have hT6 := texts_kept8 ht2 (fun a ha => (hq2 a ha).1) XB w.heap.size HB0.out HXB.out (.int .i64 (uj : Int)) (.bool be) (.int .u8 (k : Int)) (.int .u64 (v : Int)) (.int .u64 (n : Int)) (.string Tx) (.slice q j c') (.int .i64 (uj : Int)) (.bool be)
            have hE := Ext.set7 ((hx.out.setCell (p := ⟨XB, 5, none⟩) (Nat.le_of_lt HXB.out) (.int .i64 (uj : Int))).setCell (p := ⟨XB, 6, none⟩) (Nat.le_of_lt HXB.out) (.bool be)) (Nat.le_refl _) (.int .u8 (k : Int)) (.int .u64 (v : Int)) (.int .u64 (n : Int)) (.string Tx) (.slice q j c') (.int .i64 (uj : Int)) (.bool be)
            have hq : Ending.returned (.tuple #[.agg #[.int .u8 (k : Int), .int .u64 (v : Int), .int .u64 (n : Int), .string Tx, .slice q j c', .int .i64 (uj : Int), .bool be], .int .i64 0]) = Ending.returned (.tuple #[segV XX (.slice q XX.r.length c'), .int .i64 EE]) := by
              rw [HX2.out, HE2.out]
              unfold segV
              dsimp only
              rw [txtR_length, List.length_take, Nat.min_eq_left hj]
            have eXr : txtR (L.take j) = XX.r := by rw [HX2.out]
            rw [eXr] at hT6
            first
              | exact ⟨q, c', hq, hE, hT6⟩
              | exact ⟨q, ⟨c', hq⟩, hE, hT6⟩
        · have HJL := Lib.hid (show j = L.length by omega)
          have hlti : ¬ (j : Int) < (L.length : Int) := by omega
          have HLow := Lib.hid (lowR_take L j hlo.out (.inl HJL.out))
          have hZ5 : Blk (wr.setCell ⟨XB, 5, none⟩ (.int .i64 (uj : Int))) XB 25 [.int .u8 (k : Int), .int .u64 (v : Int), .int .u64 (n : Int), .string Tx, .slice q j c', .int .i64 (uj : Int), .bool false] := hz.out.set_ 5 _
          have hZ6 : Blk ((wr.setCell ⟨XB, 5, none⟩ (.int .i64 (uj : Int))).setCell ⟨XB, 6, none⟩ (.bool (decide (uj = s.size)))) XB 25 [.int .u8 (k : Int), .int .u64 (v : Int), .int .u64 (n : Int), .string Tx, .slice q j c', .int .i64 (uj : Int), .bool (decide (uj = s.size))] := hZ5.set_ 6 _
          have hB6 := (hb.out.other (g := XB) (by have := HXB.out; omega) 5 (.int .i64 (uj : Int))).other (g := XB) (by have := HXB.out; omega) 6 (.bool (decide (uj = s.size)))
          have HX2 : Hid (XX = ⟨k, v, n, Tx, txtR (L.take j), (uj : Int), decide (uj = s.size)⟩) := Lib.hid (by
            rw [← HXX.out, if_pos HMay.out]
            unfold segP
            rw [← HR.out]
            dsimp only
            rw [HLow.out, huj.out])
          have hbe : ((uj : Int) == (s.size : Int)) = decide (uj = s.size) := by rw [Bool.eq_iff_iff, beq_iff_eq, decide_eq_true_iff]; omega
          have a5 := hz.out.cell 5 _ rfl
          have af5 := hz.out.frozen 5
          have a6 := hZ5.cell 6 _ rfl
          have af6 := hZ5.frozen 6
          have z0 := hZ6.cell 0 _ rfl
          have z1 := hZ6.cell 1 _ rfl
          have z2 := hZ6.cell 2 _ rfl
          have z3 := hZ6.cell 3 _ rfl
          have z4 := hZ6.cell 4 _ rfl
          have z5 := hZ6.cell 5 _ rfl
          have z6 := hZ6.cell 6 _ rfl
          have t0 := hB6.cell 0 _ rfl
          have t1 := hB6.cell 1 _ rfl
          have t2 := hB6.cell 2 _ rfl
          have t3 := hB6.cell 3 _ rfl
          have t4 := hB6.cell 4 _ rfl
          have t5 := hB6.cell 5 _ rfl
          have t6 := hB6.cell 6 _ rfl
          have g0 := hB6.frozen 0
          have g1 := hB6.frozen 1
          have g2 := hB6.frozen 2
          have g3 := hB6.frozen 3
          have g4 := hB6.frozen 4
          have g5 := hB6.frozen 5
          have g6 := hB6.frozen 6
          have HB6 := Lib.hid hB6
          have HE2 := Lib.hid (HEE.out.symm.trans (if_pos HMay.out))
          clear hB6 hZ6 hZ5
          generalize decide (uj = s.size) = be at *
          go_wp2
          refine bodyPost_ret (results_seg rfl _ _ w.heap.size 25 _ _ _ _ _ _ _ (0, 0) rfl (Blk.set7 HB6.out _ _ _ _ _ _ _)) rfl ?_
          obtain ⟨q2, c2, e2, ht2, hq2, _⟩ := BufS.texts hs'.out
          have eq2 : q2 = q := ((Value.slice.inj e2).1).symm
          rw [eq2] at ht2 hq2
          have hT6 := texts_kept8 ht2 (fun a ha => (hq2 a ha).1) XB w.heap.size HB0.out HXB.out (.int .i64 (uj : Int)) (.bool be) (.int .u8 (k : Int)) (.int .u64 (v : Int)) (.int .u64 (n : Int)) (.string Tx) (.slice q j c') (.int .i64 (uj : Int)) (.bool be)
          have hE := Ext.set7 ((hx.out.setCell (p := ⟨XB, 5, none⟩) (Nat.le_of_lt HXB.out) (.int .i64 (uj : Int))).setCell (p := ⟨XB, 6, none⟩) (Nat.le_of_lt HXB.out) (.bool be)) (Nat.le_refl _) (.int .u8 (k : Int)) (.int .u64 (v : Int)) (.int .u64 (n : Int)) (.string Tx) (.slice q j c') (.int .i64 (uj : Int)) (.bool be)
          have hq : Ending.returned (.tuple #[.agg #[.int .u8 (k : Int), .int .u64 (v : Int), .int .u64 (n : Int), .string Tx, .slice q j c', .int .i64 (uj : Int), .bool be], .int .i64 0]) = Ending.returned (.tuple #[segV XX (.slice q XX.r.length c'), .int .i64 EE]) := by
            rw [HX2.out, HE2.out]
            unfold segV
            dsimp only
            rw [txtR_length, List.length_take, Nat.min_eq_left hj]
          have eXr : txtR (L.take j) = XX.r := by rw [HX2.out]
          rw [eXr] at hT6
          first
            | exact ⟨q, c', hq, hE, hT6⟩
            | exact ⟨q, ⟨c', hq⟩, hE, hT6⟩
    · have hdf : decide (¬ MayB k v n Tx) = true := decide_eq_true hMay
      rw [hdf]
      have HX2 := Lib.hid (HXX.out.symm.trans (if_neg hMay))
      have HE2 := Lib.hid (HEE.out.symm.trans (if_neg hMay))
      have t0 := HB3.out.cell 0 _ rfl
      have t1 := HB3.out.cell 1 _ rfl
      have t2 := HB3.out.cell 2 _ rfl
      have t3 := HB3.out.cell 3 _ rfl
      have t4 := HB3.out.cell 4 _ rfl
      have t5 := HB3.out.cell 5 _ rfl
      have t6 := HB3.out.cell 6 _ rfl
      have g0 := HB3.out.frozen 0
      have g1 := HB3.out.frozen 1
      have g2 := HB3.out.frozen 2
      have g3 := HB3.out.frozen 3
      have g4 := HB3.out.frozen 4
      have g5 := HB3.out.frozen 5
      have g6 := HB3.out.frozen 6
      clear hMay hdf
      go_wp2
      refine bodyPost_ret (results_seg rfl _ _ w.heap.size 25 _ _ _ _ _ _ _ (0, 0) rfl (Blk.set7 HB3.out _ _ _ _ _ _ _)) rfl ?_
      refine ⟨none, 0, ?_, Ext.set7 HX3.out (Nat.le_refl _) _ _ _ _ _ _ _, ?_⟩
      · rw [HX2.out, HE2.out]
        rfl
      · rw [HX2.out]
        exact TextsP.none _
end Go.Proofs.Ytoffjkeejnldlaa
