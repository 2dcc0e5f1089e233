/- Contract: the blocks of a stream, as an iterator hands them out. -/
import Derived.Test.YthglecfbcdikaaaKpL
import Derived.Test.YthglecfbcdikaaaEnc
import Derived.Test.YthglecfbcdikaaaPut32
import Derived.Test.YthglecfbcdikaaaCtrL
import Derived.Test.YthglecfbcdikaaaTxt
namespace Go.Proofs.Ythglecfbcdikaaa
open Go.RowKit Go.Shelf
attribute [local go_sem] Oper.semAt_some
attribute [local irreducible] rkey expand enc dec

/-- A text of 16 bytes. -/
abbrev T16 := { t : ByteArray // t.size = 16 }
def blkS (key nonce : List UInt8) (hk : key.length = 16) (i : Nat) : T16 := ⟨⟨(ctrB key nonce i).toArray⟩, by rw [txt_size, ctrB_length hk]⟩
/-- The first m blocks from one number on. -/
def seqB (key nonce : List UInt8) (hk : key.length = 16) (f m : Nat) : List T16 := (List.range m).map fun i => blkS key nonce hk (f + i)
theorem seqB_succ (key nonce : List UInt8) (hk : key.length = 16) (f m : Nat) : seqB key nonce hk f (m + 1) = seqB key nonce hk f m ++ [blkS key nonce hk (f + m)] := by simp [seqB, List.range_succ]
theorem seqB_length (key nonce : List UInt8) (hk : key.length = 16) (f m : Nat) : (seqB key nonce hk f m).length = m := by simp [seqB]
/-- Texts, one behind the other. -/
def flatB (xs : List T16) : List UInt8 := xs.flatMap fun x => x.1.data.toList
theorem flatB_snoc (xs : List T16) (x : T16) : flatB (xs ++ [x]) = flatB xs ++ x.1.data.toList := by simp [flatB]
theorem flatB_length (xs : List T16) : (flatB xs).length = 16 * xs.length := by
  induction xs with
  | nil => rfl
  | cons x r ih =>
    have := x.2
    simp only [flatB, List.flatMap_cons, List.length_append, List.length_cons] at ih ⊢
    rw [ih, size_list, this]; omega
theorem flatB_seq (key nonce : List UInt8) (hk : key.length = 16) (f : Nat) : ∀ m, flatB (seqB key nonce hk f m) = ctrC key nonce f m
  | 0 => rfl
  | m + 1 => by rw [seqB_succ, flatB_snoc, flatB_seq key nonce hk f m]; rfl
theorem ctr_next (u : World) (c : Nat) (key : List UInt8) (nonce : ByteArray) (x : Nat) (hn : nonce.size = 12) (h : IsCipher u c key) :
    Calls Try.prog 28 #[.pointer (some ⟨c, 0, none⟩), .string ⟨(nonce.data.toList ++ be 4 x).toArray⟩] u fun e w' => e = .returned (.tuple #[.string ⟨(ctrB key nonce.data.toList x).toArray⟩, .bool true]) ∧ Ext u w' := by
  have h := Block_yes u c key ⟨(nonce.data.toList ++ be 4 x).toArray⟩ h (by rw [txt_size, List.length_append, size_list, be_length, hn])
  unfold ctrB
  exact h
theorem put_next (u : World) (f i : Nat) (x : Int) (hx : x = ((f + i : Nat) : Int)) : Calls Try.prog 29 #[.int .u32 x] u fun e w' => e = .returned (.string ⟨(be 4 (f + i)).toArray⟩) ∧ Ext u w' := by
  subst hx; exact Put32_any (f + i) u
theorem seqB_next (key nonce : List UInt8) (hk : key.length = 16) (f j q : Nat) (hq : q = f + j) : seqB key nonce hk f j ++ [blkS key nonce hk q] = seqB key nonce hk f (j + 1) := by rw [hq]; exact (seqB_succ key nonce hk f j).symm
set_option maxRecDepth 100000 in
set_option maxHeartbeats 2000000 in
theorem blocks_stops (n : Nat) (hn : 1 ≤ n) (bf bc bo c n₀ : Nat) (key : List UInt8) (hk : key.length = 16) (nonce : ByteArray) (f m : Nat) (w : World) (hw : n₀ ≤ w.heap.size)
    (hbf : bf < w.heap.size) (hbc : bc < n₀) (hbo : bo < n₀) (hcn : c < n₀) (hno : nonce.size = 12) (hfm : f + m = 4294967296)
    (hB : IsCipher w c key) (h1 : w.cell? ⟨bf, 0, none⟩ = some (.int .u32 (f : Int))) (h2 : w.cell? ⟨bc, 0, none⟩ = some (.pointer (some ⟨c, 0, none⟩))) (h3 : w.cell? ⟨bo, 0, none⟩ = some (.string nonce)) :
    SeqStopsK Fence.wide n Try.prog 27 #[.pointer (some ⟨bf, 0, none⟩), .pointer (some ⟨bc, 0, none⟩), .pointer (some ⟨bo, 0, none⟩)] (fun x : T16 => #[.string x.1]) (Below n₀)
      (fun xs => xs = seqB key nonce.data.toList hk f m) (fun pre => ∃ k, k ≤ m ∧ pre = seqB key nonce.data.toList hk f k) m w := fun l J Jx W hW hJ hJx hY h0 => by
  have HY := Lib.hid hY; have HJ := Lib.hid hJ
  have HB := Lib.hid (hB.ext hW)
  have H1 := Lib.hid ((hW.cell (p := ⟨bf, 0, none⟩) hbf).trans h1)
  have H2 := Lib.hid ((hW.cell (p := ⟨bc, 0, none⟩) (Nat.lt_of_lt_of_le hbc hw)).trans h2)
  have H3 := Lib.hid ((hW.cell (p := ⟨bo, 0, none⟩) (Nat.lt_of_lt_of_le hbo hw)).trans h3)
  have c1 := H1.out
  have HW := hW.size
  have HK := Lib.hid hk
  have HFM := Lib.hid hfm
  have hwf0 : IntKind.u64.wrap (f : Int) = (f : Int) := IntWalk.u64_in _ ⟨by omega, by omega⟩
  clear hB hW hY hJ hJx h1 h2 h3 hfm
  refine callsIn_of_wp Try.func27 rfl trivial ?_ rfl
  simp only [Try.ntmps27, List.size_toArray, List.length_cons, List.length_nil, Nat.reduceAdd, Nat.reduceSub, Array.replicate_succ, Array.replicate_zero, List.push_toArray, List.append_toArray, List.nil_append, List.cons_append]
  gi_wp2
  gi_loopw [5] (fun i wr => ∃ j q : Nat, q = f + j ∧ j ≤ m ∧ i = .int .u64 (q : Int) ∧ J (seqB key nonce.data.toList hk f j) wr ∧ Below n₀ W wr) (fun i _ => 4294967296 - (intOf i).toNat)
  case atStart => exact ⟨0, f, rfl, by omega, rfl, h0, Below.refl _ _⟩
  case round =>
    obtain ⟨j, q, hqj, hj, rfl, hJr, hbr⟩ := hrel
    clear h0
    have HJr := Lib.hid hJr; have HBr := Lib.hid hbr; have HQ := Lib.hid hqj
    by_cases hlt : j < m
    · have HS := Lib.hid (show n₀ ≤ wr.heap.size from by have := hbr.size; omega)
      have HCi := Lib.hid (HB.out.below hbr hcn)
      have c2 := (hbr.cell (p := ⟨bc, 0, none⟩) hbc).trans H2.out
      have c3 := (hbr.cell (p := ⟨bo, 0, none⟩) hbo).trans H3.out
      have HX := Lib.hid (fun u (hu : Ext wr u) => (⟨(hu.below.cell (p := ⟨bc, 0, none⟩) (Nat.lt_of_lt_of_le hbc HS.out)).trans c2, (hu.below.cell (p := ⟨bo, 0, none⟩) (Nat.lt_of_lt_of_le hbo HS.out)).trans c3⟩ : u.cell? ⟨bc, 0, none⟩ = some (.pointer (some ⟨c, 0, none⟩)) ∧ u.cell? ⟨bo, 0, none⟩ = some (.string nonce)))
      have hql : (q : Int) ≤ 4294967295 := by have := HFM.out; omega
      have hwr : IntKind.u32.wrap (q : Int) = (q : Int) := IntWalk.u32_in _ ⟨by omega, by omega⟩
      have hwq : IntKind.u64.wrap ((q : Int) + 1) = (q : Int) + 1 := IntWalk.u64_in _ ⟨by omega, by omega⟩
      have HP := Lib.hid (fun u => Put32_any q u)
      have HN := Lib.hid (fun u (hu : Ext wr u) => ctr_next u c key nonce q hno (HCi.out.ext hu))
      have hT := txt_cat nonce (be 4 q)
      have l3 : (be 4 q).length = 4 := be_length _ _
      clear hJr hbr hqj
      generalize be 4 q = P at *
      have hmx : Try.prog.follows .mixedOrders = true := by kernel_rfl
      gi_wp2
      gi_region_with_o (first
        | (refine ⟨trivial, ?_⟩; gi_at_call 29; refine (callsIn_wide.2 (HP.out _)).mono ?_; rintro e w2 ⟨rfl, h2⟩; have h2x := ((Ext.refl wr).drew).trans h2; obtain ⟨d2, d3⟩ := HX.out w2 h2x)
        | (refine ⟨trivial, ?_⟩; gi_at_call 28; refine (callsIn_wide.2 (HN.out _ (by exact h2x))).mono ?_; rintro e w3 ⟨rfl, h3⟩; have h3x := h2x.trans h3; obtain ⟨fn, tmps, assign, body, hy, hR⟩ := HY.out (seqB key nonce.data.toList hk f j) (blkS key nonce.data.toList hk q) w3 (HJ.out _ _ _ none HJr.out (grown_of_ext h3x) (fun r e => by cases e)) (by rw [seqB_length]; exact hlt); dsimp only [blkS] at hy))
      all_goals
        gi_wp2
        refine hR.mono ?_
        rw [seqB_next _ _ _ _ _ _ HQ.out]
        rintro e W3 (⟨rfl, hJ3, hk3⟩ | ⟨rfl, hJx3⟩)
        · gi_wp2
          go_roundw
          case rel => exact ⟨j + 1, q + 1, by have := HQ.out; omega, hlt, by go_num, hJ3, (HBr.out.trans (Below.mono h3x.below HS.out)).trans hk3⟩
          case measure => simp [intOf]; omega
        · gi_wp2
          refine bodyPost_ret (results_none rfl _ _ _) rfl ?_
          exact ⟨⟨_, rfl⟩, .inr ⟨_, ⟨j + 1, hlt, rfl⟩, hJx3⟩⟩
    · obtain rfl : j = m := by omega
      obtain rfl : q = 4294967296 := by have := HFM.out; omega
      clear hJr hbr hqj
      gi_wp2
      go_end0
      exact ⟨⟨_, rfl⟩, .inl ⟨_, rfl, HJr.out⟩⟩
end Go.Proofs.Ythglecfbcdikaaa
