/- Contracts: the document's table: Read. Contract: names of children, by the document. -/
import Derived.Test.YtkjcpjalldbahaaGreatDoorM31
import Derived.Test.YtkjcpjalldbahaaGreatDoorM29
import Derived.Test.YtkjcpjalldbahaaGreatDoorM23
import Derived.Laws.AppendOwnNone
section
namespace Go.Proofs.YtkjcpjalldbahaaGreatDoor
open Go.RowKit Go.ChangeMaps Go.MapKept

/-- What the document's Read answers. -/
def rtreadR (R : List RowP) (p : ByteArray) (n : Nat) : Nat × Ver :=
  if (piecesB p).length = 0 then (2, ⟨0, 0, ⟨#[]⟩⟩) else if hasR R p = true then rreadL (cellR R p).1 (cellR R p).2 n else (3, ⟨0, 0, ⟨#[]⟩⟩)
set_option maxRecDepth 100000 in
set_option maxHeartbeats 2000000 in
theorem rtread_any (w : World) (r : Nat) (qp qb : Int) (p : Option Addr) (c : Nat) (M : List Ent) (hB : Blk w r 33 [.int .i64 qp, .int .i64 qb, .slice p M.length c]) (hM : RowsP w p M) (hR : RisesR (M.map Ent.row)) (hn : M.length ≤ 140737488355328) (hl : ∀ e ∈ M, e.L.length ≤ 140737488355328) (s : ByteArray) (hs : s.size ≤ 140737488351232) (m : Nat) :
    Calls Tryz.prog 12 #[.pointer (some ⟨r, 0, none⟩), .string s, .int .u64 (m : Int)] w fun e w' => e = .returned (.tuple #[.agg #[.int .u64 ((rtreadR (M.map Ent.row) s m).2.n : Int), .int .u8 ((rtreadR (M.map Ent.row) s m).2.s : Int), .string (rtreadR (M.map Ent.row) s m).2.t], .int .i64 ((rtreadR (M.map Ent.row) s m).1 : Int)]) ∧ Ext w w' := by
  have HB0 := Lib.hid (Blk.new w [.int .u64 0, .int .u8 0, .string ⟨#[]⟩] 41)
  have HX0 := Lib.hid ((Ext.refl w).alloc (.cells #[.int .u64 0, .int .u8 0, .string ⟨#[]⟩] 41))
  have HPc := Lib.hid (fun u => rPieces_any s hs u)
  have HA := Lib.hid (fun u (x : Ext w u) => rtat_any u p c M (hM.ext x) hn s)
  have HBl := Lib.hid hB
  have HP := Lib.hid hM
  have HR := Lib.hid hR
  have HL := Lib.hid hl
  obtain ⟨n, hnn⟩ : ∃ n, M.length = n := ⟨_, rfl⟩
  have HN := Lib.hid hnn
  rw [hnn] at HBl hn HA
  obtain ⟨k, hk⟩ : ∃ k, (piecesB s).length = k := ⟨_, rfl⟩
  have HK := Lib.hid hk
  obtain ⟨⟨er, vn, vs, vt⟩, hr⟩ : ∃ q, rtreadR (M.map Ent.row) s m = q := ⟨_, rfl⟩
  have HRd := Lib.hid hr
  rw [hr]
  dsimp only
  clear hM hR hB hl hnn hr
  unfold TextsR at HPc
  rw [hk] at HPc
  go_enter Tryz.func12, Tryz.ntmps12
  by_cases hk0 : k = 0
  · subst hk0
    have hrd := HRd.out
    unfold rtreadR at hrd
    rw [if_pos hk] at hrd
    cases hrd
    go_wp2_with (go_at_call 36; refine (HPc.out _).mono ?_; rintro e w1 ⟨pp, cc, rfl, h1, x1⟩; have HX1 := Lib.hid (HX0.out.trans x1); have HB1 := Lib.hid (HB0.out.ext x1); have f0 := HB1.out.cell 0 _ rfl; have f1 := HB1.out.cell 1 _ rfl; have f2 := HB1.out.cell 2 _ rfl; have z0 := HB1.out.frozen 0; have z1 := HB1.out.frozen 1; have z2 := HB1.out.frozen 2; clear x1)
    exact bodyPost_ret (resV_row_tmp rfl _ _ w.heap.size #[.int .u64 0, .int .u8 0, .string ⟨#[]⟩] rfl (load_ver _ _ _ _ _ (((HB1.out.set_ 0 _).set_ 1 _).set_ 2 _))) rfl ⟨rfl, ((HX1.out.setCell (p := ⟨w.heap.size, 0, none⟩) (Nat.le_refl _) _).setCell (p := ⟨w.heap.size, 1, none⟩) (Nat.le_refl _) _).setCell (p := ⟨w.heap.size, 2, none⟩) (Nat.le_refl _) _⟩
  · have hkf : ((k : Int) == 0) = false := by simpa using (by omega : ¬ (k : Int) = 0)
    have hrd := HRd.out
    unfold rtreadR at hrd
    rw [if_neg (by rw [hk]; exact hk0)] at hrd
    have HRd2 := Lib.hid hrd
    clear hk hk0 hrd
    go_upto_region 4 with (first
      | (go_at_call 36; refine (HPc.out _).mono ?_; rintro e w1 ⟨pp, cc, rfl, h1, x1⟩; have HX1 := Lib.hid (HX0.out.trans x1); have HB1 := Lib.hid (HB0.out.ext x1); have b2 := (HBl.out.ext HX1.out).cell 2 _ rfl; clear x1 h1)
      | (go_at_call 37; refine (HA.out _ HX1.out).mono ?_; rintro e w2 ⟨rfl, hq⟩; have HQ := Lib.hid hq; clear hq; obtain ⟨ki, rfl, HKi⟩ := at_split HQ.out))
    rcases HKi with ⟨j, x, rfl, hx, rfl⟩ | ⟨rfl, hno⟩
    · obtain ⟨pa, rfl, c0, c1, c2⟩ := HP.out.three HX1.out hx
      have hm := List.mem_of_getElem? hx
      have hlk := lookR_of HR.out (List.mem_map.2 ⟨x, hm, rfl⟩)
      have hh : hasR (M.map Ent.row) x.row.p = true := by unfold hasR; rw [hlk]; rfl
      have HC := cellR_some hlk
      have hjn : j < n := by have := (List.getElem?_eq_some_iff.1 hx).1; have := HN.out; omega
      have hrd := HRd2.out
      rw [show x.p = x.row.p from rfl, if_pos hh, HC] at hrd
      have HRr := Lib.hid (fun u (y : Ext w u) => rread_any u x.m m x.a x.c x.L ((HP.out.2 x hm).ext y) (HL.out x hm))
      have HE := Lib.hid hrd
      obtain ⟨xp, xm, xL, xa, xc⟩ := x
      dsimp only [Ent.row] at c0 c1 c2 HRr HE
      rw [HE.out] at HRr
      dsimp only at HRr
      generalize xL.length = kk at *
      clear hx hm hlk hh HC hrd
      go_wp2_with (go_at_call 38; refine (HRr.out _ HX1.out).mono ?_; rintro e w3 ⟨rfl, x3⟩; have HX2 := Lib.hid (HX1.out.trans x3); have HB2 := Lib.hid (HB1.out.ext x3); have f0 := HB2.out.cell 0 _ rfl; have f1 := HB2.out.cell 1 _ rfl; have f2 := HB2.out.cell 2 _ rfl; have z0 := HB2.out.frozen 0; have z1 := HB2.out.frozen 1; have z2 := HB2.out.frozen 2; clear x3)
      exact bodyPost_ret (resV_row_tmp rfl _ _ w.heap.size #[.int .u64 (vn : Int), .int .u8 (vs : Int), .string vt] rfl (load_ver _ _ _ _ _ (((HB2.out.set_ 0 _).set_ 1 _).set_ 2 _))) rfl ⟨rfl, ((HX2.out.setCell (p := ⟨w.heap.size, 0, none⟩) (Nat.le_refl _) _).setCell (p := ⟨w.heap.size, 1, none⟩) (Nat.le_refl _) _).setCell (p := ⟨w.heap.size, 2, none⟩) (Nat.le_refl _) _⟩
    · have hh : hasR (M.map Ent.row) s = false := by
        cases e : hasR (M.map Ent.row) s with
        | false => rfl
        | true =>
          obtain ⟨r', hr', e'⟩ := hasR_iff.1 e
          obtain ⟨y, hy, rfl⟩ := List.mem_map.1 hr'
          exact absurd e' (hno y hy)
      have hrd := HRd2.out
      rw [if_neg (by rw [hh]; simp)] at hrd
      cases hrd
      have f0 := HB1.out.cell 0 _ rfl
      have f1 := HB1.out.cell 1 _ rfl
      have f2 := HB1.out.cell 2 _ rfl
      have z0 := HB1.out.frozen 0
      have z1 := HB1.out.frozen 1
      have z2 := HB1.out.frozen 2
      clear hno hh
      go_wp2
      exact bodyPost_ret (resV_row_tmp rfl _ _ w.heap.size #[.int .u64 0, .int .u8 0, .string ⟨#[]⟩] rfl (load_ver _ _ _ _ _ (((HB1.out.set_ 0 _).set_ 1 _).set_ 2 _))) rfl ⟨rfl, ((HX1.out.setCell (p := ⟨w.heap.size, 0, none⟩) (Nat.le_refl _) _).setCell (p := ⟨w.heap.size, 1, none⟩) (Nat.le_refl _) _).setCell (p := ⟨w.heap.size, 2, none⟩) (Nat.le_refl _) _⟩
end Go.Proofs.YtkjcpjalldbahaaGreatDoor
end

section
namespace Go.Proofs.YtkjcpjalldbahaaGreatDoor
open Go.RowKit

theorem insS_len (c : List UInt8) : ∀ l, (insS c l).length ≤ l.length + 1
  | [] => by simp [insS]
  | x :: t => by
    unfold insS
    have ih := insS_len c t
    split
    · simp; omega
    · split <;> simp
theorem names_len (p : List UInt8) : ∀ (l : List (List UInt8)) (k : Nat), (namesL p (l.take k)).length ≤ k := by
  intro l k
  induction k with
  | zero => simp [namesL]
  | succ k ih =>
    cases h : l[k]? with
    | none =>
      rw [List.take_add_one, h]
      simp
      omega
    | some s =>
      rw [List.take_add_one, h]
      simp only [Option.toList_some]
      rw [names_snoc]
      unfold stepN
      split
      · omega
      · have := insS_len (childL p s) (namesL p (l.take k))
        omega
/-- How many stand ahead of a text. -/
def aheadN (c : List UInt8) (l : List (List UInt8)) : Nat := (l.takeWhile (fun x => decide (x < c))).length
theorem ahead_le (c : List UInt8) (l : List (List UInt8)) : aheadN c l ≤ l.length := by unfold aheadN; exact (List.takeWhile_sublist _).length_le
theorem ahead_lt (c : List UInt8) : ∀ (l : List (List UInt8)) (i : Nat) (x : List UInt8), i < aheadN c l → l[i]? = some x → x < c
  | [], _, _, _, h => by cases h
  | y :: t, i, x, hi, h => by
    unfold aheadN at hi
    by_cases hy : y < c
    · rw [List.takeWhile_cons_of_pos (by simp [hy])] at hi
      cases i with
      | zero => cases h; exact hy
      | succ i => exact ahead_lt c t i x (by unfold aheadN; simpa using hi) (by simpa using h)
    · rw [List.takeWhile_cons_of_neg (by simp [hy])] at hi
      simp at hi
theorem ahead_not (c : List UInt8) : ∀ (l : List (List UInt8)) (x : List UInt8), l[aheadN c l]? = some x → ¬ x < c
  | [], _, h => by cases h
  | y :: t, x, h => by
    unfold aheadN at h
    by_cases hy : y < c
    · rw [List.takeWhile_cons_of_pos (by simp [hy])] at h
      exact ahead_not c t x (by unfold aheadN; simpa using h)
    · rw [List.takeWhile_cons_of_neg (by simp [hy])] at h
      cases h
      exact hy
theorem insS_ahead (c : List UInt8) (l : List (List UInt8)) (h : Rises l) : insS c l = if l[aheadN c l]? = some c then l else l.take (aheadN c l) ++ c :: l.drop (aheadN c l) :=
  insS_at c l _ h (ahead_le c l) (fun i x hi hx => ahead_lt c l i x hi hx) (fun x hx => ahead_not c l x hx)
theorem elemS : Tryz.prog.elem 36 = 9 := by kernel_rfl
theorem underS : Tryz.prog.underlying 36 = some (.slice (Tryz.prog.elem 36)) := by rw [elemS]; exact Tryz.underlying36
/-- The slices of a slice of texts, up to one, and from it on. -/
theorem cuts_texts (w : World) (g c n : Nat) (l : List ByteArray) (h : TextsP w (some ⟨g, 0, none⟩) l) (hn : l.length = n) (hc : n ≤ c) (hm : n ≤ 1000000) (k : Nat) (hk : k ≤ n) :
    (∀ u, (Instr.slice 36 (.slice (some ⟨g, 0, none⟩) n c) none (some (.int .i64 (k : Int))) none).run Tryz.prog u = .ok (.slice (some ⟨g, 0, none⟩) k c) u) ∧
    (∀ u, Ext w u → ∀ j s, (l.take k)[j]? = some s → u.cell? ((⟨g, 0, none⟩ : Addr).add j) = some (.string s)) ∧
    ∃ ad, (∀ u, (Instr.slice 36 (.slice (some ⟨g, 0, none⟩) n c) (some (.int .i64 (k : Int))) none none).run Tryz.prog u = .ok (.slice (some ad) (n - k) (c - k)) u) ∧
      (∀ u, Ext w u → ∀ j s, (l.drop k)[j]? = some s → u.cell? (ad.add j) = some (.string s)) := by
  have hcell : ∀ u, Ext w u → ∀ (j : Nat) s, l[j]? = some s → u.cell? ((⟨g, 0, none⟩ : Addr).add j) = some (.string s) := fun u hu j s hs => by
    obtain ⟨a, e, _, hc⟩ := (h.ext hu) j s hs
    cases e
    exact hc
  refine ⟨fun u => ?_, fun u hu j s hs => ?_, ?_⟩
  · rw [run_slice_h (P := Tryz.prog) u 36 (some ⟨g, 0, none⟩) n c underS .i64 (k : Int) (by omega) (by omega), elemS, show (sizeOf 9).run Tryz.prog u = .ok 1 u from Tryz.sizeOf9 u]
    simp [Result.andThen, sliced]
    intro q
    simp [Addr.add]
  · refine hcell u hu j s ?_
    have hj2 : j < k := by
      rcases Nat.lt_or_ge j k with q | q
      · exact q
      · rw [List.getElem?_take, if_neg (by omega)] at hs; cases hs
    rw [List.getElem?_take, if_pos hj2] at hs
    exact hs
  · by_cases he : c = k
    · refine ⟨⟨g, 0, none⟩, fun u => ?_, fun u _ j s hs => ?_⟩
      · rw [run_slice_l (P := Tryz.prog) u 36 (some ⟨g, 0, none⟩) n c underS .i64 (k : Int) (by omega) (by omega), elemS, show (sizeOf 9).run Tryz.prog u = .ok 1 u from Tryz.sizeOf9 u]
        simp only [Result.andThen, sliced, Int.toNat_natCast]
        rw [if_pos (by omega)]
      · rw [List.getElem?_drop, List.getElem?_eq_none (by omega)] at hs
        cases hs
    · refine ⟨⟨g, k, none⟩, fun u => ?_, fun u hu j s hs => ?_⟩
      · rw [run_slice_l (P := Tryz.prog) u 36 (some ⟨g, 0, none⟩) n c underS .i64 (k : Int) (by omega) (by omega), elemS, show (sizeOf 9).run Tryz.prog u = .ok 1 u from Tryz.sizeOf9 u]
        simp only [Result.andThen, sliced, Int.toNat_natCast]
        rw [if_neg (by omega)]
        simp [Addr.add_mid]
      · rw [List.getElem?_drop] at hs
        have := hcell u hu (k + j) s hs
        rw [Addr.add_mid] at this ⊢
        rwa [Nat.zero_add] at this
theorem nil_cuts : (∀ u, (Instr.slice 36 (.slice none 0 0) none (some (.int .i64 0)) none).run Tryz.prog u = .ok (.slice none 0 0) u) ∧ (∀ u, (Instr.slice 36 (.slice none 0 0) (some (.int .i64 0)) none none).run Tryz.prog u = .ok (.slice none 0 0) u) := by
  refine ⟨fun u => ?_, fun u => ?_⟩
  · rw [run_slice_h (P := Tryz.prog) u 36 none 0 0 underS .i64 0 (by omega) (by omega), elemS, show (sizeOf 9).run Tryz.prog u = .ok 1 u from Tryz.sizeOf9 u]
    simp [Result.andThen, sliced]
  · rw [run_slice_l (P := Tryz.prog) u 36 none 0 0 underS .i64 0 (by omega) (by omega), elemS, show (sizeOf 9).run Tryz.prog u = .ok 1 u from Tryz.sizeOf9 u]
    simp [Result.andThen, sliced]
/-- append(l, new...) of texts. -/
theorem append_list {w : World} {ops : Array Oper} {rest : List Oper} {o : Oper} {a : Act} {Q : Exit → Act → World → Prop} (hgd : o.guard = none) (s x : Operand)
    (ho : o.op = .call { callee := .builtin .append, args := #[s, x], argTypes := #[36, 36] })
    (B : Nat) (v : Value) (l : List ByteArray) (hs : a.eval s = v) (hbuf : BufS w B v l) (ad : Addr) (m c : Nat) (new : List ByteArray) (hm : new.length = m) (hx : a.eval x = .slice (some ad) m c)
    (hrow : ∀ j s, new[j]? = some s → w.cell? (ad.add j) = some (.string s))
    (hlen : l.length + m ≤ 1000000) (hB : B ≤ w.heap.size)
    (h : ∀ v' w', BufS w' B v' (l ++ new) → Below B w w' → wpList Tryz.prog ops Q rest (a.put o.dst v') w') : wpList Tryz.prog ops Q (o :: rest) a w := by
  obtain ⟨i0, hi, hz0, hz1, hz2⟩ := info_parts infoS
  refine wpList_append_own w hgd s x 36 ho B 9 i0 (.string ⟨#[]⟩) 1 16 Tryz.underlying36 hi hz0 hz1 hz2 rfl (by decide) v l.length (l.map Value.string) hs hbuf ad m c (new.map Value.string) hx (by simp [hm]) ?_ ?_ (by unfold maxLen; omega) (by omega) hB ?_
  · intro j u hj
    rw [List.getElem?_map] at hj
    cases hq : new[j]? with
    | none => rw [hq] at hj; cases hj
    | some s => rw [hq] at hj; cases hj; exact hrow j s hq
  · intro u hu
    obtain ⟨b, _, rfl⟩ := List.mem_map.1 hu
    rfl
  · intro v' w' h1 h2 _
    refine h v' w' ?_ (Below.grown (Below.refl _ _) h2 hB fun k hk => (World.ownsRow.lt hbuf k hk).1)
    unfold BufS
    rw [List.length_append, hm, List.map_append]
    exact h1
theorem append_nothing {w : World} {ops : Array Oper} {rest : List Oper} {o : Oper} {a : Act} {Q : Exit → Act → World → Prop} (hgd : o.guard = none) (s x : Operand)
    (ho : o.op = .call { callee := .builtin .append, args := #[s, x], argTypes := #[36, 36] })
    (B : Nat) (v : Value) (l : List ByteArray) (hs : a.eval s = v) (hbuf : BufS w B v l) (hx : a.eval x = .slice none 0 0)
    (h : wpList Tryz.prog ops Q rest (a.put o.dst v) w) : wpList Tryz.prog ops Q (o :: rest) a w := by
  obtain ⟨i0, hi, hz0, hz1, hz2⟩ := info_parts infoS
  exact wpList_append_own_none hgd s x 36 ho B 9 i0 1 Tryz.underlying36 hi v l.length (l.map Value.string) hs hbuf hx h
theorem less_is (x : List UInt8) (C : ByteArray) : Op.bytesLess (toB x).toList C.toList = decide (x < C.data.toList) := by
  rw [bytesLess_eq, Lib.toList_data, Lib.toList_data, toB_data]
theorem eq_is (x : List UInt8) (C : ByteArray) : ((toB x).toList == C.toList) = decide (x = C.data.toList) := by
  rw [Lib.toList_data, Lib.toList_data, toB_data, Bool.eq_iff_iff]
  simp
end Go.Proofs.YtkjcpjalldbahaaGreatDoor
end
