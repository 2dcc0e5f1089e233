/- Plain: how many records there are in front of bytes, how long they are. Contract: the segment in front of bytes, by the program. -/
import Derived.Test.YtbekdcpdfmfopaaGreatM04
import Derived.Test.YtbekdcpdfmfopaaGreatM21
import Derived.Test.YtbekdcpdfmfopaaGreatFScan
import Derived.Test.YtbekdcpdfmfopaaGreatM01
import Derived.StillTailTactics
import Derived.Deep.RegionHeld3
import Derived.Deep.DeepCutAuto
import Derived.Outline
section
namespace Go.Proofs.YtbekdcpdfmfopaaGreat

theorem scanI_length : ∀ (l : List Itm) (n : Nat), (scanI l n).1.length ≤ l.length
  | [], _ => Nat.le_refl _
  | x :: l, n => by
    rw [scanI]
    split
    · exact Nat.zero_le _
    · split
      · exact Nat.zero_le _
      · have := scanI_length l ((n + 1) % 18446744073709551616)
        simp only [List.length_cons]; omega
theorem scanF_length (s : ByteArray) (n : Nat) : (scanF s n).1.length ≤ s.size := Nat.le_trans (scanI_length _ _) (allI_length _ s (Nat.le_refl _))
theorem scanI_size : ∀ (l : List Itm) (n : Nat), ∀ r ∈ (scanI l n).1, r.t.size ≤ 65536
  | [], _, r, h => by simp [scanI] at h
  | x :: l, n, r, h => by
    rw [scanI] at h
    split at h
    · cases h
    · split at h
      · cases h
      · rcases List.mem_cons.1 h with rfl | h
        · exact x.2.1
        · exact scanI_size l _ r h
theorem scanF_size (s : ByteArray) (n : Nat) : ∀ r ∈ (scanF s n).1, r.t.size ≤ 65536 := scanI_size _ _
theorem scanI_num : ∀ (l : List Itm) (n : Nat), ∀ r ∈ (scanI l n).1, r.n < 18446744073709551616
  | [], _, r, h => by simp [scanI] at h
  | x :: l, n, r, h => by
    rw [scanI] at h
    split at h
    · cases h
    · split at h
      · cases h
      · rcases List.mem_cons.1 h with rfl | h
        · exact x.2.2.1
        · exact scanI_num l _ r h
theorem scanF_num (s : ByteArray) (n : Nat) : ∀ r ∈ (scanF s n).1, r.n < 18446744073709551616 := scanI_num _ _
end Go.Proofs.YtbekdcpdfmfopaaGreat
end

section
namespace Go.Proofs.YtbekdcpdfmfopaaGreat
open Go.RowKit

theorem BufS.low {w : World} {B : Nat} {v : Value} {l : List ByteArray} (h : BufS w B v l) {g : Nat} (hg : g < B) (o : Nat) (u : Value) : BufS (w.setCell ⟨g, o, none⟩ u) B v l := by
  refine ⟨h.1, ?_⟩
  rcases h.2 with h0 | ⟨b, cap, cur, e1, e2, e3, e4⟩
  · exact .inl h0
  · exact .inr ⟨b, cap, cur, e1, e2, (Below.heap_setCell w ⟨g, o, none⟩ u b (by show b ≠ g; omega)).trans e3, e4⟩
/-- append(l, s) of one text in a new block: what else there is, is as it was. -/
theorem append_textG {w : World} {ops : Array Oper} {rest : List Oper} {o : Oper} {a : Act} {Q : Exit → Act → World → Prop} (hgd : o.guard = none) (s x : Operand)
    (ho : o.op = .call { callee := .builtin .append, args := #[s, x], argTypes := #[33, 33] })
    (B : Nat) (v : Value) (l : List ByteArray) (hs : a.eval s = v) (hbuf : BufS w B v l) (g : Nat) (new : ByteArray) (hx : a.eval x = .slice (some ⟨g, 0, none⟩) 1 1) (hrow : w.cell? ⟨g, 0, none⟩ = some (.string new))
    (hlen : l.length ≤ 1000000) (hB : B ≤ w.heap.size)
    (h : ∀ p' c' w', BufS w' B (.slice p' (l.length + 1) c') (l ++ [new]) → TextsP w' p' (l ++ [new]) → Below B w w' → w.grownBy w' v.ownBlock → wpList Tryz.prog ops Q rest (a.put o.dst (.slice p' (l.length + 1) c')) w') : wpList Tryz.prog ops Q (o :: rest) a w := by
  obtain ⟨i0, hi, hz0, hz1, hz2⟩ := info_parts infoS
  refine wpList_append_own w hgd s x 33 ho B 9 i0 (.string ⟨#[]⟩) 1 16 Tryz.underlying33 hi hz0 hz1 hz2 rfl (by decide) v l.length (l.map Value.string) hs hbuf ⟨g, 0, none⟩ 1 1 [.string new] hx rfl ?_ ?_ (by unfold maxLen; omega) (by omega) hB ?_
  · intro j u hj
    match j, hj with
    | 0, hj => simp at hj; subst hj; exact hrow
    | n + 1, hj => simp at hj
  · intro u hu
    simp only [List.mem_singleton] at hu
    subst hu
    rfl
  · intro v' w' h1 h2 _
    have hb : BufS w' B v' (l ++ [new]) := by unfold BufS; simpa using h1
    obtain ⟨p', c', rfl, ht, _⟩ := hb.texts
    have e : (l ++ [new]).length = l.length + 1 := by simp
    rw [e] at hb ⊢
    exact h p' c' w' hb ht (Below.grown (Below.refl _ _) h2 hB fun k hk => (World.ownsRow.lt hbuf k hk).1) h2
/-- The same, as a step of a region that draws its order. -/
theorem step_append_textG {w : World} {ops : Array Oper} {o : Oper} {a : Act} {K : Act → World → Prop} {Q : Exit → Act → World → Prop} {E : Prop} (hg : o.guard = none) (s x : Operand)
    (ho : o.op = .call { callee := .builtin .append, args := #[s, x], argTypes := #[33, 33] })
    (B : Nat) (v : Value) (l : List ByteArray) (hs : a.eval s = v) (hbuf : BufS w B v l) (g : Nat) (new : ByteArray) (hx : a.eval x = .slice (some ⟨g, 0, none⟩) 1 1) (hrow : w.cell? ⟨g, 0, none⟩ = some (.string new))
    (hlen : l.length ≤ 1000000) (hB : B ≤ w.heap.size)
    (h : ∀ p' c' w', BufS w' B (.slice p' (l.length + 1) c') (l ++ [new]) → Below B w w' → K (a.put o.dst (.slice p' (l.length + 1) c')) w') : if Region.wanted o (yielded ops a.tmps) = true then Oper.wp Tryz.prog o a w K Q else E :=
  step_append_text hg s x ho B v l hs hbuf g new hx hrow hlen hB fun v' w' hb hb2 => by
    obtain ⟨p', c', rfl, ht, _⟩ := hb.texts
    have e : (l ++ [new]).length = l.length + 1 := by simp
    rw [e] at hb ⊢
    exact h p' c' w' hb hb2
theorem texts_kept {u : World} {B : Nat} {q : Option Addr} {l : List ByteArray} (h : TextsP u q l) (hq : ∀ a, q = some a → B ≤ a.block) (X S : Nat) (hX : X < B) (hS : S < X) (b a0 a1 a2 a3 a4 a5 a6 : Value) :
    TextsP ((((((((u.setCell ⟨X, 6, none⟩ b).setCell ⟨S, 0, none⟩ a0).setCell ⟨S, 1, none⟩ a1).setCell ⟨S, 2, none⟩ a2).setCell ⟨S, 3, none⟩ a3).setCell ⟨S, 4, none⟩ a4).setCell ⟨S, 5, none⟩ a5).setCell ⟨S, 6, none⟩ a6) q l := by
  have step : ∀ (v : World) (g o : Nat) (x : Value), g < B → TextsP v q l → TextsP (v.setCell ⟨g, o, none⟩ x) q l := fun v g o x hg ht i s hs => by
    obtain ⟨a, h1, h2, h3⟩ := ht i s hs
    have hb := hq a h1
    refine ⟨a, h1, by simpa [World.setCell] using h2, ?_⟩
    rw [World.cell?_of_block (w := v) (a := a.add i) (Below.heap_setCell v ⟨g, o, none⟩ x _ (by rw [add_block]; show a.block ≠ g; omega))]
    exact h3
  exact step _ _ _ _ (by omega) (step _ _ _ _ (by omega) (step _ _ _ _ (by omega) (step _ _ _ _ (by omega) (step _ _ _ _ (by omega) (step _ _ _ _ (by omega) (step _ _ _ _ (by omega) (step _ _ _ _ hX h)))))))
theorem lowR_take (L : List Rec) (j : Nat) (h : ∀ i r, i < j → L[i]? = some r → r.n ≤ 281474976710656) (he : j = L.length ∨ ∃ r, L[j]? = some r ∧ ¬ r.n ≤ 281474976710656) : lowR L = L.take j := by
  unfold lowR
  induction L generalizing j with
  | nil => simp
  | cons a r ih =>
    cases j with
    | zero =>
      rcases he with he | ⟨x, hx, hn⟩
      · simp at he
      · simp at hx; subst hx
        rw [List.takeWhile_cons, decide_eq_false hn]; simp
    | succ j =>
      have he' : j = r.length ∨ ∃ x, r[j]? = some x ∧ ¬ x.n ≤ 281474976710656 := by
        rcases he with he | he
        · left; simpa using he
        · right; simpa using he
      rw [List.takeWhile_cons, decide_eq_true (h 0 a (by omega) rfl), if_pos rfl, List.take_succ_cons, ih j (fun i x hi hx => h (i + 1) x (by omega) (by simpa using hx)) he']
theorem take_snoc' {α : Type} (L : List α) (j : Nat) (x : α) (h : L[j]? = some x) : L.take (j + 1) = L.take j ++ [x] := by
  rw [List.take_add_one, h]; rfl
theorem lenRs_le : ∀ (L : List Rec), (∀ r ∈ L, r.t.size ≤ 65536) → lenRs L ≤ L.length * 65552
  | [], _ => by simp [lenRs]
  | r :: L, h => by
    have h1 := h r (by simp)
    have h2 := lenRs_le L (fun x hx => h x (by simp [hx]))
    have e : lenRs (r :: L) = 16 + r.t.size + lenRs L := by simp [lenRs]
    rw [e, List.length_cons]; omega
set_option maxRecDepth 100000 in
set_option maxHeartbeats 4000000 in
theorem Parse_bad (s : ByteArray) (hs : s.size ≤ 1000000) (e0 : Nat) (he : e0 ≠ 0) (r0 : Rec) (u0 : Nat) (hd : decF s = (r0, u0, e0)) (w : World) :
    Calls Tryz.prog 68 #[.string s] w fun e w' => e = .returned (.tuple #[segV Seg.zero (.slice none 0 0), .int .i64 (e0 : Int)]) ∧ Ext w w' := by
  have HD := Lib.hid (fun u => Decode_any s hs u)
  rw [hd] at HD
  dsimp only at HD
  unfold recV at HD
  have hei : ((e0 : Int) != 0) = true := by rw [bne_iff_ne]; omega
  have hb : Blk (w.alloc (.cells zero7.toArray 119)) w.heap.size 119 zero7 := Blk.new w _ _
  have HB := Lib.hid hb
  have HX := Lib.hid ((Ext.refl w).alloc (.cells zero7.toArray 119))
  clear hb hd he
  unfold zero7 at HB HX
  unfold segV Seg.zero
  dsimp only
  go_enter Tryz.func68, Tryz.ntmps68
  go_wp2_with (go_at_call 86; refine (HD.out _).mono ?_; rintro e w1 ⟨rfl, x1⟩; have hb1 := (HB.out.ext x1).alloc (.cells #[.int .u64 (r0.n : Int), .string r0.t] 111); have X1 := Lib.hid (HX.out.trans x1); have t0 := hb1.cell 0 _ rfl; have t1 := hb1.cell 1 _ rfl; have t2 := hb1.cell 2 _ rfl; have t3 := hb1.cell 3 _ rfl; have t4 := hb1.cell 4 _ rfl; have t5 := hb1.cell 5 _ rfl; have t6 := hb1.cell 6 _ rfl; have g0 := hb1.frozen 0; have g1 := hb1.frozen 1; have g2 := hb1.frozen 2; have g3 := hb1.frozen 3; have g4 := hb1.frozen 4; have g5 := hb1.frozen 5; have g6 := hb1.frozen 6; have HB1 := Lib.hid hb1; clear x1 hb1)
  exact bodyPost_ret (results_seg rfl _ _ w.heap.size 119 _ _ _ _ _ _ _ (0, 0) rfl (Blk.set7 HB1.out _ _ _ _ _ _ _)) rfl ⟨rfl, Ext.set7 (X1.out.alloc _) (Nat.le_refl _) _ _ _ _ _ _ _⟩
set_option maxRecDepth 100000 in
set_option maxHeartbeats 4000000 in
theorem Parse_form (s : ByteArray) (hs : s.size ≤ 1000000) (r0 : Rec) (u0 : Nat) (hd : decF s = (r0, u0, 0)) (hb0 : begF r0 = none) (w : World) :
    Calls Tryz.prog 68 #[.string s] w fun e w' => e = .returned (.tuple #[segV Seg.zero (.slice none 0 0), .int .i64 7]) ∧ Ext w w' := by
  have HD := Lib.hid (fun u => Decode_any s hs u)
  have hsz := (decF_itm s).1
  rw [hd] at HD hsz
  dsimp only at HD hsz
  unfold recV at HD
  rw [show ((0 : Nat) : Int) = 0 from rfl] at HD
  have HG := Lib.hid (fun u => begun_any r0.n r0.t (by omega) u)
  rw [show (⟨r0.n, r0.t⟩ : Rec) = r0 from rfl, hb0] at HG
  unfold begV segV Seg.zero at HG
  dsimp only at HG
  rw [show ((0 : Nat) : Int) = 0 from rfl] at HG
  have hb : Blk (w.alloc (.cells zero7.toArray 119)) w.heap.size 119 zero7 := Blk.new w _ _
  have HB := Lib.hid hb
  have HX := Lib.hid ((Ext.refl w).alloc (.cells zero7.toArray 119))
  clear hb hd hb0 hsz
  unfold zero7 at HB HX
  unfold segV Seg.zero
  dsimp only
  go_enter Tryz.func68, Tryz.ntmps68
  go_wp2_with (first
    | (go_at_call 86; refine (HD.out _).mono ?_; rintro e w1 ⟨rfl, x1⟩; have HB1 := Lib.hid ((HB.out.ext x1).alloc (.cells #[.int .u64 (r0.n : Int), .string r0.t] 111)); have X1 := Lib.hid (HX.out.trans x1); have hr1 := Blk.new w1 [.int .u64 (r0.n : Int), .string r0.t] 111; have q0 := hr1.cell 0 _ rfl; have q1 := hr1.cell 1 _ rfl; clear x1 hr1)
    | (go_at_call 87; refine (HG.out _).mono ?_; rintro e w2 ⟨rfl, x2⟩; have hb2 := (HB1.out.ext x2).alloc (.cells #[.int .u8 0, .int .u64 0, .int .u64 0, .string ⟨#[]⟩, .slice none 0 0, .int .i64 0, .bool false] 119); have X2 := Lib.hid (((X1.out.alloc (.cells #[.int .u64 (r0.n : Int), .string r0.t] 111)).trans x2).alloc (.cells #[.int .u8 0, .int .u64 0, .int .u64 0, .string ⟨#[]⟩, .slice none 0 0, .int .i64 0, .bool false] 119)); have t0 := hb2.cell 0 _ rfl; have t1 := hb2.cell 1 _ rfl; have t2 := hb2.cell 2 _ rfl; have t3 := hb2.cell 3 _ rfl; have t4 := hb2.cell 4 _ rfl; have t5 := hb2.cell 5 _ rfl; have t6 := hb2.cell 6 _ rfl; have g0 := hb2.frozen 0; have g1 := hb2.frozen 1; have g2 := hb2.frozen 2; have g3 := hb2.frozen 3; have g4 := hb2.frozen 4; have g5 := hb2.frozen 5; have g6 := hb2.frozen 6; have HB2 := Lib.hid hb2; clear x2 hb2))
  exact bodyPost_ret (results_seg rfl _ _ w.heap.size 119 _ _ _ _ _ _ _ (0, 0) rfl (Blk.set7 HB2.out _ _ _ _ _ _ _)) rfl ⟨rfl, Ext.set7 X2.out (Nat.le_refl _) _ _ _ _ _ _ _⟩
end Go.Proofs.YtbekdcpdfmfopaaGreat
end
