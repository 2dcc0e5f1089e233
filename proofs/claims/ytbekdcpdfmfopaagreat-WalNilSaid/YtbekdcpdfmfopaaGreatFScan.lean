/- Contract: the records in front of bytes, by the program. -/
import Derived.Test.YtbekdcpdfmfopaaGreatM21
import Derived.RangeFuncBox
namespace Go.Proofs.YtbekdcpdfmfopaaGreat
open Go.RowKit Go.Shelf
attribute [local go_sem] Oper.semAt_some

theorem Size_any (s : ByteArray) (hs : s.size ≤ 1000000) (w : World) : Calls Tryz.prog 84 #[.string s] w fun e w' => e = .returned (.int .i64 ((16 + s.size : Nat) : Int)) ∧ w = w' := by
  have hw : IntKind.i64.wrap (16 + (s.size : Int)) = 16 + (s.size : Int) := IntWalk.i64_in _ ⟨by omega, by omega⟩
  go_enter Tryz.func84, Tryz.ntmps84
  go_wp2
  go_ret
  exact ⟨by go_num, rfl⟩
theorem sum_mod (first n : Nat) (hf : first < 18446744073709551616) (hn : n ≤ 1000000) : IntKind.u64.wrap ((first : Int) + (n : Int)) = (((first + n) % 18446744073709551616 : Nat) : Int) := by
  by_cases h : first + n < 18446744073709551616
  · rw [Nat.mod_eq_of_lt h]
    exact u64_nat (x := first + n) h
  · have e : (first + n) % 18446744073709551616 = first + n - 18446744073709551616 := by omega
    rw [e]
    simp [IntKind.wrap, IntKind.signed, IntKind.bits]
    omega
/-- What a scan keeps: the first number, the records that came, how many bytes they have, no fault. -/
def ScI (o bl bu be first : Nat) (pre : List Itm) (W : World) : Prop :=
  Blk W o 38 [.int .u64 (first : Int)] ∧ (∃ v, Blk W bl 139 [v] ∧ BufR W o v (recsI pre)) ∧ Blk W bu 3 [.int .i64 (lenI pre : Int)] ∧ Blk W be 30 [.int .i64 0] ∧ GoodI pre first
/-- What a scan leaves that was broken off. -/
def ScX (o bl bu be first : Nat) (c : Code) (pre : List Itm) (W : World) : Prop :=
  c = .ret ∧ ∃ (L : List Rec) (u e : Nat), (∃ v, Blk W bl 139 [v] ∧ BufR W o v L) ∧ Blk W bu 3 [.int .i64 (u : Int)] ∧ Blk W be 30 [.int .i64 (e : Int)] ∧ ∀ t, scanI (pre ++ t) first = (L, u, e)
theorem blk_kept {W W' : World} {row : Option Nat} {b : Nat} {T : TypeId} {cs : List Value} (h : Blk W b T cs) (hg : W.grownBy W' row) (hr : ∀ r, row = some r → ∃ o : Obj, W.heap[r]? = some o ∧ o.isCells = false) : Blk W' b T cs :=
  (grownBy_keeps_cells hg hr h rfl).trans h
theorem buf_kept {W W' : World} {row : Option Nat} {B : Nat} {v : Value} {L : List Rec} (h : BufR W B v L) (hg : W.grownBy W' row) (hr : ∀ r, row = some r → ∃ o : Obj, W.heap[r]? = some o ∧ o.isCells = false) : BufR W' B v L :=
  h.kept fun _ _ _ _ hk => (grownBy_keeps_cells hg hr hk rfl).trans hk
theorem scI_own (o bl bu be first : Nat) : Own (ScI o bl bu be first) := fun s X Y row hs hg hr => by
  obtain ⟨h1, ⟨v, h2, h3⟩, h4, h5, h6⟩ := hs
  exact ⟨blk_kept h1 hg hr, ⟨v, blk_kept h2 hg hr, buf_kept h3 hg hr⟩, blk_kept h4 hg hr, blk_kept h5 hg hr, h6⟩
theorem scX_own (o bl bu be first : Nat) (c : Code) : Own (ScX o bl bu be first c) := fun s X Y row hs hg hr => by
  obtain ⟨h1, L, u, e, ⟨v, h2, h3⟩, h4, h5, h6⟩ := hs
  exact ⟨h1, L, u, e, ⟨v, blk_kept h2 hg hr, buf_kept h3 hg hr⟩, blk_kept h4 hg hr, blk_kept h5 hg hr, h6⟩
/-- A store into a block of another type hurts no slice of records. -/
theorem BufR.set_ {W : World} {B : Nat} {v : Value} {L : List Rec} (h : BufR W B v L) {b : Nat} {T : TypeId} {cs : List Value} (hb : Blk W b T cs) (hT : T ≠ 111) (o : Nat) (u : Value) : BufR (W.setCell ⟨b, o, none⟩ u) B v L :=
  h.kept fun g cs' fz _ hk => (Below.heap_setCell _ ⟨b, o, none⟩ _ g (fun e => by
    subst e
    unfold Blk at hb
    rw [hb] at hk
    cases hk
    exact hT rfl)).trans hk
theorem BufR.own_lt {W : World} {B : Nat} {v : Value} {L : List Rec} (h : BufR W B v L) {b : Nat} (e : v.ownBlock = some b) : b < W.heap.size := (World.ownsRow.lt h b e).2
/-- Three stores, of what is handed back. -/
theorem three_put {W : World} {o bl bu be : Nat} {v v0 x0 x y0 y : Value} {L : List Rec} (h01 : o < bl) (h12 : bl < bu) (h23 : bu < be) (h2 : Blk W bl 139 [v0]) (h4 : Blk W bu 3 [x0]) (h5 : Blk W be 30 [y0]) (h3 : BufR W o v L) :
    ∃ Z, Z = (((W.setCell ⟨bl, 0, none⟩ v).setCell ⟨bu, 0, none⟩ x).setCell ⟨be, 0, none⟩ y).drew ∧ Blk Z bl 139 [v] ∧ Blk Z bu 3 [x] ∧ Blk Z be 30 [y] ∧ BufR Z o v L ∧ Below o W Z ∧ KeepsOthers W Z := by
  have a2 := h2.set_ 0 v
  have a4 : Blk (W.setCell ⟨bl, 0, none⟩ v) bu 3 [x0] := h4.other (by omega) 0 v
  have a5 : Blk (W.setCell ⟨bl, 0, none⟩ v) be 30 [y0] := h5.other (by omega) 0 v
  have a3 := h3.set_ h2 (by decide) 0 v
  have b2 : Blk ((W.setCell ⟨bl, 0, none⟩ v).setCell ⟨bu, 0, none⟩ x) bl 139 [v] := a2.other (by omega) 0 x
  have b4 := a4.set_ 0 x
  have b5 : Blk ((W.setCell ⟨bl, 0, none⟩ v).setCell ⟨bu, 0, none⟩ x) be 30 [y0] := a5.other (by omega) 0 x
  have b3 := a3.set_ a4 (by decide) 0 x
  refine ⟨_, rfl, b2.other (g := be) (by omega) 0 y, b4.other (g := be) (by omega) 0 y, b5.set_ 0 y, b3.set_ b5 (by decide) 0 y, ?_, ?_⟩
  · exact ((((Below.refl o W).setCell (p := ⟨bl, 0, none⟩) (Nat.le_of_lt h01) v).setCell (p := ⟨bu, 0, none⟩) (by show o ≤ bu; omega) x).setCell (p := ⟨be, 0, none⟩) (by show o ≤ be; omega) y).drew
  · exact (((KeepsOthers.setCell W _ v).trans (KeepsOthers.setCell _ _ x)).trans (KeepsOthers.setCell _ _ y)).trans (KeepsOthers.drew _)
theorem load_list (w : World) (a : Addr) (v : Value) (h : w.cell? a = some v) : (loadVar 139 a).run Tryz.prog w = .ok v w := by
  simp [loadVar, isAgg, run_underlying Tryz.underlying139, h]
theorem load_int (w : World) (a : Addr) (v : Value) (h : w.cell? a = some v) : (loadVar 3 a).run Tryz.prog w = .ok v w := by
  simp [loadVar, isAgg, run_underlying Tryz.underlying3, h]
theorem load_err (w : World) (a : Addr) (v : Value) (h : w.cell? a = some v) : (loadVar 30 a).run Tryz.prog w = .ok v w := by
  simp [loadVar, isAgg, run_underlying Tryz.underlying30, h]
theorem results_scan {fn : Func} {p q r : Tmp} (h : fn.results = #[.cell p 139, .cell q 3, .cell r 30]) (tmps : Array Value) (w : World) (a b c : Addr) (x y z : Value)
    (hp : tmps.getD p undef = .pointer (some a)) (hq : tmps.getD q undef = .pointer (some b)) (hr : tmps.getD r undef = .pointer (some c)) (ha : w.cell? a = some x) (hb : w.cell? b = some y) (hc : w.cell? c = some z) :
    (results fn tmps).run Tryz.prog w = .ok (.tuple #[x, y, z]) w := by
  have hp' : tmps[p]?.getD undef = .pointer (some a) := by simpa using hp
  have hq' : tmps[q]?.getD undef = .pointer (some b) := by simpa using hq
  have hr' : tmps[r]?.getD undef = .pointer (some c) := by simpa using hr
  simp [results, h, hp', hq', hr', asAddr, load_list w a x ha, load_int w b y hb, load_err w c z hc]
set_option maxRecDepth 100000 in
set_option maxHeartbeats 4000000 in
theorem Scan_any (w : World) (s : ByteArray) (hs : s.size ≤ 1000000) (first : Nat) (hf : first < 18446744073709551616) :
    Calls Tryz.prog 88 #[.string s, .int .u64 (first : Int)] w fun e w' => ∃ v, e = .returned (.tuple #[v, .int .i64 ((scanF s first).2.1 : Int), .int .i64 ((scanF s first).2.2 : Int)]) ∧ Ext w w' ∧ BufR w' w.heap.size v (scanF s first).1 := by
  refine (callsIn_wide (n := 9)).1 ?_
  refine callsIn_of_wp_marks Tryz.func88 rfl trivial ?_ rfl
  simp only [Tryz.ntmps88, List.size_toArray, List.length_cons, List.length_nil, Nat.reduceAdd, Nat.reduceSub, Array.replicate_succ, Array.replicate_zero, List.push_toArray, List.append_toArray, List.nil_append, List.cons_append]
  gi_wp2_with (refine ⟨trivial, ?_⟩; gi_at_call 106; refine (callsIn_wide.2 (frames_any _ _)).mono ?_; rintro e w2 ⟨rfl, rfl⟩)
  have hb0 : Blk (((((w.alloc (.cells #[.int .u64 (first : Int)] 38)).alloc (.cells #[.slice none 0 0] 139)).alloc (.cells #[.int .i64 0] 3)).alloc (.cells #[.int .i64 0] 30)).alloc (.cells #[.string s] 9)) w.heap.size 38 [.int .u64 (first : Int)] := ((((Blk.new w _ _).alloc _).alloc _).alloc _).alloc _
  have hb1 : Blk (((((w.alloc (.cells #[.int .u64 (first : Int)] 38)).alloc (.cells #[.slice none 0 0] 139)).alloc (.cells #[.int .i64 0] 3)).alloc (.cells #[.int .i64 0] 30)).alloc (.cells #[.string s] 9)) (w.heap.size + 1) 139 [.slice none 0 0] := by
    have := (((Blk.new (w.alloc (.cells #[.int .u64 (first : Int)] 38)) [.slice none 0 0] 139).alloc (.cells #[.int .i64 0] 3)).alloc (.cells #[.int .i64 0] 30)).alloc (.cells #[.string s] 9)
    simpa using this
  have hb2 : Blk (((((w.alloc (.cells #[.int .u64 (first : Int)] 38)).alloc (.cells #[.slice none 0 0] 139)).alloc (.cells #[.int .i64 0] 3)).alloc (.cells #[.int .i64 0] 30)).alloc (.cells #[.string s] 9)) (w.heap.size + 1 + 1) 3 [.int .i64 0] := by
    have := ((Blk.new ((w.alloc (.cells #[.int .u64 (first : Int)] 38)).alloc (.cells #[.slice none 0 0] 139)) [.int .i64 0] 3).alloc (.cells #[.int .i64 0] 30)).alloc (.cells #[.string s] 9)
    simpa using this
  have hb3 : Blk (((((w.alloc (.cells #[.int .u64 (first : Int)] 38)).alloc (.cells #[.slice none 0 0] 139)).alloc (.cells #[.int .i64 0] 3)).alloc (.cells #[.int .i64 0] 30)).alloc (.cells #[.string s] 9)) (w.heap.size + 1 + 1 + 1) 30 [.int .i64 0] := by
    have := (Blk.new (((w.alloc (.cells #[.int .u64 (first : Int)] 38)).alloc (.cells #[.slice none 0 0] 139)).alloc (.cells #[.int .i64 0] 3)) [.int .i64 0] 30).alloc (.cells #[.string s] 9)
    simpa using this
  have hb4 : Blk (((((w.alloc (.cells #[.int .u64 (first : Int)] 38)).alloc (.cells #[.slice none 0 0] 139)).alloc (.cells #[.int .i64 0] 3)).alloc (.cells #[.int .i64 0] 30)).alloc (.cells #[.string s] 9)) (w.heap.size + 1 + 1 + 1 + 1) 9 [.string s] := by
    have := Blk.new ((((w.alloc (.cells #[.int .u64 (first : Int)] 38)).alloc (.cells #[.slice none 0 0] 139)).alloc (.cells #[.int .i64 0] 3)).alloc (.cells #[.int .i64 0] 30)) [.string s] 9
    simpa using this
  have hx0 : Ext w (((((w.alloc (.cells #[.int .u64 (first : Int)] 38)).alloc (.cells #[.slice none 0 0] 139)).alloc (.cells #[.int .i64 0] 3)).alloc (.cells #[.int .i64 0] 30)).alloc (.cells #[.string s] 9)) := (((((Ext.refl w).alloc _).alloc _).alloc _).alloc _).alloc _
  generalize (((((w.alloc (.cells #[.int .u64 (first : Int)] 38)).alloc (.cells #[.slice none 0 0] 139)).alloc (.cells #[.int .i64 0] 3)).alloc (.cells #[.int .i64 0] 30)).alloc (.cells #[.string s] 9)) = W0 at *
  obtain ⟨o, ho⟩ : ∃ o, o = w.heap.size := ⟨_, rfl⟩
  obtain ⟨bl, hbl⟩ : ∃ b, b = w.heap.size + 1 := ⟨_, rfl⟩
  obtain ⟨bu, hbu⟩ : ∃ b, b = w.heap.size + 1 + 1 := ⟨_, rfl⟩
  obtain ⟨be, hbe⟩ : ∃ b, b = w.heap.size + 1 + 1 + 1 := ⟨_, rfl⟩
  obtain ⟨bs, hbs⟩ : ∃ b, b = w.heap.size + 1 + 1 + 1 + 1 := ⟨_, rfl⟩
  rw [← hbs] at hb4
  rw [← hbe] at hb3
  rw [← hbu] at hb2
  rw [← hbl] at hb1
  rw [← ho] at hb0
  rw [← hbs, ← hbe, ← hbu, ← hbl, ← ho]
  have h01 : o < bl := by omega
  have h12 : bl < bu := by omega
  have h23 : bu < be := by omega
  have h34 : be < bs := by omega
  have hz0 := hb4.lt
  have Hx0 := Lib.hid hx0; have Ho := Lib.hid ho
  have hB0 : Below o w W0 := by rw [ho]; exact hx0.below
  clear hbs hbe hbu hbl ho hx0
  refine wpIn_rangeFunc_ownH rfl (by omega) (gf := 119) (lb := #[.pointer (some ⟨bs, 0, none⟩)]) rfl trivial (enters_of Tryz.func119 (by kernel_rfl) rfl)
    (frames_stops (9 - 1) (by omega) bs o s hs W0 (by omega) hz0 (hb4.cell 0 _ rfl)) belowK_t (belowK_b (by omega)) (Below.refl _ _) (fun _ => rfl)
    (fun pre W => ScI o bl bu be first pre W ∧ Below o w W) (fun c pre W => ScX o bl bu be first c pre W ∧ Below o w W)
    (OwnFrom.and (Own.from (scI_own _ _ _ _ _) _) (ownFrom_below (by rw [Ho.out]; exact Nat.le_refl _) (by omega)))
    (fun c => OwnFrom.and (Own.from (scX_own _ _ _ _ _ c) _) (ownFrom_below (by rw [Ho.out]; exact Nat.le_refl _) (by omega)))
    ⟨⟨hb0, ⟨_, hb1, BufR.nil _ _⟩, hb2, hb3, trivial⟩, hB0⟩
    (fun x a' W => ∃ Bx, be < Bx ∧ Blk W Bx 111 (recCells x.1.1) ∧ (∃ v, Blk W bl 139 [v] ∧ v.ownBlock ≠ some Bx) ∧ a' = { tmps := #[.string s, .int .u64 (first : Int), undef, .pointer (some ⟨o, 0, none⟩), .pointer (some ⟨bl, 0, none⟩), .pointer (some ⟨bu, 0, none⟩), .pointer (some ⟨be, 0, none⟩), .pointer (some ⟨Bx, 0, none⟩), .int .i64 (x.1.2 : Int), .string s, .func (.func 119) #[] #[.pointer (some ⟨bs, 0, none⟩)], recV x.1.1, .int .i64 (x.1.2 : Int),
      undef, undef, undef, undef, undef, undef, undef, undef, undef, undef, undef, undef, undef, undef, undef, undef, undef, undef, undef, undef, undef, undef, undef, undef, undef, undef, undef, undef], defers := [] })
    (fun x a' _ X Y row hs hg hr => by obtain ⟨Bx, h1, h2, ⟨v, h4, h5⟩, h3⟩ := hs; exact ⟨Bx, h1, blk_kept h2 hg (fun r e => (hr r e).2), ⟨v, blk_kept h4 hg (fun r e => (hr r e).2), h5⟩, h3⟩)
    ?assign ?body ?done ?stop
  case assign =>
    rintro l pre x W K ⟨hI, hB1⟩ hK
    obtain ⟨h1, ⟨v, h2, h3⟩, h4, h5, h6⟩ := hI
    unfold recV at hK ⊢
    gi_wp2
    exact hK _ _ ((KeepsOthers.alloc _ _).from _) ((Below.refl _ W).alloc (Nat.le_of_lt h1.lt) _) ⟨⟨h1.alloc _, ⟨v, h2.alloc _, h3.ext ((Ext.refl _).alloc _)⟩, h4.alloc _, h5.alloc _, h6⟩, hB1.alloc (Nat.le_of_lt h1.lt) _⟩ ⟨W.heap.size, h5.lt, Blk.new W _ _, ⟨v, h2.alloc _, fun e => Nat.lt_irrefl _ (h3.own_lt e)⟩, rfl⟩
  case body =>
    rintro l pre x a' W hl ⟨r, hr⟩ ⟨⟨h1, ⟨v, h2, h3⟩, h4, h5, h6⟩, hB1⟩ ⟨Bx, hBx, bX, ⟨v', hv', hvB⟩, rfl⟩ hlt
    obtain rfl : v = v' := by
      have e := h2.symm.trans hv'
      simpa using e
    obtain ⟨p, c, rfl, h3r, _⟩ := h3.recs
    have hpl : pre.length ≤ 1000000 := Nat.le_of_lt (Nat.lt_of_lt_of_le hlt (Nat.le_trans (allI_length _ _ (Nat.le_refl _)) hs))
    have hmx : Tryz.prog.follows .mixedOrders = true := by kernel_rfl
    have c1 := h1.cell 0 _ rfl
    have c2 := h2.cell 0 _ rfl
    have c4 := h4.cell 0 _ rfl
    have c5 := h5.cell 0 _ rfl
    have f2 := h2.frozen 0
    have f4 := h4.frozen 0
    have f5 := h5.frozen 0
    have x0 := bX.cell 0 _ rfl
    have x1 := bX.cell 1 _ rfl
    have he101 := x.2.2.2
    have hx64 := x.2.2.1
    have hx16 := x.2.1
    have H1 := Lib.hid h1; have H2 := Lib.hid h2; have H3 := Lib.hid h3; have H4 := Lib.hid h4; have H5 := Lib.hid h5; have H6 := Lib.hid h6; have HB1 := Lib.hid hB1; have BX := Lib.hid bX; have HV := Lib.hid hvB
    clear h1 h2 h3 h4 h5 h6 hB1 bX hvB hv' h3r
    by_cases he : x.1.2 = 0
    · have hwl : IntKind.u64.wrap ((recsI pre).length : Int) = ((recsI pre).length : Int) := u64_nat (x := (recsI pre).length) (by rw [recsI_length]; omega)
      have hsm := sum_mod first (recsI pre).length hf (by rw [recsI_length]; exact hpl)
      have hlen := recsI_length pre
      by_cases hn : x.1.1.n = (first + pre.length) % 18446744073709551616
      · have HG := Lib.hid (good_snoc pre x first hf H6.out he hn)
        have hul := lenI_le pre
        have HSz := Lib.hid (fun u => Size_any x.1.1.t (by omega) u)
        have HRs := Lib.hid (recsI_snoc pre x)
        have HLs := Lib.hid (lenI_snoc pre x)
        have hwu : IntKind.i64.wrap ((lenI pre : Int) + ((16 + x.1.1.t.size : Nat) : Int)) = ((lenI pre + (16 + x.1.1.t.size) : Nat) : Int) := by
          rw [IntWalk.i64_in _ ⟨by omega, by omega⟩]; omega
        rw [hlen] at hsm hwl
        rw [← hn] at hsm
        rw [← hlen] at hsm hwl
        unfold recV
        rw [he]
        have HRow : Hid (BufR W o (.slice p (recsI pre).length c) (recsI pre)) := H3
        have HBn : Hid (∀ u : World, Blk (u.alloc (.cells #[.int .u64 (x.1.1.n : Int), .string x.1.1.t] 111)) u.heap.size 111 (recCells x.1.1)) := Lib.hid (fun u => Blk.new u _ _)
        have hl6 : (recsI pre).length ≤ 1000000 := by rw [hlen]; exact hpl
        have HlW := Lib.hid (show o ≤ W.heap.size from Nat.le_of_lt H1.out.lt)
        have hPl : (recsI pre).length + 1 = (recsI (pre ++ [x])).length := by rw [HRs.out, List.length_append]; rfl
        have Hlen := Lib.hid hlen; have Hf := Lib.hid hf
        clear H6 he hn hlen hpl hwl hPl hf
        have hwl : IntKind.u64.wrap ((recsI pre).length : Int) = ((recsI pre).length : Int) := u64_nat (x := (recsI pre).length) (by omega)
        generalize hR : x.1.1 = R at *
        have Hrs := Lib.hid hR
        clear hR
        generalize hP : recsI pre = P at *
        have HP := Lib.hid hP
        clear hP
        generalize hU : lenI pre = U at *
        have HU := Lib.hid hU
        clear hU Hlen HP HU
        gi_wp2_with (refine append_recIn rfl (.tmp 30) (.tmp 32) rfl o _ P rfl (HRow.out.ext ((Ext.refl W).alloc _)) W.heap.size R rfl (HBn.out W) hl6 (by have := HlW.out; simp; omega) ?_; intro v2 w2 hb2 hx2 hg2; obtain ⟨p2, k2, rfl, _, _⟩ := hb2.recs; obtain ⟨q1, q2, q3, q4, q5⟩ := Boxed.appended (t := 139) (e := 111) (size := 2) (n₀ := o) H2.out (by decide) HRow.out HlW.out (Nat.le_of_lt h01) hb2 hg2; have e2 := Boxed.cell q1; have g2 := Boxed.frozen q1; have Q1 := Lib.hid q1; have Q2 := Lib.hid q2; have Q3 := Lib.hid q3; have Q4 := Lib.hid q4; have Q5 := Lib.hid q5; have Hg2 := Lib.hid hg2; clear q1 q2 q3 q4 q5 hg2 hb2 hx2)
        have el : (P ++ [R]).length = P.length + 1 := by simp
        have Hg3 : (W.alloc (.cells #[.int .u64 (R.n : Int), .string R.t] 111)).grownBy w2 (Value.slice p P.length c).ownBlock := Hg2.out
        rw [el] at Q2 Q3 Q4 Q5
        have d1 : Blk w2 o 38 [.int .u64 (first : Int)] := Boxed.kept (Boxed.alloc H1.out _) Hg3 (Boxed.not_row H1.out (by decide) HRow.out)
        have d4 : Blk w2 bu 3 [.int .i64 (U : Int)] := Boxed.kept (Boxed.alloc H4.out _) Hg3 (Boxed.not_row H4.out (by decide) HRow.out)
        have d5 : Blk w2 be 30 [.int .i64 0] := Boxed.kept (Boxed.alloc H5.out _) Hg3 (Boxed.not_row H5.out (by decide) HRow.out)
        have dX : Blk w2 Bx 111 (recCells R) := (Hg3.block Bx (BX.out.alloc (.cells #[.int .u64 (R.n : Int), .string R.t] 111)).lt (fun e => HV.out e.symm)).trans (BX.out.alloc _)
        have k1 := d1.other (g := bl) (by omega) 0 (.slice p2 (P.length + 1) k2)
        have k4 := d4.other (g := bl) (by omega) 0 (.slice p2 (P.length + 1) k2)
        have k5 := d5.other (g := bl) (by omega) 0 (.slice p2 (P.length + 1) k2)
        have kX := dX.other (g := bl) (by omega) 0 (.slice p2 (P.length + 1) k2)
        have Q3' : BufR (w2.setCell ⟨bl, 0, none⟩ (.slice p2 (P.length + 1) k2)) o (.slice p2 (P.length + 1) k2) (P ++ [R]) := by unfold BufR; rw [el]; exact Q3.out
        have Q2' : Blk (w2.setCell ⟨bl, 0, none⟩ (.slice p2 (P.length + 1) k2)) bl 139 [.slice p2 (P.length + 1) k2] := Q2.out
        have R3 := Lib.hid Q3'
        have R2 := Lib.hid Q2'
        have R1 := Lib.hid k1
        have R4 := Lib.hid k4
        have R5 := Lib.hid k5
        clear c1 c2 c4 c5 f2 f4 f5 x0 x1 e2 g2 d1 d4 d5 dX k1 k5 Q3' Q2' Hg3
        have c4 := k4.cell 0 _ rfl
        have f4 := k4.frozen 0
        have x1 := kX.cell 1 _ rfl
        clear k4 kX Q1 Q2 Q3 Hg2 H2 H3 H4 H5 H1 HRow BX HV HBn
        generalize (w2.setCell ⟨bl, 0, none⟩ (.slice p2 (P.length + 1) k2)) = W3 at *
        have hlU := HLs.out
        generalize hU2 : U + (16 + R.t.size) = U2 at *
        generalize 16 + R.t.size = sz at *
        gi_region_with_o (refine ⟨trivial, ?_⟩; gi_at_call 84; refine (CallsIn.inRound l (callsIn_wide.2 (HSz.out _))).mono ?_; rintro e w6 ⟨rfl, rfl⟩)
        all_goals
          gi_wp2
          refine ⟨((Q4.out.trans (KeepsOthers.setCell _ ⟨bu, 0, none⟩ _)).trans (KeepsOthers.drew _)).from _, ((Q5.out.setCell (p := ⟨bu, 0, none⟩) (by show o ≤ bu; omega) _).drew), ⟨(R1.out.other (g := bu) (by omega) 0 _).drew, ⟨_, (R2.out.other (g := bu) (by omega) 0 _).drew, ?_⟩, ?_, (R5.out.other (g := bu) (by omega) 0 _).drew, HG.out⟩, HB1.out.trans ((Q5.out.setCell (p := ⟨bu, 0, none⟩) (by show o ≤ bu; omega) _).drew)⟩
          · rw [HRs.out]; exact (R3.out.set_ R4.out (by decide) 0 _).drew
          · rw [hlU]; exact (R4.out.set_ 0 _).drew
      · have hne : ((x.1.1.n : Int) != (((first + (recsI pre).length) % 18446744073709551616 : Nat) : Int)) = true := by
          rw [hlen]
          have q : ¬ (x.1.1.n : Int) = (((first + pre.length) % 18446744073709551616 : Nat) : Int) := by omega
          simpa using q
        have HX : Hid (∀ t, scanI (pre ++ [x] ++ t) first = (recsI pre, lenI pre, 7)) := Lib.hid (fun t => scanI_form hf H6.out he hn)
        obtain ⟨Z, hZ, z2, z4, z5, z3, zb, zk⟩ := three_put (y := .int .i64 7) (x := .int .i64 (lenI pre : Int)) h01 h12 h23 H2.out H4.out H5.out H3.out
        have HZ := Lib.hid hZ; have Z2 := Lib.hid z2; have Z3 := Lib.hid z3; have Z4 := Lib.hid z4; have Z5 := Lib.hid z5; have ZB := Lib.hid zb; have ZK := Lib.hid zk
        unfold recV
        rw [he]
        clear hZ z2 z3 z4 z5 zb zk he H6 hn hlen
        generalize (((first + (recsI pre).length) % 18446744073709551616 : Nat) : Int) = m at *
        gi_wp2
        gi_region_with_o (fail)
        all_goals
          rw [← HZ.out]
          gi_wp2
          exact ⟨ZK.out.from _, ⟨rfl, recsI pre, lenI pre, 7, ⟨_, Z2.out, Z3.out⟩, Z4.out, Z5.out, HX.out⟩, HB1.out.trans ZB.out⟩
    · have hne0 : ((x.1.2 : Int) != 0) = true := by
        have q : ¬ (x.1.2 : Int) = 0 := by omega
        simpa using q
      have HX : Hid (∀ t, scanI (pre ++ [x] ++ t) first = (recsI pre, lenI pre, x.1.2)) := Lib.hid (fun t => scanI_fault hf H6.out he)
      obtain ⟨Z, hZ, z2, z4, z5, z3, zb, zk⟩ := three_put (y := .int .i64 (x.1.2 : Int)) (x := .int .i64 (lenI pre : Int)) h01 h12 h23 H2.out H4.out H5.out H3.out
      have HZ := Lib.hid hZ; have Z2 := Lib.hid z2; have Z3 := Lib.hid z3; have Z4 := Lib.hid z4; have Z5 := Lib.hid z5; have ZB := Lib.hid zb; have ZK := Lib.hid zk
      clear hZ z2 z3 z4 z5 zb zk he H6
      unfold recV
      generalize x.1.2 = e0 at *
      gi_wp2
      gi_region_with_o (fail)
      all_goals
        rw [← HZ.out]
        gi_wp2
        exact ⟨ZK.out.from _, ⟨rfl, recsI pre, lenI pre, e0, ⟨_, Z2.out, Z3.out⟩, Z4.out, Z5.out, HX.out⟩, HB1.out.trans ZB.out⟩
  case done =>
    rintro D ys W hD rfl ⟨⟨h1, ⟨v, h2, h3⟩, h4, h5, h6⟩, hB1⟩ hK
    obtain ⟨p, c, rfl, h3r, _⟩ := h3.recs
    have H2 := Lib.hid h2; have H3 := Lib.hid h3; have H4 := Lib.hid h4; have H5 := Lib.hid h5; have HB1 := Lib.hid hB1; have HK := Lib.hid hK
    have hS : Hid (scanF s first = (recsI (allI s), lenI (allI s), 0)) := Lib.hid (scanI_all hf h6)
    have c2 := h2.cell 0 _ rfl
    have c4 := h4.cell 0 _ rfl
    have c5 := h5.cell 0 _ rfl
    have f2 := h2.frozen 0
    have f4 := h4.frozen 0
    have f5 := h5.frozen 0
    have hmx : Tryz.prog.follows .mixedOrders = true := by kernel_rfl
    clear h1 h2 h3 h4 h5 h6 hB1 hK h3r
    obtain ⟨Z, hZ, z2, z4, z5, z3, zb, zk⟩ := three_put (y := .int .i64 0) (x := .int .i64 (lenI (allI s) : Int)) h01 h12 h23 H2.out H4.out H5.out H3.out
    have HZ := Lib.hid hZ; have Z2 := Lib.hid z2; have Z3 := Lib.hid z3; have Z4 := Lib.hid z4; have Z5 := Lib.hid z5; have ZB := Lib.hid zb; have ZK := Lib.hid zk
    clear hZ z2 z3 z4 z5 zb zk
    gi_wp2
    gi_region_with_o (fail)
    all_goals
      rw [← HZ.out]
      gi_wp2
      have hKZ : Z.heap[D]? = some (.deferred (some [])) := (ZK.out.same _ _ HK.out rfl)
      refine ⟨by simp, .inl ⟨_, _, rfl, run_takeDeferred hKZ, ?_⟩⟩
      have kept : ∀ {b : Nat} {T : TypeId} {cs : List Value} {o' : Obj}, Blk Z b T cs → Blk (Z.putObj D o') b T cs := fun h => blk_kept h (grownBy_putObj' Z D _) (fun r e => by cases e; exact ⟨_, hKZ, rfl⟩)
      refine ⟨_, results_scan rfl _ _ ⟨bl, 0, none⟩ ⟨bu, 0, none⟩ ⟨be, 0, none⟩ _ _ _ rfl rfl rfl ((kept Z2.out).cell 0 _ rfl) ((kept Z4.out).cell 0 _ rfl) ((kept Z5.out).cell 0 _ rfl), _, by rw [hS.out]; rfl, ?_, ?_⟩
      · exact (Ho.out ▸ (HB1.out.trans ZB.out) : Below w.heap.size w Z).trans (belowK_b (w := w) (Nat.le_refl _) Z D _ _ (by have := Ho.out; omega) hKZ rfl rfl)
      · rw [hS.out, ← Ho.out]
        exact buf_kept Z3.out (grownBy_putObj' Z D _) (fun r e => by cases e; exact ⟨_, hKZ, rfl⟩)
  case stop =>
    rintro D c pre W hD ⟨t, ht⟩ ⟨⟨rfl, L, u, e, ⟨v, h2, h3⟩, h4, h5, h6⟩, hB1⟩ hK
    have hS : scanF s first = (L, u, e) := by rw [scanF_eq, ← ht]; exact h6 t
    gi_wp2
    refine ⟨by simp, .inl ⟨_, _, rfl, run_takeDeferred hK, ?_⟩⟩
    have kept : ∀ {b : Nat} {T : TypeId} {cs : List Value} {o' : Obj}, Blk W b T cs → Blk (W.putObj D o') b T cs := fun h => blk_kept h (grownBy_putObj' W D _) (fun r e => by cases e; exact ⟨_, hK, rfl⟩)
    refine ⟨_, results_scan rfl _ _ ⟨bl, 0, none⟩ ⟨bu, 0, none⟩ ⟨be, 0, none⟩ _ _ _ rfl rfl rfl ((kept h2).cell 0 _ rfl) ((kept h4).cell 0 _ rfl) ((kept h5).cell 0 _ rfl), v, by rw [hS], ?_, ?_⟩
    · exact (Ho.out ▸ hB1 : Below w.heap.size w W).trans (belowK_b (w := w) (Nat.le_refl _) W D _ _ (by have := Ho.out; omega) hK rfl rfl)
    · rw [hS, ← Ho.out]
      exact buf_kept h3 (grownBy_putObj' W D _) (fun r e => by cases e; exact ⟨_, hK, rfl⟩)
end Go.Proofs.YtbekdcpdfmfopaaGreat
