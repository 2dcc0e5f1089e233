/- Contract: Copy, by the document's answer. -/
import Derived.Test.YtgbhadgkkefokaaRefNew
import Derived.Test.YtgbhadgkkefokaaCopyW
import Derived.Deep.RegionHeld3
namespace Go.Proofs.Ytgbhadgkkefokaa
open Go.RowKit
theorem Sl.foot {w : World} {κ κ2 : Foot} {k z : Nat} {T : TypeId} {p : Option Addr} {n c : Nat} {vs : List Value} (h : Sl w κ k z T p n c vs) (hk : ∀ g, p = some ⟨g, 0, none⟩ → κ g = k → κ2 g = k) : Sl w κ2 k z T p n c vs :=
  ⟨h.1, h.2.1, h.2.2.1, fun hc => by
    obtain ⟨g, cur, h1, h2, h3⟩ := h.2.2.2 hc
    exact ⟨g, cur, h1, hk g h1 h2, h3⟩⟩
def ccells (p1 : Option Addr) (c1 : Nat) (p2 : Option Addr) (c2 : Nat) (d : DS) : List Value := [.slice p1 d.m c1, .slice p2 d.L.length c2, .int .i64 (d.room : Int), .int .i64 d.fuse]
theorem built_c (p1 : Option Addr) (c1 : Nat) (p2 : Option Addr) (c2 : Nat) (d : DS) : Try.prog.built 60 [(0, .slice p1 d.m c1), (1, .slice p2 d.L.length c2), (2, .int .i64 (d.room : Int)), (3, .int .i64 d.fuse)] = some (ccells p1 c1 p2 c2 d).toArray := by kernel_rfl
def H1P (w : World) (d : DS) (u : World) (p : Option Addr) (c : Nat) : Prop := ∃ κ1, Sl u κ1 3 1 9 p d.m c (txs d.S d.m) ∧ ∀ g, κ1 g ≠ 0 → w.heap.size ≤ g ∧ g < u.heap.size
def H2P (w : World) (d : DS) (u : World) (p : Option Addr) (c : Nat) : Prop := ∃ κ1, Sl u κ1 4 4 63 p d.L.length c (chgsV d.L) ∧ ∀ g, κ1 g ≠ 0 → w.heap.size ≤ g ∧ g < u.heap.size
theorem H1P.ext {w : World} {d : DS} {u u' : World} {p : Option Addr} {c : Nat} (h : H1P w d u p c) (hx : Ext u u') : H1P w d u' p c := by
  obtain ⟨κ1, s, f⟩ := h
  exact ⟨κ1, s.ext hx, fun g hg => ⟨(f g hg).1, Nat.lt_of_lt_of_le (f g hg).2 hx.size⟩⟩
theorem H2P.ext {w : World} {d : DS} {u u' : World} {p : Option Addr} {c : Nat} (h : H2P w d u p c) (hx : Ext u u') : H2P w d u' p c := by
  obtain ⟨κ1, s, f⟩ := h
  exact ⟨κ1, s.ext hx, fun g hg => ⟨(f g hg).1, Nat.lt_of_lt_of_le (f g hg).2 hx.size⟩⟩
theorem fresh_of {w u0 u : World} {P : Nat → Prop} {κ1 : Foot} (hx : Ext w u0) (f : Fr (fun _ => 0) P u0 u κ1) (g : Nat) (hg : κ1 g ≠ 0) : w.heap.size ≤ g ∧ g < u.heap.size := by
  refine ⟨?_, f.ins (fun g hg => absurd rfl hg) g hg⟩
  rcases Nat.lt_or_ge g w.heap.size with q | q
  · exact absurd (f.foot g (Nat.lt_of_lt_of_le q hx.size)) hg
  · exact q
theorem H1P.made {w u0 u : World} {d : DS} {κ1 : Foot} {p : Option Addr} {c : Nat} (hx : Ext w u0) (s : Sl u κ1 3 1 9 p d.m c (txs d.S d.m)) (f : Fr (fun _ => 0) (fun j => j = 3) u0 u κ1) : H1P w d u p c := ⟨κ1, s, fresh_of hx f⟩
theorem H2P.made {w u0 u : World} {d : DS} {κ1 : Foot} {p : Option Addr} {c : Nat} (hx : Ext w u0) (s : Sl u κ1 4 4 63 p d.L.length c (chgsV d.L)) (f : Fr (fun _ => 0) (fun j => j = 4) u0 u κ1) : H2P w d u p c := ⟨κ1, s, fresh_of hx f⟩
theorem copy_is {w u : World} {d : DS} {p1 p2 : Option Addr} {c1 c2 : Nat} (ok : d.Ok) (h1 : H1P w d u p1 c1) (h2 : H2P w d u p2 c2) (hSZ : w.heap.size ≤ u.heap.size) :
    ∃ κ', IsX (u.alloc (.cells (ccells p1 c1 p2 c2 d).toArray 60)) u.heap.size κ' d ∧ ∀ g, κ' g ≠ 0 → w.heap.size ≤ g := by
  obtain ⟨κa, sa, fa⟩ := h1
  obtain ⟨κb, sb, fb⟩ := h2
  have hb := Blk.new u (ccells p1 c1 p2 c2 d) 60
  by_cases hw : w.heap.size ≤ u.heap.size
  · have hx : Ext u (u.alloc (.cells (ccells p1 c1 p2 c2 d).toArray 60)) := (Ext.refl u).alloc _
    have ha : ∀ g, (p1 = some ⟨g, 0, none⟩ ∧ 0 < c1) → κa g = 3 ∧ ∃ cur, u.heap[g]? = some (.cells cur 9 (0, 0)) := fun g hg => by
      obtain ⟨g', cur, e1, e2, e3, _⟩ := sa.2.2.2 hg.2
      rw [hg.1] at e1; cases e1
      exact ⟨e2, cur, e3⟩
    refine ⟨fun g => if g = u.heap.size then 2 else if p1 = some ⟨g, 0, none⟩ ∧ 0 < c1 then 3 else if κb g = 4 then 4 else 0, ⟨⟨p1, c1, p2, c2, hb, ?_, ?_⟩, by simp, fun g hg => ?_, ok⟩, fun g hg => ?_⟩
    · refine ⟨sa.1, sa.2.1, sa.2.2.1, fun hc => ?_⟩
      obtain ⟨g, cur, e1, e2, e3, e4⟩ := sa.2.2.2 hc
      have hg : g ≠ u.heap.size := by have := heap_lt e3; omega
      exact ⟨g, cur, e1, by dsimp only; rw [if_neg hg, if_pos ⟨e1, hc⟩], (hx.block g (heap_lt e3)).trans e3, e4⟩
    · refine ⟨sb.1, sb.2.1, sb.2.2.1, fun hc => ?_⟩
      obtain ⟨g, cur, e1, e2, e3, e4⟩ := sb.2.2.2 hc
      have hg : g ≠ u.heap.size := by have := heap_lt e3; omega
      have hn : ¬ (p1 = some ⟨g, 0, none⟩ ∧ 0 < c1) := fun q => by
        obtain ⟨_, cur', e5⟩ := ha g q
        rw [e5] at e3
        exact absurd (by injection e3 with e3; injection e3) (show (9 : TypeId) ≠ 63 by decide)
      exact ⟨g, cur, e1, by dsimp only; rw [if_neg hg, if_neg hn, if_pos e2], (hx.block g (heap_lt e3)).trans e3, e4⟩
    · have hs : (u.alloc (.cells (ccells p1 c1 p2 c2 d).toArray 60)).heap.size = u.heap.size + 1 := by simp
      rw [hs]
      by_cases e : g = u.heap.size
      · omega
      · try dsimp only at hg
        rw [if_neg e] at hg
        by_cases q : p1 = some ⟨g, 0, none⟩ ∧ 0 < c1
        · have := (fa g (by rw [(ha g q).1]; decide)).2; omega
        · rw [if_neg q] at hg
          by_cases q2 : κb g = 4
          · have := (fb g (by rw [q2]; decide)).2; omega
          · rw [if_neg q2] at hg; exact absurd rfl hg
    · by_cases e : g = u.heap.size
      · omega
      · try dsimp only at hg
        rw [if_neg e] at hg
        by_cases q : p1 = some ⟨g, 0, none⟩ ∧ 0 < c1
        · exact (fa g (by rw [(ha g q).1]; decide)).1
        · rw [if_neg q] at hg
          by_cases q2 : κb g = 4
          · exact (fb g (by rw [q2]; decide)).1
          · rw [if_neg q2] at hg; exact absurd rfl hg
  · exact absurd hSZ hw
set_option maxRecDepth 100000 in
set_option maxHeartbeats 4000000 in
theorem CopyX_any (w : World) (r : Nat) (κ : Foot) (d : DS) (h : IsX w r κ d) (hL : d.L.length ≤ 1000000) :
    Calls Try.prog 19 #[.pointer (some ⟨r, 0, none⟩)] w fun e w' => ∃ c, e = .returned (.pointer (some ⟨c, 0, none⟩)) ∧ ∃ κ', IsX w' c κ' d ∧ Ext w w' ∧ ∀ g, κ' g ≠ 0 → w.heap.size ≤ g := by
  obtain ⟨sp, sc, lp, lc, hb, hs, hl⟩ := h.lay
  have HB := Lib.hid hb; have HL := Lib.hid hl; have HS := Lib.hid hs
  have HX := Lib.hid h
  have hm16 := h.ok.m16
  have hS : ∀ u, Ext w u → (Ext w u ∧ u.cell? ⟨r, 0, none⟩ = some (.slice sp d.m sc) ∧ u.cell? ⟨r, 1, none⟩ = some (.slice lp d.L.length lc) ∧ u.cell? ⟨r, 2, none⟩ = some (.int .i64 (d.room : Int)) ∧ u.cell? ⟨r, 3, none⟩ = some (.int .i64 d.fuse)) := fun u hu => ⟨hu, four_cells (HB.out.ext hu)⟩
  have x0 : Ext w w.drew := (Ext.refl w).drew
  clear h hb hs hl
  go_enter Try.func19, Try.ntmps19
  go_wp2_with fail
  refine wp_region_held_drew (S := fun u => Ext w u ∧ u.cell? ⟨r, 0, none⟩ = some (.slice sp d.m sc) ∧ u.cell? ⟨r, 1, none⟩ = some (.slice lp d.L.length lc) ∧ u.cell? ⟨r, 2, none⟩ = some (.int .i64 (d.room : Int)) ∧ u.cell? ⟨r, 3, none⟩ = some (.int .i64 d.fuse)) (by kernel_rfl) (hS _ x0) (fun _ => ?_)
  refine wpAnyH_take (i := 1) (v := ?_) rfl (by kernel_rfl) (by kernel_rfl) (by kernel_rfl) (fun _ _ _ h => h) (Or.inl ⟨by rfl, ?_⟩) (hS _ x0) ?_
  rotate_left
  · intro u hSu; obtain ⟨hx, c0, c1, c2, c3⟩ := hSu; go_simp; with_reducible rfl
  dsimp only [Act.put]
  refine wpAnyH_take (i := 2) (v := ?_) rfl (by kernel_rfl) (by kernel_rfl) (by kernel_rfl) (fun _ _ _ h => h) (Or.inl ⟨by rfl, ?_⟩) (hS _ x0) ?_
  rotate_left
  · intro u hSu; obtain ⟨hx, c0, c1, c2, c3⟩ := hSu; go_simp; with_reducible rfl
  dsimp only [Act.put]
  refine wpAnyH_take (i := 3) (v := ?_) rfl (by kernel_rfl) (by kernel_rfl) (by kernel_rfl) (fun _ _ _ h => h) (Or.inl ⟨by rfl, ?_⟩) (hS _ x0) ?_
  rotate_left
  · intro u hSu; obtain ⟨hx, c0, c1, c2, c3⟩ := hSu; go_simp; with_reducible rfl
  dsimp only [Act.put]
  refine wpAnyH_take (i := 4) (v := ?_) rfl (by kernel_rfl) (by kernel_rfl) (by kernel_rfl) (fun _ _ _ h => h) (Or.inl ⟨by rfl, ?_⟩) (hS _ x0) ?_
  rotate_left
  · intro u hSu; obtain ⟨hx, c0, c1, c2, c3⟩ := hSu; go_simp; with_reducible rfl
  dsimp only [Act.put]
  refine wpAnyH_take (i := 7) (v := ?_) rfl (by kernel_rfl) (by kernel_rfl) (by kernel_rfl) (fun _ _ _ h => h) (Or.inl ⟨by rfl, ?_⟩) (hS _ x0) ?_
  rotate_left
  · intro u hSu; obtain ⟨hx, c0, c1, c2, c3⟩ := hSu; go_simp; with_reducible rfl
  dsimp only [Act.put]
  refine wpAnyH_take (i := 8) (v := ?_) rfl (by kernel_rfl) (by kernel_rfl) (by kernel_rfl) (fun _ _ _ h => h) (Or.inl ⟨by rfl, ?_⟩) (hS _ x0) ?_
  rotate_left
  · intro u hSu; obtain ⟨hx, c0, c1, c2, c3⟩ := hSu; go_simp; with_reducible rfl
  dsimp only [Act.put]
  refine wpAnyH_take (i := 9) (v := ?_) rfl (by kernel_rfl) (by kernel_rfl) (by kernel_rfl) (fun _ _ _ h => h) (Or.inl ⟨by rfl, ?_⟩) (hS _ x0) ?_
  rotate_left
  · intro u hSu; obtain ⟨hx, c0, c1, c2, c3⟩ := hSu; go_simp; with_reducible rfl
  dsimp only [Act.put]
  refine wpAnyH_take (i := 10) (v := ?_) rfl (by kernel_rfl) (by kernel_rfl) (by kernel_rfl) (fun _ _ _ h => h) (Or.inl ⟨by rfl, ?_⟩) (hS _ x0) ?_
  rotate_left
  · intro u hSu; obtain ⟨hx, c0, c1, c2, c3⟩ := hSu; go_simp; with_reducible rfl
  dsimp only [Act.put]
  refine wpAnyH_take (i := 12) (v := ?_) rfl (by kernel_rfl) (by kernel_rfl) (by kernel_rfl) (fun _ _ _ h => h) (Or.inl ⟨by rfl, ?_⟩) (hS _ x0) ?_
  rotate_left
  · intro u hSu; obtain ⟨hx, c0, c1, c2, c3⟩ := hSu; go_simp; with_reducible rfl
  dsimp only [Act.put]
  refine wpAnyH_take (i := 13) (v := ?_) rfl (by kernel_rfl) (by kernel_rfl) (by kernel_rfl) (fun _ _ _ h => h) (Or.inl ⟨by rfl, ?_⟩) (hS _ x0) ?_
  rotate_left
  · intro u hSu; obtain ⟨hx, c0, c1, c2, c3⟩ := hSu; go_simp; with_reducible rfl
  dsimp only [Act.put]
  refine wpAnyH_take (i := 14) (v := ?_) rfl (by kernel_rfl) (by kernel_rfl) (by kernel_rfl) (fun _ _ _ h => h) (Or.inl ⟨by rfl, ?_⟩) (hS _ x0) ?_
  rotate_left
  · intro u hSu; obtain ⟨hx, c0, c1, c2, c3⟩ := hSu; go_simp; with_reducible rfl
  dsimp only [Act.put]
  refine wpAnyH_take (i := 15) (v := ?_) rfl (by kernel_rfl) (by kernel_rfl) (by kernel_rfl) (fun _ _ _ h => h) (Or.inl ⟨by rfl, ?_⟩) (hS _ x0) ?_
  rotate_left
  · intro u hSu; obtain ⟨hx, c0, c1, c2, c3⟩ := hSu; go_simp; with_reducible rfl
  dsimp only [Act.put]
  refine wpAnyH_take (i := 16) (v := ?_) rfl (by kernel_rfl) (by kernel_rfl) (by kernel_rfl) (fun _ _ _ h => h) (Or.inl ⟨by rfl, ?_⟩) (hS _ x0) ?_
  rotate_left
  · intro u hSu; obtain ⟨hx, c0, c1, c2, c3⟩ := hSu; go_simp; with_reducible rfl
  dsimp only [Act.put]
  refine wpAnyH_take (i := 17) (v := ?_) rfl (by kernel_rfl) (by kernel_rfl) (by kernel_rfl) (fun _ _ _ h => h) (Or.inl ⟨by rfl, ?_⟩) (hS _ x0) ?_
  rotate_left
  · intro u hSu; obtain ⟨hx, c0, c1, c2, c3⟩ := hSu; go_simp; with_reducible rfl
  dsimp only [Act.put]
  refine wpAnyH_take (i := 18) (v := ?_) rfl (by kernel_rfl) (by kernel_rfl) (by kernel_rfl) (fun _ _ _ h => h) (Or.inl ⟨by rfl, ?_⟩) (hS _ x0) ?_
  rotate_left
  · intro u hSu; obtain ⟨hx, c0, c1, c2, c3⟩ := hSu; go_simp; with_reducible rfl
  dsimp only [Act.put]
  refine wpAnyH_take (i := 19) (v := ?_) rfl (by kernel_rfl) (by kernel_rfl) (by kernel_rfl) (fun _ _ _ h => h) (Or.inl ⟨by rfl, ?_⟩) (hS _ x0) ?_
  rotate_left
  · intro u hSu; obtain ⟨hx, c0, c1, c2, c3⟩ := hSu; go_simp; with_reducible rfl
  dsimp only [Act.put]
  refine wpAnyH_ready (rs := [0, 6]) (by kernel_rfl) (by simp) ?_
  refine AllReadyH.cons rfl (fun K hK => ?_) (AllReadyH.cons rfl (fun K hK => ?_) AllReadyH.nil)
  · go_simp
    refine hK.out _ _ (hS _ (x0.alloc _)) (fun _ => ?_)
    have x1 := x0.alloc (.cells #[] 9)
    clear hK K
    refine wpAnyH_ready (rs := [5, 6]) (by kernel_rfl) (by simp) ?_
    refine AllReadyH.cons rfl (fun K hK => ?_) (AllReadyH.cons rfl (fun K hK => ?_) AllReadyH.nil)
    · refine step_append_sl rfl (.tmp 3) (.tmp 7) 57 57 rfl Try.underlying57 infoT rfl (by decide) rfl (Sl.empty _ (fun _ => 0) 3 1 _ _) (fun u hu => by cases hu) _ rfl d.m (txs d.S d.m) ((HS.out.ext x1).src (P := Try.prog) (tx := 57) Try.underlying57 (txs_one _ _)) (by omega) ?_
      intro p2 c2 u2 κ2 s2 f2 e2 y2 o2
      rw [Nat.zero_add, List.nil_append] at s2
      rw [Nat.zero_add]
      have x2 := x1.trans (y2 rfl)
      have H1_2 := H1P.made x1 s2 f2
      refine hK.out _ _ (hS _ x2) (fun _ => ?_)
      clear hK K
      refine wpAnyH_ready (rs := [6]) (by kernel_rfl) (by simp) ?_
      refine AllReadyH.cons rfl (fun K hK => ?_) AllReadyH.nil
      · go_simp
        refine hK.out _ _ (hS _ (x2.alloc _)) (fun _ => ?_)
        have x3 := x2.alloc (.cells #[] 63)
        have H1_3 := H1_2.ext ((Ext.refl _).alloc (.cells #[] 63))
        clear hK K
        refine wpAnyH_ready (rs := [11]) (by kernel_rfl) (by simp) ?_
        refine AllReadyH.cons rfl (fun K hK => ?_) AllReadyH.nil
        · refine step_append_sl rfl (.tmp 9) (.tmp 13) 58 58 rfl Try.underlying58 infoCa rfl (by decide) rfl (Sl.empty _ (fun _ => 0) 4 4 _ _) (fun u hu => by cases hu) _ rfl d.L.length (chgsV d.L) ((HL.out.ext x3).src (P := Try.prog) (tx := 58) Try.underlying58 (chgsV_one _)) (by omega) ?_
          intro p4 c4 u4 κ4 s4 f4 e4 y4 o4
          rw [Nat.zero_add, List.nil_append] at s4
          rw [Nat.zero_add]
          have x4 := x3.trans (y4 rfl)
          have H2_4 := H2P.made x3 s4 f4
          have H1_4 := H1_3.ext (y4 rfl)
          refine hK.out _ _ (hS _ x4) (fun _ => ?_)
          clear hK K
          have hQ := hS _ x4
          obtain ⟨hx, q0, q1, q2, q3⟩ := hQ
          refine wpAnyH_ready (rs := [20]) (by kernel_rfl) (by simp) ?_
          refine AllReadyH.cons rfl (fun K hK => ?_) AllReadyH.nil
          have hbu := fun p1 c1 p2 c2 => built_c p1 c1 p2 c2 d
          go_simp
          refine hK.out _ _ (hS _ x4) (fun _ => ?_)
          clear hK K hbu
          refine wpAnyH_ready (rs := [21]) (by kernel_rfl) (by simp) ?_
          refine AllReadyH.cons rfl (fun K hK => ?_) AllReadyH.nil
          go_simp
          refine hK.out _ _ (hS _ (x4.alloc _)) (fun _ => ?_)
          clear hK K
          refine wpAnyH_ready (rs := [22]) (by kernel_rfl) (by simp) ?_
          refine AllReadyH.cons rfl (fun K hK => ?_) AllReadyH.nil
          go_simp
          refine hK.out _ _ (hS _ (x4.alloc _)) (fun _ => ?_)
          clear hK K
          refine wpAnyH_done (by kernel_rfl) ?_ _
          obtain ⟨κ', hi, hf⟩ := copy_is HX.out.ok H1_4 H2_4 x4.size
          have HI := Lib.hid hi; have HFf := Lib.hid hf
          clear hi hf hS q0 q1 q2 q3 hx
          go_wp2
          go_ret
          exact ⟨_, rfl, κ', HI.out, x4.alloc _, HFf.out⟩
    · go_simp
      refine hK.out _ _ (hS _ (x1.alloc _)) (fun _ => ?_)
      have x2 := x1.alloc (.cells #[] 63)
      clear hK K
      refine wpAnyH_ready (rs := [5]) (by kernel_rfl) (by simp) ?_
      refine AllReadyH.cons rfl (fun K hK => ?_) AllReadyH.nil
      · refine step_append_sl rfl (.tmp 3) (.tmp 7) 57 57 rfl Try.underlying57 infoT rfl (by decide) rfl (Sl.empty _ (fun _ => 0) 3 1 _ _) (fun u hu => by cases hu) _ rfl d.m (txs d.S d.m) ((HS.out.ext x2).src (P := Try.prog) (tx := 57) Try.underlying57 (txs_one _ _)) (by omega) ?_
        intro p3 c3 u3 κ3 s3 f3 e3 y3 o3
        rw [Nat.zero_add, List.nil_append] at s3
        rw [Nat.zero_add]
        have x3 := x2.trans (y3 rfl)
        have H1_3 := H1P.made x2 s3 f3
        refine hK.out _ _ (hS _ x3) (fun _ => ?_)
        clear hK K
        refine wpAnyH_ready (rs := [11]) (by kernel_rfl) (by simp) ?_
        refine AllReadyH.cons rfl (fun K hK => ?_) AllReadyH.nil
        · refine step_append_sl rfl (.tmp 9) (.tmp 13) 58 58 rfl Try.underlying58 infoCa rfl (by decide) rfl (Sl.empty _ (fun _ => 0) 4 4 _ _) (fun u hu => by cases hu) _ rfl d.L.length (chgsV d.L) ((HL.out.ext x3).src (P := Try.prog) (tx := 58) Try.underlying58 (chgsV_one _)) (by omega) ?_
          intro p4 c4 u4 κ4 s4 f4 e4 y4 o4
          rw [Nat.zero_add, List.nil_append] at s4
          rw [Nat.zero_add]
          have x4 := x3.trans (y4 rfl)
          have H2_4 := H2P.made x3 s4 f4
          have H1_4 := H1_3.ext (y4 rfl)
          refine hK.out _ _ (hS _ x4) (fun _ => ?_)
          clear hK K
          have hQ := hS _ x4
          obtain ⟨hx, q0, q1, q2, q3⟩ := hQ
          refine wpAnyH_ready (rs := [20]) (by kernel_rfl) (by simp) ?_
          refine AllReadyH.cons rfl (fun K hK => ?_) AllReadyH.nil
          have hbu := fun p1 c1 p2 c2 => built_c p1 c1 p2 c2 d
          go_simp
          refine hK.out _ _ (hS _ x4) (fun _ => ?_)
          clear hK K hbu
          refine wpAnyH_ready (rs := [21]) (by kernel_rfl) (by simp) ?_
          refine AllReadyH.cons rfl (fun K hK => ?_) AllReadyH.nil
          go_simp
          refine hK.out _ _ (hS _ (x4.alloc _)) (fun _ => ?_)
          clear hK K
          refine wpAnyH_ready (rs := [22]) (by kernel_rfl) (by simp) ?_
          refine AllReadyH.cons rfl (fun K hK => ?_) AllReadyH.nil
          go_simp
          refine hK.out _ _ (hS _ (x4.alloc _)) (fun _ => ?_)
          clear hK K
          refine wpAnyH_done (by kernel_rfl) ?_ _
          obtain ⟨κ', hi, hf⟩ := copy_is HX.out.ok H1_4 H2_4 x4.size
          have HI := Lib.hid hi; have HFf := Lib.hid hf
          clear hi hf hS q0 q1 q2 q3 hx
          go_wp2
          go_ret
          exact ⟨_, rfl, κ', HI.out, x4.alloc _, HFf.out⟩
  · go_simp
    refine hK.out _ _ (hS _ (x0.alloc _)) (fun _ => ?_)
    have x1 := x0.alloc (.cells #[] 63)
    clear hK K
    refine wpAnyH_ready (rs := [0]) (by kernel_rfl) (by simp) ?_
    refine AllReadyH.cons rfl (fun K hK => ?_) AllReadyH.nil
    · go_simp
      refine hK.out _ _ (hS _ (x1.alloc _)) (fun _ => ?_)
      have x2 := x1.alloc (.cells #[] 9)
      clear hK K
      refine wpAnyH_ready (rs := [5]) (by kernel_rfl) (by simp) ?_
      refine AllReadyH.cons rfl (fun K hK => ?_) AllReadyH.nil
      · refine step_append_sl rfl (.tmp 3) (.tmp 7) 57 57 rfl Try.underlying57 infoT rfl (by decide) rfl (Sl.empty _ (fun _ => 0) 3 1 _ _) (fun u hu => by cases hu) _ rfl d.m (txs d.S d.m) ((HS.out.ext x2).src (P := Try.prog) (tx := 57) Try.underlying57 (txs_one _ _)) (by omega) ?_
        intro p3 c3 u3 κ3 s3 f3 e3 y3 o3
        rw [Nat.zero_add, List.nil_append] at s3
        rw [Nat.zero_add]
        have x3 := x2.trans (y3 rfl)
        have H1_3 := H1P.made x2 s3 f3
        refine hK.out _ _ (hS _ x3) (fun _ => ?_)
        clear hK K
        refine wpAnyH_ready (rs := [11]) (by kernel_rfl) (by simp) ?_
        refine AllReadyH.cons rfl (fun K hK => ?_) AllReadyH.nil
        · refine step_append_sl rfl (.tmp 9) (.tmp 13) 58 58 rfl Try.underlying58 infoCa rfl (by decide) rfl (Sl.empty _ (fun _ => 0) 4 4 _ _) (fun u hu => by cases hu) _ rfl d.L.length (chgsV d.L) ((HL.out.ext x3).src (P := Try.prog) (tx := 58) Try.underlying58 (chgsV_one _)) (by omega) ?_
          intro p4 c4 u4 κ4 s4 f4 e4 y4 o4
          rw [Nat.zero_add, List.nil_append] at s4
          rw [Nat.zero_add]
          have x4 := x3.trans (y4 rfl)
          have H2_4 := H2P.made x3 s4 f4
          have H1_4 := H1_3.ext (y4 rfl)
          refine hK.out _ _ (hS _ x4) (fun _ => ?_)
          clear hK K
          have hQ := hS _ x4
          obtain ⟨hx, q0, q1, q2, q3⟩ := hQ
          refine wpAnyH_ready (rs := [20]) (by kernel_rfl) (by simp) ?_
          refine AllReadyH.cons rfl (fun K hK => ?_) AllReadyH.nil
          have hbu := fun p1 c1 p2 c2 => built_c p1 c1 p2 c2 d
          go_simp
          refine hK.out _ _ (hS _ x4) (fun _ => ?_)
          clear hK K hbu
          refine wpAnyH_ready (rs := [21]) (by kernel_rfl) (by simp) ?_
          refine AllReadyH.cons rfl (fun K hK => ?_) AllReadyH.nil
          go_simp
          refine hK.out _ _ (hS _ (x4.alloc _)) (fun _ => ?_)
          clear hK K
          refine wpAnyH_ready (rs := [22]) (by kernel_rfl) (by simp) ?_
          refine AllReadyH.cons rfl (fun K hK => ?_) AllReadyH.nil
          go_simp
          refine hK.out _ _ (hS _ (x4.alloc _)) (fun _ => ?_)
          clear hK K
          refine wpAnyH_done (by kernel_rfl) ?_ _
          obtain ⟨κ', hi, hf⟩ := copy_is HX.out.ok H1_4 H2_4 x4.size
          have HI := Lib.hid hi; have HFf := Lib.hid hf
          clear hi hf hS q0 q1 q2 q3 hx
          go_wp2
          go_ret
          exact ⟨_, rfl, κ', HI.out, x4.alloc _, HFf.out⟩
end Go.Proofs.Ytgbhadgkkefokaa
