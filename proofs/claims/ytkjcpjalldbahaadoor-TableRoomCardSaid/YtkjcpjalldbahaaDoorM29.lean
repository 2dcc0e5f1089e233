/- Contracts: Try and Apply, by the program. -/
import Derived.Test.YtkjcpjalldbahaaDoorM28
section
namespace Go.Proofs.YtkjcpjalldbahaaDoor
open Go.RowKit Go.ChangeMaps Go.MapKept

section
variable {S S' : Nat → Prop} {w w' w'' : World}
theorem Turn.then_ (h : Turn S w w') (k : Turn S' w' w'') (hs : ∀ g, S' g → S g ∨ w.heap.size ≤ g) : Turn S w w'' :=
  ⟨k.os.trans h.os, k.tape.trans h.tape, k.output.trans h.output, Nat.le_trans h.size k.size, fun g hg hn => (k.other g (Nat.lt_of_lt_of_le hg h.size) (fun q => by
    rcases hs g q with q | q
    · exact hn q
    · omega)).trans (h.other g hg hn)⟩
theorem IsA.turnN {B c : Nat} {T : TypeId} {p : Option Addr} {vs : List Value} (h : IsA w B T p c vs) (k : Turn S w w') (hS : ∀ g, S g → ∀ cur fr, w.heap[g]? ≠ some (.cells cur T fr)) : IsA w' B T p c vs := by
  refine ⟨⟨h.sl.1, h.sl.2.1, h.sl.2.2.1, fun hc => ?_⟩, h.low⟩
  obtain ⟨x, cur, e, q, hx, r⟩ := h.sl.2.2.2 hc
  exact ⟨x, cur, e, q, (k.other x (heap_lt hx) (fun q => hS x q cur (0, 0) hx)).trans hx, r⟩
theorem RangeL.iter {P : Program} {k : TypeId} {b r : Nat} {l left : List (Value × Value)} (h : RangeL w P k b r l left) : ∀ T cur fr, w.heap[r]? ≠ some (.cells cur T fr) := fun T cur fr q => by
  obtain ⟨es, clock, since, seen, c0, _, _, _, _, hr, _⟩ := h
  rw [hr] at q
  cases q
theorem grown_turn {r : Nat} (h : w.grownBy w' (some r)) : Turn (fun g => g = r) w w' := ⟨h.os, h.tape, h.output, h.size, fun g hg hn => h.block g hg (fun e => hn (by cases e; rfl))⟩
theorem IsT.typed {lo t b : Nat} {qp qb : Int} {R : List RowP} (h : IsT w lo t b qp qb R) {T : TypeId} (hT : T ≠ 63) : ∀ g, TB t b g → ∀ cur fr, w.heap[g]? ≠ some (.cells cur T fr) := fun g q cur fr e => by
  rcases q with rfl | rfl
  · have h2 : w.heap[g]? = _ := h.blk
    rw [h2] at e
    cases e
    exact hT rfl
  · obtain ⟨M, hm⟩ := h.map
    obtain ⟨es, c, hb⟩ := hm.map.is
    rw [hb] at e
    cases e
end
theorem apply_good (qp qb : Int) {R : List RowP} (h : GoodR R) (l : List EditP) : GoodR (applyR qp qb R l).D ∧ (applyR qp qb R l).D.length ≤ R.length + l.length ∧ (applyR qp qb R l).v.length ≤ l.length := by
  obtain ⟨h1, h2, h3⟩ := runE_good l 0 [] h
  unfold applyR
  dsimp only
  split
  · split
    · exact ⟨h, by dsimp only; omega, by simp⟩
    · exact ⟨h1, h2, by simpa using h3⟩
  · exact ⟨h, by dsimp only; omega, by simp⟩
theorem apply_err {qp qb : Int} {R : List RowP} {l : List EditP} (h : (applyR qp qb R l).e ≠ 0) : (applyR qp qb R l).D = R ∧ (applyR qp qb R l).v = [] := by
  unfold applyR at h ⊢
  dsimp only at h ⊢
  split
  · split
    · exact ⟨rfl, rfl⟩
    · rename_i q1 q2
      rw [if_pos q1, if_neg q2] at h
      exact absurd rfl h
  · exact ⟨rfl, rfl⟩
theorem try_no (w : World) (l : Value) :
    Calls Tryd.prog 15 #[.pointer none, l] w fun e w' => e = .returned (.tuple #[.int .i64 0, .int .i64 1]) ∧ Ext w w' := by
  go_enter Tryd.func15, Tryd.ntmps15
  go_wp2_with (go_at_call 18; refine (tried_no _ _).mono ?_; rintro e w1 ⟨rfl, x1⟩)
  go_ret2
  exact ⟨rfl, x1⟩
theorem apply_no (w : World) (l : Value) :
    Calls Tryd.prog 8 #[.pointer none, l] w fun e w' => e = .returned (.tuple #[.slice none 0 0, .int .i64 0, .int .i64 1]) ∧ Ext w w' := by
  go_enter Tryd.func8, Tryd.ntmps8
  go_wp2_with (go_at_call 18; refine (tried_no _ _).mono ?_; rintro e w1 ⟨rfl, x1⟩)
  exact bodyPost_ret (results_tmp3 rfl _ _ _) rfl ⟨rfl, x1.alloc _⟩
theorem try_any (w : World) (lo t b : Nat) (qp qb : Int) (R : List RowP) (h : IsT w lo t b qp qb R) (hl : R.length ≤ 800000) (p : Option Addr) (c : Nat) (L : List EditP) (hE : EditsP w p L) (hn : L.length ≤ 5000) (hs : ∀ e ∈ L, e.p.size ≤ 140737488351232 ∧ e.t.size ≤ 140737488351232) :
    Calls Tryd.prog 15 #[.pointer (some ⟨t, 0, none⟩), .slice p L.length c] w fun e w' => e = .returned (.tuple #[.int .i64 ((applyR qp qb R L).at_ : Int), .int .i64 ((applyR qp qb R L).e : Int)]) ∧ Ext w w' := by
  have HT := Lib.hid (tried_any w lo t b qp qb R h hl p c L hE hn hs)
  generalize applyR qp qb R L = TT at *
  generalize L.length = n at *
  clear h hE hs
  go_enter Tryd.func15, Tryd.ntmps15
  go_wp2_with (go_at_call 18; refine HT.out.mono ?_; rintro e w1 ⟨mo, va, vn, c', rfl, x1, _⟩)
  go_ret2
  exact ⟨rfl, x1⟩
set_option maxRecDepth 100000 in
set_option maxHeartbeats 4000000 in
theorem apply_any (w : World) (lo t b : Nat) (qp qb : Int) (R : List RowP) (h : IsT w lo t b qp qb R) (hlo : lo ≤ w.heap.size) (hl : R.length ≤ 800000) (p : Option Addr) (c : Nat) (L : List EditP) (hE : EditsP w p L) (hn : L.length ≤ 5000) (hs : ∀ e ∈ L, e.p.size ≤ 140737488351232 ∧ e.t.size ≤ 140737488351232) :
    Calls Tryd.prog 8 #[.pointer (some ⟨t, 0, none⟩), .slice p L.length c] w fun e w' => ∃ va c', e = .returned (.tuple #[.slice va (applyR qp qb R L).v.length c', .int .i64 ((applyR qp qb R L).at_ : Int), .int .i64 ((applyR qp qb R L).e : Int)]) ∧ IsT w' lo t b qp qb (applyR qp qb R L).D ∧ Turn (TB t b) w w' ∧ IsA w' w.heap.size 38 va c' (nuV (applyR qp qb R L).v) := by
  have HT := Lib.hid (tried_any w lo t b qp qb R h hl p c L hE hn hs)
  have HIT := Lib.hid h
  have HLo := Lib.hid hlo
  have HRL := Lib.hid hl
  have HNL := Lib.hid hn
  have HAG := Lib.hid (apply_good qp qb h.good L)
  have HAE := Lib.hid (fun q : (applyR qp qb R L).e ≠ 0 => apply_err q)
  have HAT : Hid ((applyR qp qb R L).e = 0 → (applyR qp qb R L).at_ = 0) := Lib.hid fun q => by
    unfold applyR at q ⊢
    dsimp only at q ⊢
    split
    · split
      · rename_i q1 q2; rw [if_pos q1, if_pos q2] at q; simp at q
      · rfl
    · rename_i q1; rw [if_neg q1] at q; exact absurd q q1
  generalize applyR qp qb R L = TT at *
  generalize L.length = n at *
  clear h hE hs hlo hl hn
  obtain ⟨te, ta, tD, tv⟩ := TT
  dsimp only at HT HAG HAE HAT ⊢
  obtain ⟨lv, hlv⟩ : ∃ lv, tv.length = lv := ⟨_, rfl⟩
  have HLV := Lib.hid hlv
  rw [hlv]
  by_cases he : te = 0
  · subst he
    have h0 := HAT.out rfl
    subst h0
    clear hlv
    go_enter Tryd.func8, Tryd.ntmps8
    go_wp2_with (first
      | (go_at_call 18; refine HT.out.mono ?_; rintro e w1 ⟨mo, va, vn, c', rfl, x1, hp⟩; obtain ⟨mb, X, rfl, hmb, hM, hX, hOv, hXl, rfl, hA⟩ := hp rfl; dsimp only at hOv hXl hA; rw [HLV.out]; obtain ⟨M, hME⟩ := hM; have HX1 := Lib.hid x1; have HMB := Lib.hid hmb; have HME := Lib.hid hME; have HXG := Lib.hid hX; have HOV := Lib.hid hOv; have HXL := Lib.hid hXl; have HA := Lib.hid hA; have B1 := Lib.hid (Blk.new w1 [.map (some mb), .slice va lv c'] 65); clear x1 hp hmb hME hX hOv hXl hA)
      | (at_range; refine wpList_range_L _ rfl _ 61 rfl 9 54 Tryd.underlying61 mb (M.map kvE) rfl (HME.out.map.ext ((Ext.refl w1).alloc _)) ?_; intro w0 hrg hx0 hs0))
    have HRG := Lib.hid hrg
    have HX0 := Lib.hid (((Ext.refl w1).alloc (.cells #[.map (some mb), .slice va lv c'] 65)).trans hx0)
    have B0 := Lib.hid (B1.out.ext hx0)
    clear hrg hx0 hs0 B1
    obtain ⟨r, hr⟩ : ∃ r, (w1.alloc (.cells #[.map (some mb), .slice va lv c'] 65)).heap.size = r := ⟨_, rfl⟩
    have HRr : Hid (r = w1.heap.size + 1) := Lib.hid (by rw [← hr]; simp)
    rw [hr] at HRG ⊢
    clear hr
    have HNe : Hid (¬ TB t b mb ∧ ¬ TB t b r ∧ ¬ TB t b w1.heap.size) := Lib.hid (by
      have h1 := HIT.out.blk.lt
      have h2 := HIT.out.map.lt
      have h3 := HMB.out
      have h4 := HX1.out.size
      have h5 := HRr.out
      refine ⟨fun q => ?_, fun q => ?_, fun q => ?_⟩ <;> (rcases q with q | q <;> omega))
    go_frame
    go_loopw [] (fun wr => ∃ (left : List (Value × Value)) (done : List Ent), Hid (Gone M left done) ∧ Hid (RangeL wr Tryd.prog 9 mb r (M.map kvE) left) ∧ Hid (IsT wr lo t b qp qb (layR R (done.map Ent.row))) ∧ Hid (∀ e ∈ M, EntP wr w.heap.size e) ∧ Hid (IsA wr w.heap.size 38 va c' (nuV tv)) ∧ Hid (Blk wr w1.heap.size 65 [.map (some mb), .slice va lv c']) ∧ Hid (Turn (TB t b) w wr)) (fun wr => wr.rangeLeft mb r)
    case atStart => exact ⟨M.map kvE, [], Lib.hid (Gone.start HME.out.paths), HRG, Lib.hid (HIT.out.ext (HX1.out.trans HX0.out)), Lib.hid (fun e he => (HME.out.ents e he).ext HX0.out), Lib.hid (HA.out.ext HX0.out), B0, Lib.hid (Turn.ofExt _ (HX1.out.trans HX0.out))⟩
    case round =>
      obtain ⟨left, done, HGo, HR, HT1, HEn, HA1, HB1, HTu⟩ := hrel
      go_wp2_with (at_next; refine wpList_next_L _ rfl _ rfl 9 (fun x : { e : Ent // e ∈ M } => kvE x.1) mb r (M.map kvE) left HGo.out.inv rfl HR.out ?_ ?_)
      · intro h0
        have hD : layR R (done.map Ent.row) = tD := layR_ov HOV.out HIT.out.good.up HAG.out.1.up HGo.out.paths (fun x => by
          have hst := HGo.out
          rw [h0] at hst
          rw [List.mem_map, HME.out.rows x]
          constructor
          · rintro ⟨e, he, q⟩; exact ⟨e, (hst.stop e).1 he, q⟩
          · rintro ⟨e, he, q⟩; exact ⟨e, (hst.stop e).2 he, q⟩)
        have HT2 : Hid (IsT wr lo t b qp qb tD) := Lib.hid (by rw [← hD]; exact HT1.out)
        have b0 := HB1.out.cell 0 _ rfl
        have b1 := HB1.out.cell 1 _ rfl
        clear h0 hD
        go_wp2
        exact bodyPost_ret (results_tmp3 rfl _ _ _) rfl ⟨va, c', rfl, HT2.out, HTu.out, HA1.out⟩
      · intro x hxM left' w2 hq hrg1 hg1 hs1 hen
        obtain ⟨xp, xm, xL, xa, xc⟩ := x
        obtain ⟨G1, _⟩ := HGo.out.step hxM hq
        have HG1 := Lib.hid G1; have HQL := Lib.hid hq.length_eq
        have hxok : OkR ⟨xp, xm, xL⟩ := HXG.out.each _ ((HME.out.rows _).2 ⟨_, hxM, rfl⟩)
        have hT2 := grown_turn hg1
        have hit := HR.out.iter
        have hrT : ∀ g, g = r → NoT wr g := fun g e => by subst e; exact hit _
        have hrne := HNe.out
        have HT3 := Lib.hid (HT1.out.turn hT2 (fun e => hrne.2.1 (by rw [← e]; exact .inl rfl)) (fun e => hrne.2.1 (by rw [← e]; exact .inr rfl)) hrT)
        have HEn3 : Hid (∀ e ∈ M, EntP w2 w.heap.size e) := Lib.hid fun e he => (HEn.out e he).turn hT2 hrT
        have HA3 : Hid (IsA w2 w.heap.size 38 va c' (nuV tv)) := Lib.hid (HA1.out.turnN hT2 fun g e => by subst e; exact hit _)
        have HB3 := Lib.hid (hT2.blk HB1.out (by have := HRr.out; omega))
        have hrs : w.heap.size ≤ r := by have := HRr.out; have := HX1.out.size; omega
        have HTu3 := Lib.hid (HTu.out.then_ hT2 (fun g e => .inr (by subst e; exact hrs)))
        have HR3 := Lib.hid hrg1
        have hlen := layR_len (done.map Ent.row) HIT.out.good.up
        have hdl : done.length ≤ X.length := by
          have h1 := HGo.out.perm.length_eq
          have h2 := (HME.out.perm HXG.out.up).length_eq
          simp only [List.length_append, List.length_map] at h1 h2
          omega
        rw [List.length_map] at hlen
        have hXL := HXL.out; have hRL := HRL.out; have hNL := HNL.out
        have hxe := HEn3.out _ hxM
        have HSet := Lib.hid (tset_any (w2.alloc (.cells #[.int .u64 (xm : Int), .slice xa xL.length xc] 54)) lo t b qp qb _ (HT3.out.ext ((Ext.refl w2).alloc _)) (by omega) ⟨xp, xm, xL⟩ hxok xa xc (hxe.vers.ext ((Ext.refl w2).alloc _)) (fun x hx => Nat.le_trans HLo.out (hxe.low x hx)))
        have HX3 := Lib.hid ((Ext.refl w2).alloc (.cells #[.int .u64 (xm : Int), .slice xa xL.length xc] 54))
        have hmap : withR ⟨xp, xm, xL⟩ (layR R (done.map Ent.row)) = layR R ((done ++ [Ent.mk xp xm xL xa xc]).map Ent.row) := by rw [List.map_append, List.map_cons, List.map_nil, layR_snoc]; rfl
        rw [hmap] at HSet
        dsimp only at HSet
        have hls : left.length = left'.length + 1 := by have := HQL.out; simpa using this
        have HLs := Lib.hid hls
        unfold kvE at hen ⊢
        dsimp only at hen ⊢
        generalize xL.length = nx at *
        clear G1 hq hrg1 hg1 hs1 hT2 hit hrT hrne hrs hlen hdl hXL hRL hNL hxe hmap hls hxok hxM
        go_wp2_with (go_at_call 19; refine HSet.out.mono ?_; rintro e w4 ⟨rfl, t4, k4⟩; have HT4 := Lib.hid t4; have HK4 := Lib.hid k4; clear t4 k4)
        have hTI := HT3.out.ext HX3.out
        have hR4 : RangeL w4 Tryd.prog 9 mb r (M.map kvE) left' := (HR3.out.ext HX3.out).same (HK4.out.other mb ((HR3.out.ext HX3.out).map.lt) HNe.out.1) (HK4.out.other r (HR3.out.ext HX3.out).lt HNe.out.2.1)
        have HR4 := Lib.hid hR4
        clear hR4
        go_roundw
        case rel => exact ⟨left', done ++ [Ent.mk xp xm xL xa xc], HG1, HR4, HT4, Lib.hid (fun e he => ((HEn3.out e he).ext HX3.out).turn HK4.out hTI.noT), Lib.hid ((HA3.out.ext HX3.out).turnN HK4.out (hTI.typed (by decide))), Lib.hid (HK4.out.blk (HB3.out.ext HX3.out) HNe.out.2.2), Lib.hid ((HTu3.out.ext HX3.out).trans HK4.out)⟩
        case measure =>
          rw [HR4.out.left_eq, HR.out.left_eq, HLs.out]
          omega
  · have he1 : ((te : Int) != 0) = true := by have : ¬ (te : Int) = 0 := (by omega); simpa using this
    obtain ⟨rfl, rfl⟩ := HAE.out he
    simp only [List.length_nil] at hlv
    subst hlv
    clear he
    go_enter Tryd.func8, Tryd.ntmps8
    go_wp2_with (go_at_call 18; refine HT.out.mono ?_; rintro e w1 ⟨mo, va, vn, c', rfl, x1, _⟩; have HX1 := Lib.hid x1; clear x1)
    exact bodyPost_ret (results_tmp3 rfl _ _ _) rfl ⟨none, 0, rfl, HIT.out.ext (HX1.out.alloc _), Turn.ofExt _ (HX1.out.alloc _), IsA.nil _ _ _⟩
end Go.Proofs.YtkjcpjalldbahaaDoor
end
