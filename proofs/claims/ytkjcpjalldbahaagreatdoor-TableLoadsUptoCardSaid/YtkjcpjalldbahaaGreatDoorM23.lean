/- Contracts: the paths of a map of cells, sorted, by the library. Contracts: Try and Apply, by the program. Contract: names of children, by the program. -/
import Derived.Test.YtkjcpjalldbahaaGreatDoorM22
import Derived.Test.YtkjcpjalldbahaaGreatDoorM11
import Derived.Test.YtkjcpjalldbahaaGreatDoorM21
import Derived.Test.YtkjcpjalldbahaaGreatDoorM18
import Derived.StringKeys
section
namespace Go.Proofs.YtkjcpjalldbahaaGreatDoor
open Go.RowKit Go.Maps Go.Sort Go.Shelf

theorem keysC_any (mb : Option Nat) (W : World) : Calls Tryz.prog 45 #[.map mb] W fun e w' => e = .returned (.func (.func 71) #[] #[.pointer (some ⟨W.heap.size, 0, none⟩)]) ∧ w' = W.alloc (.cells #[.map mb] 71) :=
  callsIn_wide.1 (AnyZ.keys_in Tryz.keysC Fence.wide 5 trivial rfl mb W)
set_option maxHeartbeats 1000000 in
theorem sorted_keysC {H : Type} (b nn : Nat) (D0 : DataW H) (R : Value → Option (DataW H × List MemPlace)) (w : World) (hown : w.ownsMap Tryz.prog 9 R b nn D0) (hmax : Maps.size D0 ≤ maxLen) (hbytes : Maps.size D0 * 16 ≤ 140737488355328) :
    CallsIn Fence.wide 5 Tryz.prog 44 #[.func (.func 71) #[] #[.pointer (some ⟨w.heap.size, 0, none⟩)]] (w.alloc (.cells #[.map (some b)] 71)) fun e w' => ∃ (v : Value) (ss : List (List UInt8)), e = .returned v ∧ ss.Perm (strKeys D0) ∧
      w'.ownsRow (w.alloc (.cells #[.map (some b)] 71)).heap.size 9 1 v ss.length ((ss.mergeSort (fun x y => decide (x ≤ y))).map encStr) ∧ (v = .slice none 0 0 ↔ ss = []) ∧ Below (w.alloc (.cells #[.map (some b)] 71)).heap.size (w.alloc (.cells #[.map (some b)] 71)) w' := by
  have hbl := hown.lt
  have hseq : SeqGives Fence.wide 2 Tryz.prog 71 #[.pointer (some ⟨w.heap.size, 0, none⟩)] encStr (fun ss => ss.Perm (strKeys D0)) (Maps.size D0) (w.alloc (.cells #[.map (some b)] 71)) :=
    AnyZ.keys_gives (ρ := Tryz.keysC_ren) { Tryz.keysC with } Fence.wide _ trivial rfl (by omega) w.heap.size b nn D0 _ (by simp) (by simp) (by
      obtain ⟨es, clock, hb, Ft, hs, hD⟩ := hown
      exact ⟨es, clock, (Below.heap_alloc _ _ b hbl).trans hb, Ft, hs, hD⟩)
  exact AnyZ.sorted_in Tryz.sortedL Fence.wide 5 trivial trivial trivial trivial rfl (by omega) (sorts_in _) (enters_of Tryz.func70 (by kernel_rfl) rfl) 71 #[.pointer (some ⟨w.heap.size, 0, none⟩)] trivial (enters_of Tryz.func71 (by kernel_rfl) rfl) _ _ hmax hbytes _ hseq
open Go.WideElems Go.MapKept Go.ChangeMaps Go.WideShapes Go.ChangeShapes in
/-- How an element reads: in no way. -/
theorem MapL.owns {w : World} {b : Nat} {M : List Ent} (h : MapL w Tryz.prog 9 b (M.map kvE)) (hs : ∀ e ∈ M, e.p.size ≤ 140737488355328) (hl : M.length ≤ 1000000) :
    ∃ D : DataW Unit, w.ownsMap Tryz.prog 9 (fun _ => some (.agg [], [])) b M.length D ∧ (strKeys D).Perm (M.map fun e => e.p.data.toList) ∧ Maps.size D = M.length := by
  obtain ⟨es, clock, hb, hst, hl2, hk⟩ := h
  have hsz : es.size = M.length := by
    have := congrArg List.length hl2
    simpa using this
  have hkey : ∀ x ∈ es.toList, ∃ kl, keyOf Tryz.prog 9 x.key = some kl := keys_of (by rw [hl2]; exact hk)
  have hrd : ∀ x ∈ es.toList, ∃ y, WideElems.rd (H := Unit) Tryz.prog 9 (fun _ => some (.agg [], [])) x = some y := fun x hx => by
    obtain ⟨kl, e⟩ := hkey x hx
    exact ⟨(kl, .agg []), by simp [WideElems.rd, e]⟩
  refine ⟨_, ⟨es, clock, hb, ⟨by unfold maxLen; omega, hst, hrd⟩, by omega, rfl⟩, ?_, ?_⟩
  · show (List.map (fun p : Lit × DataW Unit => strOf p.1) _).Perm _
    refine ((sorted_perm _).map _).trans ?_
    rw [List.map_map]
    have e1 : es.toList.map ((fun p : Lit × DataW Unit => strOf p.1) ∘ WideElems.rg Tryz.prog 9 (fun _ => some (.agg [], []))) = (es.toList.map kv).map fun q => strOf ((keyOf Tryz.prog 9 q.1).getD (.bool false)) := by
      rw [List.map_map]
      refine List.map_congr_left fun x hx => ?_
      obtain ⟨kl, e⟩ := hkey x hx
      simp [WideElems.rg, WideElems.rd, kv, e]
    have e2 : (M.map kvE).map (fun q => strOf ((keyOf Tryz.prog 9 q.1).getD (.bool false))) = M.map fun e => e.p.data.toList := by
      rw [List.map_map]
      refine List.map_congr_left fun x hx => ?_
      have := keyS_at x.p (hs x hx)
      simp [kvE, this, strOf]
    rw [e1, hl2, e2]
  · have : Maps.size (DataW.map ((es.toList.map (WideElems.rg (H := Unit) Tryz.prog 9 (fun _ => some (.agg [], [])))).foldr DataW.insert [])) = es.size := length_read es
    rw [this, hsz]
/-- The paths of a map of rows, sorted. -/
theorem sorted_paths (w : World) (lo b : Nat) (R : List RowP) (h : IsM w lo b R) (hR : RisesR R) (hs : ∀ r ∈ R, r.p.size ≤ 128) (hl : R.length ≤ 1000000) :
    Calls Tryz.prog 44 #[.func (.func 71) #[] #[.pointer (some ⟨w.heap.size, 0, none⟩)]] (w.alloc (.cells #[.map (some b)] 71)) fun e w' => ∃ v, e = .returned v ∧ BufS w' w.heap.size v (R.map (·.p)) ∧ Ext w w' := by
  obtain ⟨M, hM⟩ := h
  have hperm := hM.perm hR
  have hlen : M.length = R.length := by have := hperm.length_eq; simpa using this
  obtain ⟨D, hown, hkeys, hsize⟩ := hM.map.owns (fun e he => by
    have := hs e.row ((hM.rows _).2 ⟨e, he, rfl⟩)
    have h2 : e.p.size ≤ 128 := this
    omega) (by omega)
  refine (callsIn_wide.1 (sorted_keysC b M.length D _ w hown (by rw [hsize]; unfold maxLen; omega) (by rw [hsize]; omega))).mono ?_
  rintro e w' ⟨v, ss, rfl, hp, hrow, _, hb⟩
  have hns : Rises (R.map keyR) := risesR_map.1 hR
  have hp2 : ss.Perm (R.map keyR) := by
    refine (hp.trans hkeys).trans ?_
    have := hperm.map keyR
    rw [List.map_map] at this
    exact this
  have e := sorted_names hp2 hns
  rw [e] at hrow
  have hl3 : ss.length = R.length := by have := hp2.length_eq; simpa using this
  refine ⟨v, rfl, ?_, Below.trans ((Ext.refl w).alloc _) (hb.mono (by simp))⟩
  have e2 : (R.map keyR).map encStr = (R.map (·.p)).map Value.string := by
    rw [List.map_map, List.map_map]
    rfl
  rw [e2, hl3] at hrow
  unfold BufS
  rw [List.length_map]
  exact ownsRow_base_a hrow (by simp)
end Go.Proofs.YtkjcpjalldbahaaGreatDoor
end

section
namespace Go.Proofs.YtkjcpjalldbahaaGreatDoor
open Go.RowKit Go.ChangeMaps Go.MapKept

section
variable {S S' : Nat → Prop} {w w' w'' : World}
theorem Turn.then_ (h : Turn S w w') (k : Turn S' w' w'') (hs : ∀ g, S' g → S g ∨ w.heap.size ≤ g) : Turn S w w'' :=
  ⟨k.os.trans h.os, k.tape.trans h.tape, k.output.trans h.output, Nat.le_trans h.size k.size, fun g hg hn => (k.other g (Nat.lt_of_lt_of_le hg h.size) (fun q => by
    rcases hs g q with q | q
    · exact hn q
    · omega)).trans (h.other g hg hn)⟩
theorem IsA.turnN {B c : Nat} {T : TypeId} {p : Option Addr} {vs : List Value} (h : IsA w B T p c vs) (k : Turn S w w') (hS : ∀ g, S g → ∀ cur fr, w.heap[g]? ≠ some (.cells cur T fr)) : IsA w' B T p c vs := by
  refine ⟨⟨h.sl.1, h.sl.2.1, h.sl.2.2.1, fun hc => ?_⟩, h.low⟩
  obtain ⟨x, cur, e, q, hx, r⟩ := h.sl.2.2.2 hc
  exact ⟨x, cur, e, q, (k.other x (heap_lt hx) (fun q => hS x q cur (0, 0) hx)).trans hx, r⟩
theorem RangeL.iter {P : Program} {k : TypeId} {b r : Nat} {l left : List (Value × Value)} (h : RangeL w P k b r l left) : ∀ T cur fr, w.heap[r]? ≠ some (.cells cur T fr) := fun T cur fr q => by
  obtain ⟨es, clock, since, seen, c0, _, _, _, _, hr, _⟩ := h
  rw [hr] at q
  cases q
theorem grown_turn {r : Nat} (h : w.grownBy w' (some r)) : Turn (fun g => g = r) w w' := ⟨h.os, h.tape, h.output, h.size, fun g hg hn => h.block g hg (fun e => hn (by cases e; rfl))⟩
theorem IsT.typed {lo t b : Nat} {qp qb : Int} {R : List RowP} (h : IsT w lo t b qp qb R) {T : TypeId} (hT : T ≠ 73) : ∀ g, TB t b g → ∀ cur fr, w.heap[g]? ≠ some (.cells cur T fr) := fun g q cur fr e => by
  rcases q with rfl | rfl
  · have h2 : w.heap[g]? = _ := h.blk
    rw [h2] at e
    cases e
    exact hT rfl
  · obtain ⟨M, hm⟩ := h.map
    obtain ⟨es, c, hb⟩ := hm.map.is
    rw [hb] at e
    cases e
end
theorem apply_good (qp qb : Int) {R : List RowP} (h : GoodR R) (l : List EditP) : GoodR (applyR qp qb R l).D ∧ (applyR qp qb R l).D.length ≤ R.length + l.length ∧ (applyR qp qb R l).v.length ≤ l.length := by
  obtain ⟨h1, h2, h3⟩ := runE_good l 0 [] h
  unfold applyR
  dsimp only
  split
  · split
    · exact ⟨h, by dsimp only; omega, by simp⟩
    · exact ⟨h1, h2, by simpa using h3⟩
  · exact ⟨h, by dsimp only; omega, by simp⟩
theorem apply_err {qp qb : Int} {R : List RowP} {l : List EditP} (h : (applyR qp qb R l).e ≠ 0) : (applyR qp qb R l).D = R ∧ (applyR qp qb R l).v = [] := by
  unfold applyR at h ⊢
  dsimp only at h ⊢
  split
  · split
    · exact ⟨rfl, rfl⟩
    · rename_i q1 q2
      rw [if_pos q1, if_neg q2] at h
      exact absurd rfl h
  · exact ⟨rfl, rfl⟩
theorem try_no (w : World) (l : Value) :
    Calls Tryz.prog 27 #[.pointer none, l] w fun e w' => e = .returned (.tuple #[.int .i64 0, .int .i64 1]) ∧ Ext w w' := by
  go_enter Tryz.func27, Tryz.ntmps27
  go_wp2_with (go_at_call 52; refine (tried_no _ _).mono ?_; rintro e w1 ⟨rfl, x1⟩)
  go_ret2
  exact ⟨rfl, x1⟩
theorem apply_no (w : World) (l : Value) :
    Calls Tryz.prog 24 #[.pointer none, l] w fun e w' => e = .returned (.tuple #[.slice none 0 0, .int .i64 0, .int .i64 1]) ∧ Ext w w' := by
  go_enter Tryz.func24, Tryz.ntmps24
  go_wp2_with (go_at_call 52; refine (tried_no _ _).mono ?_; rintro e w1 ⟨rfl, x1⟩)
  exact bodyPost_ret (results_tmp3 rfl _ _ _) rfl ⟨rfl, x1.alloc _⟩
theorem try_any (w : World) (lo t b : Nat) (qp qb : Int) (R : List RowP) (h : IsT w lo t b qp qb R) (hl : R.length ≤ 800000) (p : Option Addr) (c : Nat) (L : List EditP) (hE : EditsP w p L) (hn : L.length ≤ 5000) (hs : ∀ e ∈ L, e.p.size ≤ 140737488351232 ∧ e.t.size ≤ 140737488351232) :
    Calls Tryz.prog 27 #[.pointer (some ⟨t, 0, none⟩), .slice p L.length c] w fun e w' => e = .returned (.tuple #[.int .i64 ((applyR qp qb R L).at_ : Int), .int .i64 ((applyR qp qb R L).e : Int)]) ∧ Ext w w' := by
  have HT := Lib.hid (tried_any w lo t b qp qb R h hl p c L hE hn hs)
  generalize applyR qp qb R L = TT at *
  generalize L.length = n at *
  clear h hE hs
  go_enter Tryz.func27, Tryz.ntmps27
  go_wp2_with (go_at_call 52; refine HT.out.mono ?_; rintro e w1 ⟨mo, va, vn, c', rfl, x1, _⟩)
  go_ret2
  exact ⟨rfl, x1⟩
set_option maxRecDepth 100000 in
set_option maxHeartbeats 4000000 in
theorem apply_any (w : World) (lo t b : Nat) (qp qb : Int) (R : List RowP) (h : IsT w lo t b qp qb R) (hlo : lo ≤ w.heap.size) (hl : R.length ≤ 800000) (p : Option Addr) (c : Nat) (L : List EditP) (hE : EditsP w p L) (hn : L.length ≤ 5000) (hs : ∀ e ∈ L, e.p.size ≤ 140737488351232 ∧ e.t.size ≤ 140737488351232) :
    Calls Tryz.prog 24 #[.pointer (some ⟨t, 0, none⟩), .slice p L.length c] w fun e w' => ∃ va c', e = .returned (.tuple #[.slice va (applyR qp qb R L).v.length c', .int .i64 ((applyR qp qb R L).at_ : Int), .int .i64 ((applyR qp qb R L).e : Int)]) ∧ IsT w' lo t b qp qb (applyR qp qb R L).D ∧ Turn (TB t b) w w' ∧ IsA w' w.heap.size 25 va c' (nuV (applyR qp qb R L).v) := by
  have HT := Lib.hid (tried_any w lo t b qp qb R h hl p c L hE hn hs)
  have HIT := Lib.hid h
  have HLo := Lib.hid hlo
  have HRL := Lib.hid hl
  have HNL := Lib.hid hn
  have HAG := Lib.hid (apply_good qp qb h.good L)
  have HAE := Lib.hid (fun q : (applyR qp qb R L).e ≠ 0 => apply_err q)
  have HAT : Hid ((applyR qp qb R L).e = 0 → (applyR qp qb R L).at_ = 0) := Lib.hid fun q => by
    unfold applyR at q ⊢
    dsimp only at q ⊢
    split
    · split
      · rename_i q1 q2; rw [if_pos q1, if_pos q2] at q; simp at q
      · rfl
    · rename_i q1; rw [if_neg q1] at q; exact absurd q q1
  generalize applyR qp qb R L = TT at *
  generalize L.length = n at *
  clear h hE hs hlo hl hn
  obtain ⟨te, ta, tD, tv⟩ := TT
  dsimp only at HT HAG HAE HAT ⊢
  obtain ⟨lv, hlv⟩ : ∃ lv, tv.length = lv := ⟨_, rfl⟩
  have HLV := Lib.hid hlv
  rw [hlv]
  by_cases he : te = 0
  · subst he
    have h0 := HAT.out rfl
    subst h0
    clear hlv
    go_enter Tryz.func24, Tryz.ntmps24
    go_wp2_with (first
      | (go_at_call 52; refine HT.out.mono ?_; rintro e w1 ⟨mo, va, vn, c', rfl, x1, hp⟩; obtain ⟨mb, X, rfl, hmb, hM, hX, hOv, hXl, rfl, hA⟩ := hp rfl; dsimp only at hOv hXl hA; rw [HLV.out]; obtain ⟨M, hME⟩ := hM; have HX1 := Lib.hid x1; have HMB := Lib.hid hmb; have HME := Lib.hid hME; have HXG := Lib.hid hX; have HOV := Lib.hid hOv; have HXL := Lib.hid hXl; have HA := Lib.hid hA; have B1 := Lib.hid (Blk.new w1 [.map (some mb), .slice va lv c'] 96); clear x1 hp hmb hME hX hOv hXl hA)
      | (at_range; refine wpList_range_L _ rfl _ 71 rfl 9 55 Tryz.underlying71 mb (M.map kvE) rfl (HME.out.map.ext ((Ext.refl w1).alloc _)) ?_; intro w0 hrg hx0 hs0))
    have HRG := Lib.hid hrg
    have HX0 := Lib.hid (((Ext.refl w1).alloc (.cells #[.map (some mb), .slice va lv c'] 96)).trans hx0)
    have B0 := Lib.hid (B1.out.ext hx0)
    clear hrg hx0 hs0 B1
    obtain ⟨r, hr⟩ : ∃ r, (w1.alloc (.cells #[.map (some mb), .slice va lv c'] 96)).heap.size = r := ⟨_, rfl⟩
    have HRr : Hid (r = w1.heap.size + 1) := Lib.hid (by rw [← hr]; simp)
    rw [hr] at HRG ⊢
    clear hr
    have HNe : Hid (¬ TB t b mb ∧ ¬ TB t b r ∧ ¬ TB t b w1.heap.size) := Lib.hid (by
      have h1 := HIT.out.blk.lt
      have h2 := HIT.out.map.lt
      have h3 := HMB.out
      have h4 := HX1.out.size
      have h5 := HRr.out
      refine ⟨fun q => ?_, fun q => ?_, fun q => ?_⟩ <;> (rcases q with q | q <;> omega))
    go_frame
    go_loopw [] (fun wr => ∃ (left : List (Value × Value)) (done : List Ent), Hid (Gone M left done) ∧ Hid (RangeL wr Tryz.prog 9 mb r (M.map kvE) left) ∧ Hid (IsT wr lo t b qp qb (layR R (done.map Ent.row))) ∧ Hid (∀ e ∈ M, EntP wr w.heap.size e) ∧ Hid (IsA wr w.heap.size 25 va c' (nuV tv)) ∧ Hid (Blk wr w1.heap.size 96 [.map (some mb), .slice va lv c']) ∧ Hid (Turn (TB t b) w wr)) (fun wr => wr.rangeLeft mb r)
    case atStart => exact ⟨M.map kvE, [], Lib.hid (Gone.start HME.out.paths), HRG, Lib.hid (HIT.out.ext (HX1.out.trans HX0.out)), Lib.hid (fun e he => (HME.out.ents e he).ext HX0.out), Lib.hid (HA.out.ext HX0.out), B0, Lib.hid (Turn.ofExt _ (HX1.out.trans HX0.out))⟩
    case round =>
      obtain ⟨left, done, HGo, HR, HT1, HEn, HA1, HB1, HTu⟩ := hrel
      go_wp2_with (at_next; refine wpList_next_L _ rfl _ rfl 9 (fun x : { e : Ent // e ∈ M } => kvE x.1) mb r (M.map kvE) left HGo.out.inv rfl HR.out ?_ ?_)
      · intro h0
        have hD : layR R (done.map Ent.row) = tD := layR_ov HOV.out HIT.out.good.up HAG.out.1.up HGo.out.paths (fun x => by
          have hst := HGo.out
          rw [h0] at hst
          rw [List.mem_map, HME.out.rows x]
          constructor
          · rintro ⟨e, he, q⟩; exact ⟨e, (hst.stop e).1 he, q⟩
          · rintro ⟨e, he, q⟩; exact ⟨e, (hst.stop e).2 he, q⟩)
        have HT2 : Hid (IsT wr lo t b qp qb tD) := Lib.hid (by rw [← hD]; exact HT1.out)
        have b0 := HB1.out.cell 0 _ rfl
        have b1 := HB1.out.cell 1 _ rfl
        clear h0 hD
        go_wp2
        exact bodyPost_ret (results_tmp3 rfl _ _ _) rfl ⟨va, c', rfl, HT2.out, HTu.out, HA1.out⟩
      · intro x hxM left' w2 hq hrg1 hg1 hs1 hen
        obtain ⟨xp, xm, xL, xa, xc⟩ := x
        obtain ⟨G1, _⟩ := HGo.out.step hxM hq
        have HG1 := Lib.hid G1; have HQL := Lib.hid hq.length_eq
        have hxok : OkR ⟨xp, xm, xL⟩ := HXG.out.each _ ((HME.out.rows _).2 ⟨_, hxM, rfl⟩)
        have hT2 := grown_turn hg1
        have hit := HR.out.iter
        have hrT : ∀ g, g = r → NoT wr g := fun g e => by subst e; exact hit _
        have hrne := HNe.out
        have HT3 := Lib.hid (HT1.out.turn hT2 (fun e => hrne.2.1 (by rw [← e]; exact .inl rfl)) (fun e => hrne.2.1 (by rw [← e]; exact .inr rfl)) hrT)
        have HEn3 : Hid (∀ e ∈ M, EntP w2 w.heap.size e) := Lib.hid fun e he => (HEn.out e he).turn hT2 hrT
        have HA3 : Hid (IsA w2 w.heap.size 25 va c' (nuV tv)) := Lib.hid (HA1.out.turnN hT2 fun g e => by subst e; exact hit _)
        have HB3 := Lib.hid (hT2.blk HB1.out (by have := HRr.out; omega))
        have hrs : w.heap.size ≤ r := by have := HRr.out; have := HX1.out.size; omega
        have HTu3 := Lib.hid (HTu.out.then_ hT2 (fun g e => .inr (by subst e; exact hrs)))
        have HR3 := Lib.hid hrg1
        have hlen := layR_len (done.map Ent.row) HIT.out.good.up
        have hdl : done.length ≤ X.length := by
          have h1 := HGo.out.perm.length_eq
          have h2 := (HME.out.perm HXG.out.up).length_eq
          simp only [List.length_append, List.length_map] at h1 h2
          omega
        rw [List.length_map] at hlen
        have hXL := HXL.out; have hRL := HRL.out; have hNL := HNL.out
        have hxe := HEn3.out _ hxM
        have HSet := Lib.hid (tset_any (w2.alloc (.cells #[.int .u64 (xm : Int), .slice xa xL.length xc] 55)) lo t b qp qb _ (HT3.out.ext ((Ext.refl w2).alloc _)) (by omega) ⟨xp, xm, xL⟩ hxok xa xc (hxe.vers.ext ((Ext.refl w2).alloc _)) (fun x hx => Nat.le_trans HLo.out (hxe.low x hx)))
        have HX3 := Lib.hid ((Ext.refl w2).alloc (.cells #[.int .u64 (xm : Int), .slice xa xL.length xc] 55))
        have hmap : withR ⟨xp, xm, xL⟩ (layR R (done.map Ent.row)) = layR R ((done ++ [Ent.mk xp xm xL xa xc]).map Ent.row) := by rw [List.map_append, List.map_cons, List.map_nil, layR_snoc]; rfl
        rw [hmap] at HSet
        dsimp only at HSet
        have hls : left.length = left'.length + 1 := by have := HQL.out; simpa using this
        have HLs := Lib.hid hls
        unfold kvE at hen ⊢
        dsimp only at hen ⊢
        generalize xL.length = nx at *
        clear G1 hq hrg1 hg1 hs1 hT2 hit hrT hrne hrs hlen hdl hXL hRL hNL hxe hmap hls hxok hxM
        go_wp2_with (go_at_call 50; refine HSet.out.mono ?_; rintro e w4 ⟨rfl, t4, k4⟩; have HT4 := Lib.hid t4; have HK4 := Lib.hid k4; clear t4 k4)
        have hTI := HT3.out.ext HX3.out
        have hR4 : RangeL w4 Tryz.prog 9 mb r (M.map kvE) left' := (HR3.out.ext HX3.out).same (HK4.out.other mb ((HR3.out.ext HX3.out).map.lt) HNe.out.1) (HK4.out.other r (HR3.out.ext HX3.out).lt HNe.out.2.1)
        have HR4 := Lib.hid hR4
        clear hR4
        go_roundw
        case rel => exact ⟨left', done ++ [Ent.mk xp xm xL xa xc], HG1, HR4, HT4, Lib.hid (fun e he => ((HEn3.out e he).ext HX3.out).turn HK4.out hTI.noT), Lib.hid ((HA3.out.ext HX3.out).turnN HK4.out (hTI.typed (by decide))), Lib.hid (HK4.out.blk (HB3.out.ext HX3.out) HNe.out.2.2), Lib.hid ((HTu3.out.ext HX3.out).trans HK4.out)⟩
        case measure =>
          rw [HR4.out.left_eq, HR.out.left_eq, HLs.out]
          omega
  · have he1 : ((te : Int) != 0) = true := by have : ¬ (te : Int) = 0 := (by omega); simpa using this
    obtain ⟨rfl, rfl⟩ := HAE.out he
    simp only [List.length_nil] at hlv
    subst hlv
    clear he
    go_enter Tryz.func24, Tryz.ntmps24
    go_wp2_with (go_at_call 52; refine HT.out.mono ?_; rintro e w1 ⟨mo, va, vn, c', rfl, x1, _⟩; have HX1 := Lib.hid x1; clear x1)
    exact bodyPost_ret (results_tmp3 rfl _ _ _) rfl ⟨none, 0, rfl, HIT.out.ext (HX1.out.alloc _), Turn.ofExt _ (HX1.out.alloc _), IsA.nil _ _ _⟩
end Go.Proofs.YtkjcpjalldbahaaGreatDoor
end

section
namespace Go.Proofs.YtkjcpjalldbahaaGreatDoor
open Go.RowKit Go.Maps Go.Sort Go.WideMaps

theorem ownsMap_ext {w w' : World} {k : TypeId} {R : Value → Option (DataW Unit × List MemPlace)} {b n : Nat} {D : DataW Unit} (h : w.ownsMap Tryz.prog k R b n D) (hx : Ext w w') : w'.ownsMap Tryz.prog k R b n D := by
  obtain ⟨es, clock, hb, F, hs, hD⟩ := h
  exact ⟨es, clock, (hx.below.block b (heap_lt hb)).trans hb, F, hs, hD⟩
theorem ext_grownN {a b c : World} {k : Nat} (h : Ext a b) (hg : b.grownBy c (some k)) (hk : a.heap.size ≤ k) : Ext a c := Below.grown h hg h.size (fun q e => by cases e; exact hk)
theorem bufS_mono {w : World} {A B : Nat} {v : Value} {l : List ByteArray} (h : BufS w A v l) (hB : B ≤ A) : BufS w B v l := by
  refine ⟨h.1, ?_⟩
  rcases h.2 with h0 | ⟨g, cap, cur, e1, e2, e3⟩
  · exact .inl h0
  · exact .inr ⟨g, cap, cur, e1, Nat.le_trans hB e2, e3⟩
theorem has_names (p : List UInt8) (L : List (List UInt8)) (k : Nat) (s : List UInt8) (D : DataW Unit) (hs : L[k]? = some s) (hD : IsMap D) (h : ∀ x, x ∈ namesL p (L.take k) ↔ has D (.string x) = true) (hu : underB p s = true) :
    ∀ x, x ∈ namesL p (L.take (k + 1)) ↔ has (D.put (.string (childL p s)) (.agg [])) (.string x) = true := by
  intro x
  have e : x ∈ namesL p (L.take (k + 1)) ↔ x ∈ namesL p (L.take k) ∨ x = childL p s := by
    rw [names_mem, names_mem, List.take_add_one, hs]
    simp only [Option.toList_some, List.mem_append, List.mem_singleton]
    constructor
    · rintro ⟨y, hy | rfl, h1, h2⟩
      · exact .inl ⟨y, hy, h1, h2⟩
      · exact .inr h2
    · rintro (⟨y, hy, h1, h2⟩ | h2)
      · exact ⟨y, .inl hy, h1, h2⟩
      · exact ⟨s, .inr rfl, hu, h2⟩
  rw [e]
  by_cases hx : x = childL p s
  · subst hx
    rw [has_put_same hD (by simp [WideAt.IsKeyLit])]
    simp
  · rw [has_put_other (fun e => hx (by cases e; rfl)), h x]
    simp [hx]
theorem has_same (p : List UInt8) (L : List (List UInt8)) (k : Nat) (s : List UInt8) (D : DataW Unit) (hs : L[k]? = some s) (h : ∀ x, x ∈ namesL p (L.take k) ↔ has D (.string x) = true) (hu : underB p s = false) :
    ∀ x, x ∈ namesL p (L.take (k + 1)) ↔ has D (.string x) = true := by
  intro x
  rw [← h x, names_mem, names_mem, List.take_add_one, hs]
  simp only [Option.toList_some, List.mem_append, List.mem_singleton]
  constructor
  · rintro ⟨y, hy | rfl, h1, h2⟩
    · exact ⟨y, hy, h1, h2⟩
    · rw [hu] at h1; cases h1
  · rintro ⟨y, hy, h1, h2⟩
    exact ⟨y, .inl hy, h1, h2⟩
def dataL (l : List ByteArray) : List (List UInt8) := l.map fun s => s.data.toList
/-- The names, as texts. -/
def namesB (p : ByteArray) (l : List ByteArray) : List ByteArray := (namesL p.data.toList (dataL l)).map toB
set_option maxRecDepth 100000 in
set_option maxHeartbeats 2000000 in
theorem Names_any (p : ByteArray) (hp : p.size ≤ 140737488351232) (q : Option Addr) (c : Nat) (l : List ByteArray) (w : World) (h : TextsP w q l) (hl : l.length ≤ 100000) (hs : ∀ s ∈ l, s.size ≤ 140737488351232) :
    Calls Tryz.prog 42 #[.string p, .slice q l.length c] w fun e w' => ∃ v, e = .returned v ∧ BufS w' w.heap.size v (namesB p l) ∧ Ext w w' := by
  have hmm := @run_makeMap Tryz.prog
  have HH := Lib.hid (fun u (hu : Ext w u) => h.ext hu)
  have HS := Lib.hid hs
  have HKy := Lib.hid (fun mb u => keys_any mb u)
  clear h hs
  go_enter Tryz.func42, Tryz.ntmps42
  go_wp2
  go_loopw [13] (fun iv wr => ∃ (k : Nat) (D : DataW Unit), k ≤ l.length ∧ iv = .int .i64 (k : Int) ∧ wr.ownsMap Tryz.prog 9 (unitElem (H := Unit)) w.heap.size k D ∧ Hid (∀ x, x ∈ namesL p.data.toList ((dataL l).take k) ↔ has D (.string x) = true) ∧ Ext w wr) (fun iv _ => l.length - (intOf iv).toNat)
  case atStart => exact ⟨0, .map [], Nat.zero_le _, rfl, World.ownsMap_made _ _ _ _, Lib.hid (by intro x; simp [namesL, has]), (Ext.refl w).alloc _⟩
  case round =>
    obtain ⟨k, D, hk, rfl, hown, hmem, hext⟩ := hrel
    have HO := Lib.hid hown; have HE := Lib.hid hext
    clear hown
    by_cases hlt : k < l.length
    · obtain ⟨s, hsk⟩ : ∃ s, l[k]? = some s := ⟨_, List.getElem?_eq_getElem hlt⟩
      obtain ⟨a, rfl, _, hc1⟩ := HH.out _ hext k s hsk
      have hss := HS.out s (List.mem_of_getElem? hsk)
      have HC := Lib.hid (fun u => Child_any p s hp hss u)
      have HSk : Hid ((dataL l)[k]? = some s.data.toList) := Lib.hid (by unfold dataL; rw [List.getElem?_map, hsk]; rfl)
      clear hsk hext
      cases hu : underT p s with
      | true =>
        rw [hu] at HC
        have HU : Hid (underB p.data.toList s.data.toList = true) := Lib.hid hu
        have hcs : (childB p s).size ≤ 140737488351232 := by
          have hf := first_take (restB p s).data.toList
          rw [size_list] at hf
          have h2 := rest_size p s
          have e : childB p s = toB (firstL (restB p s).data.toList) := by
            unfold childB childL restB
            unfold underT at hu
            rw [hu, toB_data]; rfl
          rw [e, toB_size]
          omega
        have HKey : Hid (keyOf Tryz.prog 9 (.string (childB p s)) = some (.string (childL p.data.toList s.data.toList))) := Lib.hid (keyOf_string_mk Tryz.underlying9 (by unfold maxLen; omega))
        clear hu hcs
        generalize childB p s = C at *
        go_wp2_with (first
          | (go_at_call 66; refine (HC.out _).mono ?_; rintro e w1 ⟨rfl, x1⟩; have X1 := Lib.hid x1; clear x1)
          | (at_mapUpdate; refine wpList_mapUpdate_own _ rfl _ _ _ 110 rfl 9 113 key_law Tryz.underlying110 (unitElem (H := Unit)) w.heap.size k D rfl (ownsMap_ext HO.out X1.out) (by unfold maxLen; omega) _ _ _ rfl rfl HKey.out _ [] unitElem_mk ?_; intro w2 hown2 hgrow2; have HO2 := Lib.hid hown2; have HG2 := Lib.hid hgrow2; clear hown2 hgrow2))
        go_roundw
        case rel => exact ⟨k + 1, _, by omega, by go_num, HO2.out, Lib.hid (has_names _ _ _ _ _ HSk.out ((HO.out.tidy key_law).isMap) hmem.out HU.out), ext_grownN (HE.out.trans X1.out) HG2.out (Nat.le_refl _)⟩
        case measure => simp [intOf]; omega
      | false =>
        rw [hu] at HC
        have HU : Hid (underB p.data.toList s.data.toList = false) := Lib.hid hu
        clear hu
        go_wp2_with (go_at_call 66; refine (HC.out _).mono ?_; rintro e w1 ⟨rfl, x1⟩; have X1 := Lib.hid x1; clear x1)
        go_roundw
        case rel => exact ⟨k + 1, D, by omega, by go_num, (ownsMap_ext HO.out X1.out).mono (by omega), Lib.hid (has_same _ _ _ _ _ HSk.out hmem.out HU.out), HE.out.trans X1.out⟩
        case measure => simp [intOf]; omega
    · obtain rfl : k = l.length := by omega
      have hm := hmem.out
      rw [List.take_of_length_le (by simp [dataL])] at hm
      have HF := Lib.hid (sorted_any _ _ D _ _ wr HO.out (by omega) (names_rises _ _) hm)
      clear hm hext
      go_wp2_with (first
        | (go_at_call 67; refine (HKy.out _ _).mono ?_; rintro e w1 ⟨rfl, hw⟩; rw [hw])
        | (go_at_call 44; refine HF.out.mono ?_; rintro e w2 ⟨v, rfl, hb, x2⟩; have HB := Lib.hid hb; have X2 := Lib.hid x2; clear hb x2))
      go_ret
      exact ⟨v, rfl, bufS_mono HB.out HE.out.size, HE.out.trans X2.out⟩
end Go.Proofs.YtkjcpjalldbahaaGreatDoor
end
