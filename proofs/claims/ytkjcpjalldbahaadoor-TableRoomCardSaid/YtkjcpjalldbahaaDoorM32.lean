/- Contract: whether two lists of numbers are the same, by layer 18's law. Plain: edits one by one, with room for all. Plain: one edit and the quota. Contracts: Now, Last, Read and Drop of a table that is there, by the program. -/
import Derived.Test.YtkjcpjalldbahaaDoorM31
import Derived.Test.YtkjcpjalldbahaaDoorM27
import Derived.Test.YtkjcpjalldbahaaDoorM29
import Derived.Test.YtkjcpjalldbahaaDoorOpenEdit
import Derived.Test.YtkjcpjalldbahaaDoorM12
import Derived.Test.YtkjcpjalldbahaaDoorM30
import Derived.Test.YtkjcpjalldbahaaDoorM02
section
namespace Go.Proofs.YtkjcpjalldbahaaDoor
open Go.RowKit

/-- The cells from the address on, if there are any, are these numbers. -/
def NumsP (w : World) (p : Option Addr) (l : List Nat) : Prop := ∀ (i s : Nat), l[i]? = some s → ∃ a, p = some a ∧ a.block < w.heap.size ∧ w.cell? (a.add i) = some (.int .u64 (s : Int))
theorem NumsP.ext {w w' : World} {p : Option Addr} {l : List Nat} (h : NumsP w p l) (hx : Ext w w') : NumsP w' p l := fun i s hs => by
  obtain ⟨a, h1, h2, h3⟩ := h i s hs
  exact ⟨a, h1, Nat.lt_of_lt_of_le h2 hx.below.size, by rw [hx.below.cell (p := a.add i) (by rw [add_block]; exact h2)]; exact h3⟩
theorem IsA.numsP {w : World} {B c : Nat} {p : Option Addr} {l : List Nat} (h : IsA w B 38 p c (nuV l)) : NumsP w p l := fun i s hs => by
  obtain ⟨g, e, h2, _, h3, _⟩ := h.sl.cell (j := i) (u := .int .u64 (s : Int)) (by simp [nuV, hs])
  exact ⟨_, e, h2, by rw [Addr.add_mid, Nat.zero_add]; exact h3⟩
theorem Blk.numsP {w : World} {b : Nat} {T : TypeId} {l : List Nat} (h : Blk w b T (nuV l)) : NumsP w (some ⟨b, 0, none⟩) l := fun i s hs =>
  ⟨_, rfl, h.lt, by rw [Addr.add_mid, Nat.zero_add]; exact h.cell i _ (by simp [nuV, hs])⟩
theorem listsN_eq {l m : List Nat} (hlm : l.length = m.length) (h : ∀ i, i < l.length → l[i]? = m[i]?) : l = m := by
  apply List.ext_getElem?
  intro i
  by_cases hi : i < l.length
  · exact h i hi
  · rw [List.getElem?_eq_none (by omega), List.getElem?_eq_none (by omega)]
theorem num_ne {x y : Nat} (h : ¬ x = y) : ((x : Int) == (y : Int)) = false := by
  rw [beq_eq_false_iff_ne]
  omega
set_option maxRecDepth 100000 in
set_option maxHeartbeats 2000000 in
theorem numbers18_is (w : World) (p q : Option Addr) (c d n k : Nat) (l m : List Nat) (hn : l.length = n) (hk : m.length = k) (hl : NumsP w p l) (hm : NumsP w q m) (hn6 : n ≤ 1000000) (hk6 : k ≤ 1000000) (b : Bool) (hb : b = true ↔ l = m) :
    Calls Tryd.prog 11 #[.slice p n c, .slice q k d] w fun e w' => e = .returned (.bool b) ∧ Ext w w' := by
  have HL := Lib.hid (fun u (hu : Ext w u) => hl.ext hu)
  have HM := Lib.hid (fun u (hu : Ext w u) => hm.ext hu)
  have HB := Lib.hid hb
  by_cases hnk : n = k
  · subst hnk
    have HE := Lib.hid (fun h => listsN_eq (l := l) (m := m) (by omega) h)
    have HN := Lib.hid hn; have HK := Lib.hid hk
    clear hl hm hb hn hk
    go_enter Tryd.func11, Tryd.ntmps11
    go_wp2
    go_loopw [5] (fun i wr => ∃ j : Nat, j ≤ n ∧ i = .int .i64 (j : Int) ∧ Hid (∀ i, i < j → l[i]? = m[i]?) ∧ Hid (Ext w wr)) (fun i _ => n - (intOf i).toNat)
    case atStart => exact ⟨0, Nat.zero_le _, rfl, Lib.hid (fun i hi => by omega), Lib.hid (Ext.refl _)⟩
    case round =>
      obtain ⟨j, hj, rfl, hs, hx⟩ := hrel
      by_cases hlt : j < n
      · obtain ⟨x, hxj⟩ : ∃ x, l[j]? = some x := ⟨_, List.getElem?_eq_getElem (by have := HN.out; omega)⟩
        obtain ⟨y, hyj⟩ : ∃ y, m[j]? = some y := ⟨_, List.getElem?_eq_getElem (by have := HK.out; omega)⟩
        obtain ⟨a, rfl, _, hc1⟩ := HL.out _ hx.out j x hxj
        obtain ⟨a2, rfl, _, hc2⟩ := HM.out _ hx.out j y hyj
        have HX := Lib.hid hxj; have HY := Lib.hid hyj
        clear hxj hyj
        by_cases hxy : x = y
        · subst hxy
          go_wp2
          go_quiet (fail)
          go_wp2
          go_roundw
          case rel => 
            refine ⟨j + 1, hlt, by go_num, Lib.hid fun i hi => ?_, Lib.hid (hx.out.drewN _)⟩
            by_cases hij : i = j
            · rw [hij, HX.out, HY.out]
            · exact hs.out i (by omega)
          case measure => simp [intOf]; omega
        · have hne := num_ne hxy
          have hbf : b = false := by
            cases b with
            | false => rfl
            | true =>
              have := HB.out.1 rfl
              subst this
              have h1 := HX.out
              rw [HY.out] at h1
              exact absurd (Option.some.inj h1).symm hxy
          subst hbf
          go_wp2
          go_quiet (fail)
          go_wp2
          go_ret
          exact ⟨rfl, hx.out.drewN _⟩
      · obtain rfl : j = n := by omega
        have hbt : b = true := HB.out.2 (HE.out (by have := HN.out; intro i hi; exact hs.out i (by omega)))
        subst hbt
        go_wp2
        go_ret
        exact ⟨rfl, hx.out⟩
  · have hbf : b = false := by
      cases b with
      | false => rfl
      | true => exact absurd (congrArg List.length (hb.1 rfl)) (by omega)
    subst hbf
    have hnk2 : ((n : Int) != (k : Int)) = true := by rw [bne_iff_ne]; omega
    clear hl hm hb hn hk
    go_enter Tryd.func11, Tryd.ntmps11
    go_wp2
    go_ret
    exact ⟨rfl, Ext.refl _⟩
theorem numbers18_dec (w : World) (p q : Option Addr) (c d n k : Nat) (l m : List Nat) (hn : l.length = n) (hk : m.length = k) (hl : NumsP w p l) (hm : NumsP w q m) (hn6 : n ≤ 1000000) (hk6 : k ≤ 1000000) :
    Calls Tryd.prog 11 #[.slice p n c, .slice q k d] w fun e w' => e = .returned (.bool (decide (l = m))) ∧ Ext w w' :=
  numbers18_is w p q c d n k l m hn hk hl hm hn6 hk6 _ (by simp)
end Go.Proofs.YtkjcpjalldbahaaDoor
end

section
namespace Go.Proofs.YtkjcpjalldbahaaDoor
open Go.RowKit Go.ChangeMaps Go.MapKept

theorem over_no {R D : List RowP} (hD : GoodR D) (hl : D.length ≤ 20000) : overR 1048576 1073741824 R D = false := by
  have := GoodR.bytes hD.each
  unfold overR
  simp
  omega
theorem apply_roomy {R : List RowP} (h : GoodR R) (l : List EditP) (hl : R.length + l.length ≤ 20000) : applyR 1048576 1073741824 R l = if (runE 0 R [] l).e = 0 then ⟨0, 0, (runE 0 R [] l).D, (runE 0 R [] l).v⟩ else ⟨(runE 0 R [] l).e, (runE 0 R [] l).at_, R, []⟩ := by
  obtain ⟨h1, h2, _⟩ := runE_good l 0 [] h
  unfold applyR
  dsimp only
  rw [over_no h1 (by omega)]
  rfl
theorem apply_one {R : List RowP} (h : GoodR R) (e : EditP) (hl : R.length ≤ 19000) : applyR 1048576 1073741824 R [e] = if (editR R e).1.e = 0 then ⟨0, 0, (editR R e).2, [(editR R e).1.last]⟩ else ⟨(editR R e).1.e, 0, R, []⟩ := by
  rw [apply_roomy h [e] (by simp; omega)]
  by_cases he : (editR R e).1.e = 0
  · rw [runE_go he, runE_nil, if_pos rfl, if_pos he]
    rfl
  · rw [runE_stop he, if_neg he, if_neg he]
/-- An argument's edit. -/
def EditO.toP (x : EditO) : EditP := ⟨x.Kind, x.Path, x.Any, x.Want, x.N, x.Text⟩
theorem EditOsP.edits {w : World} {p : Option Addr} {l : List EditO} (h : EditOsP w p l) : EditsP w p (l.map EditO.toP) := fun k x hk => by
  rw [List.getElem?_map] at hk
  cases hx : l[k]? with
  | none => rw [hx] at hk; cases hk
  | some y =>
    rw [hx] at hk
    cases hk
    obtain ⟨a, h1, h2, h3⟩ := h k y hx
    exact ⟨a, h1, h2, h3⟩
theorem edits_ok {l : List EditO} (h : ∀ x ∈ l, x.Ok) : ∀ e ∈ l.map EditO.toP, e.p.size ≤ 140737488351232 ∧ e.t.size ≤ 140737488351232 := fun e he => by
  obtain ⟨x, hx, rfl⟩ := List.mem_map.1 he
  exact ⟨(h x hx).Path, (h x hx).Text⟩
/-- A table while numbers are appended. -/
theorem IsT.keepA {w w' : World} {lo t b A : Nat} {qp qb : Int} {R : List RowP} {T' : TypeId} (h : IsT w lo t b qp qb R) (k : KeepA T' A w w') (h1 : 58 ≠ T') (h2 : 63 ≠ T') : IsT w' lo t b qp qb R := ⟨h.blk.keepA k h2, h.map.keepA k h1, h.good⟩
theorem KeepA.turn {w w' : World} {B : Nat} {T : TypeId} (k : KeepA T B w w') : Turn (fun g => B ≤ g) w w' := ⟨k.below.os, k.below.tape, k.below.output, k.below.size, fun g _ hn => k.below.block g (by omega)⟩
end Go.Proofs.YtkjcpjalldbahaaDoor
end

section
namespace Go.Proofs.YtkjcpjalldbahaaDoor
open Go.RowKit

theorem sizeL_set3 : ∀ {L : List Ver} {k : Nat} {v x : Ver}, L[k]? = some v → sizeL (L.set k x) + v.t.size = sizeL L + x.t.size
  | [], k, v, x, h => by simp at h
  | a :: r, 0, v, x, h => by
    simp at h; subst h
    simp only [List.set_cons_zero, sizeL]
    omega
  | a :: r, k + 1, v, x, h => by
    have ih := sizeL_set3 (L := r) (k := k) (v := v) (x := x) (by simpa using h)
    simp only [List.set_cons_succ, sizeL]
    omega
theorem findL_no180 (m : Nat) (L : List Ver) (n : Nat) : (findL m L n).1 ≠ 180 := by
  unfold findL
  split
  · split
    · simp
    · split
      · simp
      · split <;> simp
  · simp
theorem des_fine {D : List RowP} (h : GoodR D) {e : EditP} (hk : e.k = 3) : (editR D e).1.e ≠ 180 ∧ ((editR D e).1.e = 0 → (editR D e).2.length ≤ D.length ∧ bytesR (editR D e).2 ≤ bytesR D) := by
  have hO : ∀ m L, outR m L e = if mayB e.p.data.toList then desL m L e.n else ⟨2, 0, []⟩ := fun m L => by
    unfold outR
    rw [hk]
    simp
  refine ⟨?_, fun he => ?_⟩
  · show (outR _ _ e).e ≠ 180
    rw [hO]
    split
    · unfold desL
      dsimp only
      split
      · simp
      · exact findL_no180 _ _ _
    · simp
  · rw [edit_fine he]
    have he2 : (outR (cellR D e.p).1 (cellR D e.p).2 e).e = 0 := he
    have hL : (editR D e).1 = outR (cellR D e.p).1 (cellR D e.p).2 e := rfl
    rw [hL]
    rw [hO] at he2 ⊢
    split at he2
    · rename_i hm
      rw [if_pos hm]
      unfold desL at he2 ⊢
      dsimp only at he2 ⊢
      split at he2
      · rename_i hf
        rw [if_pos hf]
        cases e1 : findL (cellR D e.p).1 (cellR D e.p).2 e.n with
        | mk er k =>
          rw [e1] at hf
          dsimp only at hf ⊢
          subst hf
          obtain ⟨v, hv, _⟩ := findL_ok e1
          cases hl : lookR D e.p with
          | none => rw [cellR_none hl] at hv; simp at hv
          | some r =>
            rw [cellR_some hl] at hv ⊢
            dsimp only at hv ⊢
            have h1 := len_with h.up ⟨e.p, r.m, r.L.set k ⟨e.n, 3, ⟨#[]⟩⟩⟩
            have h2 := bytes_with h.up ⟨e.p, r.m, r.L.set k ⟨e.n, 3, ⟨#[]⟩⟩⟩
            have h3 := sizeL_set3 (x := ⟨e.n, 3, ⟨#[]⟩⟩) hv
            have h4 : (⟨#[]⟩ : ByteArray).size = 0 := rfl
            have h5 := (lookR_mem hl).2
            unfold hasR at h1
            unfold oldR at h2
            dsimp only at h1 h2 h3
            rw [hl] at h1 h2
            simp only [Option.isSome_some, if_true, Option.elim] at h1 h2
            unfold szR at h2
            dsimp only at h2
            rw [h5] at h2
            exact ⟨by omega, by omega⟩
      · rename_i hf
        exact absurd he2 hf
    · simp at he2
theorem apply_over {qp qb : Int} {R : List RowP} {e : EditP} (he : (editR R e).1.e = 0) (ho : overR qp qb R (editR R e).2 = true) : applyR qp qb R [e] = ⟨180, 1, R, []⟩ := by
  unfold applyR
  rw [runE_go he, runE_nil]
  dsimp only
  rw [if_pos rfl, if_pos ho]
  rfl
theorem apply_fits {qp qb : Int} {R : List RowP} {e : EditP} (he : (editR R e).1.e = 0) (ho : overR qp qb R (editR R e).2 = false) : applyR qp qb R [e] = ⟨0, 0, (editR R e).2, [(editR R e).1.last]⟩ := by
  unfold applyR
  rw [runE_go he, runE_nil]
  dsimp only
  rw [if_pos rfl, ho]
  rfl
theorem apply_bad {qp qb : Int} {R : List RowP} {e : EditP} (he : (editR R e).1.e ≠ 0) : applyR qp qb R [e] = ⟨(editR R e).1.e, 0, R, []⟩ := by
  unfold applyR
  rw [runE_stop he]
  dsimp only
  rw [if_neg he]
/-- What one edit does beside a quota. -/
structure RoomP (qp qb : Int) (R : List RowP) (k : Nat) (T : Tri) : Prop where
  bad : T.e ≠ 0 → T.D = R
  paths : T.e = 0 → ¬ (qp < (T.D.length : Int) ∧ R.length < T.D.length)
  bytes : T.e = 0 → ¬ (qb < (bytesR T.D : Int) ∧ bytesR R < bytesR T.D)
  des : k = 3 → T.e ≠ 180
theorem room_one {R : List RowP} (h : GoodR R) (e : EditP) (qp qb : Int) : RoomP qp qb R e.k (applyR qp qb R [e]) := by
  refine ⟨fun q => (apply_err q).1, fun q => ?_, fun q => ?_, fun hk => ?_⟩
  · by_cases he : (editR R e).1.e = 0
    · cases ho : overR qp qb R (editR R e).2 with
      | true => rw [apply_over he ho] at q; simp at q
      | false =>
        rw [apply_fits he ho]
        unfold overR at ho
        simp at ho
        dsimp only
        omega
    · rw [apply_bad he] at q; exact absurd q he
  · by_cases he : (editR R e).1.e = 0
    · cases ho : overR qp qb R (editR R e).2 with
      | true => rw [apply_over he ho] at q; simp at q
      | false =>
        rw [apply_fits he ho]
        unfold overR at ho
        simp at ho
        dsimp only
        omega
    · rw [apply_bad he] at q; exact absurd q he
  · obtain ⟨h1, h2⟩ := des_fine h hk
    by_cases he : (editR R e).1.e = 0
    · cases ho : overR qp qb R (editR R e).2 with
      | true =>
        obtain ⟨q1, q2⟩ := h2 he
        unfold overR at ho
        simp at ho
        omega
      | false => rw [apply_fits he ho]; simp
    · rw [apply_bad he]; exact h1
end Go.Proofs.YtkjcpjalldbahaaDoor
end

section
namespace Go.Proofs.YtkjcpjalldbahaaDoor
open Go.RowKit Go.ChangeMaps Go.MapKept

theorem cellR_len {R : List RowP} (h : GoodR R) (p : ByteArray) : (cellR R p).2.length ≤ 8 := by
  cases e : lookR R p with
  | none => rw [cellR_none e]; simp
  | some r => rw [cellR_some e]; exact (h.each r (lookR_mem e).1).len
/-- What Read answers, by the program. -/
def treadR (R : List RowP) (p : ByteArray) (n : Nat) : Nat × Ver :=
  if mayB p.data.toList = true then readL (cellR R p).1 (cellR R p).2 n else (2, ⟨0, 0, ⟨#[]⟩⟩)
/-- No text lies in the block. -/
def NoS (w : World) (g : Nat) : Prop := ∀ a : Addr, a.block = g → ∀ s, w.cell? a ≠ some (.string s)
theorem IsT.noS {w : World} {lo t b : Nat} {qp qb : Int} {R : List RowP} (h : IsT w lo t b qp qb R) : ∀ g, TB t b g → NoS w g := fun g q a ha s e => by
  subst ha
  rcases q with q | q
  · have h2 : w.heap[t]? = _ := h.blk
    unfold World.cell? at e
    rw [q, h2] at e
    dsimp only at e
    split at e
    · cases e
    · have : [Value.int .i64 qp, .int .i64 qb, .map (some b), .int .i64 (bytesR R : Int)][a.off]? = some (.string s) := by simpa using e
      have := List.mem_of_getElem? this
      simp at this
  · obtain ⟨M, hm⟩ := h.map
    obtain ⟨es, cl, hb⟩ := hm.map.is
    unfold World.cell? at e
    rw [q, hb] at e
    simp at e
theorem TextsP.turnS {S : Nat → Prop} {w w' : World} {p : Option Addr} {l : List ByteArray} (h : TextsP w p l) (f : Turn S w w') (hS : ∀ g, S g → NoS w g) : TextsP w' p l := fun i s hs => by
  obtain ⟨a, h1, h2, h3⟩ := h i s hs
  have hn : ¬ S a.block := fun q => hS _ q (a.add i) (add_block _ _) _ h3
  exact ⟨a, h1, Nat.lt_of_lt_of_le h2 f.size, by rw [World.cell?_of_block (w := w) (by rw [add_block]; exact f.other a.block h2 hn)]; exact h3⟩
end Go.Proofs.YtkjcpjalldbahaaDoor
end
