/- Contracts: keys by epochs: what a ring is; whether it is there, whether an epoch has a key, which is the newest: by the program. -/
import Derived.Test.YtdnpgmoiapkhnaaDoorM10
import Derived.Test.YtdnpgmoiapkhnaaDoorM02
import Derived.Test.YtdnpgmoiapkhnaaDoorShelf
import Derived.WalkSpells
import Derived.Carry
import Derived.Deep.DeepCutAuto
namespace Go.Proofs.YtdnpgmoiapkhnaaDoor
open Go.RowKit Go.ChangeMaps Go.MapKept
open Go.Maps (Keyed keyOf_int_mk int_keyed)

/-! ### Plain -/
/-- The greatest of numbers; 0 of none. -/
def top (l : List Nat) : Nat := l.foldr max 0
theorem top_cons (a : Nat) (l : List Nat) : top (a :: l) = max a (top l) := rfl
theorem top_perm {l m : List Nat} (h : l.Perm m) : top l = top m := by
  induction h with
  | nil => rfl
  | cons a _ ih => rw [top_cons, top_cons, ih]
  | swap a b l => simp only [top_cons]; omega
  | trans _ _ h1 h2 => exact h1.trans h2
theorem top_le {l : List Nat} {n : Nat} (h : ∀ x ∈ l, x ≤ n) : top l ≤ n := by
  induction l with
  | nil => exact Nat.zero_le _
  | cons a r ih =>
    rw [top_cons]
    have := h a (by simp)
    have := ih fun x hx => h x (by simp [hx])
    omega
theorem le_top {l : List Nat} {x : Nat} (h : x ∈ l) : x ≤ top l := by
  induction l with
  | nil => cases h
  | cons a r ih =>
    rw [top_cons]
    rcases List.mem_cons.1 h with rfl | h
    · omega
    · have := ih h; omega
theorem top_mem {l : List Nat} (h : l ≠ []) : top l ∈ l := by
  induction l with
  | nil => exact absurd rfl h
  | cons a r ih =>
    rw [top_cons]
    by_cases hr : r = []
    · subst hr; simp [top]
    · have := ih hr
      rcases Nat.le_total a (top r) with q | q
      · rw [Nat.max_eq_right q]; exact List.mem_cons_of_mem _ this
      · rw [Nat.max_eq_left q]; simp
/-- A ring's epochs. -/
def eps (L : List (Nat × ByteArray)) : List Nat := L.map (·.1)
/-- These may be a ring's keys, by rising epochs. -/
structure GoodK (L : List (Nat × ByteArray)) : Prop where
  ne : L ≠ []
  few : L.length ≤ 64
  up : (eps L).Pairwise (· < ·)
  each : ∀ x ∈ L, 1 ≤ x.1 ∧ x.1 < 4294967296 ∧ x.2.size = 32
section
variable {L : List (Nat × ByteArray)}
theorem GoodK.eps_ne (h : GoodK L) : eps L ≠ [] := fun e => h.ne (List.map_eq_nil_iff.1 e)
theorem GoodK.top_in (h : GoodK L) : top (eps L) ∈ eps L := top_mem h.eps_ne
theorem GoodK.eps_each (h : GoodK L) : ∀ x ∈ eps L, 1 ≤ x ∧ x < 4294967296 := fun x hx => by
  obtain ⟨y, hy, rfl⟩ := List.mem_map.1 hx
  have := h.each y hy
  exact ⟨this.1, this.2.1⟩
theorem GoodK.top_one (h : GoodK L) : 1 ≤ top (eps L) := (h.eps_each _ h.top_in).1
theorem GoodK.top_lt (h : GoodK L) : top (eps L) < 4294967296 := (h.eps_each _ h.top_in).2
theorem eps_nodup (h : (eps L).Pairwise (· < ·)) : L.Nodup := by
  have h2 := List.pairwise_map.1 h
  exact h2.imp fun q e => by rw [e] at q; exact Nat.lt_irrefl _ q
theorem GoodK.snoc (h : GoodK L) {s : ByteArray} (h1 : L.length < 64) (h2 : top (eps L) < 4294967295) (h3 : s.size = 32) : GoodK (L ++ [(top (eps L) + 1, s)]) := by
  refine ⟨by simp, by simp; omega, ?_, fun x hx => ?_⟩
  · unfold eps
    rw [List.map_append, List.pairwise_append]
    refine ⟨h.up, List.pairwise_singleton _ _, fun x hx y hy => ?_⟩
    rw [List.map_cons, List.map_nil, List.mem_singleton] at hy
    subst hy
    have := le_top (l := eps L) hx
    exact Nat.lt_succ_of_le this
  · rcases List.mem_append.1 hx with hx | hx
    · exact h.each x hx
    · rw [List.mem_singleton] at hx; subst hx; exact ⟨by simp, by simp; omega, h3⟩
/-- Without an epoch. -/
def outK (L : List (Nat × ByteArray)) (e : Nat) : List (Nat × ByteArray) := L.filter fun x => x.1 != e
theorem mem_outK {e : Nat} {x : Nat × ByteArray} : x ∈ outK L e ↔ x ∈ L ∧ x.1 ≠ e := by simp [outK]
theorem GoodK.out (h : GoodK L) {e : Nat} (he : e ≠ top (eps L)) : GoodK (outK L e) := by
  refine ⟨fun q => ?_, Nat.le_trans (List.length_filter_le _ _) h.few, ?_, fun x hx => h.each x (mem_outK.1 hx).1⟩
  · obtain ⟨y, hy, hy2⟩ := List.mem_map.1 h.top_in
    have : y ∈ outK L e := mem_outK.2 ⟨hy, fun q => he (q ▸ hy2)⟩
    rw [q] at this
    cases this
  · exact h.up.sublist ((List.filter_sublist).map _)
end

/-! ### A ring's map -/
theorem keyE : Keyed Tryd.prog 29 := int_keyed Tryd.underlying29
theorem keyE_at (n : Nat) (h : n < 4294967296) : keyOf Tryd.prog 29 (.int .u32 (n : Int)) = some (.int .u32 (n : Int)) := keyOf_int_mk Tryd.underlying29 (WalkArith.wf_u32 (by omega))
theorem zero_rootKey (w : World) : (zeroValue 71).run Tryd.prog w = .ok (.agg #[.string ⟨#[]⟩]) w := by kernel_rfl
/-- Block b is a map of these keys. -/
def IsM (w : World) (b : Nat) (L : List (Nat × ByteArray)) : Prop := ∃ M : List (Nat × ByteArray), M.Perm L ∧ MapL w Tryd.prog 29 b (M.map kvR)
section
variable {w w' : World} {b : Nat} {L : List (Nat × ByteArray)}
theorem IsM.lt (h : IsM w b L) : b < w.heap.size := by obtain ⟨_, _, h⟩ := h; exact h.lt
theorem IsM.same (h : IsM w b L) (e : w'.heap[b]? = w.heap[b]?) : IsM w' b L := by obtain ⟨M, h1, h2⟩ := h; exact ⟨M, h1, h2.same e⟩
theorem IsM.ext (h : IsM w b L) (hx : Ext w w') : IsM w' b L := by obtain ⟨M, h1, h2⟩ := h; exact ⟨M, h1, h2.ext hx⟩
theorem IsM.alloc (h : IsM w b L) (o : Obj) : IsM (w.alloc o) b L := by obtain ⟨M, h1, h2⟩ := h; exact ⟨M, h1, h2.alloc o⟩
theorem IsM.drew (h : IsM w b L) : IsM w.drew b L := h
theorem IsM.made (w : World) : IsM (w.alloc (.map #[] 0)) w.heap.size [] := ⟨[], .refl _, MapL.made w _ _⟩
theorem IsM.is (h : IsM w b L) : ∃ es clock, w.heap[b]? = some (.map es clock) := by obtain ⟨_, _, h⟩ := h; exact h.is
theorem IsM.look (h : IsM w b L) (c : Bool) {e : Nat} {s : ByteArray} (he : e < 4294967296) (hm : (e, s) ∈ L) :
    (Instr.lookup 67 (.map (some b)) (.int .u32 (e : Int)) c).run Tryd.prog w = .ok (if c then .tuple #[.agg #[.string s], .bool true] else .agg #[.string s]) w := by
  obtain ⟨M, h1, h2⟩ := h
  exact h2.look keyE Tryd.underlying67 c (keyE_at e he) (List.mem_map.2 ⟨_, h1.mem_iff.2 hm, rfl⟩)
theorem kvR_key {x : Nat × ByteArray} {e : Nat} (h : (kvR x).1 = .int .u32 (e : Int)) : x.1 = e := by
  simp only [kvR, Value.int.injEq, true_and] at h
  omega
theorem IsM.look_none (h : IsM w b L) (c : Bool) {e : Nat} (he : e < 4294967296) (hm : e ∉ eps L) :
    (Instr.lookup 67 (.map (some b)) (.int .u32 (e : Int)) c).run Tryd.prog w = .ok (if c then .tuple #[.agg #[.string ⟨#[]⟩], .bool false] else .agg #[.string ⟨#[]⟩]) w := by
  obtain ⟨M, h1, h2⟩ := h
  refine h2.look_none keyE Tryd.underlying67 c (zero_rootKey w) (keyE_at e he) fun p hp q => ?_
  obtain ⟨x, hx, rfl⟩ := List.mem_map.1 hp
  exact hm (List.mem_map.2 ⟨x, h1.mem_iff.1 hx, kvR_key q⟩)
theorem IsM.put (h : IsM w b L) {e : Nat} {s : ByteArray} (he : e < 4294967296) (hm : e ∉ eps L) :
    ∃ w', (Instr.mapUpdate 67 (.map (some b)) (.int .u32 (e : Int)) (.agg #[.string s])).run Tryd.prog w = .ok () w' ∧ IsM w' b (L ++ [(e, s)]) ∧ w.mapTurned w' b := by
  obtain ⟨M, h1, h2⟩ := h
  obtain ⟨w', r1, r2, r3⟩ := h2.put (val := .agg #[.string s]) keyE Tryd.underlying67 (keyE_at e he) fun p hp q => by
    obtain ⟨x, hx, rfl⟩ := List.mem_map.1 hp
    exact hm (List.mem_map.2 ⟨x, h1.mem_iff.1 hx, kvR_key q⟩)
  exact ⟨w', r1, ⟨M ++ [(e, s)], h1.append_right _, by rw [List.map_append]; exact r2⟩, r3⟩
theorem MapL.nodup {P : Program} {k : TypeId} {l : List (Value × Value)} (h : MapL w P k b l) : l.Nodup := by
  obtain ⟨es, clock, hb, hs, rfl, _⟩ := h
  have hp := ((stamped_iff es clock).1 hs).2.2
  refine List.pairwise_map.2 (hp.imp fun q e => q ?_)
  exact congrArg Prod.fst e
theorem kvR_inj {x y : Nat × ByteArray} (h : kvR x = kvR y) : x = y := by
  simp only [kvR, Prod.mk.injEq, Value.int.injEq, true_and, Value.agg.injEq, Array.mk.injEq, List.cons.injEq, Value.string.injEq, and_true] at h
  exact Prod.ext (by omega) h.2
theorem IsM.drop (h : IsM w b L) {e : Nat} (he : e < 4294967296) (hup : (eps L).Pairwise (· < ·)) :
    ∃ w', (∀ ty, (Builtin.delete_ #[67, 29] ty #[.map (some b), .int .u32 (e : Int)]).run Tryd.prog w = .ok (.tuple #[]) w') ∧ IsM w' b (outK L e) ∧ w.mapTurned w' b := by
  obtain ⟨M, h1, h2⟩ := h
  obtain ⟨w', l', r1, r2, r3, r4⟩ := h2.drop keyE Tryd.underlying67 (keyE_at e he)
  have hl : l'.Perm ((outK L e).map kvR) := by
    refine (List.perm_ext_iff_of_nodup r2.nodup ?_).2 fun p => ?_
    · exact List.pairwise_map.2 ((eps_nodup (L := outK L e) (hup.sublist ((List.filter_sublist).map _))).imp fun q e => q (kvR_inj e))
    · rw [r3]
      constructor
      · rintro ⟨q1, q2⟩
        obtain ⟨x, hx, rfl⟩ := List.mem_map.1 q1
        exact List.mem_map.2 ⟨x, mem_outK.2 ⟨h1.mem_iff.1 hx, fun q => q2 (by rw [← q]; rfl)⟩, rfl⟩
      · intro q
        obtain ⟨x, hx, rfl⟩ := List.mem_map.1 q
        have := mem_outK.1 hx
        exact ⟨List.mem_map.2 ⟨x, h1.mem_iff.2 this.1, rfl⟩, fun q => this.2 (kvR_key q)⟩
  have hinv : ∀ (l : List (Value × Value)) (K : List (Nat × ByteArray)), l.Perm (K.map kvR) → ∃ K' : List (Nat × ByteArray), K'.Perm K ∧ l = K'.map kvR := by
    intro l K hp
    have hall : ∀ p ∈ l, ∃ x, p = kvR x := fun p hq => by
      obtain ⟨x, _, rfl⟩ := List.mem_map.1 (hp.mem_iff.1 hq)
      exact ⟨x, rfl⟩
    obtain ⟨K', rfl⟩ : ∃ K' : List (Nat × ByteArray), l = K'.map kvR := by
      clear hp
      induction l with
      | nil => exact ⟨[], rfl⟩
      | cons p r ih =>
        obtain ⟨K', rfl⟩ := ih fun q hq => hall q (by simp [hq])
        obtain ⟨x, rfl⟩ := hall p (by simp)
        exact ⟨x :: K', rfl⟩
    have hleft : ∀ x : Nat × ByteArray, (kOf (kvR x), match (kvR x).2 with | .agg #[.string s] => s | _ => ⟨#[]⟩) = x := fun x => by
      rw [kOf_kvR]; rfl
    refine ⟨K', ?_, rfl⟩
    have hq := hp.map fun p : Value × Value => (kOf p, match p.2 with | .agg #[.string s] => s | _ => (⟨#[]⟩ : ByteArray))
    rw [List.map_map, List.map_map] at hq
    have e : ∀ K : List (Nat × ByteArray), K.map ((fun p : Value × Value => (kOf p, match p.2 with | .agg #[.string s] => s | _ => (⟨#[]⟩ : ByteArray))) ∘ kvR) = K := fun K => by
      conv => rhs; rw [← List.map_id K]
      exact List.map_congr_left fun x _ => hleft x
    rwa [e, e] at hq
  obtain ⟨K', q1, rfl⟩ := hinv _ _ hl
  exact ⟨w', r1, ⟨K', q1, r2⟩, r4⟩
theorem IsM.len (h : IsM w b L) (ty : TypeId) : (Builtin.len_ #[67] ty #[.map (some b)]).run Tryd.prog w = .ok (.int .i64 (L.length : Int)) w := by
  obtain ⟨M, h1, h2⟩ := h
  have := h2.len Tryd.underlying67 ty
  rwa [List.length_map, h1.length_eq] at this
end
/-- Block r is a ring of these keys, which lie in block b. -/
structure IsK (w : World) (r b : Nat) (L : List (Nat × ByteArray)) : Prop where
  ring : Blk w r 74 [.map (some b)]
  map : IsM w b L
  good : GoodK L
section
variable {w w' : World} {r b : Nat} {L : List (Nat × ByteArray)}
theorem IsK.ne (h : IsK w r b L) : r ≠ b := fun e => by
  obtain ⟨es, c, hb⟩ := h.map.is
  have h2 : w.heap[r]? = _ := h.ring
  rw [e, hb] at h2
  cases h2
theorem IsK.ext (h : IsK w r b L) (hx : Ext w w') : IsK w' r b L := ⟨h.ring.ext hx, h.map.ext hx, h.good⟩
theorem IsK.alloc (h : IsK w r b L) (o : Obj) : IsK (w.alloc o) r b L := ⟨h.ring.alloc o, h.map.alloc o, h.good⟩
theorem IsK.drew (h : IsK w r b L) : IsK w.drew r b L := ⟨h.ring, h.map, h.good⟩
theorem IsK.cell (h : IsK w r b L) : w.cell? ⟨r, 0, none⟩ = some (.map (some b)) := h.ring.cell 0 _ rfl
end

/-! ### Contracts -/
theorem thereK_yes (w : World) (r b : Nat) (h : w.cell? ⟨r, 0, none⟩ = some (.map (some b))) :
    Calls Tryd.prog 45 #[.pointer (some ⟨r, 0, none⟩)] w fun e w' => e = .returned (.bool true) ∧ w = w' := by
  have hnn := run_neq_map_nil (P := Tryd.prog) w 67 29 71 (some b) Tryd.underlying67
  simp only [Option.isNone_some, Bool.not_false] at hnn
  go_enter Tryd.func45, Tryd.ntmps45
  go_wp2
  go_ret
  exact ⟨rfl, rfl⟩
theorem thereK_no (w : World) :
    Calls Tryd.prog 45 #[.pointer none] w fun e w' => e = .returned (.bool false) ∧ w = w' := by
  go_enter Tryd.func45, Tryd.ntmps45
  go_wp2
  go_ret
  exact ⟨rfl, rfl⟩
theorem has_yes (w : World) (r b : Nat) (L : List (Nat × ByteArray)) (e : Nat) (h : IsK w r b L) (he : e ∈ eps L) :
    Calls Tryd.prog 48 #[.pointer (some ⟨r, 0, none⟩), .int .u32 (e : Int)] w fun x w' => x = .returned (.bool true) ∧ Ext w w' := by
  have hc := h.cell
  obtain ⟨⟨e', s⟩, hx, rfl⟩ := List.mem_map.1 he
  have hl := h.map.look true (h.good.eps_each _ he).2 hx
  simp only [if_true] at hl
  clear h he hx
  go_enter Tryd.func48, Tryd.ntmps48
  go_wp2
  go_ret
  exact ⟨rfl, (Ext.refl w).alloc _⟩
theorem has_no (w : World) (r b : Nat) (L : List (Nat × ByteArray)) (e : Nat) (h : IsK w r b L) (h32 : e < 4294967296) (he : e ∉ eps L) :
    Calls Tryd.prog 48 #[.pointer (some ⟨r, 0, none⟩), .int .u32 (e : Int)] w fun x w' => x = .returned (.bool false) ∧ Ext w w' := by
  have hc := h.cell
  have hl := h.map.look_none true h32 he
  simp only [if_true] at hl
  clear h he
  go_enter Tryd.func48, Tryd.ntmps48
  go_wp2
  go_ret
  exact ⟨rfl, (Ext.refl w).alloc _⟩
theorem run_max32 (ts : Array TypeId) (t : TypeId) (a b n : Nat) (hn : n = max a b) (u : World) : (Builtin.max_ ts t #[.int .u32 (a : Int), .int .u32 (b : Int)]).run Tryd.prog u = .ok (.int .u32 (n : Int)) u := by
  simp [Builtin.max_, Builtin.max2]
  omega
theorem newest_nil (w : World) :
    Calls Tryd.prog 20 #[.pointer none] w fun e w' => e = .returned (.int .u32 0) ∧ w = w' := by
  go_enter Tryd.func20, Tryd.ntmps20
  go_wp2_with (go_at_call 45; refine (thereK_no _).mono ?_; rintro e w1 ⟨rfl, rfl⟩)
  go_ret
  exact ⟨rfl, rfl⟩
set_option maxRecDepth 100000 in
set_option maxHeartbeats 2000000 in
theorem newest_any (w : World) (r b : Nat) (L : List (Nat × ByteArray)) (h : IsK w r b L) :
    Calls Tryd.prog 20 #[.pointer (some ⟨r, 0, none⟩)] w fun e w' => e = .returned (.int .u32 (top (eps L) : Int)) ∧ Ext w w' := by
  have hc := h.cell
  obtain ⟨M, hp, hm⟩ := h.map
  have HM := Lib.hid hm; have HP := Lib.hid hp
  clear h hm hp
  go_enter Tryd.func20, Tryd.ntmps20
  go_wp2_with (first
    | (go_at_call 45; refine (thereK_yes _ r b hc).mono ?_; rintro e w1 ⟨rfl, rfl⟩)
    | (at_range; refine wpList_range_L _ rfl _ 67 rfl 29 71 Tryd.underlying67 b (M.map kvR) rfl HM.out ?_; intro w0 hrg hx0 hs0))
  go_frame
  go_loopw [3] (fun nv wr => ∃ (left : List (Value × Value)) (m : Nat), nv = .int .u32 (m : Int) ∧ Hid (RangeL wr Tryd.prog 29 b w.heap.size (M.map kvR) left) ∧ Hid (∀ p ∈ left, ∃ x, p = kvR x) ∧ Hid (max m (top (left.map kOf)) = top (eps L)) ∧ Hid (Ext w wr)) (fun _ wr => wr.rangeLeft b w.heap.size)
  case atStart =>
    refine ⟨M.map kvR, 0, rfl, Lib.hid hrg, Lib.hid (fun p hp => ?_), Lib.hid ?_, Lib.hid hx0⟩
    · obtain ⟨x, _, rfl⟩ := List.mem_map.1 hp
      exact ⟨x, rfl⟩
    · rw [kOf_map, top_perm (HP.out.map (·.1))]
      exact Nat.max_eq_right (Nat.zero_le _)
  case round =>
    obtain ⟨left, m, rfl, HR, HI, HT, HE⟩ := hrel
    go_wp2_with (at_next; refine wpList_next_L _ rfl _ rfl 29 kvR b w.heap.size (M.map kvR) left HI.out rfl HR.out ?_ ?_)
    · intro h0
      have hm : m = top (eps L) := by have := HT.out; rw [h0] at this; simpa [top] using this
      subst hm
      clear h0
      go_wp2
      go_ret
      exact ⟨rfl, HE.out⟩
    · intro x1 x2 left' w1 hq hrg1 hg1 hs1 hen
      have HQ := Lib.hid hq; have HR1 := Lib.hid hrg1; have HG1 := Lib.hid hg1
      clear hq hrg1 hg1 hs1
      unfold kvR at hen
      unfold kvR
      have hmax := run_max32 #[29, 29] 29 m x1 (max m x1) rfl
      generalize hy : max m x1 = y at *
      have HY := Lib.hid hy
      clear hy
      go_wp2
      go_roundw
      case rel =>
        refine ⟨left', y, rfl, HR1, Lib.hid (fun p hp => HI.out p (HQ.out.mem_iff.2 (List.mem_cons_of_mem _ hp))), Lib.hid ?_, Lib.hid (HE.out.grown HG1.out (fun k hk => by cases hk; exact Nat.le_refl _))⟩
        have h1 := top_perm (HQ.out.map kOf)
        rw [List.map_cons, kOf_kvR, top_cons] at h1
        rw [← HT.out, h1, ← HY.out]
        simp only
        omega
      case measure =>
        rw [HR1.out.left_eq, HR.out.left_eq, HQ.out.length_eq, List.length_cons]
        omega
end Go.Proofs.YtdnpgmoiapkhnaaDoor
