/- Contracts: the document's barrier: shut; loaded; begun; the ring's next epoch, an epoch forgotten. Contracts: keys by epochs: the document's ring: an epoch's key forgotten. Contracts: keys by epochs: two rings in one world: what a call of one leaves of the other. Contracts: keys by epochs: what a call does to both rings: the program's and the document's. Contracts: the document's barrier: begun; the ring's next epoch; an epoch forgotten; both rings, whichever they are. Contract: the document's barrier begun. -/
import Derived.Test.YtobhbppogeghnaaGreatDoorM37
import Derived.Test.YtobhbppogeghnaaGreatDoorM28
import Derived.Test.YtobhbppogeghnaaGreatDoorM33
import Derived.Test.YtobhbppogeghnaaGreatDoorM25
import Derived.Test.YtobhbppogeghnaaGreatDoorM04
section
namespace Go.Proofs.YtobhbppogeghnaaGreatDoor
open Go.RowKit
attribute [local irreducible] rkey expand enc dec ctrB ctrC ctrL xorL xorAll turnL turnT kd t4 t8 env5 chk tagT sealT ringL hdT envOf

section
variable {w w' : World} {d n m : Nat} {st : Int} {hh rr : ByteArray} {rg v : Value} {L : List (Nat × ByteArray)}
theorem IsGF.set0 (h : IsGF w d st hh rr rg v n m L) (s : Int) : IsGF (w.setCell ⟨d, 0, none⟩ (.int .u8 s)) d s hh rr rg v n m L := ⟨h.blk.set_ 0 _, ownsRow_setCell_below h.buf (a := ⟨d, 0, none⟩) (Nat.lt_succ_self d) _, h.alike⟩
theorem IsGF.set1 (h : IsGF w d st hh rr rg v n m L) (s : ByteArray) : IsGF (w.setCell ⟨d, 1, none⟩ (.string s)) d st s rr rg v n m L := ⟨h.blk.set_ 1 _, ownsRow_setCell_below h.buf (a := ⟨d, 1, none⟩) (Nat.lt_succ_self d) _, h.alike⟩
theorem IsGF.set2 (h : IsGF w d st hh rr rg v n m L) (s : ByteArray) : IsGF (w.setCell ⟨d, 2, none⟩ (.string s)) d st hh s rg v n m L := ⟨h.blk.set_ 2 _, ownsRow_setCell_below h.buf (a := ⟨d, 2, none⟩) (Nat.lt_succ_self d) _, h.alike⟩
theorem IsGF.set3 (h : IsGF w d st hh rr rg v n m L) (s : Value) : IsGF (w.setCell ⟨d, 3, none⟩ s) d st hh rr s v n m L := ⟨h.blk.set_ 3 _, ownsRow_setCell_below h.buf (a := ⟨d, 3, none⟩) (Nat.lt_succ_self d) _, h.alike⟩
theorem IsGF.turn {n' m' : Nat} (h : IsGF w d st hh rr rg v n m []) (a : 1 ≤ n') (b : n' ≤ 16) (c : 1 ≤ m') (e : m' ≤ 64) : IsGF w d st hh rr rg v n' m' [] := ⟨h.blk, h.buf, Alike.nil a b c e⟩
theorem IsR.mono {A B r c : Nat} {p : Option Addr} {K : List (Nat × ByteArray)} (h : IsR w B r p c K) (hA : A ≤ B) : IsR w A r p c K := ⟨h.ring, h.ents, Nat.le_trans hA h.low, fun g e => Nat.le_trans hA (h.lowp g e), h.apart⟩
theorem IsR.keptT {B r c q i : Nat} {p : Option Addr} {K : List (Nat × ByteArray)} {T : TypeId} {cs : List Value} {u : Value} (h : IsR w B r p c K) (hb : Blk w q T cs) (h1 : T ≠ 77) (h2 : T ≠ 79) (e : w' = w.setCell ⟨q, i, none⟩ u) : IsR w' B r p c K := by
  subst e
  refine ⟨(Below.heap_setCell _ _ _ _ fun hq => ?_).trans h.ring, h.ents.parted hb h2 (fun g hg => Below.heap_setCell _ _ _ _ hg), h.low, h.lowp, h.apart⟩
  simp only at hq
  have h3 := h.ring
  unfold Blk at h3 hb
  rw [hq, hb] at h3
  cases h3
  exact h1 rfl
theorem BufS.turnQ {A B : Nat} {v : Value} {l : List ByteArray} (h : BufS w A v l) (t : TurnQ B w w') : BufS w' A v l := by
  refine ⟨h.1, ?_⟩
  rcases h.2 with h0 | ⟨g, cap, cur, e1, e2, e3, e4⟩
  · exact .inl h0
  · exact .inr ⟨g, cap, cur, e1, e2, t.keep _ _ e3 ⟨fun _ _ e => (by cases e), fun _ _ e => (by cases e), fun _ _ e => (by cases e), fun _ _ e => (by cases e)⟩, e4⟩
end
theorem rseal_no (w : World) (B d : Nat) (S : BS) (h : IsQ w B d S) (hS : stN S ≠ 2) :
    Calls Tryz.prog 31 #[.pointer (some ⟨d, 0, none⟩)] w fun e w' => e = .returned (.int .i64 151) ∧ w = w' := by
  have c0 := h.cell0
  clear h
  cases S
  case opened => exact absurd rfl hS
  all_goals
    simp only [stN] at c0
    go_enter Tryz.func31, Tryz.ntmps31
    go_wp2
    go_ret
    exact ⟨rfl, rfl⟩
theorem rseal_yes (w : World) (B d n : Nat) (E root : ByteArray) (K : List (Nat × ByteArray)) (h : IsQ w B d (.opened n E root K)) :
    Calls Tryz.prog 31 #[.pointer (some ⟨d, 0, none⟩)] w fun e w' => e = .returned (.int .i64 0) ∧ IsQ w' B d (.closed n E []) ∧ TurnQ B w w' := by
  obtain ⟨v, rd, p, c, i, j, l⟩ := h
  have i1 := i.set0 1
  have i2 := i1.set2 ⟨#[]⟩
  have i3 := i2.set3 (.pointer none)
  have c0 := i.blk.cell 0 _ rfl
  have f0 := i.blk.frozen 0
  have c2 := i1.blk.cell 2 _ rfl
  have f2 := i1.blk.frozen 2
  have c3 := i2.blk.cell 3 _ rfl
  have f3 := i2.blk.frozen 3
  have I3 := Lib.hid i3
  have T3 := Lib.hid (((TurnQ.set (i := 0) i.blk l (.int .u8 1)).trans (TurnQ.set (i := 2) i1.blk l (.string ⟨#[]⟩))).trans (TurnQ.set (i := 3) i2.blk l (.pointer none)))
  clear i j i1 i2 i3
  go_enter Tryz.func31, Tryz.ntmps31
  go_wp2
  go_ret
  exact ⟨rfl, ⟨v, I3.out, l⟩, T3.out⟩
theorem rload_state (w : World) (B d : Nat) (S : BS) (h : IsQ w B d S) (hS : stN S ≠ 0) (s : ByteArray) :
    Calls Tryz.prog 28 #[.pointer (some ⟨d, 0, none⟩), .string s] w fun e w' => e = .returned (.int .i64 151) ∧ w = w' := by
  have c0 := h.cell0
  clear h
  cases S
  case none => exact absurd rfl hS
  all_goals
    simp only [stN] at c0
    go_enter Tryz.func28, Tryz.ntmps28
    go_wp2
    go_ret
    exact ⟨rfl, rfl⟩
theorem rload_nil (w : World) (B d : Nat) (h : IsQ w B d .none) :
    Calls Tryz.prog 28 #[.pointer (some ⟨d, 0, none⟩), .string ⟨#[]⟩] w fun e w' => e = .returned (.int .i64 7) ∧ Ext w w' := by
  have c0 : w.cell? ⟨d, 0, none⟩ = some (.int .u8 0) := h.cell0
  clear h
  go_enter Tryz.func28, Tryz.ntmps28
  go_wp2
  go_ret
  exact ⟨rfl, Ext.refl _⟩
theorem rload_n (w : World) (B d : Nat) (h : IsQ w B d .none) (n : Nat) (E : ByteArray) (h256 : n < 256) (hn : n < 1 ∨ 16 < n) (hz : E.size ≤ 140737488351232) :
    Calls Tryz.prog 28 #[.pointer (some ⟨d, 0, none⟩), .string (hdT n E)] w fun e w' => e = .returned (.int .i64 7) ∧ Ext w w' := by
  have c0 : w.cell? ⟨d, 0, none⟩ = some (.int .u8 0) := h.cell0
  have h1 := fun u => hdT_index n E h256 u
  have hs : (hdT n E).size = E.size + 1 := hdT_size n E
  have hsi : ((hdT n E).size : Int) = (E.size : Int) + 1 := by omega
  have hne : (((hdT n E).size : Int) == 0) = false := by
    have q : ¬ ((hdT n E).size : Int) = 0 := by omega
    simpa using q
  clear h hs hsi hz
  generalize hdT n E = H at *
  rcases hn with hn | hn
  · have n1 : (n : Int) < 1 := by omega
    clear hn
    go_enter Tryz.func28, Tryz.ntmps28
    go_wp2
    go_ret
    exact ⟨rfl, Ext.refl _⟩
  · have n1 : ¬ (n : Int) < 1 := by omega
    have n16 : (16 : Int) < (n : Int) := by omega
    clear hn
    go_enter Tryz.func28, Tryz.ntmps28
    go_wp2
    go_ret
    exact ⟨rfl, Ext.refl _⟩
theorem rload_epoch (w : World) (B d : Nat) (h : IsQ w B d .none) (n : Nat) (E : ByteArray) (hn1 : 1 ≤ n) (hn16 : n ≤ 16) (en ee : Int) (hee : ee ≠ 0) (HE : ∀ u, Calls Tryz.prog 60 #[.string E] u fun r w' => r = .returned (.tuple #[.int .u32 en, .int .i64 ee]) ∧ Ext u w') :
    Calls Tryz.prog 28 #[.pointer (some ⟨d, 0, none⟩), .string (hdT n E)] w fun e w' => e = .returned (.int .i64 7) ∧ Ext w w' := by
  have c0 : w.cell? ⟨d, 0, none⟩ = some (.int .u8 0) := h.cell0
  have h1 := fun u => hdT_index n E (by omega) u
  have hf := fun u => hdT_from n E u
  have HEp := Lib.hid HE
  have hs : (hdT n E).size = E.size + 1 := hdT_size n E
  have hne : (((hdT n E).size : Int) == 0) = false := by
    have q : ¬ ((hdT n E).size : Int) = 0 := by omega
    simpa using q
  have n1 : ¬ (n : Int) < 1 := by omega
  have n16 : ¬ (16 : Int) < (n : Int) := by omega
  have hce : (ee != 0) = true := by simpa using hee
  clear h hs hn1 hn16 HE hee
  generalize hdT n E = H at *
  go_enter Tryz.func28, Tryz.ntmps28
  go_wp2_with (go_at_call 60; refine (HEp.out _).mono ?_; rintro e w1 ⟨rfl, x1⟩)
  go_ret
  exact ⟨rfl, x1⟩
theorem rload_yes (w : World) (B d : Nat) (h : IsQ w B d .none) (n : Nat) (E : ByteArray) (hn1 : 1 ≤ n) (hn16 : n ≤ 16) (en : Int) (HE : ∀ u, Calls Tryz.prog 60 #[.string E] u fun r w' => r = .returned (.tuple #[.int .u32 en, .int .i64 0]) ∧ Ext u w') :
    Calls Tryz.prog 28 #[.pointer (some ⟨d, 0, none⟩), .string (hdT n E)] w fun e w' => e = .returned (.int .i64 0) ∧ IsQ w' B d (.closed n E []) ∧ TurnQ B w w' := by
  obtain ⟨v, i, l⟩ := h
  have c0 := i.blk.cell 0 _ rfl
  have h1 := fun u => hdT_index n E (by omega) u
  have hf := fun u => hdT_from n E u
  have HEp := Lib.hid HE
  have hs : (hdT n E).size = E.size + 1 := hdT_size n E
  have hne : (((hdT n E).size : Int) == 0) = false := by
    have q : ¬ ((hdT n E).size : Int) = 0 := by omega
    simpa using q
  have n1 : ¬ (n : Int) < 1 := by omega
  have n16 : ¬ (16 : Int) < (n : Int) := by omega
  have HI := Lib.hid i
  have HL := Lib.hid (And.intro l (And.intro hn1 hn16))
  have hlw := Lib.hid (Nat.le_trans l (Nat.le_of_lt i.blk.lt))
  clear i hs hn1 hn16 HE l
  show Calls _ _ _ _ fun e w' => _ ∧ (∃ v, IsGF w' d 1 (hdT n E) ⟨#[]⟩ (.pointer none) v n 32 [] ∧ B ≤ d) ∧ _
  generalize hdT n E = H at *
  go_enter Tryz.func28, Tryz.ntmps28
  go_wp2_with (go_at_call 60; refine (HEp.out _).mono ?_; rintro e w1 ⟨rfl, x1⟩; have i1 := HI.out.ext x1; have a0 := i1.blk.cell 0 _ rfl; have f0 := i1.blk.frozen 0; have i2 := i1.set0 1; have a1 := i2.blk.cell 1 _ rfl; have f1 := i2.blk.frozen 1; have i3 := Lib.hid (i2.set1 H); have T3 := Lib.hid ((x1.turnQ hlw.out).trans ((TurnQ.set (i := 0) i1.blk HL.out.1 (.int .u8 1)).trans (TurnQ.set (i := 1) i2.blk HL.out.1 (.string H)))); clear i1 i2)
  go_ret
  exact ⟨rfl, ⟨v, i3.out.turn HL.out.2.1 HL.out.2.2 (by decide) (by decide), HL.out.1⟩, T3.out⟩
end Go.Proofs.YtobhbppogeghnaaGreatDoor
end

section
namespace Go.Proofs.YtobhbppogeghnaaGreatDoor
open Go.RowKit

theorem outK_cut {L : List (Nat × ByteArray)} (hG : GoodK L) {e k : Nat} {s : ByteArray} (hk : L[k]? = some (e, s)) : outK L e = L.take k ++ L.drop (k + 1) := by
  obtain ⟨h1, h2⟩ := List.getElem?_eq_some_iff.1 hk
  have hd : L.drop k = (e, s) :: L.drop (k + 1) := by rw [← h2]; exact List.drop_eq_getElem_cons h1
  have hp := List.pairwise_map.1 hG.up
  have h3 : ∀ x ∈ L.take k, x.1 ≠ e := fun x hx q => by
    obtain ⟨i, hi, hxi⟩ := List.getElem_of_mem hx
    rw [List.length_take] at hi
    rw [List.getElem_take] at hxi
    have := List.pairwise_iff_getElem.1 hp i k (by omega) h1 (by omega)
    rw [hxi, h2] at this
    simp at this
    omega
  have h4 : ∀ x ∈ L.drop (k + 1), x.1 ≠ e := fun x hx q => by
    obtain ⟨i, hi, hxi⟩ := List.getElem_of_mem hx
    rw [List.length_drop] at hi
    rw [List.getElem_drop] at hxi
    have := List.pairwise_iff_getElem.1 hp k (k + 1 + i) h1 (by omega) (by omega)
    rw [hxi, h2] at this
    simp at this
    omega
  unfold outK
  conv => lhs; rw [← List.take_append_drop k L, hd]
  rw [List.filter_append, List.filter_cons]
  simp only [bne_self_eq_false, Bool.false_eq_true, if_false]
  rw [List.filter_eq_self.2 (fun x hx => by simpa using h3 x hx), List.filter_eq_self.2 (fun x hx => by simpa using h4 x hx)]
theorem entL_take : ∀ (l : List (Nat × ByteArray)) (k : Nat), (entL l).take (k * 2) = entL (l.take k)
  | [], k => by simp [entL]
  | x :: r, 0 => by simp [entL]
  | x :: r, k + 1 => by rw [show (k + 1) * 2 = k * 2 + 1 + 1 by omega, entL, List.take_succ_cons, List.take_succ_cons, entL_take r k, List.take_succ_cons, entL]
theorem entL_drop : ∀ (l : List (Nat × ByteArray)) (k : Nat), (entL l).drop (k * 2) = entL (l.drop k)
  | [], k => by simp [entL]
  | x :: r, 0 => by simp
  | x :: r, k + 1 => by rw [show (k + 1) * 2 = k * 2 + 1 + 1 by omega, entL, List.drop_succ_cons, List.drop_succ_cons, entL_drop r k, List.drop_succ_cons]
/-- New entries in the ring. -/
theorem IsR.renew {w w2 w3 : World} {B d : Nat} {p p3 : Option Addr} {c c3 : Nat} {κ2 κ3 : Foot} {L L' : List (Nat × ByteArray)} (h : IsR w B d p c L) (hB : B ≤ w.heap.size) (x : Ext w w2) (hκ : ∀ g, g < w.heap.size → κ2 g = 0) (f3 : Fr κ2 (· = 1) w2 w3 κ3)
    (s3 : Sl w3 κ3 1 2 79 p3 L'.length c3 (entL L')) (e3 : ∀ g, p3 = some ⟨g, 0, none⟩ → w.heap.size ≤ g) :
    IsR (w3.setCell ⟨d, 0, none⟩ (.slice p3 L'.length c3)) B d p3 c3 L' ∧ TurnD B w (w3.setCell ⟨d, 0, none⟩ (.slice p3 L'.length c3)) := by
  have hold : ∀ g, g < w.heap.size → w3.heap[g]? = w.heap[g]? := fun g hg => (f3.other g (Nat.lt_of_lt_of_le hg x.size) (by rw [hκ g hg]; decide)).trans (x.block g hg)
  have hd3 : Blk w3 d 77 [.slice p L.length c] := (hold d h.ring.lt).trans h.ring
  refine ⟨⟨hd3.set_ 0 _, s3.kp.parted hd3 (by decide) (fun g hg => Below.heap_setCell _ _ _ _ (by exact hg)), h.low, fun g hg => Nat.le_trans hB (e3 g hg), fun q => ?_⟩, ⟨⟨?_, ?_, ?_, ?_, fun g hg => ?_⟩, ?_, fun g o hg hn => ?_⟩⟩
  · have q := kp_one q
    have h1 := e3 d q
    have h2 := h.ring.lt
    exact absurd h2 (Nat.not_lt.2 h1)
  · exact f3.os.trans x.os
  · exact f3.tape.trans x.tape
  · exact f3.output.trans x.output
  · have := Nat.le_trans x.size f3.size
    simp [World.setCell]
    omega
  · rw [Below.heap_setCell _ _ _ _ (by have := h.low; show g ≠ d; omega)]
    exact hold g (by omega)
  · have := Nat.le_trans x.size f3.size
    simpa [World.setCell] using this
  · have hgd : g ≠ d := fun e => by
      subst e
      have := h.ring
      unfold Blk at this
      rw [this] at hg
      cases hg
      exact hn.1 _ _ rfl
    rw [Below.heap_setCell _ _ _ _ (by exact hgd)]
    exact (hold g (heap_lt hg)).trans hg
theorem rretire_top (w : World) (B d : Nat) (p : Option Addr) (c : Nat) (L : List (Nat × ByteArray)) (h : IsR w B d p c L) (hG : GoodK L) :
    Calls Tryz.prog 69 #[.pointer (some ⟨d, 0, none⟩), .int .u32 (top (eps L) : Int)] w fun x w' => x = .returned (.int .i64 2) ∧ Ext w w' := by
  have HN := Lib.hid (rnewestK_any w B d p c L h hG)
  clear h hG
  generalize top (eps L) = t at *
  go_enter Tryz.func69, Tryz.ntmps69
  go_wp2_with (go_at_call 104; refine (HN.out).mono ?_; rintro e w1 ⟨rfl, x1⟩)
  go_ret
  exact ⟨rfl, x1⟩
theorem rretire_none (w : World) (B d : Nat) (p : Option Addr) (c : Nat) (L : List (Nat × ByteArray)) (h : IsR w B d p c L) (hG : GoodK L) (e : Nat) (hn : e ∉ eps L) :
    Calls Tryz.prog 69 #[.pointer (some ⟨d, 0, none⟩), .int .u32 (e : Int)] w fun x w' => x = .returned (.int .i64 3) ∧ Ext w w' := by
  have HN := Lib.hid (rnewestK_any w B d p c L h hG)
  have hne : ¬ (e : Int) = (top (eps L) : Int) := fun q => hn (by rw [show e = top (eps L) by omega]; exact hG.top_in)
  have HA := Lib.hid (fun u (hu : IsR u B d p c L) => rat_no u B d p c L hu hG.few e hn)
  have HR := Lib.hid h
  clear h hG hn
  generalize top (eps L) = t at *
  go_enter Tryz.func69, Tryz.ntmps69
  go_wp2_with (first
    | (go_at_call 104; refine (HN.out).mono ?_; rintro e w1 ⟨rfl, x1⟩)
    | (go_at_call 106; refine (HA.out _ (HR.out.ext x1)).mono ?_; rintro e w2 ⟨rfl, rfl⟩))
  go_ret
  exact ⟨rfl, x1⟩
theorem elemEn : Tryz.prog.elem 75 = 79 := by kernel_rfl
theorem underEn : Tryz.prog.underlying 75 = some (.slice (Tryz.prog.elem 75)) := by rw [elemEn]; exact Tryz.underlying75
set_option maxRecDepth 100000 in
set_option maxHeartbeats 4000000 in
theorem rretire_yes (w : World) (B d : Nat) (p : Option Addr) (c : Nat) (L : List (Nat × ByteArray)) (hB : B ≤ w.heap.size) (h : IsR w B d p c L) (hG : GoodK L) (e : Nat) (hne : e ≠ top (eps L)) (hin : e ∈ eps L) :
    Calls Tryz.prog 69 #[.pointer (some ⟨d, 0, none⟩), .int .u32 (e : Int)] w fun x w' => ∃ p' c', x = .returned (.int .i64 0) ∧ IsR w' B d p' c' (outK L e) ∧ TurnD B w w' := by
  obtain ⟨⟨e', s⟩, hm, rfl⟩ := List.mem_map.1 hin
  simp only at hne hin ⊢
  obtain ⟨k, hk64, hk, hf⟩ := good_at hG hm
  obtain ⟨n, s2, hn, hn64, hlast⟩ := hG.last
  have hkl : k < L.length := (List.getElem?_eq_some_iff.1 hk).1
  have hkn : k < n := by
    rcases Nat.lt_or_ge k n with q | q
    · exact q
    · have : k = n := by omega
      subst this
      rw [hlast] at hk
      cases hk
      exact absurd rfl hne
  have hout := outK_cut hG hk
  obtain ⟨g, rfl, hBg, _, _⟩ := h.at_ hk
  have hc : L.length ≤ c := h.ents.2.1
  have hnei : ¬ (e' : Int) = (top (eps L) : Int) := by omega
  have HN := Lib.hid (rnewestK_any w B d (some ⟨g, 0, none⟩) c L h hG)
  have HA := Lib.hid (fun u (hu : IsR u B d (some ⟨g, 0, none⟩) c L) => rat_yes u B d (some ⟨g, 0, none⟩) c L hu hG.few e' k s hk hf)
  have HR := Lib.hid h; have HBB := Lib.hid hB
  have hlt : (L.take k).length = k := by rw [List.length_take]; omega
  have hld : (L.drop (k + 1)).length = n - k := by rw [List.length_drop]; omega
  have hs1 : ∀ u, (Instr.slice 75 (.slice (some ⟨g, 0, none⟩) L.length c) none (some (.int .i64 (k : Int))) none).run Tryz.prog u = .ok (.slice (some ⟨g, 0, none⟩) k c) u := fun u => by
    rw [run_slice_h (P := Tryz.prog) u 75 (some ⟨g, 0, none⟩) L.length c underEn .i64 (k : Int) (by omega) (by omega), elemEn, show (sizeOf 79).run Tryz.prog u = .ok 2 u from Tryz.sizeOf79 u]
    simp [Result.andThen, sliced]
    intro q
    simp [Addr.add]
  have hs2 : ∀ u, (Instr.slice 75 (.slice (some ⟨g, 0, none⟩) L.length c) (some (.int .i64 ((k : Int) + 1))) none none).run Tryz.prog u = .ok (.slice (some ⟨g, (k + 1) * 2, none⟩) (n - k) (c - (k + 1))) u := fun u => by
    rw [run_slice_l (P := Tryz.prog) u 75 (some ⟨g, 0, none⟩) L.length c underEn .i64 ((k : Int) + 1) (by omega) (by omega), elemEn, show (sizeOf 79).run Tryz.prog u = .ok 2 u from Tryz.sizeOf79 u]
    have e1 : ((k : Int) + 1).toNat = k + 1 := by omega
    simp only [Result.andThen, sliced, e1]
    rw [if_neg (by omega), show L.length - (k + 1) = n - k by omega]
    simp [Addr.add_mid]
  have hwk : IntKind.i64.wrap ((k : Int) + 1) = (k : Int) + 1 := IntWalk.i64_in _ ⟨by omega, by omega⟩
  have hk0 : ¬ (k : Int) < 0 := by omega
  have HSrc1 : Hid (∀ u, Ext w u → Src Tryz.prog 2 75 (.slice (some ⟨g, 0, none⟩) k c) k (entL (L.take k)) u) := Lib.hid (fun u hu => by
    refine Src.ofSlice u Tryz.underlying75 ⟨g, 0, none⟩ k c _ (by rw [entL_length, hlt]) (fun j v hj => ?_) (entL_one _)
    rw [← entL_take] at hj
    have hj2 := (List.getElem?_eq_some_iff.1 hj).1
    rw [List.length_take] at hj2
    rw [List.getElem?_take, if_pos (by omega)] at hj
    obtain ⟨g', q, _, _, hc', _⟩ := (h.ext hu).ents.cell hj
    cases q
    rw [Addr.add_mid, Nat.zero_add]
    exact hc')
  have HSrc2 : Hid (∀ u, Ext w u → Src Tryz.prog 2 75 (.slice (some ⟨g, (k + 1) * 2, none⟩) (n - k) (c - (k + 1))) (n - k) (entL (L.drop (k + 1))) u) := Lib.hid (fun u hu => by
    refine Src.ofSlice u Tryz.underlying75 ⟨g, (k + 1) * 2, none⟩ (n - k) _ _ (by rw [entL_length, hld]) (fun j v hj => ?_) (entL_one _)
    rw [← entL_drop, List.getElem?_drop] at hj
    obtain ⟨g', q, _, _, hc', _⟩ := (h.ext hu).ents.cell hj
    cases q
    rw [Addr.add_mid]
    exact hc')
  have HOut := Lib.hid hout; have Hlt := Lib.hid hlt; have Hld := Lib.hid hld
  clear h hB hG hm hk hf hlast hout hlt hld hin hne hBg
  generalize top (eps L) = t at *
  go_enter Tryz.func69, Tryz.ntmps69
  go_wp2_with (first
    | (go_at_call 104; refine (HN.out).mono ?_; rintro e w1 ⟨rfl, x1⟩)
    | (go_at_call 106; refine (HA.out _ (HR.out.ext x1)).mono ?_; rintro e w2 ⟨rfl, rfl⟩; have c1 := (HR.out.ext x1).ring.cell 0 _ rfl)
    | (refine wpList_append_sl rfl (.tmp 16) (.tmp 22) 75 75 rfl Tryz.underlying75 infoEn rfl (by decide) rfl (Sl.nil _ (fun _ => 0) 1 2 _) (fun u hu => by cases hu) _ rfl k (entL (L.take k)) (HSrc1.out _ x1) (by omega) ?_
       intro p1 c1' w2 κ2 s2' f2 e2 x2 _
       rw [Nat.zero_add, List.nil_append] at s2'
       rw [Nat.zero_add]
       have y2 := x1.trans (x2 rfl)
       have S2 := Lib.hid s2'; have F2 := Lib.hid f2; have E2 := Lib.hid e2; have X1 := Lib.hid x1
       have c2 := (HR.out.ext y2).ring.cell 0 _ rfl
       clear s2' f2 e2 x2 c1)
    | (refine wpList_append_sl rfl (.tmp 25) (.tmp 32) 75 75 rfl Tryz.underlying75 infoEn rfl (by decide) rfl S2.out (entL_one _) _ rfl (n - k) (entL (L.drop (k + 1))) (HSrc2.out _ y2) (by omega) ?_
       intro p3 c3 w3 κ3 s3 f3 e3 x3 _
       rw [← entL_append, ← HOut.out] at s3
       have hlen : k + (n - k) = (outK L e').length := by rw [HOut.out, List.length_append, Hlt.out, Hld.out]
       rw [hlen] at s3 ⊢
       obtain ⟨m1, m2⟩ := HR.out.renew HBB.out y2 (fun g' hg' => F2.out.foot g' (Nat.lt_of_lt_of_le hg' X1.out.size)) f3 s3 (fun g' hg' => by
         rcases e3 with q | q
         · rcases E2.out with q2 | q2
           · rw [q, q2] at hg'; cases hg'
           · rw [q, q2] at hg'; cases hg'; exact X1.out.size
         · rw [q] at hg'; cases hg'; exact y2.size)
       have hd3 := f3.blk (HR.out.ext y2).ring (by rw [F2.out.foot d (HR.out.ext X1.out).ring.lt]; decide)
       have c3 := hd3.cell 0 _ rfl; have g3 := hd3.frozen 0
       have M1 := Lib.hid m1; have M2 := Lib.hid m2
       clear s3 f3 e3 x3 m1 m2 hd3 hlen c2))
  go_ret
  exact ⟨_, _, rfl, M1.out, M2.out⟩
end Go.Proofs.YtobhbppogeghnaaGreatDoor
end

section
namespace Go.Proofs.YtobhbppogeghnaaGreatDoor
open Go.RowKit

theorem grown_self (w : World) (row : Option Nat) : w.grownBy w row := ⟨rfl, rfl, rfl, Nat.le_refl _, fun _ _ _ => rfl⟩
theorem IsK.grown {w w' : World} {r b k : Nat} {L : List (Nat × ByteArray)} (h : IsK w r b L) (g : w.grownBy w' (some k)) (h1 : k ≠ r) (h2 : k ≠ b) : IsK w' r b L :=
  ⟨(g.block r h.ring.lt (by simpa using h1.symm)).trans h.ring, h.map.same (g.block b h.map.lt (by simpa using h2.symm)), h.good⟩
end Go.Proofs.YtobhbppogeghnaaGreatDoor
end

section
namespace Go.Proofs.YtobhbppogeghnaaGreatDoor
open Go.RowKit
attribute [local irreducible] kd

end Go.Proofs.YtobhbppogeghnaaGreatDoor
end

section
namespace Go.Proofs.YtobhbppogeghnaaGreatDoor
open Go.RowKit
attribute [local irreducible] rkey expand enc dec ctrB ctrC ctrL xorL xorAll turnL turnT kd t4 t8 env5 chk tagT sealT ringL hdT envOf

theorem rbegin_state (w : World) (B d : Nat) (S : BS) (h : IsQ w B d S) (hS : stN S ≠ 0) (root key nonce : ByteArray) (l : Value) :
    Calls Tryz.prog 59 #[.pointer (some ⟨d, 0, none⟩), .string root, .string key, .string nonce, l] w fun e w' => e = .returned (.tuple #[.slice none 0 0, .int .i64 151]) ∧ w = w' := by
  have c0 := h.cell0
  clear h
  cases S
  case none => exact absurd rfl hS
  all_goals
    simp only [stN] at c0
    go_enter Tryz.func59, Tryz.ntmps59
    go_wp2
    go_ret2
    exact ⟨rfl, rfl⟩
theorem rbegin_arg (w : World) (B d : Nat) (h : IsQ w B d .none) (root key nonce : ByteArray) (hz : ¬ (root.size = 32 ∧ key.size = 32 ∧ nonce.size = 12)) (l : Value) :
    Calls Tryz.prog 59 #[.pointer (some ⟨d, 0, none⟩), .string root, .string key, .string nonce, l] w fun e w' => e = .returned (.tuple #[.slice none 0 0, .int .i64 2]) ∧ w = w' := by
  have c0 : w.cell? ⟨d, 0, none⟩ = some (.int .u8 0) := h.cell0
  clear h
  have hb : ∀ (a k : Nat), ((a : Int) != (k : Int)) = decide (a ≠ k) := fun a k => by
    by_cases q : a = k <;> simp [q]
    omega
  have hcase : (((root.size : Int) != 32) = true) ∨ (((root.size : Int) != 32) = false ∧ ((key.size : Int) != 32) = true) ∨ (((root.size : Int) != 32) = false ∧ ((key.size : Int) != 32) = false ∧ ((nonce.size : Int) != 12) = true) := by
    have e1 := hb root.size 32; have e2 := hb key.size 32; have e3 := hb nonce.size 12
    simp only [Int.cast_ofNat_Int] at e1 e2 e3
    rw [e1, e2, e3]
    by_cases q1 : root.size = 32
    · by_cases q2 : key.size = 32
      · refine .inr (.inr ⟨by simp [q1], by simp [q2], ?_⟩)
        simp
        exact fun q3 => hz ⟨q1, q2, q3⟩
      · exact .inr (.inl ⟨by simp [q1], by simp [q2]⟩)
    · exact .inl (by simp [q1])
  clear hb hz
  rcases hcase with q1 | ⟨q1, q2⟩ | ⟨q1, q2, q3⟩
  all_goals
    go_enter Tryz.func59, Tryz.ntmps59
    go_wp2
    go_ret2
    exact ⟨rfl, rfl⟩
theorem rbegin_split (w : World) (B d : Nat) (h : IsQ w B d .none) (root key nonce : ByteArray) (hr : root.size = 32) (hk : key.size = 32) (hz : nonce.size = 12) (l : Value) (c : Int) (hc : c ≠ 0)
    (HS : Calls Tryz.prog 96 #[.string root, l] w fun e w' => e = .returned (.tuple #[.slice none 0 0, .int .i64 c]) ∧ Ext w w') :
    Calls Tryz.prog 59 #[.pointer (some ⟨d, 0, none⟩), .string root, .string key, .string nonce, l] w fun e w' => e = .returned (.tuple #[.slice none 0 0, .int .i64 c]) ∧ Ext w w' := by
  have c0 : w.cell? ⟨d, 0, none⟩ = some (.int .u8 0) := h.cell0
  have HSp := Lib.hid HS
  have hri : (root.size : Int) = 32 := by omega
  have hki : (key.size : Int) = 32 := by omega
  have hzi : (nonce.size : Int) = 12 := by omega
  have hce : (c != 0) = true := by simpa using hc
  clear h HS hr hk hz hc
  go_enter Tryz.func59, Tryz.ntmps59
  go_wp2_with (go_at_call 96; refine (HSp.out).mono ?_; rintro e w1 ⟨rfl, x1⟩)
  go_ret2
  exact ⟨rfl, x1⟩
end Go.Proofs.YtobhbppogeghnaaGreatDoor
end

section
namespace Go.Proofs.YtobhbppogeghnaaGreatDoor
open Go.RowKit
attribute [local irreducible] rkey expand enc dec ctrB ctrC ctrL xorL xorAll turnL turnT kd t4 t8 env5 chk tagT sealT ringL hdT envOf hdOf

set_option maxRecDepth 100000 in
set_option maxHeartbeats 4000000 in
theorem rbegin_yes (w : World) (B d : Nat) (h : IsQ w B d .none) (root key nonce : ByteArray) (p : Option Addr) (c : Nat) (l : List ByteArray) (hr : root.size = 32) (hk : key.size = 32) (hz : nonce.size = 12) (h16 : l.length < 16) (hT : TextsP w p l) (hl : ∀ s, s ∈ l → s.size = root.size) :
    Calls Tryz.prog 59 #[.pointer (some ⟨d, 0, none⟩), .string root, .string key, .string nonce, .slice p l.length c] w fun e w' => (∃ q c', e = .returned (.tuple #[.slice q (l.length + 1) c', .int .i64 0]) ∧ BufS w' w.heap.size (.slice q (l.length + 1) c') (splitT root l)) ∧ IsQ w' B d (.opened (l.length + 1) (envOf root (l.length + 1) nonce [(1, key)]) root [(1, key)]) ∧ TurnQ B w w' := by
  obtain ⟨v, i, low⟩ := h
  have hBw := Nat.le_trans low (Nat.le_of_lt i.blk.lt)
  have HSp := Lib.hid ((rsplit_yes w root p c l (by omega) (by omega) h16 hT hl).mono fun e w' he => (show ∃ q c', e = .returned (.tuple #[.slice q (l.length + 1) c', .int .i64 0]) ∧ BufS w' w.heap.size (.slice q (l.length + 1) c') (splitT root l) ∧ Ext w w' from by
    obtain ⟨v, rfl, hb, hx⟩ := he
    have hlen : (splitT root l).length = l.length + 1 := splitT_length root l
    obtain ⟨q, c', rfl, -, -⟩ := hb.texts
    rw [hlen] at hb ⊢
    exact ⟨q, c', rfl, hb, hx⟩))
  have HN := Lib.hid (fun u => rnewK_any u key)
  have HI := Lib.hid i
  have HLow := Lib.hid (And.intro low hBw)
  have c0 := i.blk.cell 0 _ rfl
  have hri : (root.size : Int) = 32 := by omega
  have hki : (key.size : Int) = 32 := by omega
  have hzi : (nonce.size : Int) = 12 := by omega
  obtain ⟨m, hm⟩ : ∃ m, l.length + 1 = m := ⟨_, rfl⟩
  have hm16 : m ≤ 16 := by omega
  have hm1 : 1 ≤ m := by omega
  have HM := Lib.hid (And.intro hm1 hm16)
  rw [hm] at HSp ⊢
  have hgk := GoodK.one key hk
  have HHe : Hid (∀ u B' r q, IsR u B' r q 1 [(1, key)] → Calls Tryz.prog 68 #[.int .i64 (m : Int), .string root, .string nonce, .pointer (some ⟨r, 0, none⟩)] u fun e w' => e = .returned (.string (hdOf root m nonce [(1, key)])) ∧ Ext u w') := Lib.hid (fun u B' r q hu => rheader_any u B' r q 1 root [(1, key)] hu hgk hr m (by omega) nonce hz)
  obtain ⟨HD, hHD⟩ : ∃ x, hdOf root m nonce [(1, key)] = x := ⟨_, rfl⟩
  rw [hHD] at HHe
  have HHD := Lib.hid hHD
  clear i hT hl hr hk hz h16 low hBw hm hm16 hm1 hHD hgk
  go_enter Tryz.func59, Tryz.ntmps59
  go_wp2_with (first
    | (go_at_call 96; refine (HSp.out).mono ?_; rintro e w1 ⟨q, c', rfl, b1, x1⟩; have B1 := Lib.hid b1; have X1 := Lib.hid x1; have i1 := HI.out.ext x1; have a0 := i1.blk.cell 0 _ rfl; have f0 := i1.blk.frozen 0; have i2 := i1.set0 2; have a2 := i2.blk.cell 2 _ rfl; have f2 := i2.blk.frozen 2; have i3 := i2.set2 root; have I3 := Lib.hid i3; have T3 := Lib.hid ((x1.turnQ HLow.out.2).trans ((TurnQ.set (i := 0) i1.blk HLow.out.1 (.int .u8 2)).trans (TurnQ.set (i := 2) i2.blk HLow.out.1 (.string root)))); have S3 := Lib.hid ((b1.turnQ (TurnQ.set (i := 0) i1.blk HLow.out.1 (.int .u8 2))).turnQ (TurnQ.set (i := 2) i2.blk HLow.out.1 (.string root))); clear b1 x1 i1 i2 i3)
    | (go_at_call 64; refine (HN.out _).mono ?_; rintro e w4 ⟨rd, pr, rfl, r4, x4⟩; have i4 := I3.out.ext x4; have a3 := i4.blk.cell 3 _ rfl; have f3 := i4.blk.frozen 3; have i5 := i4.set3 (.pointer (some ⟨rd, 0, none⟩)); have e3 := i5.blk.cell 3 _ rfl; have I5 := Lib.hid i5; have hlow4 := Nat.le_trans HLow.out.2 T3.out.size; have R5 := Lib.hid ((r4.mono hlow4).keptT i4.blk (by decide) (by decide) (i := 3) (u := .pointer (some ⟨rd, 0, none⟩)) rfl); have T5 := Lib.hid ((T3.out.trans (x4.turnQ hlow4)).trans (TurnQ.set (i := 3) i4.blk HLow.out.1 (.pointer (some ⟨rd, 0, none⟩)))); have S5 := Lib.hid ((S3.out.ext x4).turnQ (TurnQ.set (i := 3) i4.blk HLow.out.1 (.pointer (some ⟨rd, 0, none⟩)))); clear r4 x4 i4 i5)
    | (go_at_call 68; refine (HHe.out _ _ _ _ R5.out).mono ?_; rintro e w6 ⟨rfl, x6⟩; have i6 := I5.out.ext x6; have a1 := i6.blk.cell 1 _ rfl; have f1 := i6.blk.frozen 1; have I6 := Lib.hid i6; have R6 := Lib.hid (R5.out.ext x6); have T6 := Lib.hid (T5.out.trans (x6.turnQ (Nat.le_trans HLow.out.2 T5.out.size))); have S6 := Lib.hid (S5.out.ext x6); clear i6))
  go_ret2
  have hHD := HHD.out
  unfold hdOf at hHD
  subst hHD
  exact ⟨⟨q, c', rfl, S6.out.turnQ (TurnQ.set I6.out.blk HLow.out.1 _)⟩, ⟨v, rd, pr, 1, (I6.out.set1 _).turn (m' := 32) HM.out.1 HM.out.2 (by decide) (by decide), R6.out.keptT I6.out.blk (by decide) (by decide) rfl, HLow.out.1⟩, T6.out.trans (TurnQ.set I6.out.blk HLow.out.1 _)⟩
end Go.Proofs.YtobhbppogeghnaaGreatDoor
end
