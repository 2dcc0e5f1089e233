/- Contracts: a barrier, by the program: begun; loaded; shut; what it tells. Contracts: a barrier, by the program: what it tells; shut; loaded; closed by it, opened by it. Contracts: a barrier that is begun where it may not be, or of what does not fit, by the program. Contracts: a barrier, by the program: a share that comes; all have come. -/
import Derived.Test.YtobhbppogeghnaaGreatDoorM26
import Derived.StillTailTactics
import Derived.Deep.RegionLaw
section
namespace Go.Proofs.YtobhbppogeghnaaGreatDoor
open Go.RowKit
attribute [local irreducible] rkey expand enc dec ctrB ctrC ctrL xorL xorAll turnL turnT kd t4 t8 env5 chk tagT sealT ringL hdT envOf

theorem IsK.kept {w w' : World} {b : Nat} {T : TypeId} {cs : List Value} {i r k : Nat} {K : List (Nat × ByteArray)} {u : Value} (h : IsK w r k K) (hb : Blk w b T cs) (hT : T ≠ 112) (e : w' = w.setCell ⟨b, i, none⟩ u) : IsK w' r k K := by
  subst e
  have h1 : r ≠ b := fun q => by
    have h2 := h.ring
    unfold Blk at h2 hb
    rw [q, hb] at h2
    cases h2
    exact hT rfl
  have h3 : k ≠ b := fun q => by
    obtain ⟨es, c, h4⟩ := h.map.is
    unfold Blk at hb
    rw [q, hb] at h4
    cases h4
  exact ⟨(Below.heap_setCell _ _ _ _ h1).trans h.ring, h.map.same (Below.heap_setCell _ _ _ _ h3), h.good⟩
theorem IsG.kept {w w' : World} {b : Nat} {T : TypeId} {cs : List Value} {i g bm n m : Nat} {L : List (Nat × ByteArray)} {u : Value} (h : IsG w g bm n m L) (hb : Blk w b T cs) (hT : T ≠ 97) (e : w' = w.setCell ⟨b, i, none⟩ u) : IsG w' g bm n m L := by
  subst e
  have h1 : g ≠ b := fun q => by
    have h2 := h.blk
    unfold Blk at h2 hb
    rw [q, hb] at h2
    cases h2
    exact hT rfl
  have h3 : bm ≠ b := fun q => by
    obtain ⟨es, c, h4⟩ := h.map.is
    unfold Blk at hb
    rw [q, hb] at h4
    cases h4
  exact ⟨(Below.heap_setCell _ _ _ _ h1).trans h.blk, h.map.same (Below.heap_setCell _ _ _ _ h3), h.alike⟩
theorem Laid.turnP {B : Nat} {w w' : World} (h : Laid w) (t : TurnP B w w') (h2 : 2 ≤ B) : Laid w' := h.below t.below h2
theorem BufS.turnP {w w' : World} {A B : Nat} {v : Value} {l : List ByteArray} (h : BufS w A v l) (t : TurnP B w w') : BufS w' A v l := by
  refine ⟨h.1, ?_⟩
  rcases h.2 with h0 | ⟨g, cap, cur, e1, e2, e3, e4⟩
  · exact .inl h0
  · exact .inr ⟨g, cap, cur, e1, e2, t.keep _ _ e3 ⟨fun _ _ e => (by cases e), fun _ _ e => (by cases e)⟩, e4⟩
set_option maxRecDepth 100000 in
set_option maxHeartbeats 400000 in
theorem begin_yes (w : World) (B b : Nat) (hB2 : 2 ≤ B) (hL : Laid w) (h : IsP w B b .none) (root key nonce : ByteArray) (p : Option Addr) (c : Nat) (l : List ByteArray) (hr : root.size = 32) (hk : key.size = 32) (hz : nonce.size = 12) (h16 : l.length < 16) (hT : TextsP w p l) (hl : ∀ s, s ∈ l → s.size = root.size) :
    Calls Tryz.prog 13 #[.pointer (some ⟨b, 0, none⟩), .string root, .string key, .string nonce, .slice p l.length c] w fun e w' => (∃ q c', e = .returned (.tuple #[.slice q (l.length + 1) c', .int .i64 0]) ∧ BufS w' w.heap.size (.slice q (l.length + 1) c') (splitT root l)) ∧ IsP w' B b (.opened (l.length + 1) (envOf root (l.length + 1) nonce [(1, key)]) root [(1, key)]) ∧ TurnP B w w' := by
  have HIn := Lib.hid (bin_any w B b .none h 0 rfl)
  obtain ⟨g, bm, i⟩ := h
  have HSp := Lib.hid ((split_yes w root p c l (by omega) (by omega) h16 hT hl).mono fun e w' he => (show ∃ q c', e = .returned (.tuple #[.slice q (l.length + 1) c', .int .i64 0]) ∧ BufS w' w.heap.size (.slice q (l.length + 1) c') (splitT root l) ∧ Ext w w' from by
    obtain ⟨v, rfl, hb, hx⟩ := he
    have hlen : (splitT root l).length = l.length + 1 := splitT_length root l
    obtain ⟨q, c', rfl, -, -⟩ := hb.texts
    rw [hlen] at hb ⊢
    exact ⟨q, c', rfl, hb, hx⟩))
  have HBk := Lib.hid (fun u (hx : Ext w u) => i.blk.ext hx)
  have HN1 := Lib.hid (fun u => newK_yes u root hr)
  have HN2 := Lib.hid (fun u => newK_yes u key hk)
  have HLd := Lib.hid hL
  have HI := Lib.hid i
  have hri : (root.size : Int) = 32 := by omega
  have hki : (key.size : Int) = 32 := by omega
  have hzi : (nonce.size : Int) = 12 := by omega
  have HZ := Lib.hid hz
  have H16 := Lib.hid h16
  clear i hT hl hL hr hk hz h16
  obtain ⟨m, hm⟩ : ∃ m, l.length + 1 = m := ⟨_, rfl⟩
  have hmi : (m : Int) = (l.length : Int) + 1 := by omega
  have HM := Lib.hid hm
  rw [hm] at HSp
  rw [hm]
  go_enter Tryz.func13, Tryz.ntmps13
  go_wp2_with (first
    | (go_at_call 37; refine (HIn.out).mono ?_; rintro e w1 ⟨rfl, rfl⟩)
    | (go_at_call 38; refine (HSp.out).mono ?_; rintro e w2 ⟨q, c', rfl, b2, x2⟩; have B2 := Lib.hid b2; have X2 := Lib.hid x2; clear b2 x2)
    | (go_at_call 39; (with_reducible refine (HN1.out _).mono ?_); rintro e w3 ⟨r1, k1, rfl, i3, q3, p3, x3⟩; have X3 := Lib.hid (X2.out.trans x3); have K3 := Lib.hid i3; have x23 := x3; have F3 := (HBk.out _ X3.out).frozen 2; have C3 := (HBk.out _ X3.out).cell 2 _ rfl; have P3 := Lib.hid (Nat.le_trans X2.out.size p3); clear i3 x3 q3 p3)
    | (go_at_call 39; (with_reducible refine (HN2.out _).mono ?_); rintro e w4 ⟨r2, k2, rfl, i4, q4, p4, x4⟩; have D3 := Lib.hid ((HBk.out _ X3.out).set_ 2 (.pointer (some ⟨r1, 0, none⟩))); have D4 := Lib.hid (D3.out.ext x4); have K4 := Lib.hid i4; have J4 := Lib.hid ((K3.out.kept (HBk.out _ X3.out) (by decide) rfl).ext x4); have F4 := D4.out.frozen 3; have C4 := D4.out.cell 3 _ rfl; have X4 := Lib.hid x4; have P4 := Lib.hid p4; clear i4 x4 q4 p4))
  have D5 := Lib.hid (D4.out.set_ 3 (.pointer (some ⟨r2, 0, none⟩)))
  have J5 := Lib.hid (J4.out.kept D4.out (by decide) (i := 3) (u := .pointer (some ⟨r2, 0, none⟩)) rfl)
  have K5 := Lib.hid (K4.out.kept D4.out (by decide) (i := 3) (u := .pointer (some ⟨r2, 0, none⟩)) rfl)
  have G5 := Lib.hid ((((HI.out.gat.ext X3.out).kept (HBk.out _ X3.out) (by decide) (i := 2) (u := .pointer (some ⟨r1, 0, none⟩)) rfl).ext X4.out).kept D4.out (by decide) (i := 3) (u := .pointer (some ⟨r2, 0, none⟩)) rfl)
  have c2 := D5.out.cell 2 _ rfl
  have c3 := D5.out.cell 3 _ rfl
  have T5 := Lib.hid ((((X3.out.turnP HI.out.low_size).trans (TurnP.set (i := 2) (HBk.out _ X3.out) HI.out.low (.pointer (some ⟨r1, 0, none⟩)))).trans (X4.out.turnP (by have := HI.out.low_size; have := X3.out.size; simp [World.setCell]; omega))).trans (TurnP.set (i := 3) D4.out HI.out.low (.pointer (some ⟨r2, 0, none⟩))))
  have hm16 : m < 256 := by have := H16.out; have := HM.out; omega
  have hlow := HI.out.low_size
  have hs3 := X3.out.size
  have hk1 : k1 < w3.heap.size := K3.out.map.lt
  have hk2 : w3.heap.size ≤ k2 := by have := P4.out; simpa [World.setCell] using this
  have hbm : bm < w.heap.size := HI.out.gat.map.lt
  have e12 : k1 ≠ k2 := by omega
  have em2 : bm ≠ k2 := by omega
  have hBk : B ≤ k2 := by omega
  have HA := Lib.hid (And.intro e12 (And.intro em2 hBk))
  have HLw := Lib.hid (HLd.out.turnP T5.out hB2)
  have S5 : Hid (BufS (w4.setCell ⟨b, 3, none⟩ (.pointer (some ⟨r2, 0, none⟩))) w.heap.size (.slice q m c') (splitT root l)) := Lib.hid ((((B2.out.ext x23).turnP (TurnP.set (HBk.out _ X3.out) HI.out.low _)).ext X4.out).turnP (TurnP.set D4.out HI.out.low _))
  clear c2 c3 F3 C3 F4 C4 hk1 hk2 hbm e12 em2 hBk hs3
  have c2 := D5.out.cell 2 _ rfl
  have c3 := D5.out.cell 3 _ rfl
  simp only [List.set_cons_succ, List.set_cons_zero] at D5
  generalize (w4.setCell ⟨b, 3, none⟩ (.pointer (some ⟨r2, 0, none⟩))) = W5 at *
  have HH := Lib.hid (fun u (x : Ext W5 u) => bheaderOf_any u r1 k1 r2 k2 root [(1, key)] (HLw.out.ext x) (J5.out.ext x) (K5.out.ext x) m hm16 nonce HZ.out)
  obtain ⟨HD, hHD⟩ : ∃ x, hdOf root m nonce [(1, key)] = x := ⟨_, rfl⟩
  rw [hHD] at HH
  have HHD := Lib.hid hHD
  clear hHD hri hki hzi hmi hlow hm16
  have x0 : Ext W5 W5.drew := (Ext.refl W5).drew
  go_region_law (first
    | (go_simp; go_at_call 40; refine (HH.out _ x0).mono ?_; rintro e w6 ⟨rfl, x6⟩; have y6 := Ext.trans x0 x6; have D6 := Lib.hid (D5.out.ext y6); have f1 := D6.out.frozen 1; have c1 := D6.out.cell 1 _ rfl))
  all_goals
    go_wp2
    go_ret2
    have hlow := HI.out.low_size
    have hsz := T5.out.size
    have hB5 : B ≤ W5.heap.size := Nat.le_trans hlow hsz
    have hHD := HHD.out
    subst hHD
    obtain ⟨e12, em2, hBk⟩ := HA.out
    refine ⟨⟨q, c', rfl, (S5.out.ext y6).turnP (TurnP.set D6.out HI.out.low _)⟩, ⟨g, bm, r1, k1, r2, k2, ⟨D6.out.set_ 1 _, ((G5.out.ext y6).kept D6.out (by decide) rfl).turn ?_ ?_ (by decide) (by decide), HI.out.low, HI.out.lowm⟩, ⟨(J5.out.ext y6).kept D6.out (by decide) rfl, (K5.out.ext y6).kept D6.out (by decide) rfl, hBk, e12, em2⟩⟩, (T5.out.trans (y6.turnP hB5)).trans (TurnP.set D6.out HI.out.low _)⟩
    · have := HM.out; omega
    · have := HM.out; have := H16.out; omega
end Go.Proofs.YtobhbppogeghnaaGreatDoor
end

section
namespace Go.Proofs.YtobhbppogeghnaaGreatDoor
open Go.RowKit
attribute [local irreducible] rkey expand enc dec ctrB ctrC ctrL xorL xorAll turnL turnT kd t4 t8 env5 chk tagT sealT ringL hdT envOf

/-- Its header. -/
def hdS : BS → ByteArray
  | .none => ⟨#[]⟩
  | .closed n E _ => hdT n E
  | .opened n E _ _ => hdT n E
theorem IsP.cell1 {w : World} {B b : Nat} {S : BS} (h : IsP w B b S) : w.cell? ⟨b, 1, none⟩ = some (.string (hdS S)) := by
  cases S with
  | none => obtain ⟨g, bm, i⟩ := h; exact i.blk.cell 1 _ rfl
  | closed n E L => obtain ⟨g, bm, i⟩ := h; exact i.blk.cell 1 _ rfl
  | opened n E root K => obtain ⟨g, bm, r1, k1, r2, k2, i, j⟩ := h; exact i.blk.cell 1 _ rfl
theorem header_any (w : World) (B b : Nat) (S : BS) (h : IsP w B b S) :
    Calls Tryz.prog 17 #[.pointer (some ⟨b, 0, none⟩)] w fun e w' => e = .returned (.string (hdS S)) ∧ w = w' := by
  have HT := Lib.hid (bthere_is w B b S h)
  have c1 := h.cell1
  clear h
  generalize hdS S = H at *
  go_enter Tryz.func17, Tryz.ntmps17
  go_wp2_with (go_at_call 46; refine (HT.out).mono ?_; rintro e w1 ⟨rfl, rfl⟩)
  go_ret
  exact ⟨rfl, rfl⟩
/-- How many shares have come, and how many there are. -/
def haveS : BS → Nat × Nat
  | .none => (0, 0)
  | .closed n _ L => (L.length, n)
  | .opened n _ _ _ => (0, n)
theorem have_is (w : World) (g bm n m : Nat) (h : ByteArray) (rt rg : Option Addr) (B b : Nat) (L : List (Nat × ByteArray)) (i : IsBar w B b g bm h rt rg n m L) (k : Int) (hk : k ≠ 0)
    (HS : Calls Tryz.prog 24 #[.pointer (some ⟨b, 0, none⟩)] w fun e w' => e = .returned (.int .u8 k) ∧ w = w') (q : Nat)
    (HO : ∀ u, Calls Tryz.prog 56 #[.string h] u fun e w' => e = .returned (.int .i64 (q : Int)) ∧ u = w') :
    Calls Tryz.prog 23 #[.pointer (some ⟨b, 0, none⟩)] w fun e w' => e = .returned (.tuple #[.int .i64 (L.length : Int), .int .i64 (q : Int)]) ∧ Ext w w' := by
  have HSt := Lib.hid HS; have HOf := Lib.hid HO
  have HH := Lib.hid (have_any w g bm n m L i.gat)
  have HI := Lib.hid (fun u (hx : Ext w u) => (i.blk.ext hx).cell 1 _ rfl)
  have c0 := i.blk.cell 0 _ rfl
  have hke : (k == 0) = false := by simpa using hk
  clear HS HO i hk
  generalize L.length = len at *
  generalize (haveN n L : Int) = hn at *
  go_enter Tryz.func23, Tryz.ntmps23
  go_wp2_with (first
    | (go_at_call 24; refine (HSt.out).mono ?_; rintro e w1 ⟨rfl, rfl⟩)
    | (go_at_call 55; refine (HH.out).mono ?_; rintro e w2 ⟨rfl, x2⟩; have c1 := HI.out _ x2)
    | (go_at_call 56; refine (HOf.out _).mono ?_; rintro e w3 ⟨rfl, rfl⟩))
  go_ret2
  exact ⟨rfl, x2⟩
theorem have_none (w : World) (b : Nat)
    (HS : Calls Tryz.prog 24 #[.pointer (some ⟨b, 0, none⟩)] w fun e w' => e = .returned (.int .u8 0) ∧ w = w') :
    Calls Tryz.prog 23 #[.pointer (some ⟨b, 0, none⟩)] w fun e w' => e = .returned (.tuple #[.int .i64 0, .int .i64 0]) ∧ Ext w w' := by
  have HSt := Lib.hid HS
  clear HS
  go_enter Tryz.func23, Tryz.ntmps23
  go_wp2_with (go_at_call 24; refine (HSt.out).mono ?_; rintro e w1 ⟨rfl, rfl⟩)
  go_ret2
  exact ⟨rfl, Ext.refl _⟩
theorem have_any15 (w : World) (B b : Nat) (S : BS) (h : IsP w B b S) :
    Calls Tryz.prog 23 #[.pointer (some ⟨b, 0, none⟩)] w fun e w' => e = .returned (.tuple #[.int .i64 ((haveS S).1 : Int), .int .i64 ((haveS S).2 : Int)]) ∧ Ext w w' := by
  have HS := bstate_any w B b S h
  cases S with
  | none => exact have_none w b HS
  | closed n E L =>
    obtain ⟨g, bm, i⟩ := h
    have n16 := i.gat.alike.n16
    exact have_is w g bm n 32 _ _ _ B b L i 1 (by decide) HS n (fun u => bsharesOf_any n E (by omega) u)
  | opened n E root K =>
    obtain ⟨g, bm, r1, k1, r2, k2, i, j⟩ := h
    have n16 := i.gat.alike.n16
    exact have_is w g bm n 32 _ _ _ B b [] i 2 (by decide) HS n (fun u => bsharesOf_any n E (by omega) u)
/-- Only an open one is shut. -/
theorem seal_no (w : World) (B b : Nat) (S : BS) (h : IsP w B b S) (hS : stN S ≠ 2) :
    Calls Tryz.prog 18 #[.pointer (some ⟨b, 0, none⟩)] w fun e w' => e = .returned (.int .i64 151) ∧ w = w' := by
  have HIn := Lib.hid (bin_state w B b S h 2 (by omega))
  clear h
  go_enter Tryz.func18, Tryz.ntmps18
  go_wp2_with (go_at_call 37; refine (HIn.out).mono ?_; rintro e w1 ⟨rfl, rfl⟩)
  go_ret
  exact ⟨rfl, rfl⟩
theorem seal_yes (w : World) (B b n : Nat) (E root : ByteArray) (K : List (Nat × ByteArray)) (h : IsP w B b (.opened n E root K)) :
    Calls Tryz.prog 18 #[.pointer (some ⟨b, 0, none⟩)] w fun e w' => e = .returned (.int .i64 0) ∧ IsP w' B b (.closed n E []) ∧ TurnP B w w' := by
  have HIn := Lib.hid (bin_any w B b _ h 2 rfl)
  obtain ⟨g, bm, r1, k1, r2, k2, i, j⟩ := h
  have HI := Lib.hid i
  have f2 := i.blk.frozen 2
  have c2 := i.blk.cell 2 _ rfl
  have D2 := i.blk.set_ 2 (.pointer none)
  have f3 := D2.frozen 3
  have c3 := D2.cell 3 _ rfl
  have HD := Lib.hid D2
  clear i j D2
  go_enter Tryz.func18, Tryz.ntmps18
  go_wp2_with (go_at_call 37; refine (HIn.out).mono ?_; rintro e w1 ⟨rfl, rfl⟩)
  go_ret
  exact ⟨rfl, ⟨g, bm, HD.out.set_ 3 _, (HI.out.gat.kept HI.out.blk (by decide) rfl).kept HD.out (by decide) rfl, HI.out.low, HI.out.lowm⟩, (TurnP.set HI.out.blk HI.out.low _).trans (TurnP.set HD.out HI.out.low _)⟩
/-- Bytes that may be a header. -/
theorem mayBe_yes (n : Nat) (E : ByteArray) (en ee : Int) (h1 : 1 ≤ n) (h16 : n ≤ 16) (HE : ∀ u, Calls Tryz.prog 85 #[.string E] u fun r w' => r = .returned (.tuple #[.int .u32 en, .int .i64 ee]) ∧ Ext u w') (w : World) :
    Calls Tryz.prog 47 #[.string (hdT n E)] w fun e w' => e = .returned (.bool (ee == 0)) ∧ Ext w w' := by
  have HO := Lib.hid (fun u => bsharesOf_any n E (by omega) u)
  have he := hdT_some n E
  have hf := fun u => hdT_from n E u
  have HEp := Lib.hid HE
  have n1 : ¬ (n : Int) < 1 := by omega
  have n16 : ¬ (16 : Int) < (n : Int) := by omega
  clear HE
  generalize hdT n E = H at *
  go_enter Tryz.func47, Tryz.ntmps47
  go_wp2_with (first
    | (go_at_call 56; refine (HO.out _).mono ?_; rintro e w3 ⟨rfl, rfl⟩)
    | (go_at_call 85; refine (HEp.out _).mono ?_; rintro e w4 ⟨rfl, x4⟩))
  go_ret
  exact ⟨rfl, x4⟩
theorem mayBe_n (n : Nat) (E : ByteArray) (h256 : n < 256) (hn : n < 1 ∨ 16 < n) (w : World) :
    Calls Tryz.prog 47 #[.string (hdT n E)] w fun e w' => e = .returned (.bool false) ∧ Ext w w' := by
  have HO := Lib.hid (fun u => bsharesOf_any n E h256 u)
  have he := hdT_some n E
  generalize hdT n E = H at *
  by_cases h1 : n < 1
  · have n1 : (n : Int) < 1 := by omega
    clear hn h1
    go_enter Tryz.func47, Tryz.ntmps47
    go_wp2_with (go_at_call 56; refine (HO.out _).mono ?_; rintro e w3 ⟨rfl, rfl⟩)
    go_ret
    exact ⟨rfl, Ext.refl _⟩
  · have n1 : ¬ (n : Int) < 1 := by omega
    have n16 : (16 : Int) < (n : Int) := by omega
    clear hn h1
    go_enter Tryz.func47, Tryz.ntmps47
    go_wp2_with (go_at_call 56; refine (HO.out _).mono ?_; rintro e w3 ⟨rfl, rfl⟩)
    go_ret
    exact ⟨rfl, Ext.refl _⟩
theorem mayBe_nil (w : World) :
    Calls Tryz.prog 47 #[.string ⟨#[]⟩] w fun e w' => e = .returned (.bool false) ∧ Ext w w' := by
  go_enter Tryz.func47, Tryz.ntmps47
  go_wp2
  go_ret
  exact ⟨rfl, Ext.refl _⟩
theorem load_state (w : World) (B b : Nat) (S : BS) (h : IsP w B b S) (hS : stN S ≠ 0) (s : ByteArray) :
    Calls Tryz.prog 19 #[.pointer (some ⟨b, 0, none⟩), .string s] w fun e w' => e = .returned (.int .i64 151) ∧ w = w' := by
  have HIn := Lib.hid (bin_state w B b S h 0 (by omega))
  clear h
  go_enter Tryz.func19, Tryz.ntmps19
  go_wp2_with (go_at_call 37; refine (HIn.out).mono ?_; rintro e w1 ⟨rfl, rfl⟩)
  go_ret
  exact ⟨rfl, rfl⟩
theorem load_form (w : World) (B b : Nat) (h : IsP w B b .none) (s : ByteArray) (HM : ∀ u, Calls Tryz.prog 47 #[.string s] u fun e w' => e = .returned (.bool false) ∧ Ext u w') :
    Calls Tryz.prog 19 #[.pointer (some ⟨b, 0, none⟩), .string s] w fun e w' => e = .returned (.int .i64 7) ∧ Ext w w' := by
  have HIn := Lib.hid (bin_any w B b _ h 0 rfl)
  have HMa := Lib.hid HM
  clear h HM
  go_enter Tryz.func19, Tryz.ntmps19
  go_wp2_with (first
    | (go_at_call 37; refine (HIn.out).mono ?_; rintro e w1 ⟨rfl, rfl⟩)
    | (go_at_call 47; refine (HMa.out _).mono ?_; rintro e w2 ⟨rfl, x2⟩))
  go_ret
  exact ⟨rfl, x2⟩
theorem load_yes (w : World) (B b : Nat) (h : IsP w B b .none) (n : Nat) (E : ByteArray) (h1 : 1 ≤ n) (h16 : n ≤ 16) (hz : E.size ≤ 140737488351232) (HM : ∀ u, Calls Tryz.prog 47 #[.string (hdT n E)] u fun e w' => e = .returned (.bool true) ∧ Ext u w') :
    Calls Tryz.prog 19 #[.pointer (some ⟨b, 0, none⟩), .string (hdT n E)] w fun e w' => e = .returned (.int .i64 0) ∧ IsP w' B b (.closed n E []) ∧ TurnP B w w' := by
  have HIn := Lib.hid (bin_any w B b _ h 0 rfl)
  have HMa := Lib.hid HM
  have HCl := Lib.hid (fun u => strclone_any (hdT n E) (by rw [hdT_size]; omega) u)
  obtain ⟨g, bm, i⟩ := h
  have HI := Lib.hid i
  have HBk := Lib.hid (fun u (hx : Ext w u) => i.blk.ext hx)
  have HNn := Lib.hid (And.intro h1 h16)
  clear i HM
  show Calls _ _ _ _ fun e w' => _ ∧ (∃ g bm, IsBar w' B b g bm (hdT n E) none none n 32 []) ∧ _
  generalize hdT n E = H at *
  go_enter Tryz.func19, Tryz.ntmps19
  go_wp2_with (first
    | (go_at_call 37; refine (HIn.out).mono ?_; rintro e w1 ⟨rfl, rfl⟩)
    | (go_at_call 47; refine (HMa.out _).mono ?_; rintro e w2 ⟨rfl, x2⟩)
    | (go_at_call 48; refine (HCl.out _).mono ?_; rintro e w3 ⟨rfl, x3⟩; have x4 := x2.trans x3; have c1 := (HBk.out _ x4).cell 1 _ rfl; have f1 := (HBk.out _ x4).frozen 1))
  go_ret
  exact ⟨rfl, ⟨g, bm, (HBk.out _ x4).set_ 1 _, ((HI.out.gat.ext x4).kept (HBk.out _ x4) (by decide) rfl).turn HNn.out.1 HNn.out.2 (by decide) (by decide), HI.out.low, HI.out.lowm⟩, (x4.turnP HI.out.low_size).trans (TurnP.set (HBk.out _ x4) HI.out.low _)⟩
/-- Closed by it, opened by it. -/
theorem put_shut (w : World) (B b : Nat) (S : BS) (h : IsP w B b S) (hS : stN S ≠ 2) (path : ByteArray) (v : Int) (nonce text : ByteArray) :
    Calls Tryz.prog 15 #[.pointer (some ⟨b, 0, none⟩), .string path, .int .u64 v, .string nonce, .string text] w fun e w' => e = .returned (.tuple #[.string ⟨#[]⟩, .int .i64 (mayE S)]) ∧ w = w' := by
  have HIn := Lib.hid (bopened_any w B b S h)
  have hne : (mayE S != 0) = true := by cases S <;> first | rfl | exact absurd rfl hS
  clear h
  generalize mayE S = m at *
  go_enter Tryz.func15, Tryz.ntmps15
  go_wp2_with (go_at_call 41; refine (HIn.out).mono ?_; rintro e w1 ⟨rfl, rfl⟩)
  go_ret2
  exact ⟨rfl, rfl⟩
theorem get_shut (w : World) (B b : Nat) (S : BS) (h : IsP w B b S) (hS : stN S ≠ 2) (path : ByteArray) (v : Int) (s : ByteArray) :
    Calls Tryz.prog 20 #[.pointer (some ⟨b, 0, none⟩), .string path, .int .u64 v, .string s] w fun e w' => e = .returned (.tuple #[.string ⟨#[]⟩, .int .i64 (mayE S)]) ∧ w = w' := by
  have HIn := Lib.hid (bopened_any w B b S h)
  have hne : (mayE S != 0) = true := by cases S <;> first | rfl | exact absurd rfl hS
  clear h
  generalize mayE S = m at *
  go_enter Tryz.func20, Tryz.ntmps20
  go_wp2_with (go_at_call 41; refine (HIn.out).mono ?_; rintro e w1 ⟨rfl, rfl⟩)
  go_ret2
  exact ⟨rfl, rfl⟩
theorem put_open (w : World) (B b n : Nat) (E root : ByteArray) (K : List (Nat × ByteArray)) (h : IsP w B b (.opened n E root K)) (path : ByteArray) (v : Int) (nonce text X : ByteArray) (c : Int)
    (HC : ∀ r k, IsK w r k K → Calls Tryz.prog 42 #[.pointer (some ⟨r, 0, none⟩), .string path, .int .u64 v, .string nonce, .string text] w fun e w' => e = .returned (.tuple #[.string X, .int .i64 c]) ∧ Ext w w') :
    Calls Tryz.prog 15 #[.pointer (some ⟨b, 0, none⟩), .string path, .int .u64 v, .string nonce, .string text] w fun e w' => e = .returned (.tuple #[.string X, .int .i64 c]) ∧ Ext w w' := by
  have HIn := Lib.hid (bopened_any w B b _ h)
  have hm : mayE (.opened n E root K) = 0 := rfl
  rw [hm] at HIn
  obtain ⟨g, bm, r1, k1, r2, k2, i, j⟩ := h
  have c3 := i.blk.cell 3 _ rfl
  have HCl := Lib.hid (HC r2 k2 j.two)
  clear i j HC hm
  go_enter Tryz.func15, Tryz.ntmps15
  go_wp2_with (first
    | (go_at_call 41; refine (HIn.out).mono ?_; rintro e w1 ⟨rfl, rfl⟩)
    | (go_at_call 42; refine (HCl.out).mono ?_; rintro e w2 ⟨rfl, x2⟩))
  go_ret2
  exact ⟨rfl, x2⟩
theorem get_open (w : World) (B b n : Nat) (E root : ByteArray) (K : List (Nat × ByteArray)) (h : IsP w B b (.opened n E root K)) (path : ByteArray) (v : Int) (s X : ByteArray) (c : Int)
    (HC : ∀ r k, IsK w r k K → Calls Tryz.prog 49 #[.pointer (some ⟨r, 0, none⟩), .string path, .int .u64 v, .string s] w fun e w' => e = .returned (.tuple #[.string X, .int .i64 c]) ∧ Ext w w') :
    Calls Tryz.prog 20 #[.pointer (some ⟨b, 0, none⟩), .string path, .int .u64 v, .string s] w fun e w' => e = .returned (.tuple #[.string X, .int .i64 c]) ∧ Ext w w' := by
  have HIn := Lib.hid (bopened_any w B b _ h)
  have hm : mayE (.opened n E root K) = 0 := rfl
  rw [hm] at HIn
  obtain ⟨g, bm, r1, k1, r2, k2, i, j⟩ := h
  have c3 := i.blk.cell 3 _ rfl
  have HCl := Lib.hid (HC r2 k2 j.two)
  clear i j HC hm
  go_enter Tryz.func20, Tryz.ntmps20
  go_wp2_with (first
    | (go_at_call 41; refine (HIn.out).mono ?_; rintro e w1 ⟨rfl, rfl⟩)
    | (go_at_call 49; refine (HCl.out).mono ?_; rintro e w2 ⟨rfl, x2⟩))
  go_ret2
  exact ⟨rfl, x2⟩
theorem epochs_shut (w : World) (B b : Nat) (S : BS) (h : IsP w B b S) (hS : stN S ≠ 2) :
    Calls Tryz.prog 22 #[.pointer (some ⟨b, 0, none⟩)] w fun e w' => e = .returned (.slice none 0 0) ∧ w = w' := by
  have HIn := Lib.hid (bopened_any w B b S h)
  have hne : (mayE S != 0) = true := by cases S <;> first | rfl | exact absurd rfl hS
  clear h
  generalize mayE S = m at *
  go_enter Tryz.func22, Tryz.ntmps22
  go_wp2_with (go_at_call 41; refine (HIn.out).mono ?_; rintro e w1 ⟨rfl, rfl⟩)
  go_ret
  exact ⟨rfl, rfl⟩
theorem epochs_open (w : World) (B b n : Nat) (E root : ByteArray) (K : List (Nat × ByteArray)) (h : IsP w B b (.opened n E root K)) (q : Nat) (hq : K.length = q) :
    Calls Tryz.prog 22 #[.pointer (some ⟨b, 0, none⟩)] w fun e w' => ∃ g c, e = .returned (.slice (some ⟨g, 0, none⟩) q c) ∧ IsE w' w.heap.size g c (eps K) ∧ Ext w w' := by
  have HIn := Lib.hid (bopened_any w B b _ h)
  have hm : mayE (.opened n E root K) = 0 := rfl
  rw [hm] at HIn
  obtain ⟨g, bm, r1, k1, r2, k2, i, j⟩ := h
  have c3 := i.blk.cell 3 _ rfl
  have HE := Lib.hid (epochs_n w r2 k2 K j.two q hq)
  clear i j hm hq
  go_enter Tryz.func22, Tryz.ntmps22
  go_wp2_with (first
    | (go_at_call 41; refine (HIn.out).mono ?_; rintro e w1 ⟨rfl, rfl⟩)
    | (go_at_call 54; refine (HE.out).mono ?_; rintro e w2 ⟨g2, c2, rfl, i2, x2⟩))
  go_ret
  exact ⟨g2, c2, rfl, i2, x2⟩
end Go.Proofs.YtobhbppogeghnaaGreatDoor
end

section
namespace Go.Proofs.YtobhbppogeghnaaGreatDoor
open Go.RowKit
attribute [local irreducible] rkey expand enc dec ctrB ctrC ctrL xorL xorAll turnL turnT kd t4 t8 env5 chk tagT sealT ringL hdT envOf hdOf

theorem bbegin_state (w : World) (B b : Nat) (S : BS) (h : IsP w B b S) (hS : stN S ≠ 0) (root key nonce : ByteArray) (l : Value) :
    Calls Tryz.prog 13 #[.pointer (some ⟨b, 0, none⟩), .string root, .string key, .string nonce, l] w fun e w' => e = .returned (.tuple #[.slice none 0 0, .int .i64 151]) ∧ w = w' := by
  have HIn := Lib.hid (bin_state w B b S h 0 (by omega))
  clear h
  go_enter Tryz.func13, Tryz.ntmps13
  go_wp2_with (go_at_call 37; refine (HIn.out).mono ?_; rintro e w1 ⟨rfl, rfl⟩)
  go_ret2
  exact ⟨rfl, rfl⟩
theorem bbegin_arg (w : World) (B b : Nat) (h : IsP w B b .none) (root key nonce : ByteArray) (hz : ¬ (root.size = 32 ∧ key.size = 32 ∧ nonce.size = 12)) (l : Value) :
    Calls Tryz.prog 13 #[.pointer (some ⟨b, 0, none⟩), .string root, .string key, .string nonce, l] w fun e w' => e = .returned (.tuple #[.slice none 0 0, .int .i64 2]) ∧ w = w' := by
  have HIn := Lib.hid (bin_any w B b .none h 0 rfl)
  clear h
  have hb : ∀ (a k : Nat), ((a : Int) != (k : Int)) = decide (a ≠ k) := fun a k => by
    by_cases q : a = k <;> simp [q]
    omega
  have hcase : (((root.size : Int) != 32) = true) ∨ (((root.size : Int) != 32) = false ∧ ((key.size : Int) != 32) = true) ∨ (((root.size : Int) != 32) = false ∧ ((key.size : Int) != 32) = false ∧ ((nonce.size : Int) != 12) = true) := by
    have e1 := hb root.size 32; have e2 := hb key.size 32; have e3 := hb nonce.size 12
    simp only [Int.cast_ofNat_Int] at e1 e2 e3
    rw [e1, e2, e3]
    by_cases q1 : root.size = 32
    · by_cases q2 : key.size = 32
      · refine .inr (.inr ⟨by simp [q1], by simp [q2], ?_⟩)
        simp
        exact fun q3 => hz ⟨q1, q2, q3⟩
      · exact .inr (.inl ⟨by simp [q1], by simp [q2]⟩)
    · exact .inl (by simp [q1])
  clear hb hz
  rcases hcase with q1 | ⟨q1, q2⟩ | ⟨q1, q2, q3⟩
  all_goals
    go_enter Tryz.func13, Tryz.ntmps13
    go_wp2_with (go_at_call 37; refine (HIn.out).mono ?_; rintro e w1 ⟨rfl, rfl⟩)
    go_ret2
    exact ⟨rfl, rfl⟩
theorem bbegin_split (w : World) (B b : Nat) (h : IsP w B b .none) (root key nonce : ByteArray) (hr : root.size = 32) (hk : key.size = 32) (hz : nonce.size = 12) (l : Value) (c : Int) (hc : c ≠ 0)
    (HS : Calls Tryz.prog 38 #[.string root, l] w fun e w' => e = .returned (.tuple #[.slice none 0 0, .int .i64 c]) ∧ Ext w w') :
    Calls Tryz.prog 13 #[.pointer (some ⟨b, 0, none⟩), .string root, .string key, .string nonce, l] w fun e w' => e = .returned (.tuple #[.slice none 0 0, .int .i64 c]) ∧ Ext w w' := by
  have HIn := Lib.hid (bin_any w B b .none h 0 rfl)
  have HSp := Lib.hid HS
  have hri : (root.size : Int) = 32 := by omega
  have hki : (key.size : Int) = 32 := by omega
  have hzi : (nonce.size : Int) = 12 := by omega
  have hce : (c != 0) = true := by simpa using hc
  clear h HS hr hk hz hc
  go_enter Tryz.func13, Tryz.ntmps13
  go_wp2_with (first
    | (go_at_call 37; refine (HIn.out).mono ?_; rintro e w1 ⟨rfl, rfl⟩)
    | (go_at_call 38; refine (HSp.out).mono ?_; rintro e w1 ⟨rfl, x1⟩))
  go_ret2
  exact ⟨rfl, x1⟩
end Go.Proofs.YtobhbppogeghnaaGreatDoor
end

section
namespace Go.Proofs.YtobhbppogeghnaaGreatDoor
open Go.RowKit
attribute [local irreducible] rkey expand enc dec ctrB ctrC ctrL xorL xorAll turnL turnT kd t4 t8 env5 chk tagT sealT ringL hdT envOf

/-- A share that is none, or another's. -/
theorem badd_form (w : World) (b : Nat) (s : ByteArray) (hs : NoShare s) :
    Calls Tryz.prog 50 #[.pointer (some ⟨b, 0, none⟩), .string s] w fun e w' => e = .returned (.int .i64 7) ∧ Ext w w' := by
  have HR := Lib.hid (share_no s hs w)
  clear hs
  go_enter Tryz.func50, Tryz.ntmps50
  go_wp2_with (go_at_call 89; refine (HR.out).mono ?_; rintro e w1 ⟨rfl, x1⟩)
  go_ret
  exact ⟨rfl, x1⟩
set_option maxHeartbeats 1000000 in
theorem badd_other (w : World) (B b g bm n : Nat) (E : ByteArray) (L : List (Nat × ByteArray)) (h : IsBar w B b g bm (hdT n E) none none n 32 L) (s : ByteArray) (i n' : Nat) (hs : ShareOf s i n') (hno : ¬ (n' = n ∧ s.size - 2 = 32)) :
    Calls Tryz.prog 50 #[.pointer (some ⟨b, 0, none⟩), .string s] w fun e w' => e = .returned (.int .i64 60) ∧ Ext w w' := by
  have HR := Lib.hid (share_yes s i n' hs w)
  have n16 := h.gat.alike.n16
  have HO := Lib.hid (fun u => bsharesOf_any n E (by omega) u)
  have HB := Lib.hid (fun u (hx : Ext w u) => (h.blk.ext hx).cell 1 _ rfl)
  have hS : (s.extract 2 s.size).size = s.size - 2 := by simp
  have hcase : ¬ n' = n ∨ (n' = n ∧ ¬ (s.extract 2 s.size).size = 32) := by omega
  clear h hs hno hS n16
  generalize s.extract 2 s.size = S2 at *
  generalize hdT n E = H at *
  rcases hcase with hn | ⟨rfl, hn⟩
  · have hne : ((n' : Int) != (n : Int)) = true := by
      have q : ¬ (n' : Int) = (n : Int) := by omega
      simpa using q
    clear hn
    go_enter Tryz.func50, Tryz.ntmps50
    go_wp2_with (first
      | (go_at_call 89; refine (HR.out).mono ?_; rintro e w1 ⟨rfl, x1⟩; have c1 := HB.out _ x1)
      | (go_at_call 56; refine (HO.out _).mono ?_; rintro e w3 ⟨rfl, rfl⟩))
    go_ret
    exact ⟨rfl, x1⟩
  · have hne : ((S2.size : Int) != 32) = true := by
      have q : ¬ (S2.size : Int) = 32 := by omega
      simpa using q
    clear hn
    go_enter Tryz.func50, Tryz.ntmps50
    go_wp2_with (first
      | (go_at_call 89; refine (HR.out).mono ?_; rintro e w1 ⟨rfl, x1⟩; have c1 := HB.out _ x1)
      | (go_at_call 56; refine (HO.out _).mono ?_; rintro e w3 ⟨rfl, rfl⟩))
    go_ret
    exact ⟨rfl, x1⟩
set_option maxHeartbeats 1000000 in
/-- A share of the root's number and length: what Add answers. -/
theorem badd_is (w : World) (B b g bm n : Nat) (E : ByteArray) (L L' : List (Nat × ByteArray)) (h : IsBar w B b g bm (hdT n E) none none n 32 L) (s : ByteArray) (i : Nat) (hs : ShareOf s i n) (hm : s.size - 2 = 32) (c : Int)
    (HA : ∀ u, Ext w u → Calls Tryz.prog 90 #[.pointer (some ⟨g, 0, none⟩), .string s] u fun e u' => e = .returned (.int .i64 c) ∧ IsG u' g bm n 32 L' ∧ u.grownBy u' (some bm)) :
    Calls Tryz.prog 50 #[.pointer (some ⟨b, 0, none⟩), .string s] w fun e w' => e = .returned (.int .i64 c) ∧ IsBar w' B b g bm (hdT n E) none none n 32 L' ∧ TurnP B w w' := by
  have HR := Lib.hid (share_yes s i n hs w)
  have n16 := h.gat.alike.n16
  have HO := Lib.hid (fun u => bsharesOf_any n E (by omega) u)
  have HI := Lib.hid h
  have HB := Lib.hid (fun u (hx : Ext w u) => (h.blk.ext hx).cell 1 _ rfl)
  have HB0 := Lib.hid (fun u (hx : Ext w u) => (h.blk.ext hx).cell 0 _ rfl)
  have HAd := Lib.hid HA
  have hS : (s.extract 2 s.size).size = s.size - 2 := by simp
  have hne : (((s.extract 2 s.size).size : Int) != 32) = false := by
    have q : ((s.extract 2 s.size).size : Int) = 32 := by omega
    simpa using q
  clear h hs hm hS n16 HA
  generalize s.extract 2 s.size = S2 at *
  generalize hdT n E = H at *
  go_enter Tryz.func50, Tryz.ntmps50
  go_wp2_with (first
    | (go_at_call 89; refine (HR.out).mono ?_; rintro e w1 ⟨rfl, x1⟩; have c1 := HB.out _ x1; have c0 := HB0.out _ x1)
    | (go_at_call 56; refine (HO.out _).mono ?_; rintro e w3 ⟨rfl, rfl⟩)
    | (go_at_call 90; refine (HAd.out _ x1).mono ?_; rintro e w4 ⟨rfl, i4, g4⟩))
  go_ret
  have hI := HI.out
  have hne_b := hI.ne_m
  refine ⟨rfl, ⟨(g4.block b (Nat.lt_of_lt_of_le hI.blk.lt x1.size) (fun q => by cases q; exact hne_b rfl)).trans (hI.blk.ext x1), i4, hI.low, hI.lowm⟩, (x1.turnP hI.low_size).trans (TurnP.map (Nat.le_trans hI.low_size x1.size) g4 ?_ hI.lowm)⟩
  exact (hI.gat.map.ext x1).is
/-- The ring that is in a header, closed by the root. -/
theorem ringIn_no (w : World) (r : Nat) (n : Nat) (E X : ByteArray) (hn : n < 256) (c : Int) (hc : c ≠ 0)
    (HO : ∀ u, Ext w u → Calls Tryz.prog 49 #[.pointer (some ⟨r, 0, none⟩), .string pathB, .int .u64 (n : Int), .string E] u fun e w' => e = .returned (.tuple #[.string X, .int .i64 c]) ∧ Ext u w') :
    Calls Tryz.prog 92 #[.string (hdT n E), .pointer (some ⟨r, 0, none⟩)] w fun e w' => e = .returned (.tuple #[.pointer none, .bool false]) ∧ Ext w w' := by
  have HOp := Lib.hid HO
  have HS := Lib.hid (fun u => bsharesOf_any n E hn u)
  have hf := fun u => hdT_from n E u
  have hw64 : IntKind.u64.wrap (n : Int) = (n : Int) := IntWalk.u64_in _ ⟨by omega, by omega⟩
  have hce : (c != 0) = true := by simpa using hc
  have HXd := Lib.hid ((Ext.refl w).drew)
  clear HO hc
  unfold pathB at HOp
  generalize hdT n E = H at *
  go_enter Tryz.func92, Tryz.ntmps92
  go_wp2
  go_region_law (first
    | (go_simp; go_at_call 56; refine (HS.out _).mono ?_; rintro e w3 ⟨rfl, rfl⟩)
    | (go_simp; go_at_call 49; refine (HOp.out _ HXd.out).mono ?_; rintro e w2 ⟨rfl, x2⟩))
  all_goals
    go_wp2
    go_ret2
    exact ⟨rfl, HXd.out.trans x2⟩
theorem ringIn_is (w : World) (r : Nat) (n : Nat) (E X : ByteArray) (hn : n < 256) (P : Option Addr → World → World → Prop) (c : Int)
    (HO : ∀ u, Ext w u → Calls Tryz.prog 49 #[.pointer (some ⟨r, 0, none⟩), .string pathB, .int .u64 (n : Int), .string E] u fun e w' => e = .returned (.tuple #[.string X, .int .i64 0]) ∧ Ext u w')
    (HR : ∀ u, Calls Tryz.prog 125 #[.string X] u fun e w' => (∃ a, e = .returned (.tuple #[.pointer a, .int .i64 c]) ∧ P a u w') ∧ Ext u w') :
    Calls Tryz.prog 92 #[.string (hdT n E), .pointer (some ⟨r, 0, none⟩)] w fun e w' => (∃ a u, e = .returned (.tuple #[.pointer a, .bool (c == 0)]) ∧ P a u w' ∧ Ext w u) ∧ Ext w w' := by
  have HOp := Lib.hid HO; have HRd := Lib.hid HR
  have HS := Lib.hid (fun u => bsharesOf_any n E hn u)
  have hf := fun u => hdT_from n E u
  have hw64 : IntKind.u64.wrap (n : Int) = (n : Int) := IntWalk.u64_in _ ⟨by omega, by omega⟩
  have HXd := Lib.hid ((Ext.refl w).drew)
  clear HO HR
  unfold pathB at HOp
  generalize hdT n E = H at *
  go_enter Tryz.func92, Tryz.ntmps92
  go_wp2
  go_region_law (first
    | (go_simp; go_at_call 56; refine (HS.out _).mono ?_; rintro e w3 ⟨rfl, rfl⟩)
    | (go_simp; go_at_call 49; refine (HOp.out _ HXd.out).mono ?_; rintro e w2 ⟨rfl, x2⟩))
  all_goals
    go_wp2_with (go_at_call 125; refine (HRd.out _).mono ?_; rintro e w3 ⟨⟨a, rfl, p3⟩, x3⟩)
    go_ret2
    exact ⟨⟨a, w2, rfl, p3, HXd.out.trans x2⟩, (HXd.out.trans x2).trans x3⟩
end Go.Proofs.YtobhbppogeghnaaGreatDoor
end
