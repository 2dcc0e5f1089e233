/- Contracts: the document's barrier: the ring's next epoch; an epoch forgotten. Contracts: the document's barrier: the ring's change, and the header made anew. Contracts: the document's barrier: unsealed: by a share that is not kept, by one of several, by the last. Contracts: the document's barrier: unsealed by the last share. Contracts: envelopes, by the document's answer: Open. -/
import Derived.Test.YtobhbppogeghnaaGreatDoorM38
import Derived.Test.YtobhbppogeghnaaGreatDoorM36
section
namespace Go.Proofs.YtobhbppogeghnaaGreatDoor
open Go.RowKit
attribute [local irreducible] rkey expand enc dec ctrB ctrC ctrL xorL xorAll turnL turnT kd t4 t8 env5 chk tagT sealT ringL hdT envOf hdOf

theorem IsGF.turnD {B : Nat} {w w' : World} {d n m : Nat} {st : Int} {hh rr : ByteArray} {rg v : Value} {L : List (Nat × ByteArray)} (h : IsGF w d st hh rr rg v n m L) (t : TurnD B w w') : IsGF w' d st hh rr rg v n m L := by
  refine ⟨t.keep _ _ h.blk ⟨fun _ _ e => (by cases e), fun _ _ e => (by cases e)⟩, ⟨h.buf.1, ?_⟩, h.alike⟩
  rcases h.buf.2 with h0 | ⟨g, cap, cur, e1, e2, e3, e4⟩
  · exact .inl h0
  · exact .inr ⟨g, cap, cur, e1, e2, t.keep _ _ e3 ⟨fun _ _ e => (by cases e), fun _ _ e => (by cases e)⟩, e4⟩
section
variable (w : World) (B d n : Nat) (E root : ByteArray) (K : List (Nat × ByteArray)) (nonce : ByteArray)
theorem rrotateB_shut (S : BS) (h : IsQ w B d S) (hS : stN S ≠ 2) (key : ByteArray) :
    Calls Tryz.prog 33 #[.pointer (some ⟨d, 0, none⟩), .string key, .string nonce] w fun e w' => e = .returned (.tuple #[.int .u32 0, .int .i64 (mayE S)]) ∧ w = w' := by
  have HIn := Lib.hid (rmay_any w B d S h)
  have hne : (mayE S != 0) = true := by cases S <;> first | rfl | exact absurd rfl hS
  clear h
  generalize mayE S = m at *
  go_enter Tryz.func33, Tryz.ntmps33
  go_wp2_with (go_at_call 66; refine (HIn.out).mono ?_; rintro e w1 ⟨rfl, rfl⟩)
  go_ret2
  exact ⟨rfl, rfl⟩
theorem rrotateB_arg (h : IsQ w B d (.opened n E root K)) (hz : nonce.size ≠ 12) (key : ByteArray) :
    Calls Tryz.prog 33 #[.pointer (some ⟨d, 0, none⟩), .string key, .string nonce] w fun e w' => e = .returned (.tuple #[.int .u32 0, .int .i64 2]) ∧ w = w' := by
  have HIn := Lib.hid (rmay_any w B d _ h)
  have hm : mayE (.opened n E root K) = 0 := rfl
  rw [hm] at HIn
  have hne : ((nonce.size : Int) != 12) = true := by
    have q : ¬ (nonce.size : Int) = 12 := by omega
    simpa using q
  clear h hz hm
  go_enter Tryz.func33, Tryz.ntmps33
  go_wp2_with (go_at_call 66; refine (HIn.out).mono ?_; rintro e w1 ⟨rfl, rfl⟩)
  go_ret2
  exact ⟨rfl, rfl⟩
theorem rrotateB_err (h : IsQ w B d (.opened n E root K)) (hz : nonce.size = 12) (key : ByteArray) (K' : List (Nat × ByteArray)) (c : Int) (hc : c ≠ 0) (N : Int)
    (HR : ∀ u rd p q, B ≤ u.heap.size → IsR u B rd p q K → Calls Tryz.prog 67 #[.pointer (some ⟨rd, 0, none⟩), .string key] u fun x w' => ∃ p' q', x = .returned (.tuple #[.int .u32 N, .int .i64 c]) ∧ IsR w' B rd p' q' K' ∧ TurnD B u w') :
    Calls Tryz.prog 33 #[.pointer (some ⟨d, 0, none⟩), .string key, .string nonce] w fun e w' => e = .returned (.tuple #[.int .u32 N, .int .i64 c]) ∧ IsQ w' B d (.opened n E root K') ∧ TurnQ B w w' := by
  have HIn := Lib.hid (rmay_any w B d _ h)
  have hm : mayE (.opened n E root K) = 0 := rfl
  rw [hm] at HIn
  obtain ⟨v, rd, p, q, i, j, l⟩ := h
  have hlw := Nat.le_trans l (Nat.le_of_lt i.blk.lt)
  have c3 := i.blk.cell 3 _ rfl
  have HI := Lib.hid i
  have HRo := Lib.hid (HR w rd p q hlw j)
  have hzi : (nonce.size : Int) = 12 := by omega
  have hce : (c == 0) = false := by simpa using hc
  clear i j HR hm hz hlw hc
  go_enter Tryz.func33, Tryz.ntmps33
  go_wp2_with (first
    | (go_at_call 66; refine (HIn.out).mono ?_; rintro e w1 ⟨rfl, rfl⟩)
    | (go_at_call 67; refine (HRo.out).mono ?_; rintro e w2 ⟨p2, q2, rfl, r2, t2⟩; have R2 := Lib.hid r2; have T2 := Lib.hid t2; clear r2 t2))
  go_ret2
  exact ⟨rfl, ⟨v, rd, p2, q2, HI.out.turnD T2.out, R2.out, l⟩, T2.out.turnQ⟩
theorem rretireB_shut (S : BS) (h : IsQ w B d S) (hS : stN S ≠ 2) (ep : Int) :
    Calls Tryz.prog 34 #[.pointer (some ⟨d, 0, none⟩), .int .u32 ep, .string nonce] w fun e w' => e = .returned (.int .i64 (mayE S)) ∧ w = w' := by
  have HIn := Lib.hid (rmay_any w B d S h)
  have hne : (mayE S != 0) = true := by cases S <;> first | rfl | exact absurd rfl hS
  clear h
  generalize mayE S = m at *
  go_enter Tryz.func34, Tryz.ntmps34
  go_wp2_with (go_at_call 66; refine (HIn.out).mono ?_; rintro e w1 ⟨rfl, rfl⟩)
  go_ret
  exact ⟨rfl, rfl⟩
theorem rretireB_arg (h : IsQ w B d (.opened n E root K)) (hz : nonce.size ≠ 12) (ep : Int) :
    Calls Tryz.prog 34 #[.pointer (some ⟨d, 0, none⟩), .int .u32 ep, .string nonce] w fun e w' => e = .returned (.int .i64 2) ∧ w = w' := by
  have HIn := Lib.hid (rmay_any w B d _ h)
  have hm : mayE (.opened n E root K) = 0 := rfl
  rw [hm] at HIn
  have hne : ((nonce.size : Int) != 12) = true := by
    have q : ¬ (nonce.size : Int) = 12 := by omega
    simpa using q
  clear h hz hm
  go_enter Tryz.func34, Tryz.ntmps34
  go_wp2_with (go_at_call 66; refine (HIn.out).mono ?_; rintro e w1 ⟨rfl, rfl⟩)
  go_ret
  exact ⟨rfl, rfl⟩
theorem rretireB_err (h : IsQ w B d (.opened n E root K)) (hz : nonce.size = 12) (ep : Int) (K' : List (Nat × ByteArray)) (c : Int) (hc : c ≠ 0)
    (HR : ∀ u rd p q, B ≤ u.heap.size → IsR u B rd p q K → Calls Tryz.prog 69 #[.pointer (some ⟨rd, 0, none⟩), .int .u32 ep] u fun x w' => ∃ p' q', x = .returned (.int .i64 c) ∧ IsR w' B rd p' q' K' ∧ TurnD B u w') :
    Calls Tryz.prog 34 #[.pointer (some ⟨d, 0, none⟩), .int .u32 ep, .string nonce] w fun e w' => e = .returned (.int .i64 c) ∧ IsQ w' B d (.opened n E root K') ∧ TurnQ B w w' := by
  have HIn := Lib.hid (rmay_any w B d _ h)
  have hm : mayE (.opened n E root K) = 0 := rfl
  rw [hm] at HIn
  obtain ⟨v, rd, p, q, i, j, l⟩ := h
  have hlw := Nat.le_trans l (Nat.le_of_lt i.blk.lt)
  have c3 := i.blk.cell 3 _ rfl
  have HI := Lib.hid i
  have HRo := Lib.hid (HR w rd p q hlw j)
  have hzi : (nonce.size : Int) = 12 := by omega
  have hce : (c == 0) = false := by simpa using hc
  clear i j HR hm hz hlw hc
  go_enter Tryz.func34, Tryz.ntmps34
  go_wp2_with (first
    | (go_at_call 66; refine (HIn.out).mono ?_; rintro e w1 ⟨rfl, rfl⟩)
    | (go_at_call 69; refine (HRo.out).mono ?_; rintro e w2 ⟨p2, q2, rfl, r2, t2⟩; have R2 := Lib.hid r2; have T2 := Lib.hid t2; clear r2 t2))
  go_ret
  exact ⟨rfl, ⟨v, rd, p2, q2, HI.out.turnD T2.out, R2.out, l⟩, T2.out.turnQ⟩
end
end Go.Proofs.YtobhbppogeghnaaGreatDoor
end

section
namespace Go.Proofs.YtobhbppogeghnaaGreatDoor
open Go.RowKit
attribute [local irreducible] rkey expand enc dec ctrB ctrC ctrL xorL xorAll turnL turnT kd t4 t8 env5 chk tagT sealT ringL hdT envOf hdOf

section
variable (w : World) (B d n : Nat) (E root : ByteArray) (K : List (Nat × ByteArray)) (nonce : ByteArray)
set_option maxRecDepth 100000 in
set_option maxHeartbeats 4000000 in
theorem rrotateB_ok (h : IsQ w B d (.opened n E root K)) (hr : root.size = 32) (hz : nonce.size = 12) (key : ByteArray) (K' : List (Nat × ByteArray)) (hG : GoodK K') (N : Int)
    (HR : ∀ u rd p q, B ≤ u.heap.size → IsR u B rd p q K → Calls Tryz.prog 67 #[.pointer (some ⟨rd, 0, none⟩), .string key] u fun x w' => ∃ p' q', x = .returned (.tuple #[.int .u32 N, .int .i64 0]) ∧ IsR w' B rd p' q' K' ∧ TurnD B u w') :
    Calls Tryz.prog 33 #[.pointer (some ⟨d, 0, none⟩), .string key, .string nonce] w fun e w' => e = .returned (.tuple #[.int .u32 N, .int .i64 0]) ∧ IsQ w' B d (.opened n (envOf root n nonce K') root K') ∧ TurnQ B w w' := by
  have HIn := Lib.hid (rmay_any w B d _ h)
  have hm : mayE (.opened n E root K) = 0 := rfl
  rw [hm] at HIn
  obtain ⟨v, rd, p, q, i, j, l⟩ := h
  have hlw := Nat.le_trans l (Nat.le_of_lt i.blk.lt)
  have n16 := i.alike.n16
  have c3 := i.blk.cell 3 _ rfl
  have HI := Lib.hid i
  have HRo := Lib.hid (HR w rd p q hlw j)
  have hzi : (nonce.size : Int) = 12 := by omega
  have HHe := Lib.hid (fun u p' q' (hu : IsR u B rd p' q' K') => rheader_any u B rd p' q' root K' hu hG hr n (by omega) nonce hz)
  obtain ⟨HD, hHD⟩ : ∃ x, hdOf root n nonce K' = x := ⟨_, rfl⟩
  rw [hHD] at HHe
  have HHD := Lib.hid hHD
  have h1 := fun u => hdT_index n E (by omega) u
  have hs : (hdT n E).size = E.size + 1 := hdT_size n E
  have hpos : (0 : Int) < ((hdT n E).size : Int) := by omega
  have HLw := Lib.hid (And.intro l hlw)
  have hw64 : IntKind.i64.wrap (n : Int) = (n : Int) := IntWalk.i64_in _ ⟨by omega, by omega⟩
  clear i j HR hm hz hHD hs n16 l hlw hG hr
  generalize hdT n E = H at *
  go_enter Tryz.func33, Tryz.ntmps33
  go_wp2_with (first
    | (go_at_call 66; refine (HIn.out).mono ?_; rintro e w1 ⟨rfl, rfl⟩)
    | (go_at_call 67; refine (HRo.out).mono ?_; rintro e w2 ⟨p2, q2, rfl, r2, t2⟩; have R2 := Lib.hid r2; have i2 := HI.out.turnD t2; have a1 := i2.blk.cell 1 _ rfl; have a2 := i2.blk.cell 2 _ rfl; have a3 := i2.blk.cell 3 _ rfl; have I2 := Lib.hid i2; have T2 := Lib.hid t2.turnQ; clear r2 t2 i2))
  have x0 : Ext w2 w2.drew := (Ext.refl w2).drew
  go_region_law (first
    | (go_simp; go_at_call 68; refine (HHe.out _ _ _ (R2.out.ext x0)).mono ?_; rintro e w6 ⟨rfl, x6⟩; have y6 := Ext.trans x0 x6; have i6 := I2.out.ext y6; have f1 := i6.blk.frozen 1; have e1 := i6.blk.cell 1 _ rfl; have I6 := Lib.hid i6; clear i6))
  all_goals
    go_wp2
    go_ret2
    have hHD := HHD.out
    unfold hdOf at hHD
    subst hHD
    exact ⟨rfl, ⟨v, rd, p2, q2, I6.out.set1 _, (R2.out.ext y6).keptT I6.out.blk (by decide) (by decide) rfl, HLw.out.1⟩, (T2.out.trans (y6.turnQ (Nat.le_trans HLw.out.2 T2.out.size))).trans (TurnQ.set I6.out.blk HLw.out.1 _)⟩
set_option maxRecDepth 100000 in
set_option maxHeartbeats 4000000 in
theorem rretireB_ok (h : IsQ w B d (.opened n E root K)) (hr : root.size = 32) (hz : nonce.size = 12) (ep : Int) (K' : List (Nat × ByteArray)) (hG : GoodK K')
    (HR : ∀ u rd p q, B ≤ u.heap.size → IsR u B rd p q K → Calls Tryz.prog 69 #[.pointer (some ⟨rd, 0, none⟩), .int .u32 ep] u fun x w' => ∃ p' q', x = .returned (.int .i64 0) ∧ IsR w' B rd p' q' K' ∧ TurnD B u w') :
    Calls Tryz.prog 34 #[.pointer (some ⟨d, 0, none⟩), .int .u32 ep, .string nonce] w fun e w' => e = .returned (.int .i64 0) ∧ IsQ w' B d (.opened n (envOf root n nonce K') root K') ∧ TurnQ B w w' := by
  have HIn := Lib.hid (rmay_any w B d _ h)
  have hm : mayE (.opened n E root K) = 0 := rfl
  rw [hm] at HIn
  obtain ⟨v, rd, p, q, i, j, l⟩ := h
  have hlw := Nat.le_trans l (Nat.le_of_lt i.blk.lt)
  have n16 := i.alike.n16
  have c3 := i.blk.cell 3 _ rfl
  have HI := Lib.hid i
  have HRo := Lib.hid (HR w rd p q hlw j)
  have hzi : (nonce.size : Int) = 12 := by omega
  have HHe := Lib.hid (fun u p' q' (hu : IsR u B rd p' q' K') => rheader_any u B rd p' q' root K' hu hG hr n (by omega) nonce hz)
  obtain ⟨HD, hHD⟩ : ∃ x, hdOf root n nonce K' = x := ⟨_, rfl⟩
  rw [hHD] at HHe
  have HHD := Lib.hid hHD
  have h1 := fun u => hdT_index n E (by omega) u
  have hs : (hdT n E).size = E.size + 1 := hdT_size n E
  have hpos : (0 : Int) < ((hdT n E).size : Int) := by omega
  have HLw := Lib.hid (And.intro l hlw)
  have hw64 : IntKind.i64.wrap (n : Int) = (n : Int) := IntWalk.i64_in _ ⟨by omega, by omega⟩
  clear i j HR hm hz hHD hs n16 l hlw hG hr
  generalize hdT n E = H at *
  go_enter Tryz.func34, Tryz.ntmps34
  go_wp2_with (first
    | (go_at_call 66; refine (HIn.out).mono ?_; rintro e w1 ⟨rfl, rfl⟩)
    | (go_at_call 69; refine (HRo.out).mono ?_; rintro e w2 ⟨p2, q2, rfl, r2, t2⟩; have R2 := Lib.hid r2; have i2 := HI.out.turnD t2; have a1 := i2.blk.cell 1 _ rfl; have a2 := i2.blk.cell 2 _ rfl; have a3 := i2.blk.cell 3 _ rfl; have I2 := Lib.hid i2; have T2 := Lib.hid t2.turnQ; clear r2 t2 i2))
  have x0 : Ext w2 w2.drew := (Ext.refl w2).drew
  go_region_law (first
    | (go_simp; go_at_call 68; refine (HHe.out _ _ _ (R2.out.ext x0)).mono ?_; rintro e w6 ⟨rfl, x6⟩; have y6 := Ext.trans x0 x6; have i6 := I2.out.ext y6; have f1 := i6.blk.frozen 1; have e1 := i6.blk.cell 1 _ rfl; have I6 := Lib.hid i6; clear i6))
  all_goals
    go_wp2
    go_ret
    have hHD := HHD.out
    unfold hdOf at hHD
    subst hHD
    exact ⟨rfl, ⟨v, rd, p2, q2, I6.out.set1 _, (R2.out.ext y6).keptT I6.out.blk (by decide) (by decide) rfl, HLw.out.1⟩, (T2.out.trans (y6.turnQ (Nat.le_trans HLw.out.2 T2.out.size))).trans (TurnQ.set I6.out.blk HLw.out.1 _)⟩
end
end Go.Proofs.YtobhbppogeghnaaGreatDoor
end

section
namespace Go.Proofs.YtobhbppogeghnaaGreatDoor
open Go.RowKit
attribute [local irreducible] rkey expand enc dec ctrB ctrC ctrL xorL xorAll turnL turnT kd t4 t8 env5 chk tagT sealT ringL hdT envOf hdOf

theorem runseal_state (w : World) (B d : Nat) (S : BS) (h : IsQ w B d S) (hS : stN S ≠ 1) (s : ByteArray) :
    Calls Tryz.prog 30 #[.pointer (some ⟨d, 0, none⟩), .string s] w fun e w' => e = .returned (.tuple #[.bool false, .int .i64 151]) ∧ w = w' := by
  have c0 := h.cell0
  clear h
  cases S
  case closed => exact absurd rfl hS
  all_goals
    simp only [stN] at c0
    go_enter Tryz.func30, Tryz.ntmps30
    go_wp2
    go_ret2
    exact ⟨rfl, rfl⟩
theorem runseal_err (w : World) (B d n : Nat) (E : ByteArray) (L : List (Nat × ByteArray)) (h : IsQ w B d (.closed n E L)) (s : ByteArray) (c : Int) (hc : c ≠ 0)
    (HA : Calls Tryz.prog 61 #[.pointer (some ⟨d, 4, none⟩), .string s] w fun e w' => e = .returned (.int .i64 c) ∧ Ext w w') :
    Calls Tryz.prog 30 #[.pointer (some ⟨d, 0, none⟩), .string s] w fun e w' => e = .returned (.tuple #[.bool false, .int .i64 c]) ∧ Ext w w' := by
  obtain ⟨v, i, l⟩ := h
  obtain ⟨p, cc, rfl, hcl⟩ := i.buf.cells
  have c0 := i.blk.cell 0 _ rfl
  have c4 := i.blk.cell 4 _ rfl
  have HAd := Lib.hid HA
  have hne : (c != 0) = true := by simpa using hc
  clear i hcl HA hc
  go_enter Tryz.func30, Tryz.ntmps30
  go_wp2_with (go_at_call 61; refine (HAd.out).mono ?_; rintro e w1 ⟨rfl, x1⟩)
  go_ret2
  exact ⟨rfl, x1⟩
theorem KeepQ.turnQ {B d : Nat} {w w' : World} (h : KeepQ w w') (b : Below d w w') (l : B ≤ d) : TurnQ B w w' := ⟨b.mono l, b.size, fun g o hg hn => h.keep g o hg hn.1 hn.2.1⟩
set_option maxRecDepth 100000 in
set_option maxHeartbeats 4000000 in
theorem runseal_more (w : World) (B d n : Nat) (E : ByteArray) (L : List (Nat × ByteArray)) (h : IsQ w B d (.closed n E L)) (s : ByteArray) (i : Nat) (t : ByteArray) (ht : t.size = 32) (hl : L.length + 1 < n)
    (HA : ∀ v, IsGF w d 1 (hdT n E) ⟨#[]⟩ (.pointer none) v n 32 L → Calls Tryz.prog 61 #[.pointer (some ⟨d, 4, none⟩), .string s] w fun e w' => ∃ v', e = .returned (.int .i64 0) ∧ IsGF w' d 1 (hdT n E) ⟨#[]⟩ (.pointer none) v' n 32 (L ++ [(i, t)]) ∧ Below d w w' ∧ KeepQ w w') :
    Calls Tryz.prog 30 #[.pointer (some ⟨d, 0, none⟩), .string s] w fun e w' => e = .returned (.tuple #[.bool false, .int .i64 0]) ∧ IsQ w' B d (.closed n E (L ++ [(i, t)])) ∧ TurnQ B w w' := by
  obtain ⟨v, i0, l⟩ := h
  have n16 := i0.alike.n16
  have h1 := fun u => hdT_index n E (by omega) u
  obtain ⟨p, cc, rfl, hcl⟩ := i0.buf.cells
  have c0 := i0.blk.cell 0 _ rfl
  have c4 := i0.blk.cell 4 _ rfl
  have HAd := Lib.hid (HA _ i0)
  have HS := Lib.hid (fun u v (hu : IsGF u d 1 (hdT n E) ⟨#[]⟩ (.pointer none) v n 32 (L ++ [(i, t)])) => fsecret_no u d 1 _ _ _ v n 32 _ hu (by simpa using hl))
  have hwn : IntKind.i64.wrap (n : Int) = (n : Int) := IntWalk.i64_in _ ⟨by omega, by omega⟩
  have hti : (t.size : Int) = 32 := by omega
  have hne : ((n : Int) != (n : Int)) = false := by simp
  have hne2 : ((t.size : Int) != 32) = false := by simp [hti]
  have hLl : (L.length : Int) < ((L ++ [(i, t)]).length : Int) := by simp; omega
  have hL0 : (0 : Int) ≤ (L.length : Int) := by omega
  clear i0 hcl HA
  go_enter Tryz.func30, Tryz.ntmps30
  go_wp2_with (go_at_call 61; refine (HAd.out).mono ?_; rintro e w1 ⟨v1, rfl, i1, b1, k1⟩; have I1 := Lib.hid i1; have T1 := Lib.hid (k1.turnQ b1 l); obtain ⟨p1, cc1, rfl, hcl1⟩ := i1.buf.cells; obtain ⟨q, rfl, hq1, hq2, d0, d1, d2⟩ := hcl1 L.length (i, t) (by simp); have a4 := i1.blk.cell 4 _ rfl; have a1 := i1.blk.cell 1 _ rfl; have hlw := Lib.hid (Nat.le_trans l (Nat.le_of_lt i1.blk.lt)); have XX := Lib.hid ((Ext.refl w1).alloc (.cells #[.int .i64 (i : Int), .int .i64 (n : Int), .string t] 100)); have IX := Lib.hid (i1.ext XX.out); have hbx := Blk.new w1 [.int .i64 (i : Int), .int .i64 (n : Int), .string t] 100; have y1 := hbx.cell 1 _ rfl; have y2 := hbx.cell 2 _ rfl; have ya := IX.out.blk.cell 1 _ rfl; clear i1 b1 k1 hcl1 hbx a1)
  go_quiet (fail)
  go_wp2_with (go_at_call 62; refine (HS.out _ _ (IX.out.ext ((Ext.refl _).drewN _))).mono ?_; rintro e w2 ⟨rfl, x2⟩)
  go_ret2
  exact ⟨rfl, ⟨_, I1.out.ext ((XX.out.drewN _).trans x2), l⟩, T1.out.trans (((XX.out.drewN _).trans x2).turnQ hlw.out)⟩
theorem BufH.cut {w : World} {B n n' k c : Nat} {p : Option Addr} {L : List (Nat × ByteArray)} (h : BufH w B (.slice p k c) n' L) : BufH w B (.slice p 0 c) n [] := by
  refine ⟨rfl, ?_⟩
  rcases h.2 with ⟨e, h0⟩ | ⟨g, cap, cur, e1, e2, e3, e4, e5, e6, e7⟩
  · cases e
    exact .inl ⟨rfl, rfl⟩
  · cases e1
    exact .inr ⟨g, _, cur, rfl, e2, e3, Nat.zero_le _, e5, e6, by simp [shCells]⟩
theorem IsGF.cut {w : World} {d n m n' m' k c : Nat} {st : Int} {hh rr : ByteArray} {rg : Value} {p : Option Addr} {L : List (Nat × ByteArray)} (h : IsGF w d st hh rr rg (.slice p k c) n' m' L) (a : Alike n m []) : IsGF (w.setCell ⟨d, 4, none⟩ (.slice p 0 c)) d st hh rr rg (.slice p 0 c) n m [] := ⟨h.blk.set_ 4 _, ownsRow_setCell_below h.buf.cut (a := ⟨d, 4, none⟩) (Nat.lt_succ_self d) _, a⟩
theorem IsGF.zero {w : World} {d n m : Nat} {st : Int} {hh rr : ByteArray} {rg v : Value} {L : List (Nat × ByteArray)} (h : IsGF w d st hh rr rg v n m L) : IsGF (w.setCell ⟨d, 4, none⟩ (.slice none 0 0)) d st hh rr rg (.slice none 0 0) n m [] := ⟨h.blk.set_ 4 _, BufH.nil _ _ _, Alike.nil h.alike.n1 h.alike.n16 h.alike.m1 h.alike.m64⟩
set_option maxRecDepth 100000 in
set_option maxHeartbeats 4000000 in
/-- The first one, of another number or length: it came, and is taken out again. -/
theorem runseal_other (w : World) (B d n : Nat) (E : ByteArray) (h : IsQ w B d (.closed n E [])) (s : ByteArray) (i n' m' : Nat) (t : ByteArray) (hbad : n' ≠ n ∨ t.size ≠ 32)
    (HA : ∀ v, IsGF w d 1 (hdT n E) ⟨#[]⟩ (.pointer none) v n 32 [] → Calls Tryz.prog 61 #[.pointer (some ⟨d, 4, none⟩), .string s] w fun e w' => ∃ v', e = .returned (.int .i64 0) ∧ IsGF w' d 1 (hdT n E) ⟨#[]⟩ (.pointer none) v' n' m' [(i, t)] ∧ Below d w w' ∧ KeepQ w w') :
    Calls Tryz.prog 30 #[.pointer (some ⟨d, 0, none⟩), .string s] w fun e w' => e = .returned (.tuple #[.bool false, .int .i64 60]) ∧ IsQ w' B d (.closed n E []) ∧ TurnQ B w w' := by
  obtain ⟨v, i0, l⟩ := h
  have n16 := i0.alike.n16
  have h1 := fun u => hdT_index n E (by omega) u
  obtain ⟨p, cc, rfl, hcl⟩ := i0.buf.cells
  have c0 := i0.blk.cell 0 _ rfl
  have c4 := i0.blk.cell 4 _ rfl
  have HAd := Lib.hid (HA _ i0)
  have HAl := Lib.hid i0.alike
  have hwn : IntKind.i64.wrap (n : Int) = (n : Int) := IntWalk.i64_in _ ⟨by omega, by omega⟩
  clear i0 hcl HA
  by_cases hn1 : n' = n
  · have hti : ¬ (t.size : Int) = 32 := by omega
    subst hn1
    have hne : ((n' : Int) != (n' : Int)) = false := by simp
    have hne2 : ((t.size : Int) != 32) = true := by simpa using hti
    clear hbad
    go_enter Tryz.func30, Tryz.ntmps30
    go_wp2_with (go_at_call 61; refine (HAd.out).mono ?_; rintro e w1 ⟨v1, rfl, i1, b1, k1⟩; have T1 := Lib.hid (k1.turnQ b1 l); obtain ⟨p1, cc1, rfl, hcl1⟩ := i1.buf.cells; have I1 := Lib.hid i1; obtain ⟨q, rfl, hq1, hq2, d0, d1, d2⟩ := hcl1 0 (i, t) rfl; have a4 := i1.blk.cell 4 _ rfl; have hlw := Lib.hid (Nat.le_trans l (Nat.le_of_lt i1.blk.lt)); have XX := Lib.hid ((Ext.refl w1).alloc (.cells #[.int .i64 (i : Int), .int .i64 (n' : Int), .string t] 100)); have IX := Lib.hid (i1.ext XX.out); have hbx := Blk.new w1 [.int .i64 (i : Int), .int .i64 (n' : Int), .string t] 100; have y1 := hbx.cell 1 _ rfl; have y2 := hbx.cell 2 _ rfl; have ya := IX.out.blk.cell 1 _ rfl; have yb := IX.out.blk.cell 4 _ rfl; have yf := IX.out.blk.frozen 4; simp only [List.length_cons, List.length_nil, Nat.zero_mul, Nat.zero_add] at *; clear i1 b1 k1 hcl1 hbx)
    go_quiet (fail)
    go_wp2
    go_ret2
    exact ⟨rfl, ⟨_, (I1.out.ext (XX.out.drewN _)).cut HAl.out, l⟩, (T1.out.trans ((XX.out.drewN _).turnQ hlw.out)).trans (TurnQ.set (I1.out.ext (XX.out.drewN _)).blk l _)⟩
  · have hne : ((n' : Int) != (n : Int)) = true := by
      have q : ¬ (n' : Int) = (n : Int) := by omega
      simpa using q
    clear hbad
    go_enter Tryz.func30, Tryz.ntmps30
    go_wp2_with (go_at_call 61; refine (HAd.out).mono ?_; rintro e w1 ⟨v1, rfl, i1, b1, k1⟩; have T1 := Lib.hid (k1.turnQ b1 l); obtain ⟨p1, cc1, rfl, hcl1⟩ := i1.buf.cells; have I1 := Lib.hid i1; obtain ⟨q, rfl, hq1, hq2, d0, d1, d2⟩ := hcl1 0 (i, t) rfl; have a4 := i1.blk.cell 4 _ rfl; have hlw := Lib.hid (Nat.le_trans l (Nat.le_of_lt i1.blk.lt)); have XX := Lib.hid ((Ext.refl w1).alloc (.cells #[.int .i64 (i : Int), .int .i64 (n' : Int), .string t] 100)); have IX := Lib.hid (i1.ext XX.out); have hbx := Blk.new w1 [.int .i64 (i : Int), .int .i64 (n' : Int), .string t] 100; have y1 := hbx.cell 1 _ rfl; have y2 := hbx.cell 2 _ rfl; have ya := IX.out.blk.cell 1 _ rfl; have yb := IX.out.blk.cell 4 _ rfl; have yf := IX.out.blk.frozen 4; simp only [List.length_cons, List.length_nil, Nat.zero_mul, Nat.zero_add] at *; clear i1 b1 k1 hcl1 hbx)
    go_quiet (fail)
    go_wp2
    go_ret2
    exact ⟨rfl, ⟨_, (I1.out.ext (XX.out.drewN _)).cut HAl.out, l⟩, (T1.out.trans ((XX.out.drewN _).turnQ hlw.out)).trans (TurnQ.set (I1.out.ext (XX.out.drewN _)).blk l _)⟩
end Go.Proofs.YtobhbppogeghnaaGreatDoor
end

section
namespace Go.Proofs.YtobhbppogeghnaaGreatDoor
open Go.RowKit
attribute [local irreducible] rkey expand enc dec ctrB ctrC ctrL xorL xorAll turnL turnT kd t4 t8 env5 chk tagT sealT ringL hdT envOf hdOf

set_option maxRecDepth 100000 in
set_option maxHeartbeats 4000000 in
theorem runseal_yes (w : World) (B d n : Nat) (E root T : ByteArray) (L : List (Nat × ByteArray)) (h : IsQ w B d (.closed n E L)) (s : ByteArray) (i : Nat) (t : ByteArray) (ht : t.size = 32) (hroot : root.size = 32) (K : List (Nat × ByteArray))
    (HA : ∀ v, IsGF w d 1 (hdT n E) ⟨#[]⟩ (.pointer none) v n 32 L → Calls Tryz.prog 61 #[.pointer (some ⟨d, 4, none⟩), .string s] w fun e w' => ∃ v', e = .returned (.int .i64 0) ∧ IsGF w' d 1 (hdT n E) ⟨#[]⟩ (.pointer none) v' n 32 (L ++ [(i, t)]) ∧ Below d w w' ∧ KeepQ w w')
    (HS : ∀ u v, IsGF u d 1 (hdT n E) ⟨#[]⟩ (.pointer none) v n 32 (L ++ [(i, t)]) → Calls Tryz.prog 62 #[.pointer (some ⟨d, 4, none⟩)] u fun e w' => e = .returned (.string root) ∧ Ext u w')
    (HO : ∀ u A r q, IsR u A r q 1 [(1, root)] → Calls Tryz.prog 63 #[.pointer (some ⟨r, 0, none⟩), .string ⟨#[98, 97, 114, 114, 105, 101, 114]⟩, .int .u64 (n : Int), .string E] u fun e w' => e = .returned (.tuple #[.string T, .int .i64 0]) ∧ Ext u w')
    (HR : ∀ u, Calls Tryz.prog 65 #[.string T] u fun e w' => (∃ r p c, e = .returned (.pointer (some ⟨r, 0, none⟩)) ∧ IsR w' u.heap.size r p c K) ∧ Ext u w') :
    Calls Tryz.prog 30 #[.pointer (some ⟨d, 0, none⟩), .string s] w fun e w' => e = .returned (.tuple #[.bool true, .int .i64 0]) ∧ IsQ w' B d (.opened n E root K) ∧ TurnQ B w w' := by
  obtain ⟨v, i0, l⟩ := h
  have n16 := i0.alike.n16
  have h1 := fun u => hdT_index n E (by omega) u
  have h2 := fun u => hdT_from n E u
  obtain ⟨p, cc, rfl, hcl⟩ := i0.buf.cells
  have c0 := i0.blk.cell 0 _ rfl
  have c4 := i0.blk.cell 4 _ rfl
  have HAd := Lib.hid (HA _ i0)
  have HSe := Lib.hid HS
  have HOp := Lib.hid HO
  have HRd := Lib.hid HR
  have HN := Lib.hid (fun u => rnewK_any u root)
  have hwn : IntKind.i64.wrap (n : Int) = (n : Int) := IntWalk.i64_in _ ⟨by omega, by omega⟩
  have hwu : IntKind.u64.wrap (n : Int) = (n : Int) := IntWalk.u64_in _ ⟨by omega, by omega⟩
  have hti : (t.size : Int) = 32 := by omega
  have hne : ((n : Int) != (n : Int)) = false := by simp
  have hne2 : ((t.size : Int) != 32) = false := by simp [hti]
  have hre : root.toList.isEmpty = false := by
    have hl : root.toList.length = root.size := by rw [ByteArray.toList_eq, size_list]
    cases hrl : root.toList with
    | nil => rw [hrl, hroot] at hl; cases hl
    | cons => rfl
  have hLl : (L.length : Int) < ((L ++ [(i, t)]).length : Int) := by simp; omega
  have hL0 : (0 : Int) ≤ (L.length : Int) := by omega
  clear i0 hcl HA HS HO HR hroot
  go_enter Tryz.func30, Tryz.ntmps30
  go_wp2_with (go_at_call 61; refine (HAd.out).mono ?_; rintro e w1 ⟨v1, rfl, i1, b1, k1⟩; have I1 := Lib.hid i1; have T1 := Lib.hid (k1.turnQ b1 l); obtain ⟨p1, cc1, rfl, hcl1⟩ := i1.buf.cells; obtain ⟨q, rfl, hq1, hq2, d0, d1, d2⟩ := hcl1 L.length (i, t) (by simp); have a4 := i1.blk.cell 4 _ rfl; have hlw := Lib.hid (Nat.le_trans l (Nat.le_of_lt i1.blk.lt)); have XX := Lib.hid ((Ext.refl w1).alloc (.cells #[.int .i64 (i : Int), .int .i64 (n : Int), .string t] 100)); have IX := Lib.hid (i1.ext XX.out); have hbx := Blk.new w1 [.int .i64 (i : Int), .int .i64 (n : Int), .string t] 100; have y1 := hbx.cell 1 _ rfl; have y2 := hbx.cell 2 _ rfl; have ya := IX.out.blk.cell 1 _ rfl; clear i1 b1 k1 hcl1 hbx)
  go_quiet (fail)
  go_wp2_with (first
    | (go_at_call 62; refine (HSe.out _ _ (IX.out.ext ((Ext.refl _).drewN _))).mono ?_; rintro e w2 ⟨rfl, x2⟩; have I2 := Lib.hid (I1.out.ext ((XX.out.drewN _).trans x2)); have T2 := Lib.hid (T1.out.trans (((XX.out.drewN _).trans x2).turnQ hlw.out)); have z4 := I2.out.blk.cell 4 _ rfl; have f4 := I2.out.blk.frozen 4; have I3 := Lib.hid I2.out.zero; have T3 := Lib.hid (T2.out.trans (TurnQ.set (i := 4) I2.out.blk l (.slice none 0 0))); clear x2))
  have x0 : Ext (w2.setCell ⟨d, 4, none⟩ (.slice none 0 0)) (w2.setCell ⟨d, 4, none⟩ (.slice none 0 0)).drew := (Ext.refl _).drew
  have e1 := I3.out.blk.cell 1 _ rfl
  go_region_law (first
    | (go_simp; go_at_call 64; refine (HN.out _).mono ?_; rintro e w3 ⟨r3, q3, rfl, i3, x3⟩; have y3 := Ext.trans x0 x3; have R3 := Lib.hid i3; have i4 := I3.out.ext y3; have g1 := i4.blk.cell 1 _ rfl; have I4 := Lib.hid i4; have T4 := Lib.hid (T3.out.trans (y3.turnQ (Nat.le_trans l (Nat.le_of_lt I3.out.blk.lt)))); clear i3 i4 x3 y3)
    | (go_simp; go_at_call 63; refine (HOp.out _ _ _ _ R3.out).mono ?_; rintro e w4 ⟨rfl, x4⟩; have I5 := Lib.hid (I4.out.ext x4); have T5 := Lib.hid (T4.out.trans (x4.turnQ (Nat.le_trans l (Nat.le_of_lt I4.out.blk.lt)))); clear x4))
  all_goals (go_wp2_with (go_at_call 65; refine (HRd.out _).mono ?_; rintro e w5 ⟨⟨r5, p5, q5, rfl, i5⟩, x5⟩; have j0 := I5.out.ext x5; have s0 := j0.blk.cell 0 _ rfl; have t0 := j0.blk.frozen 0; have j1 := j0.set0 2; have s2 := j1.blk.cell 2 _ rfl; have t2 := j1.blk.frozen 2; have j2 := j1.set2 root; have s3 := j2.blk.cell 3 _ rfl; have t3 := j2.blk.frozen 3; have j3 := Lib.hid (j2.set3 (.pointer (some ⟨r5, 0, none⟩))); have k5 := i5.mono (Nat.le_trans l (Nat.le_of_lt I5.out.blk.lt)); have R5 := Lib.hid (((k5.keptT j0.blk (by decide) (by decide) rfl).keptT j1.blk (by decide) (by decide) rfl).keptT (i := 3) (u := .pointer (some ⟨r5, 0, none⟩)) j2.blk (by decide) (by decide) rfl); have T6 := Lib.hid ((((T5.out.trans (x5.turnQ (Nat.le_trans l (Nat.le_of_lt I5.out.blk.lt)))).trans (TurnQ.set (i := 0) j0.blk l (.int .u8 2))).trans (TurnQ.set (i := 2) j1.blk l (.string root))).trans (TurnQ.set (i := 3) j2.blk l (.pointer (some ⟨r5, 0, none⟩)))); clear j0 j1 j2 i5 k5 x5))
  all_goals
    go_ret2
    exact ⟨rfl, ⟨_, r5, _, _, j3.out, R5.out, l⟩, T6.out⟩
end Go.Proofs.YtobhbppogeghnaaGreatDoor
end

section
namespace Go.Proofs.YtobhbppogeghnaaGreatDoor
open Go.RowKit
attribute [local irreducible] rkey expand enc dec ctrB ctrC ctrL xorL turnL turnT kd t4 t8 env5 chk tagT sealT

theorem ropen_form (w : World) (d : Nat) (path : ByteArray) (v : Int) (s : ByteArray) (hE : ∀ u, Calls Tryz.prog 60 #[.string s] u fun r w' => r = .returned (.tuple #[.int .u32 0, .int .i64 7]) ∧ u = w') :
    Calls Tryz.prog 63 #[.pointer (some ⟨d, 0, none⟩), .string path, .int .u64 v, .string s] w fun e w' => e = .returned (.tuple #[.string ⟨#[]⟩, .int .i64 7]) ∧ w = w' := by
  have HE := Lib.hid hE
  clear hE
  go_enter Tryz.func63, Tryz.ntmps63
  go_wp2_with (go_at_call 60; refine (HE.out _).mono ?_; rintro e w2 ⟨rfl, rfl⟩)
  go_ret2
  exact ⟨rfl, rfl⟩
section
variable {B d c e : Nat} {p : Option Addr} {L : List (Nat × ByteArray)} {C D T : ByteArray}
theorem ropen_epoch (w : World) (h : IsR w B d p c L) (h64 : L.length ≤ 64) (path : ByteArray) (v : Int) (he : e < 4294967296) (hC : C.size = 12) (hT : T.size = 32) (hD : D.size ≤ 1048576) (hp : path.size ≤ 1048576) (hn : e ∉ eps L) :
    Calls Tryz.prog 63 #[.pointer (some ⟨d, 0, none⟩), .string path, .int .u64 v, .string (env5 t1 (t4 e) C D T)] w fun x w' => x = .returned (.tuple #[.string ⟨#[]⟩, .int .i64 140]) ∧ Ext w w' := by
  have HE := Lib.hid (fun u => repoch_yes he hC hT hD u)
  have HKy := Lib.hid (rkeysK_no w B d p c L h h64 e hn)
  have hpi : ¬ (1048576 : Int) < (path.size : Int) := by omega
  generalize env5 t1 (t4 e) C D T = S at *
  clear h hC hT hD hn
  go_enter Tryz.func63, Tryz.ntmps63
  go_wp2_with (first
    | (go_at_call 60; refine (HE.out _).mono ?_; rintro e w2 ⟨rfl, rfl⟩)
    | (go_at_call 101; refine (HKy.out).mono ?_; rintro e w3 ⟨rfl, x3⟩))
  go_ret2
  exact ⟨rfl, x3⟩
set_option maxRecDepth 100000 in
set_option maxHeartbeats 4000000 in
theorem ropen_key (w : World) (h : IsR w B d p c L) (hG : GoodK L) (s : ByteArray) (hm : (e, s) ∈ L) (path : ByteArray) (v : Nat) (hv : v < 2 ^ 64) (hC : C.size = 12) (hT : T.size = 32) (hD : D.size ≤ 1048576) (hp : path.size ≤ 1048576) :
    Calls Tryz.prog 63 #[.pointer (some ⟨d, 0, none⟩), .string path, .int .u64 (v : Int), .string (env5 t1 (t4 e) C D T)] w fun x w' => x = .returned (OpenE (chk T.data.toList (tagT (kd s tagB 32) path v t1 (t4 e) C D).data.toList) (turnT (kd s cipB 16) C 0 D)) ∧ Ext w w' := by
  have he : e < 4294967296 := (hG.each _ hm).2.1
  have HE := Lib.hid (fun u => repoch_yes he hC hT hD u)
  have hk1 : (kd s cipB 16).size = 16 := kd_size _ _ _ (by omega)
  have hk2 : (kd s tagB 32).size = 32 := kd_size _ _ _ (by omega)
  have HKy := Lib.hid (rkeysK_yes w B d p c L h hG e s hm)
  have HTu : Hid (∀ u, Calls Tryz.prog 103 #[.string (kd s cipB 16), .string C, .int .u32 0, .string D] u fun e w' => e = .returned (.tuple #[.string (turnT (kd s cipB 16) C 0 D), .int .i64 0]) ∧ Ext u w') := Lib.hid (fun u => by
    have := rturn_yes (kd s cipB 16) C D 0 hk1 hC hD (by omega) (by unfold blocksOf; omega) u
    unfold turnT
    exact this)
  have htg := fun u => rtag14_any (kd s tagB 32) path v (((t1 ++ t4 e) ++ C) ++ D) hk2 hp hv (by
    rw [ByteArray.size_append, ByteArray.size_append, ByteArray.size_append, t4_size, hC]
    have : t1.size = 1 := rfl
    omega) u
  rw [tagT_app] at htg
  have HTg := Lib.hid htg
  obtain ⟨c1, c2, c3, c4⟩ := env5_cuts (t4 e) C D T (t4_size e) hC hT
  have hz := env5_size t1 (t4 e) C D T
  rw [t4_size, hC, hT, show t1.size = 1 from rfl] at hz
  have hck := chk_eq14 hT (tagT_size (kd s tagB 32) path v t1 (t4 e) C D)
  have s1 := fun u => cut_to (env5 t1 (t4 e) C D T) (17 + D.size) (by omega) u
  have s2 := fun u => cut_from (env5 t1 (t4 e) C D T) (17 + D.size) (by omega) u
  have s3 := fun u => cut_mid (env5 t1 (t4 e) C D T) 5 17 (by omega) (by omega) u
  have s4 := fun u => cut_mid (env5 t1 (t4 e) C D T) 17 (17 + D.size) (by omega) (by omega) u
  rw [c1] at s1
  rw [c2] at s2
  rw [c3] at s3
  rw [c4] at s4
  have hpi : ¬ (1048576 : Int) < (path.size : Int) := by omega
  have hzi : ((env5 t1 (t4 e) C D T).size : Int) - 32 = ((17 + D.size : Nat) : Int) := by omega
  have hwz : IntKind.i64.wrap (((env5 t1 (t4 e) C D T).size : Int) - 32) = ((17 + D.size : Nat) : Int) := (IntWalk.i64_in _ ⟨by omega, by omega⟩).trans hzi
  have hwy : wrap64 (((env5 t1 (t4 e) C D T).size : Int) - 32) = ((17 + D.size : Nat) : Int) := (IntWalk.wrap64_in _ ⟨by omega, by omega⟩).trans hzi
  clear h hG hm hk1 hk2 htg hC hT hD hp c1 c2 c3 c4 hz hzi hv
  generalize 17 + D.size = k at *
  generalize env5 t1 (t4 e) C D T = S at *
  generalize hZ : ((t1 ++ t4 e) ++ C) ++ D = Z at *
  clear hZ
  generalize turnT (kd s cipB 16) C 0 D = X at *
  generalize tagT (kd s tagB 32) path v t1 (t4 e) C D = G at *
  generalize chk T.data.toList G.data.toList = ok at *
  generalize kd s cipB 16 = K1 at *
  generalize kd s tagB 32 = K2 at *
  have s3' : ∀ u, (Instr.slice 9 (.string S) (some (.int .i64 5)) (some (.int .i64 17)) none).run Tryz.prog u = .ok (.string C) u := s3
  have s4' : ∀ u, (Instr.slice 9 (.string S) (some (.int .i64 17)) (some (.int .i64 (k : Int))) none).run Tryz.prog u = .ok (.string D) u := s4
  clear s3 s4
  go_enter Tryz.func63, Tryz.ntmps63
  go_upto_region 10 with (first
    | (go_at_call 60; refine (HE.out _).mono ?_; rintro e w2 ⟨rfl, rfl⟩)
    | (go_at_call 101; refine (HKy.out).mono ?_; rintro e w3 ⟨rfl, x3⟩))
  have X3 := Lib.hid x3
  have x0 : Ext w3 w3.drew := (Ext.refl w3).drew
  clear x3
  go_region_held3 (fun u => Ext w3 u) (first | assumption | go_keep) (first
    | (go_at_call 102; refine (HTg.out _).mono ?_; rintro e w4 ⟨rfl, h4⟩; have y4 := Ext.trans (a := w3) (by assumption) h4))
  all_goals
    have Y4 := Lib.hid y4
    clear y4 x0
    cases ok
    · go_wp2
      go_ret2
      exact ⟨rfl, X3.out.trans Y4.out⟩
    · go_upto_region 12 with (fail)
      have z0 : Ext w4 w4.drew := (Ext.refl w4).drew
      go_region_held3 (fun u => Ext w4 u) (first | assumption | go_keep) (first
        | (go_at_call 103; refine (HTu.out _).mono ?_; rintro e w5 ⟨rfl, h5⟩; have y5 := Ext.trans (a := w4) (by assumption) h5))
      all_goals
        go_wp2
        go_ret2
        exact ⟨rfl, X3.out.trans (Y4.out.trans y5)⟩
end
end Go.Proofs.YtobhbppogeghnaaGreatDoor
end
