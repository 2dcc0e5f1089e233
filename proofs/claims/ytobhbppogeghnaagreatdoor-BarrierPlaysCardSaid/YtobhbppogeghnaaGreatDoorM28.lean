/- Contracts: a barrier, by the program: unsealed, or not; new. Contracts: a barrier, by the program: the ring's next epoch; an epoch's key forgotten. Contracts: a barrier, by the program: the ring's change refused; an epoch's key forgotten. Contracts: a barrier, by the program: Rotate and Retire. -/
import Derived.Test.YtobhbppogeghnaaGreatDoorM27
import Derived.Deep.RegionLaw
section
namespace Go.Proofs.YtobhbppogeghnaaGreatDoor
open Go.RowKit
attribute [local irreducible] rkey expand enc dec ctrB ctrC ctrL xorL xorAll turnL turnT kd t4 t8 env5 chk tagT sealT ringL hdT envOf

theorem bnew_any (w : World) :
    Calls Tryz.prog 9 #[] w fun e w' => ∃ b, e = .returned (.pointer (some ⟨b, 0, none⟩)) ∧ IsP w' w.heap.size b .none ∧ Ext w w' := by
  have HN := Lib.hid (gNew_any w)
  go_enter Tryz.func9, Tryz.ntmps9
  go_wp2_with (go_at_call 26; refine (HN.out).mono ?_; rintro e w1 ⟨rfl, i1, x1, z1⟩; have I1 := Lib.hid i1; have X1 := Lib.hid x1; have Z1 := Lib.hid z1; clear i1 x1 z1)
  go_ret
  have hB := Blk.new w1 [.pointer (some ⟨w.heap.size + 1, 0, none⟩), .string ⟨#[]⟩, .pointer none, .pointer none] 73
  exact ⟨_, rfl, ⟨_, _, hB, I1.out.alloc _, X1.out.size, Nat.le_refl _⟩, X1.out.alloc _⟩
/-- The root opens the header: the ring is there. -/
theorem openBy_yes (w : World) (B b g bm n : Nat) (E root : ByteArray) (K : List (Nat × ByteArray)) (h : IsBar w B b g bm (hdT n E) none none n 32 []) (hr : root.size = 32)
    (HR : ∀ u r k, Ext w u → IsK u r k [(1, root)] → Calls Tryz.prog 92 #[.string (hdT n E), .pointer (some ⟨r, 0, none⟩)] u fun e w' => (∃ a k', e = .returned (.tuple #[.pointer (some ⟨a, 0, none⟩), .bool true]) ∧ IsK w' a k' K ∧ u.heap.size ≤ k') ∧ Ext u w') :
    Calls Tryz.prog 53 #[.pointer (some ⟨b, 0, none⟩), .string root] w fun e w' => e = .returned (.tuple #[.bool true, .int .i64 0]) ∧ IsP w' B b (.opened n E root K) ∧ TurnP B w w' := by
  have HN := Lib.hid (newK_yes w root hr)
  have HI := Lib.hid h
  have HB := Lib.hid (fun u (hx : Ext w u) => h.blk.ext hx)
  have HRi := Lib.hid HR
  clear HR h
  show Calls _ _ _ _ fun e w' => _ ∧ (∃ g bm r1 k1 r2 k2, IsBar w' B b g bm (hdT n E) (some ⟨r1, 0, none⟩) (some ⟨r2, 0, none⟩) n 32 [] ∧ Rings2 w' B bm r1 k1 r2 k2 root K) ∧ _
  generalize hdT n E = H at *
  go_enter Tryz.func53, Tryz.ntmps53
  go_wp2_with (first
    | (go_at_call 39; refine (HN.out).mono ?_; rintro e w1 ⟨r1, k1, rfl, i1, q1, p1, x1⟩; have c1 := (HB.out _ x1).cell 1 _ rfl; have I1 := Lib.hid i1; have P1 := Lib.hid p1; clear i1 q1 p1)
    | (go_at_call 92; refine (HRi.out _ _ _ x1 I1.out).mono ?_; rintro e w2 ⟨⟨r2, k2, rfl, i2, p2⟩, x2⟩; have y2 := x1.trans x2; have f2 := (HB.out _ y2).frozen 2; have c2 := (HB.out _ y2).cell 2 _ rfl; have D2 := (HB.out _ y2).set_ 2 (.pointer (some ⟨r1, 0, none⟩)); have f3 := D2.frozen 3; have c3 := D2.cell 3 _ rfl; have HD := Lib.hid D2; have I2 := Lib.hid i2; have J2 := Lib.hid (I1.out.ext x2); have P2 := Lib.hid p2; clear i2 D2 p2))
  go_ret2
  have hI := HI.out
  have hb2 := HB.out _ y2
  have hl1 : k1 < w1.heap.size := I1.out.map.lt
  have hmb : bm < w.heap.size := hI.gat.map.lt
  refine ⟨rfl, ⟨g, bm, r1, k1, r2, k2, ⟨HD.out.set_ 3 _, ((hI.gat.ext y2).kept hb2 (by decide) rfl).kept HD.out (by decide) rfl, hI.low, hI.lowm⟩, ⟨(J2.out.kept hb2 (by decide) rfl).kept HD.out (by decide) rfl, (I2.out.kept hb2 (by decide) rfl).kept HD.out (by decide) rfl, ?_, ?_, ?_⟩⟩, ((y2.turnP hI.low_size).trans (TurnP.set hb2 hI.low _)).trans (TurnP.set HD.out hI.low _)⟩
  · have := hI.low_size; have := x1.size; have := P2.out; omega
  · have := P2.out; omega
  · have := P2.out; have := x1.size; omega
theorem openBy_no (w : World) (B b g bm n : Nat) (E root : ByteArray) (h : IsBar w B b g bm (hdT n E) none none n 32 []) (hr : root.size = 32)
    (HR : ∀ u r k, Ext w u → IsK u r k [(1, root)] → Calls Tryz.prog 92 #[.string (hdT n E), .pointer (some ⟨r, 0, none⟩)] u fun e w' => (∃ a, e = .returned (.tuple #[.pointer a, .bool false])) ∧ Ext u w') :
    Calls Tryz.prog 53 #[.pointer (some ⟨b, 0, none⟩), .string root] w fun e w' => e = .returned (.tuple #[.bool false, .int .i64 141]) ∧ Ext w w' := by
  have HN := Lib.hid (newK_yes w root hr)
  have HB := Lib.hid (fun u (hx : Ext w u) => h.blk.ext hx)
  have HRi := Lib.hid HR
  clear HR h
  generalize hdT n E = H at *
  go_enter Tryz.func53, Tryz.ntmps53
  go_wp2_with (first
    | (go_at_call 39; refine (HN.out).mono ?_; rintro e w1 ⟨r1, k1, rfl, i1, q1, p1, x1⟩; have c1 := (HB.out _ x1).cell 1 _ rfl; have I1 := Lib.hid i1; clear i1 q1 p1)
    | (go_at_call 92; refine (HRi.out _ _ _ x1 I1.out).mono ?_; rintro e w2 ⟨⟨a, rfl⟩, x2⟩))
  go_ret2
  exact ⟨rfl, x1.trans x2⟩
theorem unseal_state (w : World) (B b : Nat) (S : BS) (h : IsP w B b S) (hS : stN S ≠ 1) (s : ByteArray) :
    Calls Tryz.prog 21 #[.pointer (some ⟨b, 0, none⟩), .string s] w fun e w' => e = .returned (.tuple #[.bool false, .int .i64 151]) ∧ w = w' := by
  have HIn := Lib.hid (bin_state w B b S h 1 (by omega))
  clear h
  go_enter Tryz.func21, Tryz.ntmps21
  go_wp2_with (go_at_call 37; refine (HIn.out).mono ?_; rintro e w1 ⟨rfl, rfl⟩)
  go_ret2
  exact ⟨rfl, rfl⟩
/-- A share that is not kept. -/
theorem unseal_err (w : World) (B b n : Nat) (E : ByteArray) (L : List (Nat × ByteArray)) (h : IsP w B b (.closed n E L)) (s : ByteArray) (c : Int) (hc : c ≠ 0)
    (HA : Calls Tryz.prog 50 #[.pointer (some ⟨b, 0, none⟩), .string s] w fun e w' => e = .returned (.int .i64 c) ∧ IsP w' B b (.closed n E L) ∧ TurnP B w w') :
    Calls Tryz.prog 21 #[.pointer (some ⟨b, 0, none⟩), .string s] w fun e w' => e = .returned (.tuple #[.bool false, .int .i64 c]) ∧ IsP w' B b (.closed n E L) ∧ TurnP B w w' := by
  have HIn := Lib.hid (bin_any w B b _ h 1 rfl)
  have HAd := Lib.hid HA
  have hne : (c != 0) = true := by simpa using hc
  clear h HA hc
  go_enter Tryz.func21, Tryz.ntmps21
  go_wp2_with (first
    | (go_at_call 37; refine (HIn.out).mono ?_; rintro e w1 ⟨rfl, rfl⟩)
    | (go_at_call 50; refine (HAd.out).mono ?_; rintro e w2 ⟨rfl, h2⟩; have H2 := Lib.hid h2; clear h2))
  go_ret2
  exact ⟨rfl, H2.out⟩
/-- A share that is kept; others are wanting. -/
theorem unseal_more (w : World) (B b g bm n : Nat) (E : ByteArray) (L L' : List (Nat × ByteArray)) (h : IsBar w B b g bm (hdT n E) none none n 32 L) (s : ByteArray) (hl : L'.length < n)
    (HA : Calls Tryz.prog 50 #[.pointer (some ⟨b, 0, none⟩), .string s] w fun e w' => e = .returned (.int .i64 0) ∧ IsBar w' B b g bm (hdT n E) none none n 32 L' ∧ TurnP B w w') :
    Calls Tryz.prog 21 #[.pointer (some ⟨b, 0, none⟩), .string s] w fun e w' => e = .returned (.tuple #[.bool false, .int .i64 0]) ∧ IsP w' B b (.closed n E L') ∧ TurnP B w w' := by
  have HIn := Lib.hid (bin_any w B b (.closed n E L) ⟨g, bm, h⟩ 1 rfl)
  have HAd := Lib.hid HA
  have HS := Lib.hid (fun u (hu : IsG u g bm n 32 L') => secret_no u g bm n 32 L' hu hl)
  clear h HA hl
  go_enter Tryz.func21, Tryz.ntmps21
  go_wp2_with (first
    | (go_at_call 37; refine (HIn.out).mono ?_; rintro e w1 ⟨rfl, rfl⟩)
    | (go_at_call 50; refine (HAd.out).mono ?_; rintro e w2 ⟨rfl, i2, t2⟩; have I2 := Lib.hid i2; have T2 := Lib.hid t2; have c0 := i2.blk.cell 0 _ rfl; clear i2 t2)
    | (go_at_call 51; refine (HS.out _ I2.out.gat).mono ?_; rintro e w3 ⟨rfl, x3⟩))
  go_ret2
  exact ⟨rfl, ⟨g, bm, I2.out.ext x3⟩, T2.out.trans (x3.turnP I2.out.low_size)⟩
/-- The last one: no share has come any more, and the header is opened, or not. -/
theorem unseal_all (w : World) (B b g bm n : Nat) (E root : ByteArray) (L L' : List (Nat × ByteArray)) (h : IsBar w B b g bm (hdT n E) none none n 32 L) (s : ByteArray) (op : Bool) (c : Int) (S' : BS)
    (HA : Calls Tryz.prog 50 #[.pointer (some ⟨b, 0, none⟩), .string s] w fun e w' => e = .returned (.int .i64 0) ∧ IsBar w' B b g bm (hdT n E) none none n 32 L' ∧ TurnP B w w')
    (HS : ∀ u, IsG u g bm n 32 L' → Calls Tryz.prog 51 #[.pointer (some ⟨g, 0, none⟩)] u fun e u' => e = .returned (.tuple #[.string root, .bool true]) ∧ Ext u u')
    (HO : ∀ u, TurnP B w u → IsBar u B b g bm (hdT n E) none none n 32 [] → Calls Tryz.prog 53 #[.pointer (some ⟨b, 0, none⟩), .string root] u fun e w' => e = .returned (.tuple #[.bool op, .int .i64 c]) ∧ IsP w' B b S' ∧ TurnP B u w') :
    Calls Tryz.prog 21 #[.pointer (some ⟨b, 0, none⟩), .string s] w fun e w' => e = .returned (.tuple #[.bool op, .int .i64 c]) ∧ IsP w' B b S' ∧ TurnP B w w' := by
  have HIn := Lib.hid (bin_any w B b (.closed n E L) ⟨g, bm, h⟩ 1 rfl)
  have HAd := Lib.hid HA; have HSe := Lib.hid HS; have HOp := Lib.hid HO
  have HDr := Lib.hid (fun u (hu : IsG u g bm n 32 L') => drop_any u g bm n 32 L' hu)
  clear h HA HS HO
  go_enter Tryz.func21, Tryz.ntmps21
  go_wp2_with (first
    | (go_at_call 37; refine (HIn.out).mono ?_; rintro e w1 ⟨rfl, rfl⟩)
    | (go_at_call 50; refine (HAd.out).mono ?_; rintro e w2 ⟨rfl, i2, t2⟩; have I2 := Lib.hid i2; have T2 := Lib.hid t2; have c0 := i2.blk.cell 0 _ rfl; clear i2 t2)
    | (go_at_call 51; refine (HSe.out _ I2.out.gat).mono ?_; rintro e w3 ⟨rfl, x3⟩; have I3 := Lib.hid (I2.out.ext x3); have T3 := Lib.hid (T2.out.trans (x3.turnP I2.out.low_size)); have c0 := I3.out.blk.cell 0 _ rfl; clear x3)
    | (go_at_call 52; refine (HDr.out _ I3.out.gat).mono ?_; rintro e w4 ⟨rfl, i4, g4⟩; have I4 : Hid (IsBar w4 B b g bm (hdT n E) none none n 32 []) := Lib.hid ⟨(g4.block b I3.out.blk.lt (fun q => by cases q; exact I3.out.ne_m rfl)).trans I3.out.blk, i4, I3.out.low, I3.out.lowm⟩; have T4 := Lib.hid (T3.out.trans (TurnP.map I3.out.low_size g4 I3.out.gat.map.is I3.out.lowm)); clear i4 g4)
    | (go_at_call 53; refine (HOp.out _ T4.out I4.out).mono ?_; rintro e w5 ⟨rfl, i5, t5⟩; have I5 := Lib.hid i5; have T5 := Lib.hid t5; clear i5 t5))
  go_ret2
  exact ⟨rfl, I5.out, T4.out.trans T5.out⟩
end Go.Proofs.YtobhbppogeghnaaGreatDoor
end

section
namespace Go.Proofs.YtobhbppogeghnaaGreatDoor
open Go.RowKit
attribute [local irreducible] rkey expand enc dec ctrB ctrC ctrL xorL xorAll turnL turnT kd t4 t8 env5 chk tagT sealT ringL hdT envOf

/-- A header made anew, in the world behind the ring's change. -/
theorem IsBar.renew {w w1 : World} {B b g bm n r1 k1 r2 k2 : Nat} {h root : ByteArray} {K K' : List (Nat × ByteArray)} (i : IsBar w B b g bm h (some ⟨r1, 0, none⟩) (some ⟨r2, 0, none⟩) n 32 []) (j : Rings2 w B bm r1 k1 r2 k2 root K)
    (hb : Blk w1 b 73 [.pointer (some ⟨g, 0, none⟩), .string h, .pointer (some ⟨r1, 0, none⟩), .pointer (some ⟨r2, 0, none⟩)]) (hg : IsG w1 g bm n 32 []) (h1 : IsK w1 r1 k1 [(1, root)]) (h2 : IsK w1 r2 k2 K') (E : ByteArray) (he : h = hdT n E) :
    IsP w1 B b (.opened n E root K') := ⟨g, bm, r1, k1, r2, k2, ⟨he ▸ hb, hg, i.low, i.lowm⟩, ⟨h1, h2, j.low, j.a1, j.a2⟩⟩
/-- What a change of the ring leaves of the barrier. -/
theorem IsBar.other {w w' : World} {B b g bm n m r1 k1 r2 k2 : Nat} {h root : ByteArray} {rt rg : Option Addr} {K : List (Nat × ByteArray)} {L : List (Nat × ByteArray)} (i : IsBar w B b g bm h rt rg n m L) (j : Rings2 w B bm r1 k1 r2 k2 root K) (hg : w.grownBy w' (some k2)) : IsBar w' B b g bm h rt rg n m L ∧ IsK w' r1 k1 [(1, root)] := by
  obtain ⟨es, c, hm⟩ := j.two.map.is
  have hne : ∀ (x : Nat) (cur : Array Value) (T : TypeId) (fr : Nat × Nat), w.heap[x]? = some (Obj.cells cur T fr) → w'.heap[x]? = w.heap[x]? := fun x cur T fr hx => hg.block x (heap_lt hx) (fun e => by cases e; rw [hm] at hx; cases hx)
  obtain ⟨es1, c1, hm1⟩ := j.one.map.is
  have hk := hg.block k1 (heap_lt hm1) (fun e => by cases e; exact j.a1 rfl)
  obtain ⟨es2, c2, hm2⟩ := i.gat.map.is
  have hb := hg.block bm (heap_lt hm2) (fun e => by cases e; exact j.a2 rfl)
  exact ⟨⟨(hne _ _ _ _ i.blk).trans i.blk, ⟨(hne _ _ _ _ i.gat.blk).trans i.gat.blk, i.gat.map.same hb, i.gat.alike⟩, i.low, i.lowm⟩, ⟨(hne _ _ _ _ j.one.ring).trans j.one.ring, j.one.map.same hk, j.one.good⟩⟩
section
variable (w : World) (B b n : Nat) (E root : ByteArray) (K : List (Nat × ByteArray)) (nonce : ByteArray)
theorem change_shut (S : BS) (h : IsP w B b S) (hS : stN S ≠ 2) (f : Value) :
    Calls Tryz.prog 43 #[.pointer (some ⟨b, 0, none⟩), .string nonce, f] w fun e w' => e = .returned (.int .i64 (mayE S)) ∧ w = w' := by
  have HIn := Lib.hid (bopened_any w B b S h)
  have hne : (mayE S != 0) = true := by cases S <;> first | rfl | exact absurd rfl hS
  clear h
  generalize mayE S = m at *
  go_enter Tryz.func43, Tryz.ntmps43
  go_wp2_with (go_at_call 41; refine (HIn.out).mono ?_; rintro e w1 ⟨rfl, rfl⟩)
  go_ret
  exact ⟨rfl, rfl⟩
theorem change_arg (h : IsP w B b (.opened n E root K)) (hz : nonce.size ≠ 12) (f : Value) :
    Calls Tryz.prog 43 #[.pointer (some ⟨b, 0, none⟩), .string nonce, f] w fun e w' => e = .returned (.int .i64 2) ∧ w = w' := by
  have HIn := Lib.hid (bopened_any w B b _ h)
  have hm : mayE (.opened n E root K) = 0 := rfl
  rw [hm] at HIn
  have hne : ((nonce.size : Int) != 12) = true := by
    have q : ¬ (nonce.size : Int) = 12 := by omega
    simpa using q
  clear h hz hm
  go_enter Tryz.func43, Tryz.ntmps43
  go_wp2_with (go_at_call 41; refine (HIn.out).mono ?_; rintro e w1 ⟨rfl, rfl⟩)
  go_ret
  exact ⟨rfl, rfl⟩
set_option maxRecDepth 100000 in
set_option maxHeartbeats 4000000 in
/-- The ring is changed, the header made anew. -/
theorem change_rot_ok (w0 : World) (q1 q2 : Nat) (hx : Ext w0 w) (hB2 : 2 ≤ B) (hL : Laid w0) (h : IsP w0 B b (.opened n E root K)) (hz : nonce.size = 12) (K' : List (Nat × ByteArray)) (N : Int) (hq2 : w0.heap.size ≤ q2)
    (HD : ∀ r k, IsK w r k K → Calls Tryz.prog 44 #[.pointer (some ⟨r, 0, none⟩), .pointer (some ⟨q1, 0, none⟩), .pointer (some ⟨q2, 0, none⟩)] w fun e w' => e = .returned (.int .i64 0) ∧ IsK w' r k K' ∧ w0.grownBy w' (some k) ∧ Blk w' q2 40 [.int .u32 N]) :
    Calls Tryz.prog 43 #[.pointer (some ⟨b, 0, none⟩), .string nonce, .func (.func 44) #[] #[.pointer (some ⟨q1, 0, none⟩), .pointer (some ⟨q2, 0, none⟩)]] w fun e w' => e = .returned (.int .i64 0) ∧ IsP w' B b (.opened n (envOf root n nonce K') root K') ∧ TurnP B w0 w' ∧ Blk w' q2 40 [.int .u32 N] := by
  have HIn := Lib.hid (bopened_any w B b _ (h.ext hx))
  have hm : mayE (.opened n E root K) = 0 := rfl
  rw [hm] at HIn
  obtain ⟨g, bm, r1, k1, r2, k2, i, j⟩ := h
  have hb3 := (i.blk.ext hx).cell 3 _ rfl
  have n16 := i.gat.alike.n16
  have HDo := Lib.hid (HD r2 k2 (j.two.ext hx))
  have HSh := Lib.hid (fun u => bsharesOf_any n E (by omega) u)
  have hzi : (nonce.size : Int) = 12 := by omega
  have HI := Lib.hid i; have HJ := Lib.hid j; have HLw := Lib.hid hL; have HN16 := Lib.hid n16
  clear i j HD hm hL n16
  go_enter Tryz.func43, Tryz.ntmps43
  go_wp2_with (first
    | (go_at_call 41; refine (HIn.out).mono ?_; rintro e w1 ⟨rfl, rfl⟩)
    | (go_at_call 44; refine (HDo.out).mono ?_; rintro e w2 ⟨rfl, i2, g2, b2⟩; have I2 := Lib.hid i2; have G2 := Lib.hid g2; have B2 := Lib.hid b2; clear i2 g2 b2))
  have HO := HI.out.other HJ.out G2.out
  have c1 := HO.1.blk.cell 1 _ rfl
  have c2 := HO.1.blk.cell 2 _ rfl
  have c3 := HO.1.blk.cell 3 _ rfl
  have HOo := Lib.hid HO
  have hB0 := HI.out.low_size
  have T2 := Lib.hid (TurnP.map (B := B) hB0 G2.out HJ.out.two.map.is HJ.out.low)
  obtain ⟨HD, hHD⟩ : ∃ x, hdOf root n nonce K' = x := ⟨_, rfl⟩
  have HHD := Lib.hid hHD
  have HH := Lib.hid (fun u (x : Ext w2 u) => bheaderOf_any u r1 k1 r2 k2 root K' ((HLw.out.turnP T2.out hB2).ext x) (HOo.out.2.ext x) (I2.out.ext x) n (by have := HN16.out; omega) nonce hz)
  rw [hHD] at HH
  have HBq : b < q2 := Nat.lt_of_lt_of_le HI.out.blk.lt hq2
  have HBQ := Lib.hid HBq; have HB0 := Lib.hid hB0
  clear HO hHD hzi hz hB0 hx hq2 HBq hb3
  have x0 : Ext w2 w2.drew := (Ext.refl w2).drew
  generalize hdT n E = H0 at *
  go_region_law (first
    | (go_simp; go_at_call 56; refine (HSh.out _).mono ?_; rintro e w5 ⟨rfl, rfl⟩)
    | (go_simp; go_at_call 40; refine (HH.out _ x0).mono ?_; rintro e w6 ⟨rfl, x6⟩; have y6 := Ext.trans x0 x6; have D6 := Lib.hid (HOo.out.1.blk.ext y6); have f1 := D6.out.frozen 1; have e1 := D6.out.cell 1 _ rfl))
  all_goals
    go_wp2
    go_ret
    have hHD := HHD.out
    subst hHD
    have hO := HOo.out
    have hJ := HJ.out
    refine ⟨rfl, ⟨g, bm, r1, k1, r2, k2, ⟨D6.out.set_ 1 _, (hO.1.gat.ext y6).kept D6.out (by decide) rfl, HI.out.low, HI.out.lowm⟩, ⟨(hO.2.ext y6).kept D6.out (by decide) rfl, (I2.out.ext y6).kept D6.out (by decide) rfl, hJ.low, hJ.a1, hJ.a2⟩⟩, (T2.out.trans (y6.turnP (Nat.le_trans HB0.out T2.out.size))).trans (TurnP.set D6.out HI.out.low _), ?_⟩
    exact (Below.heap_setCell _ _ _ _ (by have := HBQ.out; simp only; omega)).trans (B2.out.ext y6)
end
end Go.Proofs.YtobhbppogeghnaaGreatDoor
end

section
namespace Go.Proofs.YtobhbppogeghnaaGreatDoor
open Go.RowKit
attribute [local irreducible] rkey expand enc dec ctrB ctrC ctrL xorL xorAll turnL turnT kd t4 t8 env5 chk tagT sealT ringL hdT envOf
section
variable (w : World) (B b n : Nat) (E root : ByteArray) (K : List (Nat × ByteArray)) (nonce : ByteArray)
set_option maxRecDepth 100000 in
set_option maxHeartbeats 4000000 in
/-- The ring is changed, the header made anew. -/
theorem change_ret_ok (w0 : World) (q1 : Nat) (hx : Ext w0 w) (hB2 : 2 ≤ B) (hL : Laid w0) (h : IsP w0 B b (.opened n E root K)) (hz : nonce.size = 12) (K' : List (Nat × ByteArray))
    (HD : ∀ r k, IsK w r k K → Calls Tryz.prog 57 #[.pointer (some ⟨r, 0, none⟩), .pointer (some ⟨q1, 0, none⟩)] w fun e w' => e = .returned (.int .i64 0) ∧ IsK w' r k K' ∧ w0.grownBy w' (some k)) :
    Calls Tryz.prog 43 #[.pointer (some ⟨b, 0, none⟩), .string nonce, .func (.func 57) #[] #[.pointer (some ⟨q1, 0, none⟩)]] w fun e w' => e = .returned (.int .i64 0) ∧ IsP w' B b (.opened n (envOf root n nonce K') root K') ∧ TurnP B w0 w' := by
  have HIn := Lib.hid (bopened_any w B b _ (h.ext hx))
  have hm : mayE (.opened n E root K) = 0 := rfl
  rw [hm] at HIn
  obtain ⟨g, bm, r1, k1, r2, k2, i, j⟩ := h
  have hb3 := (i.blk.ext hx).cell 3 _ rfl
  have n16 := i.gat.alike.n16
  have HDo := Lib.hid (HD r2 k2 (j.two.ext hx))
  have HSh := Lib.hid (fun u => bsharesOf_any n E (by omega) u)
  have hzi : (nonce.size : Int) = 12 := by omega
  have HI := Lib.hid i; have HJ := Lib.hid j; have HLw := Lib.hid hL; have HN16 := Lib.hid n16
  clear i j HD hm hL n16
  go_enter Tryz.func43, Tryz.ntmps43
  go_wp2_with (first
    | (go_at_call 41; refine (HIn.out).mono ?_; rintro e w1 ⟨rfl, rfl⟩)
    | (go_at_call 57; refine (HDo.out).mono ?_; rintro e w2 ⟨rfl, i2, g2⟩; have I2 := Lib.hid i2; have G2 := Lib.hid g2; clear i2 g2))
  have HO := HI.out.other HJ.out G2.out
  have c1 := HO.1.blk.cell 1 _ rfl
  have c2 := HO.1.blk.cell 2 _ rfl
  have c3 := HO.1.blk.cell 3 _ rfl
  have HOo := Lib.hid HO
  have hB0 := HI.out.low_size
  have T2 := Lib.hid (TurnP.map (B := B) hB0 G2.out HJ.out.two.map.is HJ.out.low)
  obtain ⟨HD, hHD⟩ : ∃ x, hdOf root n nonce K' = x := ⟨_, rfl⟩
  have HHD := Lib.hid hHD
  have HH := Lib.hid (fun u (x : Ext w2 u) => bheaderOf_any u r1 k1 r2 k2 root K' ((HLw.out.turnP T2.out hB2).ext x) (HOo.out.2.ext x) (I2.out.ext x) n (by have := HN16.out; omega) nonce hz)
  rw [hHD] at HH
  have HB0 := Lib.hid hB0
  clear HO hHD hzi hz hB0 hx hb3
  have x0 : Ext w2 w2.drew := (Ext.refl w2).drew
  generalize hdT n E = H0 at *
  go_region_law (first
    | (go_simp; go_at_call 56; refine (HSh.out _).mono ?_; rintro e w5 ⟨rfl, rfl⟩)
    | (go_simp; go_at_call 40; refine (HH.out _ x0).mono ?_; rintro e w6 ⟨rfl, x6⟩; have y6 := Ext.trans x0 x6; have D6 := Lib.hid (HOo.out.1.blk.ext y6); have f1 := D6.out.frozen 1; have e1 := D6.out.cell 1 _ rfl))
  all_goals
    go_wp2
    go_ret
    have hHD := HHD.out
    subst hHD
    have hO := HOo.out
    have hJ := HJ.out
    refine ⟨rfl, ⟨g, bm, r1, k1, r2, k2, ⟨D6.out.set_ 1 _, (hO.1.gat.ext y6).kept D6.out (by decide) rfl, HI.out.low, HI.out.lowm⟩, ⟨(hO.2.ext y6).kept D6.out (by decide) rfl, (I2.out.ext y6).kept D6.out (by decide) rfl, hJ.low, hJ.a1, hJ.a2⟩⟩, (T2.out.trans (y6.turnP (Nat.le_trans HB0.out T2.out.size))).trans (TurnP.set D6.out HI.out.low _)⟩
set_option maxHeartbeats 1000000 in
/-- The ring refuses. -/
theorem change_rot_err (w0 : World) (q1 : Nat) (q2 : Nat) (N : Int) (hx : Ext w0 w) (h : IsP w0 B b (.opened n E root K)) (hz : nonce.size = 12) (K' : List (Nat × ByteArray)) (c : Int) (hc : c ≠ 0)
    (HD : ∀ r k, IsK w r k K → Calls Tryz.prog 44 #[.pointer (some ⟨r, 0, none⟩), .pointer (some ⟨q1, 0, none⟩), .pointer (some ⟨q2, 0, none⟩)] w fun e w' => e = .returned (.int .i64 c) ∧ IsK w' r k K' ∧ w0.grownBy w' (some k) ∧ Blk w' q2 40 [.int .u32 N]) :
    Calls Tryz.prog 43 #[.pointer (some ⟨b, 0, none⟩), .string nonce, .func (.func 44) #[] #[.pointer (some ⟨q1, 0, none⟩), .pointer (some ⟨q2, 0, none⟩)]] w fun e w' => e = .returned (.int .i64 c) ∧ IsP w' B b (.opened n E root K') ∧ TurnP B w0 w' ∧ Blk w' q2 40 [.int .u32 N] := by
  have HIn := Lib.hid (bopened_any w B b _ (h.ext hx))
  have hm : mayE (.opened n E root K) = 0 := rfl
  rw [hm] at HIn
  obtain ⟨g, bm, r1, k1, r2, k2, i, j⟩ := h
  have hb3 := (i.blk.ext hx).cell 3 _ rfl
  have HDo := Lib.hid (HD r2 k2 (j.two.ext hx))
  have hzi : (nonce.size : Int) = 12 := by omega
  have hce : (c != 0) = true := by simpa using hc
  have HI := Lib.hid i; have HJ := Lib.hid j
  clear i j HD hm hc
  go_enter Tryz.func43, Tryz.ntmps43
  go_wp2_with (first
    | (go_at_call 41; refine (HIn.out).mono ?_; rintro e w1 ⟨rfl, rfl⟩)
    | (go_at_call 44; refine (HDo.out).mono ?_; rintro e w2 ⟨rfl, i2, g2, b2⟩; have I2 := Lib.hid i2; have G2 := Lib.hid g2; clear i2 g2))
  go_ret
  have HO := HI.out.other HJ.out G2.out
  exact ⟨rfl, ⟨g, bm, r1, k1, r2, k2, HO.1, ⟨HO.2, I2.out, HJ.out.low, HJ.out.a1, HJ.out.a2⟩⟩, TurnP.map (B := B) HI.out.low_size G2.out HJ.out.two.map.is HJ.out.low, b2⟩
set_option maxHeartbeats 1000000 in
/-- The ring refuses. -/
theorem change_ret_err (w0 : World) (q1 : Nat) (hx : Ext w0 w) (h : IsP w0 B b (.opened n E root K)) (hz : nonce.size = 12) (K' : List (Nat × ByteArray)) (c : Int) (hc : c ≠ 0)
    (HD : ∀ r k, IsK w r k K → Calls Tryz.prog 57 #[.pointer (some ⟨r, 0, none⟩), .pointer (some ⟨q1, 0, none⟩)] w fun e w' => e = .returned (.int .i64 c) ∧ IsK w' r k K' ∧ w0.grownBy w' (some k)) :
    Calls Tryz.prog 43 #[.pointer (some ⟨b, 0, none⟩), .string nonce, .func (.func 57) #[] #[.pointer (some ⟨q1, 0, none⟩)]] w fun e w' => e = .returned (.int .i64 c) ∧ IsP w' B b (.opened n E root K') ∧ TurnP B w0 w' := by
  have HIn := Lib.hid (bopened_any w B b _ (h.ext hx))
  have hm : mayE (.opened n E root K) = 0 := rfl
  rw [hm] at HIn
  obtain ⟨g, bm, r1, k1, r2, k2, i, j⟩ := h
  have hb3 := (i.blk.ext hx).cell 3 _ rfl
  have HDo := Lib.hid (HD r2 k2 (j.two.ext hx))
  have hzi : (nonce.size : Int) = 12 := by omega
  have hce : (c != 0) = true := by simpa using hc
  have HI := Lib.hid i; have HJ := Lib.hid j
  clear i j HD hm hc
  go_enter Tryz.func43, Tryz.ntmps43
  go_wp2_with (first
    | (go_at_call 41; refine (HIn.out).mono ?_; rintro e w1 ⟨rfl, rfl⟩)
    | (go_at_call 57; refine (HDo.out).mono ?_; rintro e w2 ⟨rfl, i2, g2⟩; have I2 := Lib.hid i2; have G2 := Lib.hid g2; clear i2 g2))
  go_ret
  have HO := HI.out.other HJ.out G2.out
  exact ⟨rfl, ⟨g, bm, r1, k1, r2, k2, HO.1, ⟨HO.2, I2.out, HJ.out.low, HJ.out.a1, HJ.out.a2⟩⟩, TurnP.map (B := B) HI.out.low_size G2.out HJ.out.two.map.is HJ.out.low⟩
end
end Go.Proofs.YtobhbppogeghnaaGreatDoor
end

section
namespace Go.Proofs.YtobhbppogeghnaaGreatDoor
open Go.RowKit
attribute [local irreducible] rkey expand enc dec ctrB ctrC ctrL xorL xorAll turnL turnT kd t4 t8 env5 chk tagT sealT ringL hdT envOf

theorem grown_set {w w' : World} {row : Option Nat} (h : w.grownBy w' row) {q i : Nat} (hq : w.heap.size ≤ q) (v : Value) : w.grownBy (w'.setCell ⟨q, i, none⟩ v) row :=
  ⟨h.os, h.tape, h.output, Nat.le_trans h.size (by simp [World.setCell]), fun x hx hn => (Below.heap_setCell _ _ _ _ (by simp only; omega)).trans (h.block x hx hn)⟩
theorem rot1_any (w w0 : World) (r k q1 q2 : Nat) (K K' : List (Nat × ByteArray)) (key : ByteArray) (hx : Ext w0 w) (h : IsK w r k K) (h1 : Blk w q1 9 [.string key]) (h2 : Blk w q2 40 [.int .u32 0]) (hq2 : w0.heap.size ≤ q2) (N c : Int)
    (HR : ∀ u, IsK u r k K → Calls Tryz.prog 45 #[.pointer (some ⟨r, 0, none⟩), .string key] u fun e w' => e = .returned (.tuple #[.int .u32 N, .int .i64 c]) ∧ IsK w' r k K' ∧ u.grownBy w' (some k)) :
    Calls Tryz.prog 44 #[.pointer (some ⟨r, 0, none⟩), .pointer (some ⟨q1, 0, none⟩), .pointer (some ⟨q2, 0, none⟩)] w fun e w' => e = .returned (.int .i64 c) ∧ IsK w' r k K' ∧ w0.grownBy w' (some k) ∧ Blk w' q2 40 [.int .u32 N] := by
  have HRo := Lib.hid (HR w h)
  have c1 := h1.cell 0 _ rfl
  have HX := Lib.hid hx
  have hne : q2 ≠ k := fun e => by
    obtain ⟨es, cl, hm⟩ := h.map.is
    unfold Blk at h2
    rw [e, hm] at h2
    cases h2
  have HN := Lib.hid hne; have HQ := Lib.hid hq2
  have HB2 := Lib.hid h2
  clear HR h h1 h2 hne hx hq2
  go_enter Tryz.func44, Tryz.ntmps44
  go_wp2_with (go_at_call 45; refine (HRo.out).mono ?_; rintro e w1 ⟨rfl, i1, g1⟩; have D1 : Blk w1 q2 40 [.int .u32 0] := (g1.block q2 HB2.out.lt (fun e => by cases e; exact HN.out rfl)).trans HB2.out; have f1 := D1.frozen 0; have d1 := D1.cell 0 _ rfl; have HD1 := Lib.hid D1; have I1 := Lib.hid i1; have G1 := Lib.hid g1; clear D1 i1 g1)
  go_ret
  exact ⟨rfl, I1.out.kept HD1.out (by decide) rfl, grown_set (extK_grown HX.out G1.out) HQ.out _, HD1.out.set_ 0 _⟩
theorem ret1_any (w w0 : World) (r k q1 : Nat) (K K' : List (Nat × ByteArray)) (ep : Int) (hx : Ext w0 w) (h : IsK w r k K) (h1 : Blk w q1 40 [.int .u32 ep]) (c : Int)
    (HR : ∀ u, IsK u r k K → Calls Tryz.prog 58 #[.pointer (some ⟨r, 0, none⟩), .int .u32 ep] u fun e w' => e = .returned (.int .i64 c) ∧ IsK w' r k K' ∧ u.grownBy w' (some k)) :
    Calls Tryz.prog 57 #[.pointer (some ⟨r, 0, none⟩), .pointer (some ⟨q1, 0, none⟩)] w fun e w' => e = .returned (.int .i64 c) ∧ IsK w' r k K' ∧ w0.grownBy w' (some k) := by
  have HRo := Lib.hid (HR w h)
  have c1 := h1.cell 0 _ rfl
  have HX := Lib.hid hx
  clear HR h h1 hx
  go_enter Tryz.func57, Tryz.ntmps57
  go_wp2_with (go_at_call 58; refine (HRo.out).mono ?_; rintro e w1 ⟨rfl, i1, g1⟩)
  go_ret
  exact ⟨rfl, i1, extK_grown HX.out g1⟩
/-- What a change leaves. -/
def newS (n : Nat) (E root : ByteArray) (nonce : ByteArray) (K' : List (Nat × ByteArray)) (c : Int) : BS := if c = 0 then .opened n (envOf root n nonce K') root K' else .opened n E root K'
section
variable (w : World) (B b n : Nat) (E root : ByteArray) (K : List (Nat × ByteArray)) (nonce : ByteArray)
theorem brotate_shut (S : BS) (h : IsP w B b S) (hS : stN S ≠ 2) (key : ByteArray) :
    Calls Tryz.prog 16 #[.pointer (some ⟨b, 0, none⟩), .string key, .string nonce] w fun e w' => e = .returned (.tuple #[.int .u32 0, .int .i64 (mayE S)]) ∧ Ext w w' := by
  have HC := Lib.hid (fun u (x : Ext w u) f => change_shut u B b nonce S (h.ext x) hS f)
  have B2 := Lib.hid (Blk.new (w.alloc (.cells #[.string key] 9)) [.int .u32 0] 40)
  have X2 := Lib.hid (((Ext.refl w).alloc (.cells #[.string key] 9)).alloc (.cells #[.int .u32 0] 40))
  have b2 := B2.out.cell 0 _ rfl
  clear h
  generalize mayE S = m at *
  go_enter Tryz.func16, Tryz.ntmps16
  go_wp2_with (go_at_call 43; refine (HC.out _ X2.out _).mono ?_; rintro e w1 ⟨rfl, rfl⟩)
  go_ret2
  exact ⟨rfl, X2.out⟩
theorem brotate_arg (h : IsP w B b (.opened n E root K)) (hz : nonce.size ≠ 12) (key : ByteArray) :
    Calls Tryz.prog 16 #[.pointer (some ⟨b, 0, none⟩), .string key, .string nonce] w fun e w' => e = .returned (.tuple #[.int .u32 0, .int .i64 2]) ∧ Ext w w' := by
  have HC := Lib.hid (fun u (x : Ext w u) f => change_arg u B b n E root K nonce (h.ext x) hz f)
  have B2 := Lib.hid (Blk.new (w.alloc (.cells #[.string key] 9)) [.int .u32 0] 40)
  have X2 := Lib.hid (((Ext.refl w).alloc (.cells #[.string key] 9)).alloc (.cells #[.int .u32 0] 40))
  have b2 := B2.out.cell 0 _ rfl
  clear h
  go_enter Tryz.func16, Tryz.ntmps16
  go_wp2_with (go_at_call 43; refine (HC.out _ X2.out _).mono ?_; rintro e w1 ⟨rfl, rfl⟩)
  go_ret2
  exact ⟨rfl, X2.out⟩
theorem brotate_is (hB2 : 2 ≤ B) (hL : Laid w) (h : IsP w B b (.opened n E root K)) (hz : nonce.size = 12) (key : ByteArray) (K' : List (Nat × ByteArray)) (N c : Int)
    (HR : ∀ u r k, IsK u r k K → Calls Tryz.prog 45 #[.pointer (some ⟨r, 0, none⟩), .string key] u fun e w' => e = .returned (.tuple #[.int .u32 N, .int .i64 c]) ∧ IsK w' r k K' ∧ u.grownBy w' (some k)) :
    Calls Tryz.prog 16 #[.pointer (some ⟨b, 0, none⟩), .string key, .string nonce] w fun e w' => e = .returned (.tuple #[.int .u32 N, .int .i64 c]) ∧ IsP w' B b (newS n E root nonce K' c) ∧ TurnP B w w' := by
  have B1 : Blk ((w.alloc (.cells #[.string key] 9)).alloc (.cells #[.int .u32 0] 40)) w.heap.size 9 [.string key] := (Blk.new w [.string key] 9).alloc _
  have B2 := Blk.new (w.alloc (.cells #[.string key] 9)) [.int .u32 0] 40
  have hsz : (w.alloc (.cells #[.string key] 9)).heap.size = w.heap.size + 1 := by simp
  rw [hsz] at B2
  have X2 : Ext w ((w.alloc (.cells #[.string key] 9)).alloc (.cells #[.int .u32 0] 40)) := ((Ext.refl w).alloc _).alloc _
  have HC : Hid (Calls Tryz.prog 43 #[.pointer (some ⟨b, 0, none⟩), .string nonce, .func (.func 44) #[] #[.pointer (some ⟨w.heap.size, 0, none⟩), .pointer (some ⟨w.heap.size + 1, 0, none⟩)]] ((w.alloc (.cells #[.string key] 9)).alloc (.cells #[.int .u32 0] 40)) fun e w' => e = .returned (.int .i64 c) ∧ IsP w' B b (newS n E root nonce K' c) ∧ TurnP B w w' ∧ Blk w' (w.heap.size + 1) 40 [.int .u32 N]) := Lib.hid (by
    by_cases hc : c = 0
    · subst hc
      exact change_rot_ok _ B b n E root K nonce w w.heap.size (w.heap.size + 1) X2 hB2 hL h hz K' N (by omega) (fun r k hk => rot1_any _ w r k _ _ K K' key X2 hk B1 B2 (by omega) N 0 (fun u hu => HR u r k hu))
    · unfold newS
      rw [if_neg hc]
      exact change_rot_err _ B b n E root K nonce w w.heap.size (w.heap.size + 1) N X2 h hz K' c hc (fun r k hk => rot1_any _ w r k _ _ K K' key X2 hk B1 B2 (by omega) N c (fun u hu => HR u r k hu)))
  clear HR h hL hz B1 B2 X2
  go_enter Tryz.func16, Tryz.ntmps16
  go_wp2_with (go_at_call 43; refine (HC.out).mono ?_; rintro e w1 ⟨rfl, i1, t1, b1⟩; have d1 := b1.cell 0 _ rfl; have I1 := Lib.hid i1; have T1 := Lib.hid t1; clear i1 t1 b1)
  go_ret2
  exact ⟨rfl, I1.out, T1.out⟩
theorem bretire_shut (S : BS) (h : IsP w B b S) (hS : stN S ≠ 2) (ep : Int) :
    Calls Tryz.prog 25 #[.pointer (some ⟨b, 0, none⟩), .int .u32 ep, .string nonce] w fun e w' => e = .returned (.int .i64 (mayE S)) ∧ Ext w w' := by
  have HC := Lib.hid (fun u (x : Ext w u) f => change_shut u B b nonce S (h.ext x) hS f)
  have X2 := Lib.hid ((Ext.refl w).alloc (.cells #[.int .u32 ep] 40))
  clear h
  generalize mayE S = m at *
  go_enter Tryz.func25, Tryz.ntmps25
  go_wp2_with (go_at_call 43; refine (HC.out _ X2.out _).mono ?_; rintro e w1 ⟨rfl, rfl⟩)
  go_ret
  exact ⟨rfl, X2.out⟩
theorem bretire_arg (h : IsP w B b (.opened n E root K)) (hz : nonce.size ≠ 12) (ep : Int) :
    Calls Tryz.prog 25 #[.pointer (some ⟨b, 0, none⟩), .int .u32 ep, .string nonce] w fun e w' => e = .returned (.int .i64 2) ∧ Ext w w' := by
  have HC := Lib.hid (fun u (x : Ext w u) f => change_arg u B b n E root K nonce (h.ext x) hz f)
  have X2 := Lib.hid ((Ext.refl w).alloc (.cells #[.int .u32 ep] 40))
  clear h
  go_enter Tryz.func25, Tryz.ntmps25
  go_wp2_with (go_at_call 43; refine (HC.out _ X2.out _).mono ?_; rintro e w1 ⟨rfl, rfl⟩)
  go_ret
  exact ⟨rfl, X2.out⟩
theorem bretire_is (hB2 : 2 ≤ B) (hL : Laid w) (h : IsP w B b (.opened n E root K)) (hz : nonce.size = 12) (ep : Int) (K' : List (Nat × ByteArray)) (c : Int)
    (HR : ∀ u r k, IsK u r k K → Calls Tryz.prog 58 #[.pointer (some ⟨r, 0, none⟩), .int .u32 ep] u fun e w' => e = .returned (.int .i64 c) ∧ IsK w' r k K' ∧ u.grownBy w' (some k)) :
    Calls Tryz.prog 25 #[.pointer (some ⟨b, 0, none⟩), .int .u32 ep, .string nonce] w fun e w' => e = .returned (.int .i64 c) ∧ IsP w' B b (newS n E root nonce K' c) ∧ TurnP B w w' := by
  have B1 := Blk.new w [.int .u32 ep] 40
  have X2 : Ext w (w.alloc (.cells #[.int .u32 ep] 40)) := (Ext.refl w).alloc _
  have HC : Hid (Calls Tryz.prog 43 #[.pointer (some ⟨b, 0, none⟩), .string nonce, .func (.func 57) #[] #[.pointer (some ⟨w.heap.size, 0, none⟩)]] (w.alloc (.cells #[.int .u32 ep] 40)) fun e w' => e = .returned (.int .i64 c) ∧ IsP w' B b (newS n E root nonce K' c) ∧ TurnP B w w') := Lib.hid (by
    by_cases hc : c = 0
    · subst hc
      exact change_ret_ok _ B b n E root K nonce w w.heap.size X2 hB2 hL h hz K' (fun r k hk => ret1_any _ w r k _ K K' ep X2 hk B1 0 (fun u hu => HR u r k hu))
    · unfold newS
      rw [if_neg hc]
      exact change_ret_err _ B b n E root K nonce w w.heap.size X2 h hz K' c hc (fun r k hk => ret1_any _ w r k _ K K' ep X2 hk B1 c (fun u hu => HR u r k hu)))
  clear HR h hL hz B1 X2
  go_enter Tryz.func25, Tryz.ntmps25
  go_wp2_with (go_at_call 43; refine (HC.out).mono ?_; rintro e w1 ⟨rfl, i1, t1⟩)
  go_ret
  exact ⟨rfl, i1, t1⟩
end
end Go.Proofs.YtobhbppogeghnaaGreatDoor
end
