/- Contracts: a barrier, by the program: the ring's change refused; an epoch's key forgotten. Contracts: a barrier, by the program: Rotate and Retire. Contracts: a barrier, by the program: the shares of its root, in any order. -/
import Derived.Test.YtcjdnifckngcfaaGreatDoorM44
import Derived.Deep.RegionLaw
section
namespace Go.Proofs.YtcjdnifckngcfaaGreatDoor
open Go.RowKit
attribute [local irreducible] rkey expand enc dec ctrB ctrC ctrL xorL xorAll turnL turnT kd t4 t8 env5 chk tagT sealT ringL hdT envOf
section
variable (w : World) (B b n : Nat) (E root : ByteArray) (K : List (Nat × ByteArray)) (nonce : ByteArray)
set_option maxRecDepth 100000 in
set_option maxHeartbeats 4000000 in
/-- The ring is changed, the header made anew. -/
theorem change_ret_ok (w0 : World) (q1 : Nat) (hx : Ext w0 w) (hB2 : 2 ≤ B) (hL : Laid w0) (h : IsP w0 B b (.opened n E root K)) (hz : nonce.size = 12) (K' : List (Nat × ByteArray))
    (HD : ∀ r k, IsK w r k K → Calls Tryz.prog 57 #[.pointer (some ⟨r, 0, none⟩), .pointer (some ⟨q1, 0, none⟩)] w fun e w' => e = .returned (.int .i64 0) ∧ IsK w' r k K' ∧ w0.grownBy w' (some k)) :
    Calls Tryz.prog 43 #[.pointer (some ⟨b, 0, none⟩), .string nonce, .func (.func 57) #[] #[.pointer (some ⟨q1, 0, none⟩)]] w fun e w' => e = .returned (.int .i64 0) ∧ IsP w' B b (.opened n (envOf root n nonce K') root K') ∧ TurnP B w0 w' := by
  have HIn := Lib.hid (bopened_any w B b _ (h.ext hx))
  have hm : mayE (.opened n E root K) = 0 := rfl
  rw [hm] at HIn
  obtain ⟨g, bm, r1, k1, r2, k2, i, j⟩ := h
  have hb3 := (i.blk.ext hx).cell 3 _ rfl
  have n16 := i.gat.alike.n16
  have HDo := Lib.hid (HD r2 k2 (j.two.ext hx))
  have HSh := Lib.hid (fun u => bsharesOf_any n E (by omega) u)
  have hzi : (nonce.size : Int) = 12 := by omega
  have HI := Lib.hid i; have HJ := Lib.hid j; have HLw := Lib.hid hL; have HN16 := Lib.hid n16
  clear i j HD hm hL n16
  go_enter Tryz.func43, Tryz.ntmps43
  go_wp2_with (first
    | (go_at_call 41; refine (HIn.out).mono ?_; rintro e w1 ⟨rfl, rfl⟩)
    | (go_at_call 57; refine (HDo.out).mono ?_; rintro e w2 ⟨rfl, i2, g2⟩; have I2 := Lib.hid i2; have G2 := Lib.hid g2; clear i2 g2))
  have HO := HI.out.other HJ.out G2.out
  have c1 := HO.1.blk.cell 1 _ rfl
  have c2 := HO.1.blk.cell 2 _ rfl
  have c3 := HO.1.blk.cell 3 _ rfl
  have HOo := Lib.hid HO
  have hB0 := HI.out.low_size
  have T2 := Lib.hid (TurnP.map (B := B) hB0 G2.out HJ.out.two.map.is HJ.out.low)
  obtain ⟨HD, hHD⟩ : ∃ x, hdOf root n nonce K' = x := ⟨_, rfl⟩
  have HHD := Lib.hid hHD
  have HH := Lib.hid (fun u (x : Ext w2 u) => bheaderOf_any u r1 k1 r2 k2 root K' ((HLw.out.turnP T2.out hB2).ext x) (HOo.out.2.ext x) (I2.out.ext x) n (by have := HN16.out; omega) nonce hz)
  rw [hHD] at HH
  have HB0 := Lib.hid hB0
  clear HO hHD hzi hz hB0 hx hb3
  have x0 : Ext w2 w2.drew := (Ext.refl w2).drew
  generalize hdT n E = H0 at *
  go_region_law (first
    | (go_simp; go_at_call 56; refine (HSh.out _).mono ?_; rintro e w5 ⟨rfl, rfl⟩)
    | (go_simp; go_at_call 40; refine (HH.out _ x0).mono ?_; rintro e w6 ⟨rfl, x6⟩; have y6 := Ext.trans x0 x6; have D6 := Lib.hid (HOo.out.1.blk.ext y6); have f1 := D6.out.frozen 1; have e1 := D6.out.cell 1 _ rfl))
  all_goals
    go_wp2
    go_ret
    have hHD := HHD.out
    subst hHD
    have hO := HOo.out
    have hJ := HJ.out
    refine ⟨rfl, ⟨g, bm, r1, k1, r2, k2, ⟨D6.out.set_ 1 _, (hO.1.gat.ext y6).kept D6.out (by decide) rfl, HI.out.low, HI.out.lowm⟩, ⟨(hO.2.ext y6).kept D6.out (by decide) rfl, (I2.out.ext y6).kept D6.out (by decide) rfl, hJ.low, hJ.a1, hJ.a2⟩⟩, (T2.out.trans (y6.turnP (Nat.le_trans HB0.out T2.out.size))).trans (TurnP.set D6.out HI.out.low _)⟩
set_option maxHeartbeats 1000000 in
/-- The ring refuses. -/
theorem change_rot_err (w0 : World) (q1 : Nat) (q2 : Nat) (N : Int) (hx : Ext w0 w) (h : IsP w0 B b (.opened n E root K)) (hz : nonce.size = 12) (K' : List (Nat × ByteArray)) (c : Int) (hc : c ≠ 0)
    (HD : ∀ r k, IsK w r k K → Calls Tryz.prog 44 #[.pointer (some ⟨r, 0, none⟩), .pointer (some ⟨q1, 0, none⟩), .pointer (some ⟨q2, 0, none⟩)] w fun e w' => e = .returned (.int .i64 c) ∧ IsK w' r k K' ∧ w0.grownBy w' (some k) ∧ Blk w' q2 40 [.int .u32 N]) :
    Calls Tryz.prog 43 #[.pointer (some ⟨b, 0, none⟩), .string nonce, .func (.func 44) #[] #[.pointer (some ⟨q1, 0, none⟩), .pointer (some ⟨q2, 0, none⟩)]] w fun e w' => e = .returned (.int .i64 c) ∧ IsP w' B b (.opened n E root K') ∧ TurnP B w0 w' ∧ Blk w' q2 40 [.int .u32 N] := by
  have HIn := Lib.hid (bopened_any w B b _ (h.ext hx))
  have hm : mayE (.opened n E root K) = 0 := rfl
  rw [hm] at HIn
  obtain ⟨g, bm, r1, k1, r2, k2, i, j⟩ := h
  have hb3 := (i.blk.ext hx).cell 3 _ rfl
  have HDo := Lib.hid (HD r2 k2 (j.two.ext hx))
  have hzi : (nonce.size : Int) = 12 := by omega
  have hce : (c != 0) = true := by simpa using hc
  have HI := Lib.hid i; have HJ := Lib.hid j
  clear i j HD hm hc
  go_enter Tryz.func43, Tryz.ntmps43
  go_wp2_with (first
    | (go_at_call 41; refine (HIn.out).mono ?_; rintro e w1 ⟨rfl, rfl⟩)
    | (go_at_call 44; refine (HDo.out).mono ?_; rintro e w2 ⟨rfl, i2, g2, b2⟩; have I2 := Lib.hid i2; have G2 := Lib.hid g2; clear i2 g2))
  go_ret
  have HO := HI.out.other HJ.out G2.out
  exact ⟨rfl, ⟨g, bm, r1, k1, r2, k2, HO.1, ⟨HO.2, I2.out, HJ.out.low, HJ.out.a1, HJ.out.a2⟩⟩, TurnP.map (B := B) HI.out.low_size G2.out HJ.out.two.map.is HJ.out.low, b2⟩
set_option maxHeartbeats 1000000 in
/-- The ring refuses. -/
theorem change_ret_err (w0 : World) (q1 : Nat) (hx : Ext w0 w) (h : IsP w0 B b (.opened n E root K)) (hz : nonce.size = 12) (K' : List (Nat × ByteArray)) (c : Int) (hc : c ≠ 0)
    (HD : ∀ r k, IsK w r k K → Calls Tryz.prog 57 #[.pointer (some ⟨r, 0, none⟩), .pointer (some ⟨q1, 0, none⟩)] w fun e w' => e = .returned (.int .i64 c) ∧ IsK w' r k K' ∧ w0.grownBy w' (some k)) :
    Calls Tryz.prog 43 #[.pointer (some ⟨b, 0, none⟩), .string nonce, .func (.func 57) #[] #[.pointer (some ⟨q1, 0, none⟩)]] w fun e w' => e = .returned (.int .i64 c) ∧ IsP w' B b (.opened n E root K') ∧ TurnP B w0 w' := by
  have HIn := Lib.hid (bopened_any w B b _ (h.ext hx))
  have hm : mayE (.opened n E root K) = 0 := rfl
  rw [hm] at HIn
  obtain ⟨g, bm, r1, k1, r2, k2, i, j⟩ := h
  have hb3 := (i.blk.ext hx).cell 3 _ rfl
  have HDo := Lib.hid (HD r2 k2 (j.two.ext hx))
  have hzi : (nonce.size : Int) = 12 := by omega
  have hce : (c != 0) = true := by simpa using hc
  have HI := Lib.hid i; have HJ := Lib.hid j
  clear i j HD hm hc
  go_enter Tryz.func43, Tryz.ntmps43
  go_wp2_with (first
    | (go_at_call 41; refine (HIn.out).mono ?_; rintro e w1 ⟨rfl, rfl⟩)
    | (go_at_call 57; refine (HDo.out).mono ?_; rintro e w2 ⟨rfl, i2, g2⟩; have I2 := Lib.hid i2; have G2 := Lib.hid g2; clear i2 g2))
  go_ret
  have HO := HI.out.other HJ.out G2.out
  exact ⟨rfl, ⟨g, bm, r1, k1, r2, k2, HO.1, ⟨HO.2, I2.out, HJ.out.low, HJ.out.a1, HJ.out.a2⟩⟩, TurnP.map (B := B) HI.out.low_size G2.out HJ.out.two.map.is HJ.out.low⟩
end
end Go.Proofs.YtcjdnifckngcfaaGreatDoor
end

section
namespace Go.Proofs.YtcjdnifckngcfaaGreatDoor
open Go.RowKit
attribute [local irreducible] rkey expand enc dec ctrB ctrC ctrL xorL xorAll turnL turnT kd t4 t8 env5 chk tagT sealT ringL hdT envOf

theorem grown_set {w w' : World} {row : Option Nat} (h : w.grownBy w' row) {q i : Nat} (hq : w.heap.size ≤ q) (v : Value) : w.grownBy (w'.setCell ⟨q, i, none⟩ v) row :=
  ⟨h.os, h.tape, h.output, Nat.le_trans h.size (by simp [World.setCell]), fun x hx hn => (Below.heap_setCell _ _ _ _ (by simp only; omega)).trans (h.block x hx hn)⟩
theorem rot1_any (w w0 : World) (r k q1 q2 : Nat) (K K' : List (Nat × ByteArray)) (key : ByteArray) (hx : Ext w0 w) (h : IsK w r k K) (h1 : Blk w q1 9 [.string key]) (h2 : Blk w q2 40 [.int .u32 0]) (hq2 : w0.heap.size ≤ q2) (N c : Int)
    (HR : ∀ u, IsK u r k K → Calls Tryz.prog 45 #[.pointer (some ⟨r, 0, none⟩), .string key] u fun e w' => e = .returned (.tuple #[.int .u32 N, .int .i64 c]) ∧ IsK w' r k K' ∧ u.grownBy w' (some k)) :
    Calls Tryz.prog 44 #[.pointer (some ⟨r, 0, none⟩), .pointer (some ⟨q1, 0, none⟩), .pointer (some ⟨q2, 0, none⟩)] w fun e w' => e = .returned (.int .i64 c) ∧ IsK w' r k K' ∧ w0.grownBy w' (some k) ∧ Blk w' q2 40 [.int .u32 N] := by
  have HRo := Lib.hid (HR w h)
  have c1 := h1.cell 0 _ rfl
  have HX := Lib.hid hx
  have hne : q2 ≠ k := fun e => by
    obtain ⟨es, cl, hm⟩ := h.map.is
    unfold Blk at h2
    rw [e, hm] at h2
    cases h2
  have HN := Lib.hid hne; have HQ := Lib.hid hq2
  have HB2 := Lib.hid h2
  clear HR h h1 h2 hne hx hq2
  go_enter Tryz.func44, Tryz.ntmps44
  go_wp2_with (go_at_call 45; refine (HRo.out).mono ?_; rintro e w1 ⟨rfl, i1, g1⟩; have D1 : Blk w1 q2 40 [.int .u32 0] := (g1.block q2 HB2.out.lt (fun e => by cases e; exact HN.out rfl)).trans HB2.out; have f1 := D1.frozen 0; have d1 := D1.cell 0 _ rfl; have HD1 := Lib.hid D1; have I1 := Lib.hid i1; have G1 := Lib.hid g1; clear D1 i1 g1)
  go_ret
  exact ⟨rfl, I1.out.kept HD1.out (by decide) rfl, grown_set (extK_grown HX.out G1.out) HQ.out _, HD1.out.set_ 0 _⟩
theorem ret1_any (w w0 : World) (r k q1 : Nat) (K K' : List (Nat × ByteArray)) (ep : Int) (hx : Ext w0 w) (h : IsK w r k K) (h1 : Blk w q1 40 [.int .u32 ep]) (c : Int)
    (HR : ∀ u, IsK u r k K → Calls Tryz.prog 58 #[.pointer (some ⟨r, 0, none⟩), .int .u32 ep] u fun e w' => e = .returned (.int .i64 c) ∧ IsK w' r k K' ∧ u.grownBy w' (some k)) :
    Calls Tryz.prog 57 #[.pointer (some ⟨r, 0, none⟩), .pointer (some ⟨q1, 0, none⟩)] w fun e w' => e = .returned (.int .i64 c) ∧ IsK w' r k K' ∧ w0.grownBy w' (some k) := by
  have HRo := Lib.hid (HR w h)
  have c1 := h1.cell 0 _ rfl
  have HX := Lib.hid hx
  clear HR h h1 hx
  go_enter Tryz.func57, Tryz.ntmps57
  go_wp2_with (go_at_call 58; refine (HRo.out).mono ?_; rintro e w1 ⟨rfl, i1, g1⟩)
  go_ret
  exact ⟨rfl, i1, extK_grown HX.out g1⟩
/-- What a change leaves. -/
def newS (n : Nat) (E root : ByteArray) (nonce : ByteArray) (K' : List (Nat × ByteArray)) (c : Int) : BS := if c = 0 then .opened n (envOf root n nonce K') root K' else .opened n E root K'
section
variable (w : World) (B b n : Nat) (E root : ByteArray) (K : List (Nat × ByteArray)) (nonce : ByteArray)
theorem brotate_shut (S : BS) (h : IsP w B b S) (hS : stN S ≠ 2) (key : ByteArray) :
    Calls Tryz.prog 16 #[.pointer (some ⟨b, 0, none⟩), .string key, .string nonce] w fun e w' => e = .returned (.tuple #[.int .u32 0, .int .i64 (mayE S)]) ∧ Ext w w' := by
  have HC := Lib.hid (fun u (x : Ext w u) f => change_shut u B b nonce S (h.ext x) hS f)
  have B2 := Lib.hid (Blk.new (w.alloc (.cells #[.string key] 9)) [.int .u32 0] 40)
  have X2 := Lib.hid (((Ext.refl w).alloc (.cells #[.string key] 9)).alloc (.cells #[.int .u32 0] 40))
  have b2 := B2.out.cell 0 _ rfl
  clear h
  generalize mayE S = m at *
  go_enter Tryz.func16, Tryz.ntmps16
  go_wp2_with (go_at_call 43; refine (HC.out _ X2.out _).mono ?_; rintro e w1 ⟨rfl, rfl⟩)
  go_ret2
  exact ⟨rfl, X2.out⟩
theorem brotate_arg (h : IsP w B b (.opened n E root K)) (hz : nonce.size ≠ 12) (key : ByteArray) :
    Calls Tryz.prog 16 #[.pointer (some ⟨b, 0, none⟩), .string key, .string nonce] w fun e w' => e = .returned (.tuple #[.int .u32 0, .int .i64 2]) ∧ Ext w w' := by
  have HC := Lib.hid (fun u (x : Ext w u) f => change_arg u B b n E root K nonce (h.ext x) hz f)
  have B2 := Lib.hid (Blk.new (w.alloc (.cells #[.string key] 9)) [.int .u32 0] 40)
  have X2 := Lib.hid (((Ext.refl w).alloc (.cells #[.string key] 9)).alloc (.cells #[.int .u32 0] 40))
  have b2 := B2.out.cell 0 _ rfl
  clear h
  go_enter Tryz.func16, Tryz.ntmps16
  go_wp2_with (go_at_call 43; refine (HC.out _ X2.out _).mono ?_; rintro e w1 ⟨rfl, rfl⟩)
  go_ret2
  exact ⟨rfl, X2.out⟩
theorem brotate_is (hB2 : 2 ≤ B) (hL : Laid w) (h : IsP w B b (.opened n E root K)) (hz : nonce.size = 12) (key : ByteArray) (K' : List (Nat × ByteArray)) (N c : Int)
    (HR : ∀ u r k, IsK u r k K → Calls Tryz.prog 45 #[.pointer (some ⟨r, 0, none⟩), .string key] u fun e w' => e = .returned (.tuple #[.int .u32 N, .int .i64 c]) ∧ IsK w' r k K' ∧ u.grownBy w' (some k)) :
    Calls Tryz.prog 16 #[.pointer (some ⟨b, 0, none⟩), .string key, .string nonce] w fun e w' => e = .returned (.tuple #[.int .u32 N, .int .i64 c]) ∧ IsP w' B b (newS n E root nonce K' c) ∧ TurnP B w w' := by
  have B1 : Blk ((w.alloc (.cells #[.string key] 9)).alloc (.cells #[.int .u32 0] 40)) w.heap.size 9 [.string key] := (Blk.new w [.string key] 9).alloc _
  have B2 := Blk.new (w.alloc (.cells #[.string key] 9)) [.int .u32 0] 40
  have hsz : (w.alloc (.cells #[.string key] 9)).heap.size = w.heap.size + 1 := by simp
  rw [hsz] at B2
  have X2 : Ext w ((w.alloc (.cells #[.string key] 9)).alloc (.cells #[.int .u32 0] 40)) := ((Ext.refl w).alloc _).alloc _
  have HC : Hid (Calls Tryz.prog 43 #[.pointer (some ⟨b, 0, none⟩), .string nonce, .func (.func 44) #[] #[.pointer (some ⟨w.heap.size, 0, none⟩), .pointer (some ⟨w.heap.size + 1, 0, none⟩)]] ((w.alloc (.cells #[.string key] 9)).alloc (.cells #[.int .u32 0] 40)) fun e w' => e = .returned (.int .i64 c) ∧ IsP w' B b (newS n E root nonce K' c) ∧ TurnP B w w' ∧ Blk w' (w.heap.size + 1) 40 [.int .u32 N]) := Lib.hid (by
    by_cases hc : c = 0
    · subst hc
      exact change_rot_ok _ B b n E root K nonce w w.heap.size (w.heap.size + 1) X2 hB2 hL h hz K' N (by omega) (fun r k hk => rot1_any _ w r k _ _ K K' key X2 hk B1 B2 (by omega) N 0 (fun u hu => HR u r k hu))
    · unfold newS
      rw [if_neg hc]
      exact change_rot_err _ B b n E root K nonce w w.heap.size (w.heap.size + 1) N X2 h hz K' c hc (fun r k hk => rot1_any _ w r k _ _ K K' key X2 hk B1 B2 (by omega) N c (fun u hu => HR u r k hu)))
  clear HR h hL hz B1 B2 X2
  go_enter Tryz.func16, Tryz.ntmps16
  go_wp2_with (go_at_call 43; refine (HC.out).mono ?_; rintro e w1 ⟨rfl, i1, t1, b1⟩; have d1 := b1.cell 0 _ rfl; have I1 := Lib.hid i1; have T1 := Lib.hid t1; clear i1 t1 b1)
  go_ret2
  exact ⟨rfl, I1.out, T1.out⟩
theorem bretire_shut (S : BS) (h : IsP w B b S) (hS : stN S ≠ 2) (ep : Int) :
    Calls Tryz.prog 25 #[.pointer (some ⟨b, 0, none⟩), .int .u32 ep, .string nonce] w fun e w' => e = .returned (.int .i64 (mayE S)) ∧ Ext w w' := by
  have HC := Lib.hid (fun u (x : Ext w u) f => change_shut u B b nonce S (h.ext x) hS f)
  have X2 := Lib.hid ((Ext.refl w).alloc (.cells #[.int .u32 ep] 40))
  clear h
  generalize mayE S = m at *
  go_enter Tryz.func25, Tryz.ntmps25
  go_wp2_with (go_at_call 43; refine (HC.out _ X2.out _).mono ?_; rintro e w1 ⟨rfl, rfl⟩)
  go_ret
  exact ⟨rfl, X2.out⟩
theorem bretire_arg (h : IsP w B b (.opened n E root K)) (hz : nonce.size ≠ 12) (ep : Int) :
    Calls Tryz.prog 25 #[.pointer (some ⟨b, 0, none⟩), .int .u32 ep, .string nonce] w fun e w' => e = .returned (.int .i64 2) ∧ Ext w w' := by
  have HC := Lib.hid (fun u (x : Ext w u) f => change_arg u B b n E root K nonce (h.ext x) hz f)
  have X2 := Lib.hid ((Ext.refl w).alloc (.cells #[.int .u32 ep] 40))
  clear h
  go_enter Tryz.func25, Tryz.ntmps25
  go_wp2_with (go_at_call 43; refine (HC.out _ X2.out _).mono ?_; rintro e w1 ⟨rfl, rfl⟩)
  go_ret
  exact ⟨rfl, X2.out⟩
theorem bretire_is (hB2 : 2 ≤ B) (hL : Laid w) (h : IsP w B b (.opened n E root K)) (hz : nonce.size = 12) (ep : Int) (K' : List (Nat × ByteArray)) (c : Int)
    (HR : ∀ u r k, IsK u r k K → Calls Tryz.prog 58 #[.pointer (some ⟨r, 0, none⟩), .int .u32 ep] u fun e w' => e = .returned (.int .i64 c) ∧ IsK w' r k K' ∧ u.grownBy w' (some k)) :
    Calls Tryz.prog 25 #[.pointer (some ⟨b, 0, none⟩), .int .u32 ep, .string nonce] w fun e w' => e = .returned (.int .i64 c) ∧ IsP w' B b (newS n E root nonce K' c) ∧ TurnP B w w' := by
  have B1 := Blk.new w [.int .u32 ep] 40
  have X2 : Ext w (w.alloc (.cells #[.int .u32 ep] 40)) := (Ext.refl w).alloc _
  have HC : Hid (Calls Tryz.prog 43 #[.pointer (some ⟨b, 0, none⟩), .string nonce, .func (.func 57) #[] #[.pointer (some ⟨w.heap.size, 0, none⟩)]] (w.alloc (.cells #[.int .u32 ep] 40)) fun e w' => e = .returned (.int .i64 c) ∧ IsP w' B b (newS n E root nonce K' c) ∧ TurnP B w w') := Lib.hid (by
    by_cases hc : c = 0
    · subst hc
      exact change_ret_ok _ B b n E root K nonce w w.heap.size X2 hB2 hL h hz K' (fun r k hk => ret1_any _ w r k _ K K' ep X2 hk B1 0 (fun u hu => HR u r k hu))
    · unfold newS
      rw [if_neg hc]
      exact change_ret_err _ B b n E root K nonce w w.heap.size X2 h hz K' c hc (fun r k hk => ret1_any _ w r k _ K K' ep X2 hk B1 c (fun u hu => HR u r k hu)))
  clear HR h hL hz B1 X2
  go_enter Tryz.func25, Tryz.ntmps25
  go_wp2_with (go_at_call 43; refine (HC.out).mono ?_; rintro e w1 ⟨rfl, i1, t1⟩)
  go_ret
  exact ⟨rfl, i1, t1⟩
end
end Go.Proofs.YtcjdnifckngcfaaGreatDoor
end

section
namespace Go.Proofs.YtcjdnifckngcfaaGreatDoor
open Go.RowKit
attribute [local irreducible] rkey expand enc dec ctrB ctrC ctrL xorL xorAll turnL turnT kd t4 t8 env5 chk tagT sealT ringL hdT

/-- The shares of a root by their places. -/
def rowF (root : ByteArray) (l : List ByteArray) : List (Nat × ByteArray) := (allT root l).mapIdx fun i s => (i + 1, s)
theorem rowF_length (root : ByteArray) (l : List ByteArray) : (rowF root l).length = l.length + 1 := by simp [rowF, allT_length]
theorem rowF_at (root : ByteArray) (l : List ByteArray) (j : Nat) (s : ByteArray) (h : (allT root l)[j]? = some s) : (j + 1, s) ∈ rowF root l := by
  have : (rowF root l)[j]? = some (j + 1, s) := by simp [rowF, h]
  exact List.mem_of_getElem? this
theorem rowF_mem (root : ByteArray) (l : List ByteArray) {x : Nat × ByteArray} (h : x ∈ rowF root l) : 1 ≤ x.1 ∧ x.1 ≤ l.length + 1 ∧ x.2 ∈ allT root l := by
  obtain ⟨j, hj⟩ := List.getElem?_of_mem h
  have hlt : j < (allT root l).length := by
    have := (List.getElem?_eq_some_iff.1 hj).1
    simpa [rowF] using this
  simp [rowF, List.getElem?_eq_getElem hlt] at hj
  subst hj
  rw [allT_length] at hlt
  exact ⟨by simp, by simp only; omega, List.getElem_mem _⟩
theorem rowF_once (root : ByteArray) (l : List ByteArray) : (rowF root l).Pairwise (fun x y => x.1 ≠ y.1) := by
  rw [List.pairwise_iff_getElem]
  intro i j hi hj hij
  simp [rowF]
  omega
theorem splitT_row (root : ByteArray) (l : List ByteArray) : splitT root l = (rowF root l).map fun x => shareT x.1 (l.length + 1) x.2 := by
  rw [splitT_all]
  unfold sharesT rowF
  apply List.ext_getElem?
  intro i
  simp [Function.comp_def]
section
variable (w : World) (B b n : Nat) (E : ByteArray) (G : List (Nat × ByteArray)) (x : Nat × ByteArray)
theorem badd_row (g bm : Nat) (h : IsBar w B b g bm (hdT n E) none none n 32 G) (h1 : 1 ≤ x.1) (h2 : x.1 ≤ n) (h3 : x.2.size = 32) (h4 : ∀ y ∈ G, y.1 ≠ x.1) :
    Calls Tryz.prog 50 #[.pointer (some ⟨b, 0, none⟩), .string (shareT x.1 n x.2)] w fun e w' => e = .returned (.int .i64 0) ∧ IsBar w' B b g bm (hdT n E) none none n 32 (G ++ [x]) ∧ TurnP B w w' := by
  have hso : ShareOf (shareT x.1 n x.2) x.1 n := shareT_of _ _ _ h1 h2 h.gat.alike.n16 (by omega) (by omega)
  have hsz : (shareT x.1 n x.2).size - 2 = 32 := by rw [shareT_size]; omega
  refine badd_is w B b g bm n E G (G ++ [x]) h _ x.1 hso hsz 0 fun u hx => ?_
  have := add_ok u g bm n 32 G _ x.1 (h.gat.ext hx) hso hsz h4
  rw [shareT_rest] at this
  exact this
theorem unseal_row (h : IsP w B b (.closed n E G)) (h1 : 1 ≤ x.1) (h2 : x.1 ≤ n) (h3 : x.2.size = 32) (h4 : ∀ y ∈ G, y.1 ≠ x.1) (hl : G.length + 1 < n) :
    Calls Tryz.prog 21 #[.pointer (some ⟨b, 0, none⟩), .string (shareT x.1 n x.2)] w fun e w' => e = .returned (.tuple #[.bool false, .int .i64 0]) ∧ IsP w' B b (.closed n E (G ++ [x])) ∧ TurnP B w w' := by
  obtain ⟨g, bm, i⟩ := h
  exact unseal_more w B b g bm n E G (G ++ [x]) i _ (by simpa using hl) (badd_row w B b n E G x g bm i h1 h2 h3 h4)
/-- A root opens the header that it closed. -/
theorem ringIn_yes (w : World) (hL : Laid w) (r k n : Nat) (root nonce : ByteArray) (K : List (Nat × ByteArray)) (hr : IsK w r k [(1, root)]) (hG : GoodK K) (hn : n < 256) (hz : nonce.size = 12) :
    Calls Tryz.prog 92 #[.string (hdT n (envOf root n nonce K)), .pointer (some ⟨r, 0, none⟩)] w fun e w' => (∃ a k', e = .returned (.tuple #[.pointer (some ⟨a, 0, none⟩), .bool true]) ∧ IsK w' a k' K ∧ w.heap.size ≤ k') ∧ Ext w w' := by
  have hrl := ringB_le hG
  have := ringIn_is w r n (envOf root n nonce K) (ringB K) hn (fun a u w' => ∃ a' k', a = some ⟨a', 0, none⟩ ∧ IsK w' a' k' K ∧ u.heap.size ≤ k') 0
    (fun u hx => open_sealed u r k _ (hL.ext hx) (hr.ext hx) 1 root (by simp) pathB n nonce (ringB K) hz (by decide) (by omega))
    (fun u => (read_yes u K hG).mono fun e w' he => by
      obtain ⟨a, k', h1, h2, _, h4, h5⟩ := he
      exact ⟨⟨some ⟨a, 0, none⟩, h1, a, k', rfl, h2, h4⟩, h5⟩)
  refine this.mono fun e w' he => ?_
  obtain ⟨⟨a, u, h1, ⟨a', k', rfl, h2, h3⟩, h4⟩, h5⟩ := he
  exact ⟨⟨a', k', h1, h2, Nat.le_trans h4.size h3⟩, h5⟩
theorem unseal_last (hB2 : 2 ≤ B) (hL : Laid w) (root nonce : ByteArray) (K : List (Nat × ByteArray)) (l : List ByteArray) (hE : E = envOf root n nonce K) (hG : GoodK K) (hz : nonce.size = 12) (hr : root.size = 32) (hls : ∀ s ∈ l, s.size = root.size) (hln : l.length + 1 = n)
    (h : IsP w B b (.closed n E G)) (hp : ([x] ++ G).Perm (rowF root l)) :
    Calls Tryz.prog 21 #[.pointer (some ⟨b, 0, none⟩), .string (shareT x.1 n x.2)] w fun e w' => e = .returned (.tuple #[.bool true, .int .i64 0]) ∧ IsP w' B b (.opened n E root K) ∧ TurnP B w w' := by
  obtain ⟨g, bm, i⟩ := h
  have n16 := i.gat.alike.n16
  have hx : x ∈ rowF root l := hp.subset (by simp)
  have hm := rowF_mem root l hx
  have hxs := allT_size root l hls x.2 hm.2.2
  have honce : ([x] ++ G).Pairwise (fun x y => x.1 ≠ y.1) := hp.symm.pairwise (rowF_once root l) (fun h => Ne.symm h)
  have h4 : ∀ y ∈ G, y.1 ≠ x.1 := fun y hy => Ne.symm ((List.pairwise_cons.1 honce).1 y hy)
  have hlen : (G ++ [x]).length = n := by have := hp.length_eq; rw [rowF_length] at this; simp at this ⊢; omega
  have hmem : ∀ (j : Nat) (s : ByteArray), (allT root l)[j]? = some s → (j + 1, s) ∈ G ++ [x] := fun j s hj => by
    have := hp.symm.subset (rowF_at root l j s hj)
    simp at this ⊢
    rcases this with h | h
    · exact .inr h
    · exact .inl h
  have hsec : ∀ u, IsG u g bm n 32 (G ++ [x]) → Calls Tryz.prog 51 #[.pointer (some ⟨g, 0, none⟩)] u fun e u' => e = .returned (.tuple #[.string root, .bool true]) ∧ Ext u u' := fun u hu => by
    cases hS : allT root l with
    | nil => have := allT_length root l; rw [hS] at this; simp at this
    | cons s0 St =>
      have h0 := allT_length root l
      rw [hS] at h0
      have hh := secret_yes u g bm n 32 _ hu hlen s0 St (by simp at h0; omega) (fun j s hj => hmem j s (by rw [hS]; exact hj))
      have e := allT_secret root l hls s0 St hS
      rw [e, string_of] at hh
      exact hh
  refine unseal_all w B b g bm n E root G (G ++ [x]) i _ true 0 (.opened n E root K) (badd_row w B b n E G x g bm i hm.1 (by omega) (by omega) h4) hsec fun u t iu => ?_
  subst hE
  exact openBy_yes u B b g bm n _ root K iu hr fun v r k hv hk => ringIn_yes v ((hL.turnP t hB2).ext hv) r k n root nonce K hk hG (by omega) hz
end
end Go.Proofs.YtcjdnifckngcfaaGreatDoor
end
