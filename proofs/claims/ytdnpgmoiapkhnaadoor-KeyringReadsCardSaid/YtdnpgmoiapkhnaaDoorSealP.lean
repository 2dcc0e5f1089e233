/- Contracts: envelopes: how long one is; whether there is a ring; an envelope's parts, cut out one by one: by the program. -/
import Derived.Test.YtdnpgmoiapkhnaaDoorM13
import Derived.Deep.DeepCutAuto
namespace Go.Proofs.YtdnpgmoiapkhnaaDoor
open Go.RowKit

theorem run_max0 (ts : Array TypeId) (t : TypeId) (n : Nat) (u : World) : (Builtin.max_ ts t #[.int .i64 (n : Int), .int .i64 0]).run Tryd.prog u = .ok (.int .i64 (n : Int)) u := by
  simp [Builtin.max_, Builtin.max2]
  omega
theorem Size_any (n : Nat) (h : n ≤ 140737488351232) (w : World) :
    Calls Tryd.prog 37 #[.int .i64 (n : Int)] w fun e w' => e = .returned (.int .i64 (17 + (n : Int) + 32)) ∧ w = w' := by
  have hm := run_max0
  have h1 : IntKind.i64.wrap (17 + (n : Int)) = 17 + (n : Int) := by simp [IntKind.wrap, IntKind.signed, IntKind.bits]; omega
  have h2 : IntKind.i64.wrap (17 + (n : Int) + 32) = 17 + (n : Int) + 32 := by simp [IntKind.wrap, IntKind.signed, IntKind.bits]; omega
  go_enter Tryd.func37, Tryd.ntmps37
  go_wp2
  go_ret
  exact ⟨rfl, rfl⟩
theorem there_yes14 (w : World) (r b : Nat) (L : List (Nat × ByteArray)) (h : IsK w r b L) :
    Calls Tryd.prog 38 #[.pointer (some ⟨r, 0, none⟩)] w fun e w' => e = .returned (.bool true) ∧ Ext w w' := by
  have HN := Lib.hid (newest_any w r b L h)
  have ht : (top (eps L) : Int) ≠ 0 := by have := h.good.top_one; omega
  have HT0 := Lib.hid ht
  clear h
  generalize top (eps L) = t at *
  go_enter Tryd.func38, Tryd.ntmps38
  go_wp2_with (go_at_call 20; refine (HN.out).mono ?_; rintro e w1 ⟨rfl, x1⟩)
  go_ret
  exact ⟨by first | rfl | (have := HT0.out; simp; omega), x1⟩
theorem there_nil14 (w : World) :
    Calls Tryd.prog 38 #[.pointer none] w fun e w' => e = .returned (.bool false) ∧ w = w' := by
  go_enter Tryd.func38, Tryd.ntmps38
  go_wp2_with (go_at_call 20; refine (newest_nil _).mono ?_; rintro e w1 ⟨rfl, rfl⟩)
  go_ret
  exact ⟨rfl, rfl⟩
/-! ### Parts -/
theorem takeS_any (w : World) (c : Nat) (X : ByteArray) (k : Nat) (hk : k ≤ X.size) (hB : Blk w c 9 [.string X]) :
    Calls Tryd.prog 64 #[.int .i64 (k : Int), .pointer (some ⟨c, 0, none⟩)] w fun e w' => e = .returned (.string (X.extract 0 k)) ∧ w' = w.setCell ⟨c, 0, none⟩ (.string (X.extract k X.size)) := by
  have h1 := fun u => cut_to X k hk u
  have h2 := fun u => cut_from X k hk u
  have c0 := hB.cell 0 _ rfl
  have f0 := hB.frozen 0
  clear hB
  go_enter Tryd.func64, Tryd.ntmps64
  go_wp2
  go_ret
  exact ⟨rfl, rfl⟩
/-- What taking a piece off leaves: block c has the rest, all else is as it was. -/
structure Cutd (c : Nat) (r : List UInt8) (w w' : World) : Prop where
  left : Blk w' c 9 [.string ⟨r.toArray⟩]
  size : w'.heap.size = w.heap.size
  other : ∀ {b : Nat} {T : TypeId} {cs : List Value}, Blk w b T cs → b ≠ c → Blk w' b T cs
  ext : ∀ {v : World}, Ext v w → v.heap.size ≤ c → Ext v w'
theorem takeS_cut (w : World) (c : Nat) (a r : List UInt8) (k : Nat) (ki : Int) (hki : ki = (k : Int)) (ha : a.length = k) (hB : Blk w c 9 [.string ⟨(a ++ r).toArray⟩]) :
    Calls Tryd.prog 64 #[.int .i64 ki, .pointer (some ⟨c, 0, none⟩)] w fun e w' => e = .returned (.string ⟨a.toArray⟩) ∧ Cutd c r w w' := by
  subst hki
  subst ha
  have h := takeS_any w c ⟨(a ++ r).toArray⟩ a.length (by rw [txt_size, List.length_append]; omega) hB
  rw [(left_cut a r).1, (left_cut a r).2] at h
  refine h.mono fun e w' q => ⟨q.1, ?_⟩
  obtain ⟨_, rfl⟩ := q
  exact ⟨hB.set_ 0 _, by simp [World.setCell], fun hb hne => hb.other hne _ _, fun hx hc => hx.setCell (p := ⟨c, 0, none⟩) hc _⟩
theorem parts_info : (Tryd.prog.info? 82).map (·.size) = some 5 := by kernel_rfl
set_option maxRecDepth 100000 in
set_option maxHeartbeats 2000000 in
theorem partsOf_cut (w : World) (a b c d t : List UInt8) (ha : a.length = 1) (hb : b.length = 4) (hc : c.length = 12) (ht : t.length = 32) (hd : d.length ≤ 140737488351232) :
    Calls Tryd.prog 46 #[.string ⟨(a ++ (b ++ (c ++ (d ++ t)))).toArray⟩] w fun e w' => e = .returned (.agg #[.string ⟨a.toArray⟩, .string ⟨b.toArray⟩, .string ⟨c.toArray⟩, .string ⟨d.toArray⟩, .string ⟨t.toArray⟩]) ∧ Ext w w' := by
  obtain ⟨W0, hW0⟩ : ∃ W0, (w.alloc (.cells #[.string ⟨#[]⟩, .string ⟨#[]⟩, .string ⟨#[]⟩, .string ⟨#[]⟩, .string ⟨#[]⟩] 82)).alloc (.cells #[.string ⟨(a ++ (b ++ (c ++ (d ++ t)))).toArray⟩] 9) = W0 := ⟨_, rfl⟩
  have hx0 : Ext w W0 := by rw [← hW0]; exact ((Ext.refl w).alloc _).alloc _
  have hz0 : W0.heap.size = w.heap.size + 2 := by rw [← hW0]; simp
  have hR0 : Blk W0 w.heap.size 82 [.string ⟨#[]⟩, .string ⟨#[]⟩, .string ⟨#[]⟩, .string ⟨#[]⟩, .string ⟨#[]⟩] := by rw [← hW0]; exact (Blk.new w _ _).alloc _
  have hB0 : Blk W0 (w.heap.size + 1) 9 [.string ⟨(a ++ (b ++ (c ++ (d ++ t)))).toArray⟩] := by
    rw [← hW0]
    have := Blk.new (w.alloc (.cells #[.string ⟨#[]⟩, .string ⟨#[]⟩, .string ⟨#[]⟩, .string ⟨#[]⟩, .string ⟨#[]⟩] 82)) [.string ⟨(a ++ (b ++ (c ++ (d ++ t)))).toArray⟩] 9
    rwa [show (w.alloc (.cells #[.string ⟨#[]⟩, .string ⟨#[]⟩, .string ⟨#[]⟩, .string ⟨#[]⟩, .string ⟨#[]⟩] 82)).heap.size = w.heap.size + 1 by simp] at this
  have HX0 := Lib.hid hx0; have HZ0 := Lib.hid hz0; have HR0 := Lib.hid hR0; have HB0 := Lib.hid hB0
  clear hx0 hz0 hR0 hB0
  have hlen : ByteArray.size ⟨(d ++ t).toArray⟩ = d.length + 32 := by rw [txt_size, List.length_append, ht]
  have hlen2 : ((ByteArray.size ⟨(d ++ t).toArray⟩ : Nat) : Int) = (d.length : Int) + 32 := by omega
  have hw : IntKind.i64.wrap ((d.length : Int) + 32 - 32) = (d.length : Int) := by simp [IntKind.wrap, IntKind.signed, IntKind.bits]; omega
  have hwb : wrap64 ((d.length : Int) + 32 - 32) = (d.length : Int) := by simp [wrap64]; omega
  have H1 := Lib.hid (fun u (hu : Blk u (w.heap.size + 1) 9 [.string ⟨(a ++ (b ++ (c ++ (d ++ t)))).toArray⟩]) => takeS_cut u (w.heap.size + 1) a _ 1 1 rfl ha hu)
  have H2 := Lib.hid (fun u (hu : Blk u (w.heap.size + 1) 9 [.string ⟨(b ++ (c ++ (d ++ t))).toArray⟩]) => takeS_cut u (w.heap.size + 1) b _ 4 4 rfl hb hu)
  have H3 := Lib.hid (fun u (hu : Blk u (w.heap.size + 1) 9 [.string ⟨(c ++ (d ++ t)).toArray⟩]) => takeS_cut u (w.heap.size + 1) c _ 12 12 rfl hc hu)
  have H4 := Lib.hid (fun u (hu : Blk u (w.heap.size + 1) 9 [.string ⟨(d ++ t).toArray⟩]) => takeS_cut u (w.heap.size + 1) d _ d.length d.length rfl rfl hu)
  have H5 := Lib.hid (fun u (hu : Blk u (w.heap.size + 1) 9 [.string ⟨t.toArray⟩]) => by
    have := takeS_cut u (w.heap.size + 1) t [] 32 32 rfl ht (by rw [List.append_nil]; exact hu)
    exact this)
  have HL := Lib.hid hlen2
  clear ha hb hc ht hd hlen hlen2
  generalize d.length = n at *
  generalize hA : (⟨a.toArray⟩ : ByteArray) = A at *
  generalize hB' : (⟨b.toArray⟩ : ByteArray) = B at *
  generalize hC : (⟨c.toArray⟩ : ByteArray) = C at *
  generalize hD : (⟨d.toArray⟩ : ByteArray) = D at *
  generalize hT : (⟨t.toArray⟩ : ByteArray) = T at *
  generalize (⟨(a ++ (b ++ (c ++ (d ++ t)))).toArray⟩ : ByteArray) = X at *
  have HTt := Lib.hid hT
  clear hA hB' hC hD hT
  go_enter Tryd.func46, Tryd.ntmps46
  go_upto_region 3 with (fail)
  go_upto_region 4 with (first
    | (go_at_call 64; (with_reducible refine (H1.out _ HB0.out).mono ?_); rintro e w1 ⟨rfl, k1⟩; have B1 := Lib.hid k1.left; have R1 := Lib.hid (k1.other HR0.out (by omega)); have X1 := Lib.hid (k1.ext HX0.out (by omega)); have Z1 := Lib.hid (k1.size.trans HZ0.out); clear k1)
    | (go_at_call 64; (with_reducible refine (H2.out _ B1.out).mono ?_); rintro e w2 ⟨rfl, k2⟩; have B2 := Lib.hid k2.left; have R2 := Lib.hid (k2.other R1.out (by omega)); have X2 := Lib.hid (k2.ext X1.out (by omega)); have Z2 := Lib.hid (k2.size.trans Z1.out); clear k2)
    | (go_at_call 64; (with_reducible refine (H3.out _ B2.out).mono ?_); rintro e w3 ⟨rfl, k3⟩; have B3 := Lib.hid k3.left; have R3 := Lib.hid (k3.other R2.out (by omega)); have X3 := Lib.hid (k3.ext X2.out (by omega)); have Z3 := Lib.hid (k3.size.trans Z2.out); clear k3))
  have hne : w3.heap.size ≠ w.heap.size + 1 := by have := Z3.out; omega
  have hne2 : w.heap.size ≠ w3.heap.size := by have := Z3.out; omega
  have hne3 : w.heap.size ≠ w.heap.size + 1 := by omega
  have b4 := B3.out.alloc (.cells #[.string A, .string B, .string C, .string ⟨#[]⟩, .string ⟨#[]⟩] 82)
  have r4 := R3.out.alloc (.cells #[.string A, .string B, .string C, .string ⟨#[]⟩, .string ⟨#[]⟩] 82)
  have p4 := Blk.new w3 [.string A, .string B, .string C, .string ⟨#[]⟩, .string ⟨#[]⟩] 82
  have x4 := X3.out.alloc (.cells #[.string A, .string B, .string C, .string ⟨#[]⟩, .string ⟨#[]⟩] 82)
  have HPl := Lib.hid X3.out.size
  generalize hW4 : w3.alloc (.cells #[.string A, .string B, .string C, .string ⟨#[]⟩, .string ⟨#[]⟩] 82) = W4 at *
  clear hW4 Z3
  generalize w3.heap.size = P at *
  have B4 := Lib.hid b4; have R4 := Lib.hid r4; have P4 := Lib.hid p4; have X4 := Lib.hid x4
  have c4 := b4.cell 0 _ rfl
  have N1 := Lib.hid hne; have N2 := Lib.hid hne2; have N3 := Lib.hid hne3
  clear b4 r4 p4 x4 hne hne2 hne3
  generalize (⟨(d ++ t).toArray⟩ : ByteArray) = DT at *
  have hw1 : wrap64 ((DT.size : Int) - 32) = (n : Int) := by rw [HL.out]; exact hwb
  have hw2 : IntKind.i64.wrap ((DT.size : Int) - 32) = (n : Int) := by rw [HL.out]; exact hw
  clear hw hwb
  go_wp2_with (first
    | (go_at_call 64; (with_reducible refine (H4.out _ B4.out).mono ?_); rintro e w5 ⟨rfl, k5⟩; have b5 := k5.left; rw [HTt.out] at b5; have B5 := Lib.hid (b5.other N1.out.symm 3 (.string D)); clear b5; have p5 := k5.other P4.out N1.out; have c5 := p5.cell 3 _ rfl; have f5 := p5.frozen 3; have P5 := Lib.hid (p5.set_ 3 (.string D)); have R5 := Lib.hid ((k5.other R4.out N3.out).other N2.out 3 (.string D)); have X5 := Lib.hid ((k5.ext X4.out (Nat.le_succ _)).setCell (p := ⟨P, 3, none⟩) HPl.out (.string D)); clear k5 p5)
    | (go_at_call 64; (with_reducible refine (H5.out _ B5.out).mono ?_); rintro e w6 ⟨rfl, k6⟩; have p6 := k6.other P5.out N1.out; have c6 := p6.cell 4 _ rfl; have f6 := p6.frozen 4; have p7 := p6.set_ 4 (.string T); have a0 := p7.cell 0 _ rfl; have a1 := p7.cell 1 _ rfl; have a2 := p7.cell 2 _ rfl; have a3 := p7.cell 3 _ rfl; have a4 := p7.cell 4 _ rfl; have r6 := (k6.other R5.out N3.out).other N2.out 4 (.string T); have R6 := Lib.hid r6; have z0 := r6.cell 0 _ rfl; have z1 := r6.cell 1 _ rfl; have z2 := r6.cell 2 _ rfl; have z3 := r6.cell 3 _ rfl; have z4 := r6.cell 4 _ rfl; have y0 := r6.frozen 0; have y1 := r6.frozen 1; have y2 := r6.frozen 2; have y3 := r6.frozen 3; have y4 := r6.frozen 4; have X6 := Lib.hid ((k6.ext X5.out (Nat.le_succ _)).setCell (p := ⟨P, 4, none⟩) HPl.out (.string T)); clear k6 p6 p7 r6))
  exact bodyPost_ret (results_cell_row rfl _ _ w.heap.size 82 #[.string A, .string B, .string C, .string D, .string T] (0, 0) _ rfl (((((R6.out.set_ 0 _).set_ 1 _).set_ 2 _).set_ 3 _).set_ 4 _) Tryd.underlying82 rfl parts_info) rfl ⟨rfl, ((((X6.out.setCell (p := ⟨w.heap.size, 0, none⟩) (Nat.le_refl _) _).setCell (p := ⟨w.heap.size, 1, none⟩) (Nat.le_refl _) _).setCell (p := ⟨w.heap.size, 2, none⟩) (Nat.le_refl _) _).setCell (p := ⟨w.heap.size, 3, none⟩) (Nat.le_refl _) _).setCell (p := ⟨w.heap.size, 4, none⟩) (Nat.le_refl _) _⟩
end Go.Proofs.YtdnpgmoiapkhnaaDoor
