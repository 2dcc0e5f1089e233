/- Contract: a cut, as a closure. -/
import Derived.Test.YtbekdcpdfmfopaaGreatActs
namespace Go.Proofs.YtbekdcpdfmfopaaGreat
open Go.RowKit

/-- What each operation of the region leaves in its slot. -/
def CtF (b f n : Nat) (V W : Value) (j : Nat) (v : Value) : Prop :=
  match j with
  | 0 | 2 | 4 | 10 => v = .pointer (some ⟨b, 3, none⟩)
  | 1 | 3 => v = .int .i64 (f : Int)
  | 5 | 11 => v = .pointer (some ⟨b, 3 + f, none⟩)
  | 6 => v = V
  | 7 => v = .int .i64 (n : Int)
  | _ => v = W
def CtM (w : World) (V : Value) (Fin : World → Prop) (b1 b2 : Bool) (v : Value) (u : World) : Prop :=
  match b1, b2 with
  | false, false => Ext w u
  | false, true => False
  | true, false => Ext w u ∧ v = V
  | true, true => Fin u
def CtI (w : World) (f e a n : Nat) (V : Value) (Fin : World → Prop) (b1 b2 : Bool) (v : Value) (u : World) : Prop :=
  u.cell? ⟨e, 0, none⟩ = some (.int .i64 (n : Int)) ∧ u.cell? ⟨a, 0, none⟩ = some (.int .i64 (f : Int)) ∧ CtM w V Fin b1 b2 v u
section
variable {w u : World} {V : Value} {Fin : World → Prop} {b1 b2 : Bool} {v : Value}
theorem CtI.done (h : CtM w V Fin b1 b2 v u) (h2 : b2 = true) : b1 = true := by
  subst h2
  cases b1
  · exact (h : False).elim
  · rfl
theorem CtI.ahead (h : CtM w V Fin b1 b2 v u) (h2 : b2 = false) : Ext w u := by
  subst h2
  cases b1
  · exact h
  · exact h.1
theorem CtI.mid (h : CtM w V Fin b1 b2 v u) (h1 : b1 = true) (h2 : b2 = false) : Ext w u ∧ v = V := by
  subst h1 h2
  exact h
theorem CtI.fin (h : CtM w V Fin b1 b2 v u) (h1 : b1 = true) (h2 : b2 = true) : Fin u := by
  subst h1 h2
  exact h
end
theorem slice_head (p : Option Addr) (hp : p = none ∨ ∃ g, p = some ⟨g, 0, none⟩) (n z c : Nat) (hn : n ≤ z) (hz : z ≤ c) (hc : p = none → c = 0) (u : World) : (Instr.slice 41 (.slice p z c) none (some (.int .i64 (n : Int))) none).run Tryz.prog u = .ok (.slice p n c) u := by
  have hu2 := Tryz.underlying5
  rcases hp with rfl | ⟨g, rfl⟩
  · have := hc rfl
    subst this
    obtain rfl : n = 0 := by omega
    simp [Instr.slice, Instr.sliceBounds, Instr.sliceBound, asIntOf, run_underlying Tryz.underlying41]
  · have hj : (0 : Int) ≤ (n : Int) ∧ (n : Int) ≤ (c : Int) := by omega
    simp [Instr.slice, Instr.sliceBounds, Instr.sliceBound, asIntOf, run_underlying Tryz.underlying41, hj]
    rw [if_pos (show n ≤ c by omega), Addr.add_mid]
    split <;> rfl
set_option maxRecDepth 100000 in
set_option maxHeartbeats 4000000 in
theorem act_cut (w : World) (b : Nat) (κ : Foot) (m room : Nat) (fuse : Int) (N S : Fs) (pn qs : Nat → Option Addr) (cn ks : Nat → Nat) (lv : Value) (r : Raw w b κ m room fuse N S pn qs cn ks lv) (f : Nat) (hf : f < 16) (n : Nat) (hn : n ≤ (N f).size) (a e : Nat)
    (ha : Blk w a 3 [.int .i64 (f : Int)]) (he : Blk w e 3 [.int .i64 (n : Int)]) (hka : κ a = 1) (hke : κ e = 1) :
    Calls Tryz.prog 111 #[.pointer (some ⟨b, 3, none⟩), .int .i64 (-1), .pointer (some ⟨a, 0, none⟩), .pointer (some ⟨e, 0, none⟩)] w fun e w' => e = .returned (.tuple #[]) ∧ ∃ pn' cn' κ', Raw w' b κ' m room fuse (upd N f ((N f).extract 0 n)) S pn' qs cn' ks lv ∧ Fr κ (fun j => j = 2 ∨ 4 ≤ j) w w' κ' := by
  obtain ⟨X, hX⟩ : ∃ X, (N f).extract 0 n = X := ⟨_, rfl⟩
  have hXs : X.size = n := by rw [← hX]; exact size_extract _ _ hn
  have hcf := r.now f hf
  have hca := ha.cell 0 _ rfl
  have hce := he.cell 0 _ rfl
  have hslot := r.slot f hf
  have HP : Hid (∀ u, Ext w u → ∃ pn' cn' κ', Raw (u.setCell ⟨b, 3 + f, none⟩ (.slice (pn f) n n)) b κ' m room fuse (upd N f X) S pn' qs cn' ks lv ∧ Fr κ (fun j => j = 2 ∨ 4 ≤ j) w (u.setCell ⟨b, 3 + f, none⟩ (.slice (pn f) n n)) κ') := Lib.hid fun u hu => by
    have s1 := (hslot.1.cut n hn).ext hu
    rw [← cells_extract, hX] at s1
    have q := r.put f hf X (pn f) n (by rw [hXs]; exact s1) (hu.fr κ _) ⟨hslot.2.1.ext hu, fun g _ _ => .inl hXs.symm⟩
    rw [hXs] at q
    exact ⟨_, _, κ, q⟩
  have hle := hslot.1.2.1
  have hsl := fun u => slice_head (pn f) hslot.1.2.2.1 n (N f).size (cn f) hn hle (fun hp => by
    rcases Nat.eq_zero_or_pos (cn f) with q | q
    · exact q
    · obtain ⟨g, cur, q1, _⟩ := hslot.1.2.2.2 q; rw [hp] at q1; cases q1) u
  have HCl := Lib.hid (fun u => Clip_any u (pn f) n (cn f) (by omega) (by
    rcases hslot.1.2.2.1 with hp | hp
    · left
      refine ⟨hp, ?_⟩
      rcases Nat.eq_zero_or_pos (cn f) with q | q
      · exact q
      · obtain ⟨g, cur, q1, _⟩ := hslot.1.2.2.2 q; rw [hp] at q1; cases q1
    · exact .inr hp))
  have HA := Lib.hid ha; have HE := Lib.hid he
  have HBk := Lib.hid r.blk
  have HNe : Hid (e ≠ b ∧ a ≠ b) := Lib.hid ⟨fun q => by rw [q, r.disk] at hke; omega, fun q => by rw [q, r.disk] at hka; omega⟩
  have hf0 : (0 : Int) ≤ (f : Int) := by omega
  have hf1 : (f : Int) < 16 := by omega
  rw [hX]
  clear r ha he hka hke hslot hX hXs hle
  generalize N f = F at *
  generalize pn f = p at *
  generalize cn f = c at *
  clear hn
  go_enter Tryz.func111, Tryz.ntmps111
  go_wp2
  have hbase : ∀ q : Nat × Value, q ∈ [(0, Value.pointer (some ⟨b, 3, none⟩)), (1, .int .i64 (-1)), (2, .pointer (some ⟨a, 0, none⟩)), (3, .pointer (some ⟨e, 0, none⟩))] → q.1 < 8 := by
    intro q hq
    simp only [List.mem_cons, List.not_mem_nil, or_false] at hq
    rcases hq with rfl | rfl | rfl | rfl <;> first | exact (by decide : 0 < 8) | exact (by decide : 1 < 8) | exact (by decide : 2 < 8) | exact (by decide : 3 < 8)
  refine wp_region_any (by kernel_rfl) ?_
  refine wpAny_inv (Wy 13 20 8 9 8 6 [(0, .pointer (some ⟨b, 3, none⟩)), (1, .int .i64 (-1)), (2, .pointer (some ⟨a, 0, none⟩)), (3, .pointer (some ⟨e, 0, none⟩))] (CtF b f n (.slice p F.size c) (.slice p n c)) (CtI w f e a n (.slice p n n) (fun u => ∃ pn' cn' κ', Raw u b κ' m room fuse (upd N f X) S pn' qs cn' ks lv ∧ Fr κ (fun j => j = 2 ∨ 4 ≤ j) w u κ'))) ?hsize ?step ?last _ _ _ _ (by decide) (Wy.start rfl rfl ?base (by decide) (by decide) (fun v => ⟨hce, hca, (Ext.refl w).drew⟩))
  case hsize => exact fun L a w h => h.size
  case base =>
    intro q hq
    simp only [List.mem_cons, List.not_mem_nil, or_false] at hq
    rcases hq with rfl | rfl | rfl | rfl <;> rfl
  case last =>
    intro L a' w' h hr
    have h12 := all_done h.size (by kernel_rfl) hr 12 (by decide)
    have h9 := all_done h.size (by kernel_rfl) hr 9 (by decide)
    obtain ⟨_, _, hm⟩ := h.inv
    have hfin := Lib.hid (CtI.fin hm h9 h12)
    obtain ⟨Y, D⟩ := a'
    obtain rfl : D = [] := h.defers
    clear hm
    go_wp2
    go_end0
    exact ⟨rfl, hfin.out⟩
  case step =>
    intro L a' w' i h hi
    have hlt : i < 13 := (ready_spec hi).1
    obtain ⟨Y, D⟩ := a'
    obtain rfl : D = [] := h.defers
    have b0 : Y[0]?.getD undef = .pointer (some ⟨b, 3, none⟩) := h.ahead (0, _) (by simp)
    have b1 : Y[1]?.getD undef = .int .i64 (-1) := h.ahead (1, _) (by simp)
    have b2 : Y[2]?.getD undef = .pointer (some ⟨a, 0, none⟩) := h.ahead (2, _) (by simp)
    have b3 : Y[3]?.getD undef = .pointer (some ⟨e, 0, none⟩) := h.ahead (3, _) (by simp)
    obtain ⟨he', ha', hm⟩ := h.inv
    rcases (show i = 0 ∨ i = 1 ∨ i = 2 ∨ i = 3 ∨ i = 4 ∨ i = 5 ∨ i = 6 ∨ i = 7 ∨ i = 8 ∨ i = 9 ∨ i = 10 ∨ i = 11 ∨ i = 12 by omega) with rfl | rfl | rfl | rfl | rfl | rfl | rfl | rfl | rfl | rfl | rfl | rfl | rfl
    · refine wpOp_step rfl (fun K hK => ?_)
      go_simp
      exact hK _ _ (h.put (by decide) hbase 0 8 (by decide) (by decide) rfl _ rfl (fun q => absurd q (by decide)))
    · refine wpOp_step rfl (fun K hK => ?_)
      go_simp
      exact hK _ _ (h.put (by decide) hbase 1 9 (by decide) (by decide) rfl _ rfl (fun q => absurd q (by decide)))
    · refine wpOp_step rfl (fun K hK => ?_)
      go_simp
      exact hK _ _ (h.put (by decide) hbase 2 10 (by decide) (by decide) rfl _ rfl (fun q => absurd q (by decide)))
    · refine wpOp_step rfl (fun K hK => ?_)
      go_simp
      exact hK _ _ (h.put (by decide) hbase 3 11 (by decide) (by decide) rfl _ rfl (fun q => absurd q (by decide)))
    · have d2 := ready_after hi _ rfl 0 _ rfl rfl
      have f2 : Y[10]?.getD undef = .pointer (some ⟨b, 3, none⟩) := h.at 2 10 (by decide) (by decide) rfl d2
      refine wpOp_step rfl (fun K hK => ?_)
      go_simp
      exact hK _ _ (h.put (by decide) hbase 4 12 (by decide) (by decide) rfl _ rfl (fun q => absurd q (by decide)))
    · have d4 := ready_after hi _ rfl 0 _ rfl rfl
      have f4 : Y[12]?.getD undef = .pointer (some ⟨b, 3, none⟩) := h.at 4 12 (by decide) (by decide) rfl d4
      have d3 := ready_after hi _ rfl 1 _ rfl rfl
      have f3 : Y[11]?.getD undef = .int .i64 (f : Int) := h.at 3 11 (by decide) (by decide) rfl d3
      refine wpOp_step rfl (fun K hK => ?_)
      go_simp
      exact hK _ _ (h.put (by decide) hbase 5 13 (by decide) (by decide) rfl _ rfl (fun q => absurd q (by decide)))
    · have d5 := ready_after hi _ rfl 0 _ rfl rfl
      have f5 : Y[13]?.getD undef = .pointer (some ⟨b, 3 + f, none⟩) := h.at 5 13 (by decide) (by decide) rfl d5
      have h12 : L.getD 12 true = false := by
        rcases hb12 : L.getD 12 true with _ | _
        · rfl
        · have h9 := CtI.done hm hb12
          have := h.second (h.first h9); rw [(ready_spec hi).2.1] at this; cases this
      have hext := CtI.ahead hm h12
      have cb := (hext.below.cell (p := ⟨b, 3 + f, none⟩) HBk.out.lt).trans hcf
      clear hext h12
      refine wpOp_step rfl (fun K hK => ?_)
      go_simp
      exact hK _ _ (h.put (by decide) hbase 6 14 (by decide) (by decide) rfl _ rfl (fun q => absurd q (by decide)))
    · refine wpOp_step rfl (fun K hK => ?_)
      go_simp
      exact hK _ _ (h.put (by decide) hbase 7 15 (by decide) (by decide) rfl _ rfl (fun q => absurd q (by decide)))
    · have d6 := ready_after hi _ rfl 0 _ rfl rfl
      have f6 : Y[14]?.getD undef = .slice p F.size c := h.at 6 14 (by decide) (by decide) rfl d6
      have d7 := ready_after hi _ rfl 1 _ rfl rfl
      have f7 : Y[15]?.getD undef = .int .i64 (n : Int) := h.at 7 15 (by decide) (by decide) rfl d7
      refine wpOp_step rfl (fun K hK => ?_)
      go_simp
      exact hK _ _ (h.put (by decide) hbase 8 16 (by decide) (by decide) rfl _ rfl (fun _ => .inr (bit_of d6)))
    · have d8 := ready_after hi _ rfl 0 _ rfl rfl
      have f8 : Y[16]?.getD undef = .slice p n c := h.at 8 16 (by decide) (by decide) rfl d8
      have h12 : L.getD 12 true = false := by
        rcases hb12 : L.getD 12 true with _ | _
        · rfl
        · have h9 := CtI.done hm hb12
          rw [(ready_spec hi).2.1] at h9; cases h9
      have hext := CtI.ahead hm h12
      refine wpOp_step rfl (fun K hK => ?_)
      go_simp
      go_at_call 112
      refine (HCl.out _).mono ?_
      rintro e w5 ⟨rfl, rfl⟩
      refine hK _ _ (h.law (by decide) hbase 17 (by decide) (by decide) rfl (bit_of d8) _ ?_)
      rw [h12]
      exact ⟨he', ha', hext, rfl⟩
    · have d0 := ready_after hi _ rfl 0 _ rfl rfl
      have f0 : Y[8]?.getD undef = .pointer (some ⟨b, 3, none⟩) := h.at 0 8 (by decide) (by decide) rfl d0
      refine wpOp_step rfl (fun K hK => ?_)
      go_simp
      exact hK _ _ (h.put (by decide) hbase 10 18 (by decide) (by decide) rfl _ rfl (fun q => absurd q (by decide)))
    · have d10 := ready_after hi _ rfl 0 _ rfl rfl
      have f10 : Y[18]?.getD undef = .pointer (some ⟨b, 3, none⟩) := h.at 10 18 (by decide) (by decide) rfl d10
      have d1 := ready_after hi _ rfl 1 _ rfl rfl
      have f1 : Y[9]?.getD undef = .int .i64 (f : Int) := h.at 1 9 (by decide) (by decide) rfl d1
      refine wpOp_step rfl (fun K hK => ?_)
      go_simp
      exact hK _ _ (h.put (by decide) hbase 11 19 (by decide) (by decide) rfl _ rfl (fun q => absurd q (by decide)))
    · have d11 := ready_after hi _ rfl 0 _ rfl rfl
      have f11 : Y[19]?.getD undef = .pointer (some ⟨b, 3 + f, none⟩) := h.at 11 19 (by decide) (by decide) rfl d11
      have d9 := ready_after hi _ rfl 1 _ rfl rfl
      have h9 : L.getD 9 true = true := bit_of d9
      have h12 : L.getD 12 true = false := (ready_spec hi).2.1
      obtain ⟨hext, hv⟩ := CtI.mid hm h9 h12
      have hv2 : Y[17]?.getD undef = .slice p n n := by rw [← hv]; exact (Array.getD_eq_getD_getElem? ..).symm
      have cb := (hext.below.cell (p := ⟨b, 3 + f, none⟩) HBk.out.lt).trans hcf
      have fb := (HBk.out.ext hext).frozen (3 + f)
      have HFin := Lib.hid (HP.out w' hext)
      clear hm
      refine wpOp_step rfl (fun K hK => ?_)
      go_simp
      refine hK _ _ (h.store (by decide) (by decide) ?_ undef)
      rw [h9]
      exact ⟨cell_other HNe.out.1 he', cell_other HNe.out.2 ha', HFin.out⟩
/-- Torn, a cut changes nothing. -/
theorem act_torn (w : World) (P : Addr) (bytes : Int) (h0 : 0 ≤ bytes) (a e : Value) :
    Calls Tryz.prog 111 #[.pointer (some P), .int .i64 bytes, a, e] w fun e w' => e = .returned (.tuple #[]) ∧ w = w' := by
  have hbn : (bytes == -1) = false := by rw [beq_eq_false_iff_ne]; omega
  go_enter Tryz.func111, Tryz.ntmps111
  go_wp2
  go_end0
  exact ⟨rfl, rfl⟩
end Go.Proofs.YtbekdcpdfmfopaaGreat
