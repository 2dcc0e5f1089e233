/- Contracts: what a loose call does, as a closure; how it is made. -/
import Derived.Test.YtbekdcpdfmfopaaGreatM27
import Derived.Test.YtbekdcpdfmfopaaGreatM28
import Derived.Test.YtbekdcpdfmfopaaGreatM16
import Derived.Lib.Hide
import Derived.RegionTactic
import Derived.ChangeAlike
import Derived.BigRegion
import Derived.Deep.QuietTactic
import Derived.Deep.RegionLaw
import Derived.Test.YtbekdcpdfmfopaaGreatM10
namespace Go.Proofs.YtbekdcpdfmfopaaGreat
open Go.RowKit

theorem makeFunc_run : ∀ (fn : Fn) (first cap : Array Value) (w : World), (Instr.makeFunc fn first cap).run Tryz.prog w = .ok (.func fn first cap) w := fun _ _ _ _ => rfl
theorem Fr.claim {κ κ' : Foot} {P : Nat → Prop} {w w' : World} (h : Fr κ P w w' κ') (a k : Nat) (ha : w.heap.size ≤ a) (hl : a < w'.heap.size) : Fr κ P w w' (setK κ' a k) :=
  ⟨h.os, h.tape, h.output, h.size, h.other, fun g hg => by rw [setK_other _ _ (by omega)]; exact h.foot g hg, fun i g hg => by
    by_cases e : g = a
    · omega
    · rw [setK_other _ _ e] at hg; exact h.ins i g hg⟩
theorem writing_any (w : World) (f : Int) (s : ByteArray) (hs : s.size ≤ 1048576) :
    Calls Tryz.prog 80 #[.int .i64 f, .string s] w fun e w' => e = .returned (.func (.func 98) #[] #[.pointer (some ⟨w.heap.size + 1, 0, none⟩), .pointer (some ⟨w.heap.size, 0, none⟩)]) ∧ Blk w' (w.heap.size + 1) 9 [.string s] ∧ Blk w' w.heap.size 3 [.int .i64 f] ∧ Ext w w' := by
  have hmf := makeFunc_run
  have HC := Lib.hid (fun u => copied s hs u)
  have h0 : Blk ((w.alloc (.cells #[.int .i64 f] 3)).alloc (.cells #[.string s] 9)) w.heap.size 3 [.int .i64 f] := (Blk.new w [.int .i64 f] _).alloc _
  have h1 : Blk ((w.alloc (.cells #[.int .i64 f] 3)).alloc (.cells #[.string s] 9)) (w.heap.size + 1) 9 [.string s] := by
    have := Blk.new (w.alloc (.cells #[.int .i64 f] 3)) [.string s] 9
    simpa using this
  have hx : Ext w ((w.alloc (.cells #[.int .i64 f] 3)).alloc (.cells #[.string s] 9)) := ((Ext.refl w).alloc _).alloc _
  have H0 := Lib.hid h0; have H1 := Lib.hid h1; have HX := Lib.hid hx
  clear h0 h1 hx
  go_enter Tryz.func80, Tryz.ntmps80
  go_wp2_with (go_at_call 97; refine (HC.out _).mono ?_; rintro e w1 ⟨rfl, x1⟩; have HX1 := Lib.hid x1; have HB1 := Lib.hid (H1.out.ext x1); have c1 := HB1.out.cell 0 _ rfl; have f1 := HB1.out.frozen 0; clear x1)
  go_ret
  exact ⟨rfl, HB1.out.set_ 0 (.string s), (H0.out.ext HX1.out).other (by omega) _ _, (HX.out.trans HX1.out).setCell (by simp) _⟩
theorem cutting_any (w : World) (f n : Int) :
    Calls Tryz.prog 99 #[.int .i64 f, .int .i64 n] w fun e w' => e = .returned (.func (.func 111) #[] #[.pointer (some ⟨w.heap.size, 0, none⟩), .pointer (some ⟨w.heap.size + 1, 0, none⟩)]) ∧ Blk w' w.heap.size 3 [.int .i64 f] ∧ Blk w' (w.heap.size + 1) 3 [.int .i64 n] ∧ Ext w w' := by
  have hmf := makeFunc_run
  have h0 : Blk ((w.alloc (.cells #[.int .i64 f] 3)).alloc (.cells #[.int .i64 n] 3)) w.heap.size 3 [.int .i64 f] := (Blk.new w [.int .i64 f] _).alloc _
  have h1 : Blk ((w.alloc (.cells #[.int .i64 f] 3)).alloc (.cells #[.int .i64 n] 3)) (w.heap.size + 1) 3 [.int .i64 n] := by
    have := Blk.new (w.alloc (.cells #[.int .i64 f] 3)) [.int .i64 n] 3
    simpa using this
  have hx : Ext w ((w.alloc (.cells #[.int .i64 f] 3)).alloc (.cells #[.int .i64 n] 3)) := ((Ext.refl w).alloc _).alloc _
  have H0 := Lib.hid h0; have H1 := Lib.hid h1; have HX := Lib.hid hx
  clear h0 h1 hx
  go_enter Tryz.func99, Tryz.ntmps99
  go_wp2
  go_ret
  exact ⟨rfl, H0.out, H1.out, HX.out⟩
/-- A file's slice was changed: in a world in which none but its own blocks were written. -/
theorem Raw.put {w w1 : World} {b : Nat} {κ κ1 : Foot} {m room : Nat} {fuse : Int} {N S : Fs} {pn qs : Nat → Option Addr} {cn ks : Nat → Nat} {lv : Value} (r : Raw w b κ m room fuse N S pn qs cn ks lv) (f : Nat) (hf : f < 16) (x : ByteArray) (p' : Option Addr) (c' : Nat)
    (s1 : Sl w1 κ1 (4 + f) 1 5 p' x.size c' (byteCells x)) (f1 : Fr κ (fun j => j = 4 + f) w w1 κ1) (o1 : Sl w1 κ1 (4 + f) 1 5 (qs f) (S f).size (ks f) (byteCells (S f)) ∧ Al p' x.size c' (qs f) (S f).size) :
    Raw (w1.setCell ⟨b, 3 + f, none⟩ (.slice p' x.size c')) b κ1 m room fuse (upd N f x) S (fun i => if i = f then p' else pn i) qs (fun i => if i = f then c' else cn i) ks lv ∧ Fr κ (fun j => j = 2 ∨ 4 ≤ j) w (w1.setCell ⟨b, 3 + f, none⟩ (.slice p' x.size c')) κ1 := by
  have hb1 : Blk w1 b 85 _ := f1.blk r.blk (by rw [r.disk]; omega)
  have hk : κ1 b = 2 := (f1.foot b r.blk.lt).trans r.disk
  have ho : ∀ g, g ≠ b → (w1.setCell ⟨b, 3 + f, none⟩ (.slice p' x.size c')).heap[g]? = w1.heap[g]? := fun g hg => Below.heap_setCell _ _ _ _ hg
  have hf2 : Fr κ (fun j => j = 2 ∨ 4 ≤ j) w (w1.setCell ⟨b, 3 + f, none⟩ (.slice p' x.size c')) κ1 := (f1.mono (P' := fun j => j = 2 ∨ 4 ≤ j) (fun k e => by right; omega)).setCell (by show κ1 b = 2 ∨ _; exact .inl hk) _
  refine ⟨⟨?_, fun i hi => ?_, hk, hf2.ins r.ins⟩, hf2⟩
  · have := hb1.set_ (3 + f) (.slice p' x.size c')
    rw [rcells_set_now (sls_length _ _ _) f hf, sls_set _ _ _ f hf] at this
    exact this
  · by_cases e : i = f
    · subst e
      simp only [if_true, upd_same]
      exact ⟨s1.parted hb1 (by decide) ho, o1.1.parted hb1 (by decide) ho, o1.2⟩
    · simp only [e, if_false, upd_other _ _ _ e]
      have := r.slot i hi
      exact ⟨(this.1.fr f1 (by omega)).parted hb1 (by decide) ho, (this.2.1.fr f1 (by omega)).parted hb1 (by decide) ho, this.2.2⟩
theorem Sl.cut {w : World} {κ : Foot} {k : Nat} {T : TypeId} {p : Option Addr} {n c : Nat} {vs : List Value} (h : Sl w κ k 1 T p n c vs) (j : Nat) (hj : j ≤ n) : Sl w κ k 1 T p j j (vs.take j) := by
  refine ⟨by rw [List.length_take, h.1]; omega, Nat.le_refl _, h.2.2.1, fun hc => ?_⟩
  obtain ⟨g, cur, h1, h2, h3, h4, h5⟩ := h.2.2.2 (by have := h.2.1; omega)
  refine ⟨g, cur, h1, h2, h3, by have := h.2.1; omega, fun i u hu => ?_⟩
  rw [List.getElem?_take] at hu
  split at hu
  · exact h5 i u hu
  · cases hu
theorem slice_to (s : ByteArray) (k : Nat) (hk : k ≤ s.size) (u : World) : (Instr.slice 9 (.string s) none (some (.int .i64 (k : Int))) none).run Tryz.prog u = .ok (.string (s.extract 0 k)) u := by
  have hj : (0 : Int) ≤ (k : Int) ∧ (k : Int) ≤ (s.size : Int) := by omega
  simp [Instr.slice, Instr.sliceBounds, Instr.sliceBound, asIntOf, run_underlying Tryz.underlying9, hj]
  intro hgt
  omega
theorem cell_other {w : World} {g b i o : Nat} {u v : Value} (hne : g ≠ b) (h : w.cell? ⟨g, i, none⟩ = some u) : (w.setCell ⟨b, o, none⟩ v).cell? ⟨g, i, none⟩ = some u := by
  rw [World.cell?_of_block (w := w) (a := ⟨g, i, none⟩) (Below.heap_setCell w ⟨b, o, none⟩ v g hne)]
  exact h
/-- What each operation of the region leaves in its slot. -/
def WrF (b f : Nat) (q : Int) (sz k : Nat) (s X : ByteArray) (V : Value) (j : Nat) (v : Value) : Prop :=
  match j with
  | 0 | 2 | 4 | 14 => v = .pointer (some ⟨b, 3, none⟩)
  | 1 | 3 => v = .int .i64 (f : Int)
  | 5 | 15 => v = .pointer (some ⟨b, 3 + f, none⟩)
  | 6 => v = V
  | 7 | 9 => v = .string s
  | 8 => v = .int .i64 q
  | 10 => v = .int .i64 (sz : Int)
  | 11 => v = .int .i64 (k : Int)
  | _ => v = .string X
/-- What is known of the world, by whether the law's operation and the store are done. -/
def WrM (w : World) (b f : Nat) (Fin : World → Prop) (b1 b2 : Bool) (v : Value) (u : World) : Prop :=
  match b1, b2 with
  | false, false => Ext w u
  | false, true => False
  | true, false => (∃ g, u.cell? ⟨b, 3 + f, none⟩ = some g) ∧ u.frozen? ⟨b, 3 + f, none⟩ = false ∧ (∃ p n c, v = .slice p n c) ∧ Fin (u.setCell ⟨b, 3 + f, none⟩ v)
  | true, true => Fin u
def WrI (w : World) (b f e a : Nat) (s : ByteArray) (Fin : World → Prop) (b1 b2 : Bool) (v : Value) (u : World) : Prop :=
  u.cell? ⟨e, 0, none⟩ = some (.int .i64 (f : Int)) ∧ u.cell? ⟨a, 0, none⟩ = some (.string s) ∧ WrM w b f Fin b1 b2 v u
section
variable {w u : World} {b f : Nat} {Fin : World → Prop} {b1 b2 : Bool} {v : Value}
theorem WrI.not16 (h : WrM w b f Fin b1 b2 v u) (h1 : b1 = false) : b2 = false := by
  subst h1
  cases b2
  · rfl
  · exact (h : False).elim
theorem WrI.ahead (h : WrM w b f Fin b1 b2 v u) (h1 : b1 = false) : Ext w u := by
  have h2 := WrI.not16 h h1
  subst h1 h2
  exact h
theorem WrI.mid (h : WrM w b f Fin b1 b2 v u) (h1 : b1 = true) (h2 : b2 = false) : (∃ g, u.cell? ⟨b, 3 + f, none⟩ = some g) ∧ u.frozen? ⟨b, 3 + f, none⟩ = false ∧ (∃ p n c, v = .slice p n c) ∧ Fin (u.setCell ⟨b, 3 + f, none⟩ v) := by
  subst h1 h2
  exact h
theorem WrI.fin (h : WrM w b f Fin b1 b2 v u) (h1 : b1 = true) (h2 : b2 = true) : Fin u := by
  subst h1 h2
  exact h
end
set_option maxRecDepth 100000 in
set_option maxHeartbeats 4000000 in
theorem act_wr (w : World) (b : Nat) (κ : Foot) (m room : Nat) (fuse : Int) (N S : Fs) (pn qs : Nat → Option Addr) (cn ks : Nat → Nat) (lv : Value) (r : Raw w b κ m room fuse N S pn qs cn ks lv) (f : Nat) (hf : f < 16) (s : ByteArray) (a e : Nat)
    (ha : Blk w a 9 [.string s]) (he : Blk w e 3 [.int .i64 (f : Int)]) (hka : κ a = 1) (hke : κ e = 1) (bytes : Int) (k : Nat) (hk : bytes = -1 ∧ k = s.size ∨ 0 ≤ bytes ∧ (k : Int) = min bytes (s.size : Int)) (hN : (N f).size + s.size ≤ 4194304) :
    Calls Tryz.prog 98 #[.pointer (some ⟨b, 3, none⟩), .int .i64 bytes, .pointer (some ⟨a, 0, none⟩), .pointer (some ⟨e, 0, none⟩)] w fun e w' => e = .returned (.tuple #[]) ∧ ∃ pn' cn' κ', Raw w' b κ' m room fuse (upd N f (N f ++ s.extract 0 k)) S pn' qs cn' ks lv ∧ Fr κ (fun j => j = 2 ∨ 4 ≤ j) w w' κ' := by
  have hks : k ≤ s.size := by omega
  have hsl := fun u => slice_to s k hks u
  have hXs : (s.extract 0 k).size = k := size_extract _ _ hks
  have hcf := r.now f hf
  have hca := ha.cell 0 _ rfl
  have hce := he.cell 0 _ rfl
  have HA := Lib.hid ha; have HE := Lib.hid he
  have HS := Lib.hid (r.slot f hf)
  have HCf : Hid ((rcells m room fuse (sls N pn cn) (sls S qs ks) lv)[3 + f]? = some (.slice (pn f) (N f).size (cn f))) := Lib.hid ((rcells_now (sls_length _ _ _) f hf).trans (sls_at _ _ _ f hf))
  have HP := Lib.hid (fun w1 κ1 x p' c' s1 f1 o1 => r.put (w1 := w1) (κ1 := κ1) f hf x p' c' s1 f1 o1)
  have HBk := Lib.hid r.blk
  have HK : Hid (κ b = 2 ∧ κ a = 1 ∧ κ e = 1) := Lib.hid ⟨r.disk, hka, hke⟩
  have HNe : Hid (e ≠ b ∧ a ≠ b) := Lib.hid ⟨fun q => by rw [q, r.disk] at hke; omega, fun q => by rw [q, r.disk] at hka; omega⟩
  have hf0 : (0 : Int) ≤ (f : Int) := by omega
  have hf1 : (f : Int) < 16 := by omega
  have h63 : (N f).size + (s.extract 0 k).size ≤ 1000000000 := by omega
  have HSrc := Lib.hid (fun u => Src.ofString (P := Tryz.prog) u Tryz.underlying9 (s.extract 0 k))
  have HSize := Lib.hid (size_appendB (N f) (s.extract 0 k))
  have HCells := Lib.hid (cells_appendB (N f) (s.extract 0 k))
  clear r ha he hka hke hXs
  generalize s.extract 0 k = X at *
  generalize N f = F at *
  generalize pn f = p at *
  generalize cn f = c at *
  rcases hk with ⟨rfl, rfl⟩ | ⟨hb0, hkm⟩
  · have hmin := fun ts t u => run_min2 ts t (s.size : Int) (s.size : Int) (s.size : Int) (by omega) u
    clear hks hN
    go_enter Tryz.func98, Tryz.ntmps98
    go_wp2
    have hbase : ∀ q : Nat × Value, q ∈ [(0, Value.pointer (some ⟨b, 3, none⟩)), (1, .int .i64 (s.size : Int)), (2, .pointer (some ⟨a, 0, none⟩)), (3, .pointer (some ⟨e, 0, none⟩))] → q.1 < 10 := by
      intro q hq
      simp only [List.mem_cons, List.not_mem_nil, or_false] at hq
      rcases hq with rfl | rfl | rfl | rfl <;> first | exact (by decide : 0 < 10) | exact (by decide : 1 < 10) | exact (by decide : 2 < 10) | exact (by decide : 3 < 10)
    refine wp_region_any (by kernel_rfl) ?_
    refine wpAny_inv (Wy 17 26 10 13 6 6 [(0, .pointer (some ⟨b, 3, none⟩)), (1, .int .i64 (s.size : Int)), (2, .pointer (some ⟨a, 0, none⟩)), (3, .pointer (some ⟨e, 0, none⟩))] (WrF b f (s.size : Int) s.size s.size s X (.slice p F.size c)) (WrI w b f e a s (fun u => ∃ pn' cn' κ', Raw u b κ' m room fuse (upd N f (F ++ X)) S pn' qs cn' ks lv ∧ Fr κ (fun j => j = 2 ∨ 4 ≤ j) w u κ'))) ?hsize ?step ?last _ _ _ _ (by decide) (Wy.start rfl rfl ?base (by decide) (by decide) (fun v => ⟨hce, hca, (Ext.refl w).drew⟩))
    case hsize => exact fun L a w h => h.size
    case base =>
      intro q hq
      simp only [List.mem_cons, List.not_mem_nil, or_false] at hq
      rcases hq with rfl | rfl | rfl | rfl <;> rfl
    case last =>
      intro L a' w' h hr
      have h16 := all_done h.size (by kernel_rfl) hr 16 (by decide)
      have h13 := all_done h.size (by kernel_rfl) hr 13 (by decide)
      obtain ⟨_, _, hm⟩ := h.inv
      have hfin := Lib.hid (WrI.fin hm h13 h16)
      obtain ⟨Y, D⟩ := a'
      obtain rfl : D = [] := h.defers
      clear hm
      go_wp2
      go_end0
      exact ⟨rfl, hfin.out⟩
    case step =>
      intro L a' w' i h hi
      have hlt : i < 17 := (ready_spec hi).1
      obtain ⟨Y, D⟩ := a'
      obtain rfl : D = [] := h.defers
      have b0 : Y[0]?.getD undef = .pointer (some ⟨b, 3, none⟩) := h.ahead (0, _) (by simp)
      have b1 : Y[1]?.getD undef = .int .i64 (s.size : Int) := h.ahead (1, _) (by simp)
      have b2 : Y[2]?.getD undef = .pointer (some ⟨a, 0, none⟩) := h.ahead (2, _) (by simp)
      have b3 : Y[3]?.getD undef = .pointer (some ⟨e, 0, none⟩) := h.ahead (3, _) (by simp)
      obtain ⟨he', ha', hm⟩ := h.inv
      rcases (show i = 0 ∨ i = 1 ∨ i = 2 ∨ i = 3 ∨ i = 4 ∨ i = 5 ∨ i = 6 ∨ i = 7 ∨ i = 8 ∨ i = 9 ∨ i = 10 ∨ i = 11 ∨ i = 12 ∨ i = 13 ∨ i = 14 ∨ i = 15 ∨ i = 16 by omega) with rfl | rfl | rfl | rfl | rfl | rfl | rfl | rfl | rfl | rfl | rfl | rfl | rfl | rfl | rfl | rfl | rfl
      · refine wpOp_step rfl (fun K hK => ?_)
        go_simp
        exact hK _ _ (h.put (by decide) hbase 0 10 (by decide) (by decide) rfl _ rfl (fun q => absurd q (by decide)))
      · refine wpOp_step rfl (fun K hK => ?_)
        go_simp
        exact hK _ _ (h.put (by decide) hbase 1 11 (by decide) (by decide) rfl _ rfl (fun q => absurd q (by decide)))
      · refine wpOp_step rfl (fun K hK => ?_)
        go_simp
        exact hK _ _ (h.put (by decide) hbase 2 12 (by decide) (by decide) rfl _ rfl (fun q => absurd q (by decide)))
      · refine wpOp_step rfl (fun K hK => ?_)
        go_simp
        exact hK _ _ (h.put (by decide) hbase 3 13 (by decide) (by decide) rfl _ rfl (fun q => absurd q (by decide)))
      · have d2 := ready_after hi _ rfl 0 _ rfl rfl
        have f2 : Y[12]?.getD undef = .pointer (some ⟨b, 3, none⟩) := h.at 2 12 (by decide) (by decide) rfl d2
        refine wpOp_step rfl (fun K hK => ?_)
        go_simp
        exact hK _ _ (h.put (by decide) hbase 4 14 (by decide) (by decide) rfl _ rfl (fun q => absurd q (by decide)))
      · have d4 := ready_after hi _ rfl 0 _ rfl rfl
        have f4 : Y[14]?.getD undef = .pointer (some ⟨b, 3, none⟩) := h.at 4 14 (by decide) (by decide) rfl d4
        have d3 := ready_after hi _ rfl 1 _ rfl rfl
        have f3 : Y[13]?.getD undef = .int .i64 (f : Int) := h.at 3 13 (by decide) (by decide) rfl d3
        refine wpOp_step rfl (fun K hK => ?_)
        go_simp
        exact hK _ _ (h.put (by decide) hbase 5 15 (by decide) (by decide) rfl _ rfl (fun q => absurd q (by decide)))
      · have d5 := ready_after hi _ rfl 0 _ rfl rfl
        have f5 : Y[15]?.getD undef = .pointer (some ⟨b, 3 + f, none⟩) := h.at 5 15 (by decide) (by decide) rfl d5
        have h13 : L.getD 13 true = false := by
          rcases hb13 : L.getD 13 true with _ | _
          · rfl
          · have := h.first hb13; rw [(ready_spec hi).2.1] at this; cases this
        have hext := WrI.ahead hm h13
        have cb := (hext.below.cell (p := ⟨b, 3 + f, none⟩) HBk.out.lt).trans hcf
        clear hext h13
        refine wpOp_step rfl (fun K hK => ?_)
        go_simp
        exact hK _ _ (h.put (by decide) hbase 6 16 (by decide) (by decide) rfl _ rfl (fun _ => .inl rfl))
      · refine wpOp_step rfl (fun K hK => ?_)
        go_simp
        exact hK _ _ (h.put (by decide) hbase 7 17 (by decide) (by decide) rfl _ rfl (fun q => absurd q (by decide)))
      · refine wpOp_step rfl (fun K hK => ?_)
        go_simp
        exact hK _ _ (h.put (by decide) hbase 8 18 (by decide) (by decide) rfl _ rfl (fun q => absurd q (by decide)))
      · refine wpOp_step rfl (fun K hK => ?_)
        go_simp
        exact hK _ _ (h.put (by decide) hbase 9 19 (by decide) (by decide) rfl _ rfl (fun q => absurd q (by decide)))
      · have d9 := ready_after hi _ rfl 0 _ rfl rfl
        have f9 : Y[19]?.getD undef = .string s := h.at 9 19 (by decide) (by decide) rfl d9
        refine wpOp_step rfl (fun K hK => ?_)
        go_simp
        exact hK _ _ (h.put (by decide) hbase 10 20 (by decide) (by decide) rfl _ rfl (fun q => absurd q (by decide)))
      · have d8 := ready_after hi _ rfl 0 _ rfl rfl
        have f8 : Y[18]?.getD undef = .int .i64 (s.size : Int) := h.at 8 18 (by decide) (by decide) rfl d8
        have d10 := ready_after hi _ rfl 1 _ rfl rfl
        have f10 : Y[20]?.getD undef = .int .i64 (s.size : Int) := h.at 10 20 (by decide) (by decide) rfl d10
        refine wpOp_step rfl (fun K hK => ?_)
        go_simp
        exact hK _ _ (h.put (by decide) hbase 11 21 (by decide) (by decide) rfl _ rfl (fun q => absurd q (by decide)))
      · have d7 := ready_after hi _ rfl 0 _ rfl rfl
        have f7 : Y[17]?.getD undef = .string s := h.at 7 17 (by decide) (by decide) rfl d7
        have d11 := ready_after hi _ rfl 1 _ rfl rfl
        have f11 : Y[21]?.getD undef = .int .i64 (s.size : Int) := h.at 11 21 (by decide) (by decide) rfl d11
        refine wpOp_step rfl (fun K hK => ?_)
        go_simp
        exact hK _ _ (h.put (by decide) hbase 12 22 (by decide) (by decide) rfl _ rfl (fun q => absurd q (by decide)))
      · have d6 := ready_after hi _ rfl 0 _ rfl rfl
        have f6 : Y[16]?.getD undef = .slice p F.size c := h.at 6 16 (by decide) (by decide) rfl d6
        have d12 := ready_after hi _ rfl 1 _ rfl rfl
        have f12 : Y[22]?.getD undef = .string X := h.at 12 22 (by decide) (by decide) rfl d12
        have h13 := (ready_spec hi).2.1
        have hext := WrI.ahead hm h13
        have h16 := WrI.not16 hm h13
        have hE1 : Y.size = 26 := h.tmps
        refine wpOp_step rfl (fun K hK => ?_)
        refine step_append_sl rfl (.tmp 16) (.tmp 22) 41 9 rfl Tryz.underlying41 info5 rfl (by decide) (by simpa [Act.eval] using f6) (HS.out.1.ext hext) (byteCells_one _) _ (by simpa [Act.eval] using f12) X.size (byteCells X) (HSrc.out _) h63 ?_
        intro p1 c1 w1 κ1 s1 f1 _ _ o1
        have f2 := (hext.fr κ (fun j => j = 4 + f)).trans f1
        have o2 := o1 (qs f) _ _ _ (HS.out.2.1.ext hext) HS.out.2.2
        rw [← HCells.out, ← HSize.out] at s1
        rw [← HSize.out] at o2
        have q1 := HP.out w1 κ1 (F ++ X) p1 c1 s1 f2 o2
        rw [HSize.out] at q1
        have hb1 := f2.blk HBk.out (by rw [HK.out.1]; omega)
        refine hK _ _ (h.law (by decide) hbase 23 (by decide) (by decide) rfl (bit_of d6) _ ?_)
        rw [h16]
        exact ⟨(f2.blk HE.out (by rw [HK.out.2.2]; omega)).cell 0 _ rfl, (f2.blk HA.out (by rw [HK.out.2.1]; omega)).cell 0 _ rfl, ⟨_, hb1.cell (3 + f) _ HCf.out⟩, hb1.frozen (3 + f), ⟨_, _, _, rfl⟩, _, _, κ1, q1⟩
      · have d0 := ready_after hi _ rfl 0 _ rfl rfl
        have f0 : Y[10]?.getD undef = .pointer (some ⟨b, 3, none⟩) := h.at 0 10 (by decide) (by decide) rfl d0
        refine wpOp_step rfl (fun K hK => ?_)
        go_simp
        exact hK _ _ (h.put (by decide) hbase 14 24 (by decide) (by decide) rfl _ rfl (fun q => absurd q (by decide)))
      · have d14 := ready_after hi _ rfl 0 _ rfl rfl
        have f14 : Y[24]?.getD undef = .pointer (some ⟨b, 3, none⟩) := h.at 14 24 (by decide) (by decide) rfl d14
        have d1 := ready_after hi _ rfl 1 _ rfl rfl
        have f1 : Y[11]?.getD undef = .int .i64 (f : Int) := h.at 1 11 (by decide) (by decide) rfl d1
        refine wpOp_step rfl (fun K hK => ?_)
        go_simp
        exact hK _ _ (h.put (by decide) hbase 15 25 (by decide) (by decide) rfl _ rfl (fun q => absurd q (by decide)))
      · have d15 := ready_after hi _ rfl 0 _ rfl rfl
        have f15 : Y[25]?.getD undef = .pointer (some ⟨b, 3 + f, none⟩) := h.at 15 25 (by decide) (by decide) rfl d15
        have d13 := ready_after hi _ rfl 1 _ rfl rfl
        have h13 : L.getD 13 true = true := bit_of d13
        have h16 : L.getD 16 true = false := (ready_spec hi).2.1
        obtain ⟨⟨g, cg⟩, fg, ⟨p1, n1, c1, hv⟩, hfin⟩ := WrI.mid hm h13 h16
        rw [hv] at hfin
        have hv2 : Y[23]?.getD undef = .slice p1 n1 c1 := by rw [← hv]; exact (Array.getD_eq_getD_getElem? ..).symm
        have HFin := Lib.hid hfin
        clear hfin hm
        refine wpOp_step rfl (fun K hK => ?_)
        go_simp
        refine hK _ _ (h.store (by decide) (by decide) ?_ undef)
        rw [h13]
        exact ⟨cell_other HNe.out.1 he', cell_other HNe.out.2 ha', HFin.out⟩
  · have hmin := fun ts t u => run_min2 ts t bytes (s.size : Int) (k : Int) hkm u
    have hbn : (bytes == -1) = false := by rw [beq_eq_false_iff_ne]; omega
    clear hks hN hkm
    go_enter Tryz.func98, Tryz.ntmps98
    go_wp2
    have hbase : ∀ q : Nat × Value, q ∈ [(0, Value.pointer (some ⟨b, 3, none⟩)), (1, .int .i64 bytes), (2, .pointer (some ⟨a, 0, none⟩)), (3, .pointer (some ⟨e, 0, none⟩))] → q.1 < 10 := by
      intro q hq
      simp only [List.mem_cons, List.not_mem_nil, or_false] at hq
      rcases hq with rfl | rfl | rfl | rfl <;> first | exact (by decide : 0 < 10) | exact (by decide : 1 < 10) | exact (by decide : 2 < 10) | exact (by decide : 3 < 10)
    refine wp_region_any (by kernel_rfl) ?_
    refine wpAny_inv (Wy 17 26 10 13 6 6 [(0, .pointer (some ⟨b, 3, none⟩)), (1, .int .i64 bytes), (2, .pointer (some ⟨a, 0, none⟩)), (3, .pointer (some ⟨e, 0, none⟩))] (WrF b f bytes s.size k s X (.slice p F.size c)) (WrI w b f e a s (fun u => ∃ pn' cn' κ', Raw u b κ' m room fuse (upd N f (F ++ X)) S pn' qs cn' ks lv ∧ Fr κ (fun j => j = 2 ∨ 4 ≤ j) w u κ'))) ?hsize ?step ?last _ _ _ _ (by decide) (Wy.start rfl rfl ?base (by decide) (by decide) (fun v => ⟨hce, hca, (Ext.refl w).drew⟩))
    case hsize => exact fun L a w h => h.size
    case base =>
      intro q hq
      simp only [List.mem_cons, List.not_mem_nil, or_false] at hq
      rcases hq with rfl | rfl | rfl | rfl <;> rfl
    case last =>
      intro L a' w' h hr
      have h16 := all_done h.size (by kernel_rfl) hr 16 (by decide)
      have h13 := all_done h.size (by kernel_rfl) hr 13 (by decide)
      obtain ⟨_, _, hm⟩ := h.inv
      have hfin := Lib.hid (WrI.fin hm h13 h16)
      obtain ⟨Y, D⟩ := a'
      obtain rfl : D = [] := h.defers
      clear hm
      go_wp2
      go_end0
      exact ⟨rfl, hfin.out⟩
    case step =>
      intro L a' w' i h hi
      have hlt : i < 17 := (ready_spec hi).1
      obtain ⟨Y, D⟩ := a'
      obtain rfl : D = [] := h.defers
      have b0 : Y[0]?.getD undef = .pointer (some ⟨b, 3, none⟩) := h.ahead (0, _) (by simp)
      have b1 : Y[1]?.getD undef = .int .i64 bytes := h.ahead (1, _) (by simp)
      have b2 : Y[2]?.getD undef = .pointer (some ⟨a, 0, none⟩) := h.ahead (2, _) (by simp)
      have b3 : Y[3]?.getD undef = .pointer (some ⟨e, 0, none⟩) := h.ahead (3, _) (by simp)
      obtain ⟨he', ha', hm⟩ := h.inv
      rcases (show i = 0 ∨ i = 1 ∨ i = 2 ∨ i = 3 ∨ i = 4 ∨ i = 5 ∨ i = 6 ∨ i = 7 ∨ i = 8 ∨ i = 9 ∨ i = 10 ∨ i = 11 ∨ i = 12 ∨ i = 13 ∨ i = 14 ∨ i = 15 ∨ i = 16 by omega) with rfl | rfl | rfl | rfl | rfl | rfl | rfl | rfl | rfl | rfl | rfl | rfl | rfl | rfl | rfl | rfl | rfl
      · refine wpOp_step rfl (fun K hK => ?_)
        go_simp
        exact hK _ _ (h.put (by decide) hbase 0 10 (by decide) (by decide) rfl _ rfl (fun q => absurd q (by decide)))
      · refine wpOp_step rfl (fun K hK => ?_)
        go_simp
        exact hK _ _ (h.put (by decide) hbase 1 11 (by decide) (by decide) rfl _ rfl (fun q => absurd q (by decide)))
      · refine wpOp_step rfl (fun K hK => ?_)
        go_simp
        exact hK _ _ (h.put (by decide) hbase 2 12 (by decide) (by decide) rfl _ rfl (fun q => absurd q (by decide)))
      · refine wpOp_step rfl (fun K hK => ?_)
        go_simp
        exact hK _ _ (h.put (by decide) hbase 3 13 (by decide) (by decide) rfl _ rfl (fun q => absurd q (by decide)))
      · have d2 := ready_after hi _ rfl 0 _ rfl rfl
        have f2 : Y[12]?.getD undef = .pointer (some ⟨b, 3, none⟩) := h.at 2 12 (by decide) (by decide) rfl d2
        refine wpOp_step rfl (fun K hK => ?_)
        go_simp
        exact hK _ _ (h.put (by decide) hbase 4 14 (by decide) (by decide) rfl _ rfl (fun q => absurd q (by decide)))
      · have d4 := ready_after hi _ rfl 0 _ rfl rfl
        have f4 : Y[14]?.getD undef = .pointer (some ⟨b, 3, none⟩) := h.at 4 14 (by decide) (by decide) rfl d4
        have d3 := ready_after hi _ rfl 1 _ rfl rfl
        have f3 : Y[13]?.getD undef = .int .i64 (f : Int) := h.at 3 13 (by decide) (by decide) rfl d3
        refine wpOp_step rfl (fun K hK => ?_)
        go_simp
        exact hK _ _ (h.put (by decide) hbase 5 15 (by decide) (by decide) rfl _ rfl (fun q => absurd q (by decide)))
      · have d5 := ready_after hi _ rfl 0 _ rfl rfl
        have f5 : Y[15]?.getD undef = .pointer (some ⟨b, 3 + f, none⟩) := h.at 5 15 (by decide) (by decide) rfl d5
        have h13 : L.getD 13 true = false := by
          rcases hb13 : L.getD 13 true with _ | _
          · rfl
          · have := h.first hb13; rw [(ready_spec hi).2.1] at this; cases this
        have hext := WrI.ahead hm h13
        have cb := (hext.below.cell (p := ⟨b, 3 + f, none⟩) HBk.out.lt).trans hcf
        clear hext h13
        refine wpOp_step rfl (fun K hK => ?_)
        go_simp
        exact hK _ _ (h.put (by decide) hbase 6 16 (by decide) (by decide) rfl _ rfl (fun _ => .inl rfl))
      · refine wpOp_step rfl (fun K hK => ?_)
        go_simp
        exact hK _ _ (h.put (by decide) hbase 7 17 (by decide) (by decide) rfl _ rfl (fun q => absurd q (by decide)))
      · refine wpOp_step rfl (fun K hK => ?_)
        go_simp
        exact hK _ _ (h.put (by decide) hbase 8 18 (by decide) (by decide) rfl _ rfl (fun q => absurd q (by decide)))
      · refine wpOp_step rfl (fun K hK => ?_)
        go_simp
        exact hK _ _ (h.put (by decide) hbase 9 19 (by decide) (by decide) rfl _ rfl (fun q => absurd q (by decide)))
      · have d9 := ready_after hi _ rfl 0 _ rfl rfl
        have f9 : Y[19]?.getD undef = .string s := h.at 9 19 (by decide) (by decide) rfl d9
        refine wpOp_step rfl (fun K hK => ?_)
        go_simp
        exact hK _ _ (h.put (by decide) hbase 10 20 (by decide) (by decide) rfl _ rfl (fun q => absurd q (by decide)))
      · have d8 := ready_after hi _ rfl 0 _ rfl rfl
        have f8 : Y[18]?.getD undef = .int .i64 bytes := h.at 8 18 (by decide) (by decide) rfl d8
        have d10 := ready_after hi _ rfl 1 _ rfl rfl
        have f10 : Y[20]?.getD undef = .int .i64 (s.size : Int) := h.at 10 20 (by decide) (by decide) rfl d10
        refine wpOp_step rfl (fun K hK => ?_)
        go_simp
        exact hK _ _ (h.put (by decide) hbase 11 21 (by decide) (by decide) rfl _ rfl (fun q => absurd q (by decide)))
      · have d7 := ready_after hi _ rfl 0 _ rfl rfl
        have f7 : Y[17]?.getD undef = .string s := h.at 7 17 (by decide) (by decide) rfl d7
        have d11 := ready_after hi _ rfl 1 _ rfl rfl
        have f11 : Y[21]?.getD undef = .int .i64 (k : Int) := h.at 11 21 (by decide) (by decide) rfl d11
        refine wpOp_step rfl (fun K hK => ?_)
        go_simp
        exact hK _ _ (h.put (by decide) hbase 12 22 (by decide) (by decide) rfl _ rfl (fun q => absurd q (by decide)))
      · have d6 := ready_after hi _ rfl 0 _ rfl rfl
        have f6 : Y[16]?.getD undef = .slice p F.size c := h.at 6 16 (by decide) (by decide) rfl d6
        have d12 := ready_after hi _ rfl 1 _ rfl rfl
        have f12 : Y[22]?.getD undef = .string X := h.at 12 22 (by decide) (by decide) rfl d12
        have h13 := (ready_spec hi).2.1
        have hext := WrI.ahead hm h13
        have h16 := WrI.not16 hm h13
        have hE1 : Y.size = 26 := h.tmps
        refine wpOp_step rfl (fun K hK => ?_)
        refine step_append_sl rfl (.tmp 16) (.tmp 22) 41 9 rfl Tryz.underlying41 info5 rfl (by decide) (by simpa [Act.eval] using f6) (HS.out.1.ext hext) (byteCells_one _) _ (by simpa [Act.eval] using f12) X.size (byteCells X) (HSrc.out _) h63 ?_
        intro p1 c1 w1 κ1 s1 f1 _ _ o1
        have f2 := (hext.fr κ (fun j => j = 4 + f)).trans f1
        have o2 := o1 (qs f) _ _ _ (HS.out.2.1.ext hext) HS.out.2.2
        rw [← HCells.out, ← HSize.out] at s1
        rw [← HSize.out] at o2
        have q1 := HP.out w1 κ1 (F ++ X) p1 c1 s1 f2 o2
        rw [HSize.out] at q1
        have hb1 := f2.blk HBk.out (by rw [HK.out.1]; omega)
        refine hK _ _ (h.law (by decide) hbase 23 (by decide) (by decide) rfl (bit_of d6) _ ?_)
        rw [h16]
        exact ⟨(f2.blk HE.out (by rw [HK.out.2.2]; omega)).cell 0 _ rfl, (f2.blk HA.out (by rw [HK.out.2.1]; omega)).cell 0 _ rfl, ⟨_, hb1.cell (3 + f) _ HCf.out⟩, hb1.frozen (3 + f), ⟨_, _, _, rfl⟩, _, _, κ1, q1⟩
      · have d0 := ready_after hi _ rfl 0 _ rfl rfl
        have f0 : Y[10]?.getD undef = .pointer (some ⟨b, 3, none⟩) := h.at 0 10 (by decide) (by decide) rfl d0
        refine wpOp_step rfl (fun K hK => ?_)
        go_simp
        exact hK _ _ (h.put (by decide) hbase 14 24 (by decide) (by decide) rfl _ rfl (fun q => absurd q (by decide)))
      · have d14 := ready_after hi _ rfl 0 _ rfl rfl
        have f14 : Y[24]?.getD undef = .pointer (some ⟨b, 3, none⟩) := h.at 14 24 (by decide) (by decide) rfl d14
        have d1 := ready_after hi _ rfl 1 _ rfl rfl
        have f1 : Y[11]?.getD undef = .int .i64 (f : Int) := h.at 1 11 (by decide) (by decide) rfl d1
        refine wpOp_step rfl (fun K hK => ?_)
        go_simp
        exact hK _ _ (h.put (by decide) hbase 15 25 (by decide) (by decide) rfl _ rfl (fun q => absurd q (by decide)))
      · have d15 := ready_after hi _ rfl 0 _ rfl rfl
        have f15 : Y[25]?.getD undef = .pointer (some ⟨b, 3 + f, none⟩) := h.at 15 25 (by decide) (by decide) rfl d15
        have d13 := ready_after hi _ rfl 1 _ rfl rfl
        have h13 : L.getD 13 true = true := bit_of d13
        have h16 : L.getD 16 true = false := (ready_spec hi).2.1
        obtain ⟨⟨g, cg⟩, fg, ⟨p1, n1, c1, hv⟩, hfin⟩ := WrI.mid hm h13 h16
        rw [hv] at hfin
        have hv2 : Y[23]?.getD undef = .slice p1 n1 c1 := by rw [← hv]; exact (Array.getD_eq_getD_getElem? ..).symm
        have HFin := Lib.hid hfin
        clear hfin hm
        refine wpOp_step rfl (fun K hK => ?_)
        go_simp
        refine hK _ _ (h.store (by decide) (by decide) ?_ undef)
        rw [h13]
        exact ⟨cell_other HNe.out.1 he', cell_other HNe.out.2 ha', HFin.out⟩
end Go.Proofs.YtbekdcpdfmfopaaGreat
