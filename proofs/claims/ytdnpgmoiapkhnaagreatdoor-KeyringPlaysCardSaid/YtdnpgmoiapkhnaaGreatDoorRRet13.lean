/- Contracts: keys by epochs: the document's ring: an epoch's key forgotten. -/
import Derived.Test.YtdnpgmoiapkhnaaGreatDoorM44
namespace Go.Proofs.YtdnpgmoiapkhnaaGreatDoor
open Go.RowKit

theorem outK_cut {L : List (Nat × ByteArray)} (hG : GoodK L) {e k : Nat} {s : ByteArray} (hk : L[k]? = some (e, s)) : outK L e = L.take k ++ L.drop (k + 1) := by
  obtain ⟨h1, h2⟩ := List.getElem?_eq_some_iff.1 hk
  have hd : L.drop k = (e, s) :: L.drop (k + 1) := by rw [← h2]; exact List.drop_eq_getElem_cons h1
  have hp := List.pairwise_map.1 hG.up
  have h3 : ∀ x ∈ L.take k, x.1 ≠ e := fun x hx q => by
    obtain ⟨i, hi, hxi⟩ := List.getElem_of_mem hx
    rw [List.length_take] at hi
    rw [List.getElem_take] at hxi
    have := List.pairwise_iff_getElem.1 hp i k (by omega) h1 (by omega)
    rw [hxi, h2] at this
    simp at this
    omega
  have h4 : ∀ x ∈ L.drop (k + 1), x.1 ≠ e := fun x hx q => by
    obtain ⟨i, hi, hxi⟩ := List.getElem_of_mem hx
    rw [List.length_drop] at hi
    rw [List.getElem_drop] at hxi
    have := List.pairwise_iff_getElem.1 hp k (k + 1 + i) h1 (by omega) (by omega)
    rw [hxi, h2] at this
    simp at this
    omega
  unfold outK
  conv => lhs; rw [← List.take_append_drop k L, hd]
  rw [List.filter_append, List.filter_cons]
  simp only [bne_self_eq_false, Bool.false_eq_true, if_false]
  rw [List.filter_eq_self.2 (fun x hx => by simpa using h3 x hx), List.filter_eq_self.2 (fun x hx => by simpa using h4 x hx)]
theorem entL_take : ∀ (l : List (Nat × ByteArray)) (k : Nat), (entL l).take (k * 2) = entL (l.take k)
  | [], k => by simp [entL]
  | x :: r, 0 => by simp [entL]
  | x :: r, k + 1 => by rw [show (k + 1) * 2 = k * 2 + 1 + 1 by omega, entL, List.take_succ_cons, List.take_succ_cons, entL_take r k, List.take_succ_cons, entL]
theorem entL_drop : ∀ (l : List (Nat × ByteArray)) (k : Nat), (entL l).drop (k * 2) = entL (l.drop k)
  | [], k => by simp [entL]
  | x :: r, 0 => by simp
  | x :: r, k + 1 => by rw [show (k + 1) * 2 = k * 2 + 1 + 1 by omega, entL, List.drop_succ_cons, List.drop_succ_cons, entL_drop r k, List.drop_succ_cons]
/-- New entries in the ring. -/
theorem IsR.renew {w w2 w3 : World} {B d : Nat} {p p3 : Option Addr} {c c3 : Nat} {κ2 κ3 : Foot} {L L' : List (Nat × ByteArray)} (h : IsR w B d p c L) (hB : B ≤ w.heap.size) (x : Ext w w2) (hκ : ∀ g, g < w.heap.size → κ2 g = 0) (f3 : Fr κ2 (· = 1) w2 w3 κ3)
    (s3 : Sl w3 κ3 1 2 71 p3 L'.length c3 (entL L')) (e3 : ∀ g, p3 = some ⟨g, 0, none⟩ → w.heap.size ≤ g) :
    IsR (w3.setCell ⟨d, 0, none⟩ (.slice p3 L'.length c3)) B d p3 c3 L' ∧ TurnD B w (w3.setCell ⟨d, 0, none⟩ (.slice p3 L'.length c3)) := by
  have hold : ∀ g, g < w.heap.size → w3.heap[g]? = w.heap[g]? := fun g hg => (f3.other g (Nat.lt_of_lt_of_le hg x.size) (by rw [hκ g hg]; decide)).trans (x.block g hg)
  have hd3 : Blk w3 d 74 [.slice p L.length c] := (hold d h.ring.lt).trans h.ring
  refine ⟨⟨hd3.set_ 0 _, s3.kp.parted hd3 (by decide) (fun g hg => Below.heap_setCell _ _ _ _ (by exact hg)), h.low, fun g hg => Nat.le_trans hB (e3 g hg), fun q => ?_⟩, ⟨⟨?_, ?_, ?_, ?_, fun g hg => ?_⟩, ?_, fun g o hg hn => ?_⟩⟩
  · have q := kp_one q
    have h1 := e3 d q
    have h2 := h.ring.lt
    exact absurd h2 (Nat.not_lt.2 h1)
  · exact f3.os.trans x.os
  · exact f3.tape.trans x.tape
  · exact f3.output.trans x.output
  · have := Nat.le_trans x.size f3.size
    simp [World.setCell]
    omega
  · rw [Below.heap_setCell _ _ _ _ (by have := h.low; show g ≠ d; omega)]
    exact hold g (by omega)
  · have := Nat.le_trans x.size f3.size
    simpa [World.setCell] using this
  · have hgd : g ≠ d := fun e => by
      subst e
      have := h.ring
      unfold Blk at this
      rw [this] at hg
      cases hg
      exact hn.1 _ _ rfl
    rw [Below.heap_setCell _ _ _ _ (by exact hgd)]
    exact (hold g (heap_lt hg)).trans hg
theorem rretire_top (w : World) (B d : Nat) (p : Option Addr) (c : Nat) (L : List (Nat × ByteArray)) (h : IsR w B d p c L) (hG : GoodK L) :
    Calls Tryz.prog 13 #[.pointer (some ⟨d, 0, none⟩), .int .u32 (top (eps L) : Int)] w fun x w' => x = .returned (.int .i64 2) ∧ Ext w w' := by
  have HN := Lib.hid (rnewestK_any w B d p c L h hG)
  clear h hG
  generalize top (eps L) = t at *
  go_enter Tryz.func13, Tryz.ntmps13
  go_wp2_with (go_at_call 39; refine (HN.out).mono ?_; rintro e w1 ⟨rfl, x1⟩)
  go_ret
  exact ⟨rfl, x1⟩
theorem rretire_none (w : World) (B d : Nat) (p : Option Addr) (c : Nat) (L : List (Nat × ByteArray)) (h : IsR w B d p c L) (hG : GoodK L) (e : Nat) (hn : e ∉ eps L) :
    Calls Tryz.prog 13 #[.pointer (some ⟨d, 0, none⟩), .int .u32 (e : Int)] w fun x w' => x = .returned (.int .i64 3) ∧ Ext w w' := by
  have HN := Lib.hid (rnewestK_any w B d p c L h hG)
  have hne : ¬ (e : Int) = (top (eps L) : Int) := fun q => hn (by rw [show e = top (eps L) by omega]; exact hG.top_in)
  have HA := Lib.hid (fun u (hu : IsR u B d p c L) => rat_no u B d p c L hu hG.few e hn)
  have HR := Lib.hid h
  clear h hG hn
  generalize top (eps L) = t at *
  go_enter Tryz.func13, Tryz.ntmps13
  go_wp2_with (first
    | (go_at_call 39; refine (HN.out).mono ?_; rintro e w1 ⟨rfl, x1⟩)
    | (go_at_call 40; refine (HA.out _ (HR.out.ext x1)).mono ?_; rintro e w2 ⟨rfl, rfl⟩))
  go_ret
  exact ⟨rfl, x1⟩
theorem elemEn : Tryz.prog.elem 72 = 71 := by kernel_rfl
theorem underEn : Tryz.prog.underlying 72 = some (.slice (Tryz.prog.elem 72)) := by rw [elemEn]; exact Tryz.underlying72
set_option maxRecDepth 100000 in
set_option maxHeartbeats 4000000 in
theorem rretire_yes (w : World) (B d : Nat) (p : Option Addr) (c : Nat) (L : List (Nat × ByteArray)) (hB : B ≤ w.heap.size) (h : IsR w B d p c L) (hG : GoodK L) (e : Nat) (hne : e ≠ top (eps L)) (hin : e ∈ eps L) :
    Calls Tryz.prog 13 #[.pointer (some ⟨d, 0, none⟩), .int .u32 (e : Int)] w fun x w' => ∃ p' c', x = .returned (.int .i64 0) ∧ IsR w' B d p' c' (outK L e) ∧ TurnD B w w' := by
  obtain ⟨⟨e', s⟩, hm, rfl⟩ := List.mem_map.1 hin
  simp only at hne hin ⊢
  obtain ⟨k, hk64, hk, hf⟩ := good_at hG hm
  obtain ⟨n, s2, hn, hn64, hlast⟩ := hG.last
  have hkl : k < L.length := (List.getElem?_eq_some_iff.1 hk).1
  have hkn : k < n := by
    rcases Nat.lt_or_ge k n with q | q
    · exact q
    · have : k = n := by omega
      subst this
      rw [hlast] at hk
      cases hk
      exact absurd rfl hne
  have hout := outK_cut hG hk
  obtain ⟨g, rfl, hBg, _, _⟩ := h.at_ hk
  have hc : L.length ≤ c := h.ents.2.1
  have hnei : ¬ (e' : Int) = (top (eps L) : Int) := by omega
  have HN := Lib.hid (rnewestK_any w B d (some ⟨g, 0, none⟩) c L h hG)
  have HA := Lib.hid (fun u (hu : IsR u B d (some ⟨g, 0, none⟩) c L) => rat_yes u B d (some ⟨g, 0, none⟩) c L hu hG.few e' k s hk hf)
  have HR := Lib.hid h; have HBB := Lib.hid hB
  have hlt : (L.take k).length = k := by rw [List.length_take]; omega
  have hld : (L.drop (k + 1)).length = n - k := by rw [List.length_drop]; omega
  have hs1 : ∀ u, (Instr.slice 72 (.slice (some ⟨g, 0, none⟩) L.length c) none (some (.int .i64 (k : Int))) none).run Tryz.prog u = .ok (.slice (some ⟨g, 0, none⟩) k c) u := fun u => by
    rw [run_slice_h (P := Tryz.prog) u 72 (some ⟨g, 0, none⟩) L.length c underEn .i64 (k : Int) (by omega) (by omega), elemEn, show (sizeOf 71).run Tryz.prog u = .ok 2 u from Tryz.sizeOf71 u]
    simp [Result.andThen, sliced]
    intro q
    simp [Addr.add]
  have hs2 : ∀ u, (Instr.slice 72 (.slice (some ⟨g, 0, none⟩) L.length c) (some (.int .i64 ((k : Int) + 1))) none none).run Tryz.prog u = .ok (.slice (some ⟨g, (k + 1) * 2, none⟩) (n - k) (c - (k + 1))) u := fun u => by
    rw [run_slice_l (P := Tryz.prog) u 72 (some ⟨g, 0, none⟩) L.length c underEn .i64 ((k : Int) + 1) (by omega) (by omega), elemEn, show (sizeOf 71).run Tryz.prog u = .ok 2 u from Tryz.sizeOf71 u]
    have e1 : ((k : Int) + 1).toNat = k + 1 := by omega
    simp only [Result.andThen, sliced, e1]
    rw [if_neg (by omega), show L.length - (k + 1) = n - k by omega]
    simp [Addr.add_mid]
  have hwk : IntKind.i64.wrap ((k : Int) + 1) = (k : Int) + 1 := IntWalk.i64_in _ ⟨by omega, by omega⟩
  have hk0 : ¬ (k : Int) < 0 := by omega
  have HSrc1 : Hid (∀ u, Ext w u → Src Tryz.prog 2 72 (.slice (some ⟨g, 0, none⟩) k c) k (entL (L.take k)) u) := Lib.hid (fun u hu => by
    refine Src.ofSlice u Tryz.underlying72 ⟨g, 0, none⟩ k c _ (by rw [entL_length, hlt]) (fun j v hj => ?_) (entL_one _)
    rw [← entL_take] at hj
    have hj2 := (List.getElem?_eq_some_iff.1 hj).1
    rw [List.length_take] at hj2
    rw [List.getElem?_take, if_pos (by omega)] at hj
    obtain ⟨g', q, _, _, hc', _⟩ := (h.ext hu).ents.cell hj
    cases q
    rw [Addr.add_mid, Nat.zero_add]
    exact hc')
  have HSrc2 : Hid (∀ u, Ext w u → Src Tryz.prog 2 72 (.slice (some ⟨g, (k + 1) * 2, none⟩) (n - k) (c - (k + 1))) (n - k) (entL (L.drop (k + 1))) u) := Lib.hid (fun u hu => by
    refine Src.ofSlice u Tryz.underlying72 ⟨g, (k + 1) * 2, none⟩ (n - k) _ _ (by rw [entL_length, hld]) (fun j v hj => ?_) (entL_one _)
    rw [← entL_drop, List.getElem?_drop] at hj
    obtain ⟨g', q, _, _, hc', _⟩ := (h.ext hu).ents.cell hj
    cases q
    rw [Addr.add_mid]
    exact hc')
  have HOut := Lib.hid hout; have Hlt := Lib.hid hlt; have Hld := Lib.hid hld
  clear h hB hG hm hk hf hlast hout hlt hld hin hne hBg
  generalize top (eps L) = t at *
  go_enter Tryz.func13, Tryz.ntmps13
  go_wp2_with (first
    | (go_at_call 39; refine (HN.out).mono ?_; rintro e w1 ⟨rfl, x1⟩)
    | (go_at_call 40; refine (HA.out _ (HR.out.ext x1)).mono ?_; rintro e w2 ⟨rfl, rfl⟩; have c1 := (HR.out.ext x1).ring.cell 0 _ rfl)
    | (refine wpList_append_sl rfl (.tmp 16) (.tmp 22) 72 72 rfl Tryz.underlying72 infoEn rfl (by decide) rfl (Sl.nil _ (fun _ => 0) 1 2 _) (fun u hu => by cases hu) _ rfl k (entL (L.take k)) (HSrc1.out _ x1) (by omega) ?_
       intro p1 c1' w2 κ2 s2' f2 e2 x2 _
       rw [Nat.zero_add, List.nil_append] at s2'
       rw [Nat.zero_add]
       have y2 := x1.trans (x2 rfl)
       have S2 := Lib.hid s2'; have F2 := Lib.hid f2; have E2 := Lib.hid e2; have X1 := Lib.hid x1
       have c2 := (HR.out.ext y2).ring.cell 0 _ rfl
       clear s2' f2 e2 x2 c1)
    | (refine wpList_append_sl rfl (.tmp 25) (.tmp 32) 72 72 rfl Tryz.underlying72 infoEn rfl (by decide) rfl S2.out (entL_one _) _ rfl (n - k) (entL (L.drop (k + 1))) (HSrc2.out _ y2) (by omega) ?_
       intro p3 c3 w3 κ3 s3 f3 e3 x3 _
       rw [← entL_append, ← HOut.out] at s3
       have hlen : k + (n - k) = (outK L e').length := by rw [HOut.out, List.length_append, Hlt.out, Hld.out]
       rw [hlen] at s3 ⊢
       obtain ⟨m1, m2⟩ := HR.out.renew HBB.out y2 (fun g' hg' => F2.out.foot g' (Nat.lt_of_lt_of_le hg' X1.out.size)) f3 s3 (fun g' hg' => by
         rcases e3 with q | q
         · rcases E2.out with q2 | q2
           · rw [q, q2] at hg'; cases hg'
           · rw [q, q2] at hg'; cases hg'; exact X1.out.size
         · rw [q] at hg'; cases hg'; exact y2.size)
       have hd3 := f3.blk (HR.out.ext y2).ring (by rw [F2.out.foot d (HR.out.ext X1.out).ring.lt]; decide)
       have c3 := hd3.cell 0 _ rfl; have g3 := hd3.frozen 0
       have M1 := Lib.hid m1; have M2 := Lib.hid m2
       clear s3 f3 e3 x3 m1 m2 hd3 hlen c2))
  go_ret
  exact ⟨_, _, rfl, M1.out, M2.out⟩
end Go.Proofs.YtdnpgmoiapkhnaaGreatDoor
