/- Contracts: a cell copied whole, by the program. -/
import Derived.Test.YtkjcpjalldbahaaDoorM28
section
namespace Go.Proofs.YtkjcpjalldbahaaDoor
open Go.RowKit Go.ChangeMaps Go.MapKept

/-- What is there already is written: nothing turns. -/
theorem setCell_same {w : World} {a : Addr} {v : Value} (h : w.cell? a = some v) : w.setCell a v = w := by
  have hm : (w.setCell a v).heap = w.heap := by
    apply Array.ext_getElem?
    intro j
    by_cases e : j = a.block
    · subst e
      unfold World.cell? at h
      cases hx : w.heap[a.block]? with
      | none => rw [hx] at h; cases h
      | some x =>
        rw [hx] at h
        cases x with
        | cells c ty f =>
          dsimp only at h
          cases hs : a.spot.isSome with
          | true => rw [hs] at h; cases h
          | false =>
            rw [hs] at h
            simp only [Bool.false_eq_true, if_false] at h
            have hc : c.setIfInBounds a.off v = c := by
              apply Array.ext_getElem?
              intro k
              rw [Array.getElem?_setIfInBounds]
              split
              · rename_i e
                subst e
                split
                · exact h.symm
                · rename_i q
                  rw [Array.getElem?_eq_none (by omega)]
              · rfl
            simp [World.setCell, Array.getElem?_modify, hx, hs, hc]
        | _ => cases h
    · exact Below.heap_setCell _ _ _ _ e
  have e : w.setCell a v = { w with heap := (w.setCell a v).heap } := rfl
  rw [e, hm]
set_option maxRecDepth 100000 in
set_option maxHeartbeats 4000000 in
theorem own_any (w : World) (m : Nat) (p : Option Addr) (c : Nat) (L : List Ver) (h : VersP w p L) (hl : L.length ≤ 1000000) (hz : ∀ v ∈ L, v.t.size ≤ 140737488355328) :
    Calls Tryd.prog 27 #[.agg #[.int .u64 (m : Int), .slice p L.length c]] w fun e w' => ∃ q c', e = .returned (.agg #[.int .u64 (m : Int), .slice q L.length c']) ∧ IsV w' w.heap.size q c' L ∧ Ext w w' := by
  obtain ⟨n, hn⟩ : ∃ n, L.length = n := ⟨_, rfl⟩
  have HX0 := Lib.hid (((Ext.refl w).alloc (.cells #[.int .u64 (m : Int), .slice p n c] 54)).alloc (.cells #[.int .u64 0, .slice none 0 0] 54))
  have HB1 := Lib.hid ((Blk.new w [.int .u64 (m : Int), .slice p n c] 54).alloc (.cells #[.int .u64 0, .slice none 0 0] 54))
  have HB2 := Lib.hid (Blk.new1V w (.cells #[.int .u64 (m : Int), .slice p n c] 54) [.int .u64 0, .slice none 0 0] 54)
  have HZ := Lib.hid (size2 w (.cells #[.int .u64 (m : Int), .slice p n c] 54) (.cells #[.int .u64 0, .slice none 0 0] 54))
  have HC := Lib.hid (cloneV_any _ p c L (h.ext HX0.out) hl)
  have HSC := Lib.hid (fun s hs u => strcloneV_any s hs u)
  have HN := Lib.hid hn
  have HTZ := Lib.hid hz
  rw [hn] at HC hl ⊢
  clear h hn hz
  go_enter Tryd.func27, Tryd.ntmps27
  go_wp2_with (go_at_call 23; refine HC.out.mono ?_; rintro e w1 ⟨q, c1, rfl, v1, x1⟩; have HX1 := Lib.hid (HX0.out.trans x1); have A1 := Lib.hid (HB1.out.ext x1); have A2 := Lib.hid (HB2.out.ext x1); have a0 := A1.out.cell 0 _ rfl; have a1 := A1.out.cell 1 _ rfl; have af0 := A1.out.frozen 0; have af1 := A1.out.frozen 1; have HV1 := Lib.hid v1; clear v1 x1)
  rw [HZ.out] at HV1
  have B1 := Lib.hid (A1.out.set_ 1 (.slice q n c1))
  have B2 := Lib.hid (A2.out.other (g := w.heap.size) (by omega) 1 (.slice q n c1))
  have HV2 := Lib.hid (HV1.out.setCell (a := ⟨w.heap.size, 1, none⟩) (by show w.heap.size < _; omega) (.slice q n c1))
  have HX2 := Lib.hid (HX1.out.setCell (p := ⟨w.heap.size, 1, none⟩) (Nat.le_refl _) (.slice q n c1))
  clear a0 a1 af0 af1
  generalize w1.setCell ⟨w.heap.size, 1, none⟩ (.slice q n c1) = W2 at *
  go_loopw [11] (fun iv wr => ∃ j : Nat, j ≤ n ∧ iv = .int .i64 (j : Int) ∧ Hid (Blk wr w.heap.size 54 [.int .u64 (m : Int), .slice q n c1]) ∧ Hid (Blk wr (w.heap.size + 1) 54 [.int .u64 0, .slice none 0 0]) ∧ Hid (IsV wr (w.heap.size + 2) q c1 L) ∧ Hid (Ext w wr)) (fun iv _ => n - (intOf iv).toNat)
  case atStart => exact ⟨0, Nat.zero_le _, rfl, B1, B2, HV2, HX2⟩
  case round =>
    obtain ⟨j, hj, rfl, D1, D2, HV, HX⟩ := hrel
    by_cases hlt : j < n
    · obtain ⟨x, hx⟩ : ∃ x, L[j]? = some x := ⟨_, List.getElem?_eq_getElem (by have := HN.out; omega)⟩
      have hxt := HTZ.out x (List.mem_of_getElem? hx)
      obtain ⟨a, rfl, _, _, _⟩ := HV.out.vers.three (Ext.refl _) hx
      obtain ⟨g, rfl, hlow⟩ := HV.out.block
      have x0 : Ext wr wr.drew := (Ext.refl wr).drew
      obtain ⟨⟨k0, k1, k2⟩, ⟨l0, l1, l2⟩, _⟩ := (HV.out.ext x0).lit (x := x) hx
      have d1 : wr.drew.cell? ⟨w.heap.size, 1, none⟩ = _ := D1.out.drew.cell 1 _ rfl
      have Hx := Lib.hid hx
      obtain ⟨xn, xs, xt⟩ := x
      dsimp only at k0 k1 k2 hxt
      clear hx
      go_wp2
      go_region_law (first
        | (go_simp; go_at_call 33; refine (HSC.out xt (Nat.le_trans hxt (by decide)) _).mono ?_; rintro e w3 ⟨rfl, x3⟩; have HX3 := Lib.hid (x0.trans x3); have d1 := (D1.out.ext HX3.out).cell 1 _ rfl; obtain ⟨⟨k0, k1, k2⟩, ⟨l0, l1, l2⟩, _⟩ := (HV.out.ext HX3.out).lit (x := ⟨xn, xs, xt⟩) Hx.out; have HK := Lib.hid (setCell_same k2); clear x3))
      all_goals
        rw [HK.out]
        go_wp2
        go_roundw
        case rel => exact ⟨j + 1, by omega, by go_num, Lib.hid (D1.out.ext HX3.out), Lib.hid (D2.out.ext HX3.out), Lib.hid (HV.out.ext HX3.out), Lib.hid (HX.out.trans HX3.out)⟩
        case measure => simp [intOf]; omega
    · obtain rfl : j = n := by omega
      have d0 := D1.out.cell 0 _ rfl
      have d1 := D1.out.cell 1 _ rfl
      have e0 := D2.out.cell 0 _ rfl
      have e1 := D2.out.cell 1 _ rfl
      have ef0 := D2.out.frozen 0
      have ef1 := D2.out.frozen 1
      go_wp2
      exact bodyPost_ret (results_oneT rfl _ (w.heap.size + 1) #[.int .u64 (m : Int), .slice q j c1] rfl (load_cell _ _ _ _ _ _ ((D2.out.set_ 0 _).set_ 1 _))) rfl ⟨q, c1, rfl, (((HV.out.setCell (a := ⟨w.heap.size + 1, 0, none⟩) (by show w.heap.size + 1 < _; omega) _).setCell (a := ⟨w.heap.size + 1, 1, none⟩) (by show w.heap.size + 1 < _; omega) _).base (by omega)), (HX.out.setCell (p := ⟨w.heap.size + 1, 0, none⟩) (Nat.le_succ _) _).setCell (p := ⟨w.heap.size + 1, 1, none⟩) (Nat.le_succ _) _⟩
end Go.Proofs.YtkjcpjalldbahaaDoor
end
