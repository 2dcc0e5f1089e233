/- Contract: the document's Load. -/
import Derived.Test.YtkjcpjalldbahaaGreatDoorTabRA
import Derived.Test.YtkjcpjalldbahaaGreatDoorM32
import Derived.Deep.RegionLaw
section
namespace Go.Proofs.YtkjcpjalldbahaaGreatDoor
open Go.RowKit Go.ChangeMaps Go.MapKept

theorem elemRow : Tryz.prog.elem 31 = 57 := by kernel_rfl
theorem underRow : Tryz.prog.underlying 31 = some (.slice (Tryz.prog.elem 31)) := by rw [elemRow]; exact Tryz.underlying31
/-- The rows up to one. -/
theorem cut_head (u : World) (p : Option Addr) (n c k : Nat) (hk : k ≤ c) : (Instr.slice 31 (.slice p n c) none (some (.int .i64 (k : Int))) none).run Tryz.prog u = .ok (.slice p k c) u := by
  rw [run_slice_h (P := Tryz.prog) u 31 p n c underRow .i64 (k : Int) (by omega) (by omega), elemRow, Tryz.sizeOf57 u]
  simp only [Result.andThen, sliced, Int.toNat_natCast, Nat.zero_mul, Nat.sub_zero]
  congr 2
  split
  · rfl
  · cases p with
    | none => rfl
    | some a => simp [Addr.add]
/-- The rows from one on. -/
theorem cut_tail (p : Option Addr) (n c k : Nat) (hk : k ≤ n) (hn : n ≤ c) : ∃ q, (k < n → ∀ a, p = some a → q = some (a.add (k * 3))) ∧ (∀ a, p = some a → ∃ b, q = some b) ∧ ∀ u, (Instr.slice 31 (.slice p n c) (some (.int .i64 (k : Int))) none none).run Tryz.prog u = .ok (.slice q (n - k) (c - k)) u := by
  refine ⟨if c = k then p else p.map (·.add (k * 3)), fun hlt a e => ?_, fun a e => ?_, fun u => ?_⟩
  · rw [if_neg (by omega), e]
    rfl
  · subst e
    split
    · exact ⟨_, rfl⟩
    · exact ⟨_, rfl⟩
  · rw [run_slice_l (P := Tryz.prog) u 31 p n c underRow .i64 (k : Int) (by omega) (by omega), elemRow, Tryz.sizeOf57 u]
    simp only [Result.andThen, sliced, Int.toNat_natCast]
theorem RowsP.take {w : World} {p : Option Addr} {M : List Ent} (h : RowsP w p M) (j : Nat) : RowsP w p (M.take j) := by
  refine ⟨fun k x hk => ?_, fun e he => h.2 e (List.mem_of_mem_take he)⟩
  rw [List.getElem?_take] at hk
  split at hk
  · exact h.1 k x hk
  · cases hk
theorem rtat_yes (w : World) (p : Option Addr) (c : Nat) (M : List Ent) (hM : RowsP w p M) (hn : M.length ≤ 140737488355328) (s : ByteArray) (hh : hasR (M.map Ent.row) s = true) :
    Calls Tryz.prog 37 #[.slice p M.length c, .string s] w fun e w' => w = w' ∧ ∃ (j : Nat), e = .returned (.int .i64 (j : Int)) ∧ ∃ x, M[j]? = some x ∧ x.p = s := by
  refine (rtat_any w p c M hM hn s).mono ?_
  rintro e w' ⟨rfl, (⟨j, x, h1, h2, h3⟩ | ⟨_, h2⟩)⟩
  · exact ⟨rfl, j, h1, x, h2, h3⟩
  · obtain ⟨r, hr, h3⟩ := hasR_iff.1 hh
    obtain ⟨y, hy, rfl⟩ := List.mem_map.1 hr
    exact absurd h3 (h2 y hy)
theorem rtat_no (w : World) (p : Option Addr) (c : Nat) (M : List Ent) (hM : RowsP w p M) (hn : M.length ≤ 140737488355328) (s : ByteArray) (hh : hasR (M.map Ent.row) s = false) :
    Calls Tryz.prog 37 #[.slice p M.length c, .string s] w fun e w' => w = w' ∧ e = .returned (.int .i64 (-1)) := by
  refine (rtat_any w p c M hM hn s).mono ?_
  rintro e w' ⟨rfl, (⟨j, x, _, h2, h3⟩ | ⟨h1, _⟩)⟩
  · have : hasR (M.map Ent.row) s = true := hasR_iff.2 ⟨x.row, List.mem_map.2 ⟨x, List.mem_of_getElem? h2, rfl⟩, h3⟩
    rw [hh] at this
    cases this
  · exact ⟨rfl, h1⟩
theorem okR_parts (s : ByteArray) (m : Nat) (L : List Ver) : okR ⟨s, m, L⟩ = (decide (0 < (piecesB s).length) && mayL m L && decide (0 < L.length)) := by
  unfold okR
  rw [piecesB_may]
set_option maxRecDepth 100000 in
set_option maxHeartbeats 8000000 in
theorem rload_any (w : World) (r : Nat) (qp qb : Int) (R : List RowP) (h : IsRT w r qp qb R) (hl : R.length ≤ 50000) (p : Option Addr) (c : Nat) (M : List Ent) (hM : RowsP w p M) (hf : ∀ e ∈ M, e.Fit) (hn : M.length ≤ 5000) (hc : M.length ≤ c) :
    Calls Tryz.prog 30 #[.pointer (some ⟨r, 0, none⟩), .slice p M.length c] w fun e w' => e = .returned (.int .i64 ((loadR R (M.map Ent.row)).1 : Int)) ∧ IsRT w' r qp qb (loadR R (M.map Ent.row)).2 ∧ Turn (fun g => g = r) w w' := by
  have HT := Lib.hid h
  obtain ⟨p0, c0, M0, hB0, hP0, hM0, hG0, hc0⟩ := h
  have HB := Lib.hid hB0; have HP0 := Lib.hid hP0; have HM0 := Lib.hid hM0; have HG := Lib.hid hG0
  have HP := Lib.hid hM
  have HF := Lib.hid hf
  obtain ⟨n, hnn⟩ : ∃ n, M.length = n := ⟨_, rfl⟩
  have HN := Lib.hid hnn
  obtain ⟨rl, hrl⟩ : ∃ n, M0.length = n := ⟨_, rfl⟩
  have HRL0 := Lib.hid hrl
  have hrl5 : rl ≤ 50000 := by rw [← hrl, ← List.length_map (f := Ent.row), hM0]; exact hl
  obtain ⟨TL, hTL⟩ : ∃ T, loadR R (M.map Ent.row) = T := ⟨_, rfl⟩
  have HTL := Lib.hid hTL
  rw [hTL]
  rw [hnn] at hn hc ⊢
  clear hB0 hP0 hM0 hG0 hc0 hM hf hnn hrl hl hTL
  go_enter Tryz.func30, Tryz.ntmps30
  go_wp2
  go_loopw [5] (fun iv wr => ∃ (i : Nat), i ≤ n ∧ iv = .int .i64 (i : Int) ∧ Hid (∀ e ∈ M.take i, okR e.row = true) ∧ Hid (Ext w wr)) (fun iv _ => n - (intOf iv).toNat)
  case atStart => exact ⟨0, Nat.zero_le _, rfl, Lib.hid (by simp), Lib.hid (Ext.refl _)⟩
  case round =>
    obtain ⟨i, hi, rfl, HO, HX⟩ := hrel
    by_cases hlt : i < n
    · obtain ⟨⟨xp, xm, xL, xa, xc⟩, hx⟩ : ∃ x, M[i]? = some x := ⟨_, List.getElem?_eq_getElem (by have := HN.out; omega)⟩
      have HTh := Lib.hid (fun u (x : Ext w u) => HP.out.three x hx)
      obtain ⟨pa, rfl, g0, g1, g2⟩ := HTh.out wr HX.out
      have hv := HP.out.2 _ (List.mem_of_getElem? hx)
      have hft := HF.out _ (List.mem_of_getElem? hx)
      have hs1 := hft.p; have hs2 := hft.n
      dsimp only at g0 g1 g2 hv hs1 hs2 HTh
      have HPc := Lib.hid (fun u => rPieces_any xp hs1 u)
      have HMy := Lib.hid (fun u (x : Ext w u) => rmay_any u xm xa xc xL (hv.ext x) (by omega))
      have hok := okR_parts xp xm xL
      have HXi := Lib.hid hx
      have HO2 : Hid (okR ⟨xp, xm, xL⟩ = true → ∀ e ∈ M.take (i + 1), okR e.row = true) := Lib.hid (fun q e he => by
        rw [List.take_add_one, HXi.out] at he
        rcases List.mem_append.1 he with h1 | h1
        · exact HO.out e h1
        · simp at h1; subst h1; exact q)
      have HBd : Hid (okR ⟨xp, xm, xL⟩ = false → TL = (2, R)) := Lib.hid (fun q => by
        rw [← HTL.out]
        unfold loadR
        have : ¬ (M.map Ent.row).all okR = true := fun ha => by
          have := List.all_eq_true.1 ha ⟨xp, xm, xL⟩ (List.mem_map.2 ⟨_, List.mem_of_getElem? HXi.out, rfl⟩)
          rw [q] at this
          cases this
        rw [if_neg this])
      obtain ⟨kk, hkk⟩ : ∃ k, xL.length = k := ⟨_, rfl⟩
      obtain ⟨kp', hkp⟩ : ∃ k, (piecesB xp).length = k := ⟨_, rfl⟩
      unfold TextsR at HPc
      rw [hkp] at HPc hok
      rw [hkk] at HMy hok g2
      have HTh2 : Hid (∀ u, Ext w u → u.cell? ⟨(pa.add (i * 3)).block, (pa.add (i * 3)).off + 1, none⟩ = some (.int .u64 (xm : Int)) ∧ u.cell? ⟨(pa.add (i * 3)).block, (pa.add (i * 3)).off + 2, none⟩ = some (.slice xa kk xc)) := Lib.hid (fun u x => by
        obtain ⟨a, e, _, h1, h2⟩ := HTh.out u x
        cases e
        rw [hkk] at h2
        exact ⟨h1, h2⟩)
      generalize mayL xm xL = my at *
      clear hx hv hft hs1 hs2 hkp hkk HTh
      by_cases hk0 : kp' = 0
      · subst hk0
        have hb : okR ⟨xp, xm, xL⟩ = false := by rw [hok]; simp
        have HTb := Lib.hid (HBd.out hb)
        clear hok hb
        go_wp2_with (go_at_call 36; refine (HPc.out _).mono ?_; rintro e w2 ⟨pp, cc, rfl, h1, x2⟩; have HX2 := Lib.hid (HX.out.trans x2); clear x2 h1)
        go_ret
        exact ⟨by rw [HTb.out]; rfl, by rw [HTb.out]; exact HT.out.ext HX2.out, Turn.ofExt _ HX2.out⟩
      · have hkf : ((kp' : Int) == 0) = false := by simpa using (by omega : ¬ (kp' : Int) = 0)
        have hkd : decide (0 < kp') = true := decide_eq_true (by omega)
        rw [hkd] at hok
        cases my with
        | false =>
          have HTb := Lib.hid (HBd.out (by rw [hok]; simp))
          clear hok hk0 hkd
          go_wp2_with (first
            | (go_at_call 36; refine (HPc.out _).mono ?_; rintro e w2 ⟨pp, cc, rfl, h1, x2⟩; have HX2 := Lib.hid (HX.out.trans x2); obtain ⟨m1, m2⟩ := HTh2.out _ HX2.out; clear x2 h1)
            | (go_at_call 55; refine (HMy.out _ HX2.out).mono ?_; rintro e w3 ⟨rfl, x3⟩; have HX3 := Lib.hid (HX2.out.trans x3); clear x3))
          go_ret
          exact ⟨by rw [HTb.out]; rfl, by rw [HTb.out]; exact HT.out.ext HX3.out, Turn.ofExt _ HX3.out⟩
        | true =>
          by_cases hkz : kk = 0
          · subst hkz
            have HTb := Lib.hid (HBd.out (by rw [hok]; simp))
            clear hok hk0 hkd
            go_wp2_with (first
              | (go_at_call 36; refine (HPc.out _).mono ?_; rintro e w2 ⟨pp, cc, rfl, h1, x2⟩; have HX2 := Lib.hid (HX.out.trans x2); obtain ⟨m1, m2⟩ := HTh2.out _ HX2.out; clear x2 h1)
              | (go_at_call 55; refine (HMy.out _ HX2.out).mono ?_; rintro e w3 ⟨rfl, x3⟩; have HX3 := Lib.hid (HX2.out.trans x3); obtain ⟨l1, l2⟩ := HTh2.out _ HX3.out; clear x3))
            go_ret
            exact ⟨by rw [HTb.out]; rfl, by rw [HTb.out]; exact HT.out.ext HX3.out, Turn.ofExt _ HX3.out⟩
          · have hkzf : ((kk : Int) == 0) = false := by simpa using (by omega : ¬ (kk : Int) = 0)
            have HOk := Lib.hid (HO2.out (by rw [hok, decide_eq_true (by omega : 0 < kk)]; rfl))
            clear hok hk0 hkd hkz
            go_wp2_with (first
              | (go_at_call 36; refine (HPc.out _).mono ?_; rintro e w2 ⟨pp, cc, rfl, h1, x2⟩; have HX2 := Lib.hid (HX.out.trans x2); obtain ⟨m1, m2⟩ := HTh2.out _ HX2.out; clear x2 h1)
              | (go_at_call 55; refine (HMy.out _ HX2.out).mono ?_; rintro e w3 ⟨rfl, x3⟩; have HX3 := Lib.hid (HX2.out.trans x3); obtain ⟨l1, l2⟩ := HTh2.out _ HX3.out; clear x3))
            go_roundw
            case rel => exact ⟨i + 1, hlt, by go_num, HOk, HX3⟩
            case measure => simp [intOf]; omega
    · obtain rfl : i = n := by omega
      have hall : (M.map Ent.row).all okR = true := by
        rw [List.all_map, List.all_eq_true]
        intro e he
        exact HO.out e (by rw [List.take_of_length_le (by rw [HN.out]; exact Nat.le_refl _)]; exact he)
      have hTL2 := HTL.out
      unfold loadR at hTL2
      rw [if_pos hall] at hTL2
      obtain ⟨dup, hdup⟩ : ∃ d, dupR R [] (M.map Ent.row) = d := ⟨_, rfl⟩
      rw [hdup] at hTL2
      have HDup := Lib.hid hdup
      have HTd := Lib.hid hTL2
      have HOkR : Hid (∀ e ∈ M, OkR e.row) := Lib.hid (fun e he => (okR_iff (HF.out e he).m).1 (HO.out e (by rw [List.take_of_length_le (by rw [HN.out]; exact Nat.le_refl _)]; exact he)))
      clear hall hTL2 hdup
      go_wp2
      go_loopw [6] (fun iv wq => ∃ (j : Nat), j ≤ i ∧ iv = .int .i64 (j : Int) ∧ Hid (dupR R ((M.take j).map Ent.row) ((M.drop j).map Ent.row) = dup) ∧ Hid (Ext w wq)) (fun iv _ => i - (intOf iv).toNat)
      case atStart => exact ⟨0, Nat.zero_le _, rfl, Lib.hid (by simpa using HDup.out), HX⟩
      case round =>
        clear HX HO
        obtain ⟨j, hj, rfl, HDu, HX⟩ := hrel
        by_cases hlt2 : j < i
        · obtain ⟨⟨xp, xm, xL, xa, xc⟩, hx⟩ : ∃ x, M[j]? = some x := ⟨_, List.getElem?_eq_getElem (by have := HN.out; omega)⟩
          have hD := HX.out.drew
          have HD := Lib.hid hD
          obtain ⟨pa, rfl, g0, g1, g2⟩ := HP.out.three HX.out hx
          obtain ⟨pa', ee, k0, -, -⟩ := HP.out.three hD hx
          cases ee
          have b2 := (HB.out.ext HX.out).cell 2 _ rfl
          have b3 := (HB.out.ext hD).cell 2 _ rfl
          rw [HRL0.out] at b2 b3
          dsimp only at g0 k0
          have hdr : (M.drop j).map Ent.row = ⟨xp, xm, xL⟩ :: (M.drop (j + 1)).map Ent.row := by
            obtain ⟨q1, q2⟩ := List.getElem?_eq_some_iff.1 hx
            rw [List.drop_eq_getElem_cons q1, q2]
            rfl
          have htk : (M.take (j + 1)).map Ent.row = (M.take j).map Ent.row ++ [⟨xp, xm, xL⟩] := by
            rw [List.take_add_one, hx]
            simp [Ent.row]
          have hdu := HDu.out
          rw [hdr] at hdu
          unfold dupR at hdu
          rw [← htk] at hdu
          dsimp only at hdu
          have hsl := fun u => cut_head u (some pa) i c j (by omega)
          have htl : (M.take j).length = j := by rw [List.length_take, HN.out]; omega
          cases hh1 : hasR R xp with
          | true =>
            have HY := Lib.hid (rtat_yes wr.drew p0 c0 M0 (HP0.out.ext hD) (by rw [HRL0.out]; omega) xp (by rw [HM0.out]; exact hh1))
            rw [HRL0.out] at HY
            rw [hh1] at hdu
            have hdt : dup = true := by rw [← hdu]; rfl
            subst hdt
            have hTe := HTd.out
            rw [if_pos rfl] at hTe
            have HTe := Lib.hid hTe
            clear hdr htk hdu hx hh1 hTe htl hD
            go_wp2
            refine wp_region_held_drew (S := fun u => u = wr.drew) (by kernel_rfl) rfl (fun hHeld => ?_)
            refine wpAnyH_take (i := 0) (oi := { dst := some 47, op := Go.Op.move (Go.Operand.tmp 0), type := 30, pos := "ref.go:149", after := #[], guard := none }) (v := ?_) rfl (by kernel_rfl) (by kernel_rfl) (by kernel_rfl) (fun _ _ _ h => h) (Or.inl ⟨by rfl, ?_⟩) (by assumption) ?_
            rotate_left
            · (intro u hSw; (subst hSw); go_simp; try (with_reducible rfl))
            try simp only [Act.put, List.setIfInBounds_toArray, List.set_cons_zero, List.set_cons_succ]
            refine wpAnyH_take (i := 1) (oi := { dst := some 48, op := Go.Op.nilCheck (Go.Operand.tmp 47), type := 0, pos := "ref.go:149", after := #[{ on := 0, ground := Go.Ground.data }], guard := none }) (v := ?_) rfl (by kernel_rfl) (by kernel_rfl) (by kernel_rfl) (fun _ _ _ h => h) (Or.inl ⟨by rfl, ?_⟩) (by assumption) ?_
            rotate_left
            · (intro u hSw; (subst hSw); go_simp; try (with_reducible rfl))
            try simp only [Act.put, List.setIfInBounds_toArray, List.set_cons_zero, List.set_cons_succ]
            refine wpAnyH_take (i := 2) (oi := { dst := some 49, op := Go.Op.fieldAddr 33 (Go.Operand.tmp 48) 1, type := 0, pos := "ref.go:149", after := #[{ on := 1, ground := Go.Ground.data }], guard := none }) (v := ?_) rfl (by kernel_rfl) (by kernel_rfl) (by kernel_rfl) (fun _ _ _ h => h) (Or.inl ⟨by rfl, ?_⟩) (by assumption) ?_
            rotate_left
            · (intro u hSw; (subst hSw); go_simp; try (with_reducible rfl))
            try simp only [Act.put, List.setIfInBounds_toArray, List.set_cons_zero, List.set_cons_succ]
            refine wpAnyH_take (i := 3) (oi := { dst := some 50, op := Go.Op.load 31 (Go.Operand.tmp 49), type := 31, pos := "ref.go:149", after := #[{ on := 2, ground := Go.Ground.data }], guard := none }) (v := ?_) rfl (by kernel_rfl) (by kernel_rfl) (by kernel_rfl) (fun _ _ _ h => h) (Or.inl ⟨by rfl, ?_⟩) (by assumption) ?_
            rotate_left
            · (intro u hSw; (subst hSw); go_simp; try (with_reducible rfl))
            try simp only [Act.put, List.setIfInBounds_toArray, List.set_cons_zero, List.set_cons_succ]
            refine wpAnyH_take (i := 4) (oi := { dst := some 51, op := Go.Op.move (Go.Operand.tmp 1), type := 31, pos := "ref.go:149", after := #[], guard := none }) (v := ?_) rfl (by kernel_rfl) (by kernel_rfl) (by kernel_rfl) (fun _ _ _ h => h) (Or.inl ⟨by rfl, ?_⟩) (by assumption) ?_
            rotate_left
            · (intro u hSw; (subst hSw); go_simp; try (with_reducible rfl))
            try simp only [Act.put, List.setIfInBounds_toArray, List.set_cons_zero, List.set_cons_succ]
            refine wpAnyH_take (i := 5) (oi := { dst := some 52, op := Go.Op.move (Go.Operand.tmp 6), type := 3, pos := "ref.go:149", after := #[], guard := none }) (v := ?_) rfl (by kernel_rfl) (by kernel_rfl) (by kernel_rfl) (fun _ _ _ h => h) (Or.inl ⟨by rfl, ?_⟩) (by assumption) ?_
            rotate_left
            · (intro u hSw; (subst hSw); go_simp; try (with_reducible rfl))
            try simp only [Act.put, List.setIfInBounds_toArray, List.set_cons_zero, List.set_cons_succ]
            refine wpAnyH_take (i := 6) (oi := { dst := some 53, op := Go.Op.indexAddr 31 (Go.Operand.tmp 51) (Go.Operand.tmp 52), type := 0, pos := "ref.go:149", after := #[{ on := 4, ground := Go.Ground.data }, { on := 5, ground := Go.Ground.data }], guard := none }) (v := ?_) rfl (by kernel_rfl) (by kernel_rfl) (by kernel_rfl) (fun _ _ _ h => h) (Or.inl ⟨by rfl, ?_⟩) (by assumption) ?_
            rotate_left
            · (intro u hSw; (subst hSw); go_simp; try (with_reducible rfl))
            try simp only [Act.put, List.setIfInBounds_toArray, List.set_cons_zero, List.set_cons_succ]
            refine wpAnyH_take (i := 7) (oi := { dst := some 54, op := Go.Op.fieldAddr 57 (Go.Operand.tmp 53) 0, type := 0, pos := "ref.go:149", after := #[{ on := 6, ground := Go.Ground.data }], guard := none }) (v := ?_) rfl (by kernel_rfl) (by kernel_rfl) (by kernel_rfl) (fun _ _ _ h => h) (Or.inl ⟨by rfl, ?_⟩) (by assumption) ?_
            rotate_left
            · (intro u hSw; (subst hSw); go_simp; try (with_reducible rfl))
            try simp only [Act.put, List.setIfInBounds_toArray, List.set_cons_zero, List.set_cons_succ]
            refine wpAnyH_take (i := 8) (oi := { dst := some 55, op := Go.Op.load 9 (Go.Operand.tmp 54), type := 9, pos := "ref.go:149", after := #[{ on := 7, ground := Go.Ground.data }], guard := none }) (v := ?_) rfl (by kernel_rfl) (by kernel_rfl) (by kernel_rfl) (fun _ _ _ h => h) (Or.inl ⟨by rfl, ?_⟩) (by assumption) ?_
            rotate_left
            · (intro u hSw; (subst hSw); go_simp; try (with_reducible rfl))
            try simp only [Act.put, List.setIfInBounds_toArray, List.set_cons_zero, List.set_cons_succ]
            refine wpAnyH_ready (rs := [9]) (by kernel_rfl) (by simp) ?_
            refine AllReadyH.cons (o := { dst := some 56, op := Go.Op.call { callee := Go.Callee.value (Go.Operand.func 37), args := #[Go.Operand.tmp 50, Go.Operand.tmp 55], argTypes := #[31, 9] }, type := 3, pos := "ref.go:149", after := #[{ on := 3, ground := Go.Ground.data }, { on := 8, ground := Go.Ground.data }], guard := none }) rfl (fun K hK => ?_) AllReadyH.nil
            go_simp
            go_at_call 37
            refine HY.out.mono ?_
            rintro e w6 ⟨rfl, k6, rfl, -⟩
            go_wp2_with fail
            refine hK.out _ _ rfl (fun hHeld => ?_)
            clear hK K
            try simp only [Act.put, List.setIfInBounds_toArray, List.set_cons_zero, List.set_cons_succ]
            refine wpAnyH_take (i := 10) (oi := { dst := some 57, op := Go.Op.binOp Go.BinOp.geq 3 (Go.Operand.tmp 56) (Go.Operand.const (Go.Value.int Go.IntKind.i64 0)) 3, type := 4, pos := "ref.go:149", after := #[{ on := 9, ground := Go.Ground.data }], guard := none }) (v := ?_) rfl (by kernel_rfl) (by kernel_rfl) (by kernel_rfl) (fun _ _ _ h => h) (Or.inl ⟨by rfl, ?_⟩) (by assumption) ?_
            rotate_left
            · (intro u hSw; (subst hSw); go_simp; try (with_reducible rfl))
            try simp only [Act.put, List.setIfInBounds_toArray, List.set_cons_zero, List.set_cons_succ]
            refine wpAnyH_take (i := 11) (oi := { dst := some 58, op := Go.Op.move (Go.Operand.tmp 57), type := 4, pos := "ref.go:149", after := #[{ on := 10, ground := Go.Ground.data }, { on := 9, ground := Go.Ground.chain }], guard := none }) (v := ?_) rfl (by kernel_rfl) (by kernel_rfl) (by kernel_rfl) (fun _ _ _ h => h) (Or.inl ⟨by rfl, ?_⟩) (by assumption) ?_
            rotate_left
            · (intro u hSw; (subst hSw); go_simp; try (with_reducible rfl))
            try simp only [Act.put, List.setIfInBounds_toArray, List.set_cons_zero, List.set_cons_succ]
            refine wpAnyH_take (i := 12) (oi := { dst := some 59, op := Go.Op.move (Go.Operand.tmp 1), type := 31, pos := "ref.go:149", after := #[{ on := 11, ground := Go.Ground.guard }], guard := some (11, false) }) (v := undef) rfl (by kernel_rfl) (by kernel_rfl) (by kernel_rfl) (fun _ _ _ h => h) (Or.inr ⟨by rfl, rfl⟩) (by assumption) ?_
            try simp only [Act.put, List.setIfInBounds_toArray, List.set_cons_zero, List.set_cons_succ]
            refine wpAnyH_take (i := 13) (oi := { dst := some 60, op := Go.Op.move (Go.Operand.tmp 6), type := 3, pos := "ref.go:149", after := #[{ on := 11, ground := Go.Ground.guard }], guard := some (11, false) }) (v := undef) rfl (by kernel_rfl) (by kernel_rfl) (by kernel_rfl) (fun _ _ _ h => h) (Or.inr ⟨by rfl, rfl⟩) (by assumption) ?_
            try simp only [Act.put, List.setIfInBounds_toArray, List.set_cons_zero, List.set_cons_succ]
            refine wpAnyH_take (i := 14) (oi := { dst := some 61, op := Go.Op.slice 31 (Go.Operand.tmp 59) none (some (Go.Operand.tmp 60)) none, type := 31, pos := "ref.go:149", after := #[{ on := 12, ground := Go.Ground.data }, { on := 13, ground := Go.Ground.data }, { on := 11, ground := Go.Ground.guard }], guard := some (11, false) }) (v := undef) rfl (by kernel_rfl) (by kernel_rfl) (by kernel_rfl) (fun _ _ _ h => h) (Or.inr ⟨by rfl, rfl⟩) (by assumption) ?_
            try simp only [Act.put, List.setIfInBounds_toArray, List.set_cons_zero, List.set_cons_succ]
            refine wpAnyH_take (i := 15) (oi := { dst := some 62, op := Go.Op.move (Go.Operand.tmp 1), type := 31, pos := "ref.go:149", after := #[{ on := 11, ground := Go.Ground.guard }], guard := some (11, false) }) (v := undef) rfl (by kernel_rfl) (by kernel_rfl) (by kernel_rfl) (fun _ _ _ h => h) (Or.inr ⟨by rfl, rfl⟩) (by assumption) ?_
            try simp only [Act.put, List.setIfInBounds_toArray, List.set_cons_zero, List.set_cons_succ]
            refine wpAnyH_take (i := 16) (oi := { dst := some 63, op := Go.Op.move (Go.Operand.tmp 6), type := 3, pos := "ref.go:149", after := #[{ on := 11, ground := Go.Ground.guard }], guard := some (11, false) }) (v := undef) rfl (by kernel_rfl) (by kernel_rfl) (by kernel_rfl) (fun _ _ _ h => h) (Or.inr ⟨by rfl, rfl⟩) (by assumption) ?_
            try simp only [Act.put, List.setIfInBounds_toArray, List.set_cons_zero, List.set_cons_succ]
            refine wpAnyH_take (i := 17) (oi := { dst := some 64, op := Go.Op.indexAddr 31 (Go.Operand.tmp 62) (Go.Operand.tmp 63), type := 0, pos := "ref.go:149", after := #[{ on := 15, ground := Go.Ground.data }, { on := 16, ground := Go.Ground.data }, { on := 11, ground := Go.Ground.guard }], guard := some (11, false) }) (v := undef) rfl (by kernel_rfl) (by kernel_rfl) (by kernel_rfl) (fun _ _ _ h => h) (Or.inr ⟨by rfl, rfl⟩) (by assumption) ?_
            try simp only [Act.put, List.setIfInBounds_toArray, List.set_cons_zero, List.set_cons_succ]
            refine wpAnyH_take (i := 18) (oi := { dst := some 65, op := Go.Op.fieldAddr 57 (Go.Operand.tmp 64) 0, type := 0, pos := "ref.go:149", after := #[{ on := 17, ground := Go.Ground.data }, { on := 11, ground := Go.Ground.guard }], guard := some (11, false) }) (v := undef) rfl (by kernel_rfl) (by kernel_rfl) (by kernel_rfl) (fun _ _ _ h => h) (Or.inr ⟨by rfl, rfl⟩) (by assumption) ?_
            try simp only [Act.put, List.setIfInBounds_toArray, List.set_cons_zero, List.set_cons_succ]
            refine wpAnyH_take (i := 19) (oi := { dst := some 66, op := Go.Op.load 9 (Go.Operand.tmp 65), type := 9, pos := "ref.go:149", after := #[{ on := 18, ground := Go.Ground.data }, { on := 11, ground := Go.Ground.guard }], guard := some (11, false) }) (v := undef) rfl (by kernel_rfl) (by kernel_rfl) (by kernel_rfl) (fun _ _ _ h => h) (Or.inr ⟨by rfl, rfl⟩) (by assumption) ?_
            try simp only [Act.put, List.setIfInBounds_toArray, List.set_cons_zero, List.set_cons_succ]
            refine wpAnyH_take (i := 20) (oi := { dst := some 67, op := Go.Op.call { callee := Go.Callee.value (Go.Operand.func 37), args := #[Go.Operand.tmp 61, Go.Operand.tmp 66], argTypes := #[31, 9] }, type := 3, pos := "ref.go:149", after := #[{ on := 14, ground := Go.Ground.data }, { on := 19, ground := Go.Ground.data }, { on := 11, ground := Go.Ground.chain }, { on := 11, ground := Go.Ground.guard }], guard := some (11, false) }) (v := undef) rfl (by kernel_rfl) (by kernel_rfl) (by kernel_rfl) (fun _ _ _ h => h) (Or.inr ⟨by rfl, rfl⟩) (by assumption) ?_
            try simp only [Act.put, List.setIfInBounds_toArray, List.set_cons_zero, List.set_cons_succ]
            refine wpAnyH_take (i := 21) (oi := { dst := some 68, op := Go.Op.binOp Go.BinOp.geq 3 (Go.Operand.tmp 67) (Go.Operand.const (Go.Value.int Go.IntKind.i64 0)) 3, type := 4, pos := "ref.go:149", after := #[{ on := 20, ground := Go.Ground.data }, { on := 11, ground := Go.Ground.guard }], guard := some (11, false) }) (v := undef) rfl (by kernel_rfl) (by kernel_rfl) (by kernel_rfl) (fun _ _ _ h => h) (Or.inr ⟨by rfl, rfl⟩) (by assumption) ?_
            try simp only [Act.put, List.setIfInBounds_toArray, List.set_cons_zero, List.set_cons_succ]
            refine wpAnyH_take (i := 22) (oi := { dst := some 69, op := Go.Op.pick (Go.Operand.tmp 58) (Go.Operand.const (Go.Value.bool true)) (Go.Operand.tmp 68), type := 4, pos := "ref.go:149", after := #[{ on := 11, ground := Go.Ground.data }, { on := 21, ground := Go.Ground.data }], guard := none }) (v := ?_) rfl (by kernel_rfl) (by kernel_rfl) (by kernel_rfl) (fun _ _ _ h => h) (Or.inl ⟨by rfl, ?_⟩) (by assumption) ?_
            rotate_left
            · (intro u hSw; (subst hSw); go_simp; try (with_reducible rfl))
            try simp only [Act.put, List.setIfInBounds_toArray, List.set_cons_zero, List.set_cons_succ]
            refine wpAnyH_done (by kernel_rfl) ?_ _
            go_wp2
            go_ret
            exact ⟨by rw [← HTe.out]; rfl, by rw [← HTe.out]; exact HT.out.ext HD.out, Turn.ofExt _ HD.out⟩
          | false =>
            have HY := Lib.hid (rtat_no wr.drew p0 c0 M0 (HP0.out.ext hD) (by rw [HRL0.out]; omega) xp (by rw [HM0.out]; exact hh1))
            rw [HRL0.out] at HY
            rw [hh1] at hdu
            cases hh2 : hasR ((M.take j).map Ent.row) xp with
            | true =>
              have HZ := Lib.hid (rtat_yes wr.drew (some pa) c (M.take j) ((HP.out.ext hD).take j) (by omega) xp hh2)
              rw [htl] at HZ
              rw [hh2] at hdu
              have hdt : dup = true := by rw [← hdu]; rfl
              subst hdt
              have hTe := HTd.out
              rw [if_pos rfl] at hTe
              have HTe := Lib.hid hTe
              clear hdr htk hdu hx hh1 hh2 hTe htl hD
              go_wp2
              refine wp_region_held_drew (S := fun u => u = wr.drew) (by kernel_rfl) rfl (fun hHeld => ?_)
              refine wpAnyH_take (i := 0) (oi := { dst := some 47, op := Go.Op.move (Go.Operand.tmp 0), type := 30, pos := "ref.go:149", after := #[], guard := none }) (v := ?_) rfl (by kernel_rfl) (by kernel_rfl) (by kernel_rfl) (fun _ _ _ h => h) (Or.inl ⟨by rfl, ?_⟩) (by assumption) ?_
              rotate_left
              · (intro u hSw; (subst hSw); go_simp; try (with_reducible rfl))
              try simp only [Act.put, List.setIfInBounds_toArray, List.set_cons_zero, List.set_cons_succ]
              refine wpAnyH_take (i := 1) (oi := { dst := some 48, op := Go.Op.nilCheck (Go.Operand.tmp 47), type := 0, pos := "ref.go:149", after := #[{ on := 0, ground := Go.Ground.data }], guard := none }) (v := ?_) rfl (by kernel_rfl) (by kernel_rfl) (by kernel_rfl) (fun _ _ _ h => h) (Or.inl ⟨by rfl, ?_⟩) (by assumption) ?_
              rotate_left
              · (intro u hSw; (subst hSw); go_simp; try (with_reducible rfl))
              try simp only [Act.put, List.setIfInBounds_toArray, List.set_cons_zero, List.set_cons_succ]
              refine wpAnyH_take (i := 2) (oi := { dst := some 49, op := Go.Op.fieldAddr 33 (Go.Operand.tmp 48) 1, type := 0, pos := "ref.go:149", after := #[{ on := 1, ground := Go.Ground.data }], guard := none }) (v := ?_) rfl (by kernel_rfl) (by kernel_rfl) (by kernel_rfl) (fun _ _ _ h => h) (Or.inl ⟨by rfl, ?_⟩) (by assumption) ?_
              rotate_left
              · (intro u hSw; (subst hSw); go_simp; try (with_reducible rfl))
              try simp only [Act.put, List.setIfInBounds_toArray, List.set_cons_zero, List.set_cons_succ]
              refine wpAnyH_take (i := 3) (oi := { dst := some 50, op := Go.Op.load 31 (Go.Operand.tmp 49), type := 31, pos := "ref.go:149", after := #[{ on := 2, ground := Go.Ground.data }], guard := none }) (v := ?_) rfl (by kernel_rfl) (by kernel_rfl) (by kernel_rfl) (fun _ _ _ h => h) (Or.inl ⟨by rfl, ?_⟩) (by assumption) ?_
              rotate_left
              · (intro u hSw; (subst hSw); go_simp; try (with_reducible rfl))
              try simp only [Act.put, List.setIfInBounds_toArray, List.set_cons_zero, List.set_cons_succ]
              refine wpAnyH_take (i := 4) (oi := { dst := some 51, op := Go.Op.move (Go.Operand.tmp 1), type := 31, pos := "ref.go:149", after := #[], guard := none }) (v := ?_) rfl (by kernel_rfl) (by kernel_rfl) (by kernel_rfl) (fun _ _ _ h => h) (Or.inl ⟨by rfl, ?_⟩) (by assumption) ?_
              rotate_left
              · (intro u hSw; (subst hSw); go_simp; try (with_reducible rfl))
              try simp only [Act.put, List.setIfInBounds_toArray, List.set_cons_zero, List.set_cons_succ]
              refine wpAnyH_take (i := 5) (oi := { dst := some 52, op := Go.Op.move (Go.Operand.tmp 6), type := 3, pos := "ref.go:149", after := #[], guard := none }) (v := ?_) rfl (by kernel_rfl) (by kernel_rfl) (by kernel_rfl) (fun _ _ _ h => h) (Or.inl ⟨by rfl, ?_⟩) (by assumption) ?_
              rotate_left
              · (intro u hSw; (subst hSw); go_simp; try (with_reducible rfl))
              try simp only [Act.put, List.setIfInBounds_toArray, List.set_cons_zero, List.set_cons_succ]
              refine wpAnyH_take (i := 6) (oi := { dst := some 53, op := Go.Op.indexAddr 31 (Go.Operand.tmp 51) (Go.Operand.tmp 52), type := 0, pos := "ref.go:149", after := #[{ on := 4, ground := Go.Ground.data }, { on := 5, ground := Go.Ground.data }], guard := none }) (v := ?_) rfl (by kernel_rfl) (by kernel_rfl) (by kernel_rfl) (fun _ _ _ h => h) (Or.inl ⟨by rfl, ?_⟩) (by assumption) ?_
              rotate_left
              · (intro u hSw; (subst hSw); go_simp; try (with_reducible rfl))
              try simp only [Act.put, List.setIfInBounds_toArray, List.set_cons_zero, List.set_cons_succ]
              refine wpAnyH_take (i := 7) (oi := { dst := some 54, op := Go.Op.fieldAddr 57 (Go.Operand.tmp 53) 0, type := 0, pos := "ref.go:149", after := #[{ on := 6, ground := Go.Ground.data }], guard := none }) (v := ?_) rfl (by kernel_rfl) (by kernel_rfl) (by kernel_rfl) (fun _ _ _ h => h) (Or.inl ⟨by rfl, ?_⟩) (by assumption) ?_
              rotate_left
              · (intro u hSw; (subst hSw); go_simp; try (with_reducible rfl))
              try simp only [Act.put, List.setIfInBounds_toArray, List.set_cons_zero, List.set_cons_succ]
              refine wpAnyH_take (i := 8) (oi := { dst := some 55, op := Go.Op.load 9 (Go.Operand.tmp 54), type := 9, pos := "ref.go:149", after := #[{ on := 7, ground := Go.Ground.data }], guard := none }) (v := ?_) rfl (by kernel_rfl) (by kernel_rfl) (by kernel_rfl) (fun _ _ _ h => h) (Or.inl ⟨by rfl, ?_⟩) (by assumption) ?_
              rotate_left
              · (intro u hSw; (subst hSw); go_simp; try (with_reducible rfl))
              try simp only [Act.put, List.setIfInBounds_toArray, List.set_cons_zero, List.set_cons_succ]
              refine wpAnyH_ready (rs := [9]) (by kernel_rfl) (by simp) ?_
              refine AllReadyH.cons (o := { dst := some 56, op := Go.Op.call { callee := Go.Callee.value (Go.Operand.func 37), args := #[Go.Operand.tmp 50, Go.Operand.tmp 55], argTypes := #[31, 9] }, type := 3, pos := "ref.go:149", after := #[{ on := 3, ground := Go.Ground.data }, { on := 8, ground := Go.Ground.data }], guard := none }) rfl (fun K hK => ?_) AllReadyH.nil
              go_simp
              go_at_call 37
              refine HY.out.mono ?_
              rintro e w6 ⟨rfl, rfl⟩
              go_wp2_with fail
              refine hK.out _ _ rfl (fun hHeld => ?_)
              clear hK K
              try simp only [Act.put, List.setIfInBounds_toArray, List.set_cons_zero, List.set_cons_succ]
              refine wpAnyH_take (i := 10) (oi := { dst := some 57, op := Go.Op.binOp Go.BinOp.geq 3 (Go.Operand.tmp 56) (Go.Operand.const (Go.Value.int Go.IntKind.i64 0)) 3, type := 4, pos := "ref.go:149", after := #[{ on := 9, ground := Go.Ground.data }], guard := none }) (v := ?_) rfl (by kernel_rfl) (by kernel_rfl) (by kernel_rfl) (fun _ _ _ h => h) (Or.inl ⟨by rfl, ?_⟩) (by assumption) ?_
              rotate_left
              · (intro u hSw; (subst hSw); go_simp; try (with_reducible rfl))
              try simp only [Act.put, List.setIfInBounds_toArray, List.set_cons_zero, List.set_cons_succ]
              refine wpAnyH_take (i := 11) (oi := { dst := some 58, op := Go.Op.move (Go.Operand.tmp 57), type := 4, pos := "ref.go:149", after := #[{ on := 10, ground := Go.Ground.data }, { on := 9, ground := Go.Ground.chain }], guard := none }) (v := ?_) rfl (by kernel_rfl) (by kernel_rfl) (by kernel_rfl) (fun _ _ _ h => h) (Or.inl ⟨by rfl, ?_⟩) (by assumption) ?_
              rotate_left
              · (intro u hSw; (subst hSw); go_simp; try (with_reducible rfl))
              try simp only [Act.put, List.setIfInBounds_toArray, List.set_cons_zero, List.set_cons_succ]
              refine wpAnyH_take (i := 12) (oi := { dst := some 59, op := Go.Op.move (Go.Operand.tmp 1), type := 31, pos := "ref.go:149", after := #[{ on := 11, ground := Go.Ground.guard }], guard := some (11, false) }) (v := ?_) rfl (by kernel_rfl) (by kernel_rfl) (by kernel_rfl) (fun _ _ _ h => h) (Or.inl ⟨by rfl, ?_⟩) (by assumption) ?_
              rotate_left
              · (intro u hSw; (subst hSw); go_simp; try (with_reducible rfl))
              try simp only [Act.put, List.setIfInBounds_toArray, List.set_cons_zero, List.set_cons_succ]
              refine wpAnyH_take (i := 13) (oi := { dst := some 60, op := Go.Op.move (Go.Operand.tmp 6), type := 3, pos := "ref.go:149", after := #[{ on := 11, ground := Go.Ground.guard }], guard := some (11, false) }) (v := ?_) rfl (by kernel_rfl) (by kernel_rfl) (by kernel_rfl) (fun _ _ _ h => h) (Or.inl ⟨by rfl, ?_⟩) (by assumption) ?_
              rotate_left
              · (intro u hSw; (subst hSw); go_simp; try (with_reducible rfl))
              try simp only [Act.put, List.setIfInBounds_toArray, List.set_cons_zero, List.set_cons_succ]
              refine wpAnyH_take (i := 14) (oi := { dst := some 61, op := Go.Op.slice 31 (Go.Operand.tmp 59) none (some (Go.Operand.tmp 60)) none, type := 31, pos := "ref.go:149", after := #[{ on := 12, ground := Go.Ground.data }, { on := 13, ground := Go.Ground.data }, { on := 11, ground := Go.Ground.guard }], guard := some (11, false) }) (v := ?_) rfl (by kernel_rfl) (by kernel_rfl) (by kernel_rfl) (fun _ _ _ h => h) (Or.inl ⟨by rfl, ?_⟩) (by assumption) ?_
              rotate_left
              · (intro u hSw; (subst hSw); go_simp; try (with_reducible rfl))
              try simp only [Act.put, List.setIfInBounds_toArray, List.set_cons_zero, List.set_cons_succ]
              refine wpAnyH_take (i := 15) (oi := { dst := some 62, op := Go.Op.move (Go.Operand.tmp 1), type := 31, pos := "ref.go:149", after := #[{ on := 11, ground := Go.Ground.guard }], guard := some (11, false) }) (v := ?_) rfl (by kernel_rfl) (by kernel_rfl) (by kernel_rfl) (fun _ _ _ h => h) (Or.inl ⟨by rfl, ?_⟩) (by assumption) ?_
              rotate_left
              · (intro u hSw; (subst hSw); go_simp; try (with_reducible rfl))
              try simp only [Act.put, List.setIfInBounds_toArray, List.set_cons_zero, List.set_cons_succ]
              refine wpAnyH_take (i := 16) (oi := { dst := some 63, op := Go.Op.move (Go.Operand.tmp 6), type := 3, pos := "ref.go:149", after := #[{ on := 11, ground := Go.Ground.guard }], guard := some (11, false) }) (v := ?_) rfl (by kernel_rfl) (by kernel_rfl) (by kernel_rfl) (fun _ _ _ h => h) (Or.inl ⟨by rfl, ?_⟩) (by assumption) ?_
              rotate_left
              · (intro u hSw; (subst hSw); go_simp; try (with_reducible rfl))
              try simp only [Act.put, List.setIfInBounds_toArray, List.set_cons_zero, List.set_cons_succ]
              refine wpAnyH_take (i := 17) (oi := { dst := some 64, op := Go.Op.indexAddr 31 (Go.Operand.tmp 62) (Go.Operand.tmp 63), type := 0, pos := "ref.go:149", after := #[{ on := 15, ground := Go.Ground.data }, { on := 16, ground := Go.Ground.data }, { on := 11, ground := Go.Ground.guard }], guard := some (11, false) }) (v := ?_) rfl (by kernel_rfl) (by kernel_rfl) (by kernel_rfl) (fun _ _ _ h => h) (Or.inl ⟨by rfl, ?_⟩) (by assumption) ?_
              rotate_left
              · (intro u hSw; (subst hSw); go_simp; try (with_reducible rfl))
              try simp only [Act.put, List.setIfInBounds_toArray, List.set_cons_zero, List.set_cons_succ]
              refine wpAnyH_take (i := 18) (oi := { dst := some 65, op := Go.Op.fieldAddr 57 (Go.Operand.tmp 64) 0, type := 0, pos := "ref.go:149", after := #[{ on := 17, ground := Go.Ground.data }, { on := 11, ground := Go.Ground.guard }], guard := some (11, false) }) (v := ?_) rfl (by kernel_rfl) (by kernel_rfl) (by kernel_rfl) (fun _ _ _ h => h) (Or.inl ⟨by rfl, ?_⟩) (by assumption) ?_
              rotate_left
              · (intro u hSw; (subst hSw); go_simp; try (with_reducible rfl))
              try simp only [Act.put, List.setIfInBounds_toArray, List.set_cons_zero, List.set_cons_succ]
              refine wpAnyH_take (i := 19) (oi := { dst := some 66, op := Go.Op.load 9 (Go.Operand.tmp 65), type := 9, pos := "ref.go:149", after := #[{ on := 18, ground := Go.Ground.data }, { on := 11, ground := Go.Ground.guard }], guard := some (11, false) }) (v := ?_) rfl (by kernel_rfl) (by kernel_rfl) (by kernel_rfl) (fun _ _ _ h => h) (Or.inl ⟨by rfl, ?_⟩) (by assumption) ?_
              rotate_left
              · (intro u hSw; (subst hSw); go_simp; try (with_reducible rfl))
              try simp only [Act.put, List.setIfInBounds_toArray, List.set_cons_zero, List.set_cons_succ]
              refine wpAnyH_ready (rs := [20]) (by kernel_rfl) (by simp) ?_
              refine AllReadyH.cons (o := { dst := some 67, op := Go.Op.call { callee := Go.Callee.value (Go.Operand.func 37), args := #[Go.Operand.tmp 61, Go.Operand.tmp 66], argTypes := #[31, 9] }, type := 3, pos := "ref.go:149", after := #[{ on := 14, ground := Go.Ground.data }, { on := 19, ground := Go.Ground.data }, { on := 11, ground := Go.Ground.chain }, { on := 11, ground := Go.Ground.guard }], guard := some (11, false) }) rfl (fun K hK => ?_) AllReadyH.nil
              go_simp
              go_at_call 37
              refine HZ.out.mono ?_
              rintro e w7 ⟨rfl, k7, rfl, -⟩
              go_wp2_with fail
              refine hK.out _ _ rfl (fun hHeld => ?_)
              clear hK K
              try simp only [Act.put, List.setIfInBounds_toArray, List.set_cons_zero, List.set_cons_succ]
              refine wpAnyH_take (i := 21) (oi := { dst := some 68, op := Go.Op.binOp Go.BinOp.geq 3 (Go.Operand.tmp 67) (Go.Operand.const (Go.Value.int Go.IntKind.i64 0)) 3, type := 4, pos := "ref.go:149", after := #[{ on := 20, ground := Go.Ground.data }, { on := 11, ground := Go.Ground.guard }], guard := some (11, false) }) (v := ?_) rfl (by kernel_rfl) (by kernel_rfl) (by kernel_rfl) (fun _ _ _ h => h) (Or.inl ⟨by rfl, ?_⟩) (by assumption) ?_
              rotate_left
              · (intro u hSw; (subst hSw); go_simp; try (with_reducible rfl))
              try simp only [Act.put, List.setIfInBounds_toArray, List.set_cons_zero, List.set_cons_succ]
              refine wpAnyH_take (i := 22) (oi := { dst := some 69, op := Go.Op.pick (Go.Operand.tmp 58) (Go.Operand.const (Go.Value.bool true)) (Go.Operand.tmp 68), type := 4, pos := "ref.go:149", after := #[{ on := 11, ground := Go.Ground.data }, { on := 21, ground := Go.Ground.data }], guard := none }) (v := ?_) rfl (by kernel_rfl) (by kernel_rfl) (by kernel_rfl) (fun _ _ _ h => h) (Or.inl ⟨by rfl, ?_⟩) (by assumption) ?_
              rotate_left
              · (intro u hSw; (subst hSw); go_simp; try (with_reducible rfl))
              try simp only [Act.put, List.setIfInBounds_toArray, List.set_cons_zero, List.set_cons_succ]
              refine wpAnyH_done (by kernel_rfl) ?_ _
              go_wp2
              go_ret
              exact ⟨by rw [← HTe.out]; rfl, by rw [← HTe.out]; exact HT.out.ext HD.out, Turn.ofExt _ HD.out⟩
            | false =>
              have HZ := Lib.hid (rtat_no wr.drew (some pa) c (M.take j) ((HP.out.ext hD).take j) (by omega) xp hh2)
              rw [htl] at HZ
              rw [hh2] at hdu
              simp only [Bool.or_self, Bool.false_eq_true, if_false] at hdu
              have HDu2 := Lib.hid hdu
              clear hdr htk hdu hx hh1 hh2 htl hD
              go_wp2
              refine wp_region_held_drew (S := fun u => u = wr.drew) (by kernel_rfl) rfl (fun hHeld => ?_)
              refine wpAnyH_take (i := 0) (oi := { dst := some 47, op := Go.Op.move (Go.Operand.tmp 0), type := 30, pos := "ref.go:149", after := #[], guard := none }) (v := ?_) rfl (by kernel_rfl) (by kernel_rfl) (by kernel_rfl) (fun _ _ _ h => h) (Or.inl ⟨by rfl, ?_⟩) (by assumption) ?_
              rotate_left
              · (intro u hSw; (subst hSw); go_simp; try (with_reducible rfl))
              try simp only [Act.put, List.setIfInBounds_toArray, List.set_cons_zero, List.set_cons_succ]
              refine wpAnyH_take (i := 1) (oi := { dst := some 48, op := Go.Op.nilCheck (Go.Operand.tmp 47), type := 0, pos := "ref.go:149", after := #[{ on := 0, ground := Go.Ground.data }], guard := none }) (v := ?_) rfl (by kernel_rfl) (by kernel_rfl) (by kernel_rfl) (fun _ _ _ h => h) (Or.inl ⟨by rfl, ?_⟩) (by assumption) ?_
              rotate_left
              · (intro u hSw; (subst hSw); go_simp; try (with_reducible rfl))
              try simp only [Act.put, List.setIfInBounds_toArray, List.set_cons_zero, List.set_cons_succ]
              refine wpAnyH_take (i := 2) (oi := { dst := some 49, op := Go.Op.fieldAddr 33 (Go.Operand.tmp 48) 1, type := 0, pos := "ref.go:149", after := #[{ on := 1, ground := Go.Ground.data }], guard := none }) (v := ?_) rfl (by kernel_rfl) (by kernel_rfl) (by kernel_rfl) (fun _ _ _ h => h) (Or.inl ⟨by rfl, ?_⟩) (by assumption) ?_
              rotate_left
              · (intro u hSw; (subst hSw); go_simp; try (with_reducible rfl))
              try simp only [Act.put, List.setIfInBounds_toArray, List.set_cons_zero, List.set_cons_succ]
              refine wpAnyH_take (i := 3) (oi := { dst := some 50, op := Go.Op.load 31 (Go.Operand.tmp 49), type := 31, pos := "ref.go:149", after := #[{ on := 2, ground := Go.Ground.data }], guard := none }) (v := ?_) rfl (by kernel_rfl) (by kernel_rfl) (by kernel_rfl) (fun _ _ _ h => h) (Or.inl ⟨by rfl, ?_⟩) (by assumption) ?_
              rotate_left
              · (intro u hSw; (subst hSw); go_simp; try (with_reducible rfl))
              try simp only [Act.put, List.setIfInBounds_toArray, List.set_cons_zero, List.set_cons_succ]
              refine wpAnyH_take (i := 4) (oi := { dst := some 51, op := Go.Op.move (Go.Operand.tmp 1), type := 31, pos := "ref.go:149", after := #[], guard := none }) (v := ?_) rfl (by kernel_rfl) (by kernel_rfl) (by kernel_rfl) (fun _ _ _ h => h) (Or.inl ⟨by rfl, ?_⟩) (by assumption) ?_
              rotate_left
              · (intro u hSw; (subst hSw); go_simp; try (with_reducible rfl))
              try simp only [Act.put, List.setIfInBounds_toArray, List.set_cons_zero, List.set_cons_succ]
              refine wpAnyH_take (i := 5) (oi := { dst := some 52, op := Go.Op.move (Go.Operand.tmp 6), type := 3, pos := "ref.go:149", after := #[], guard := none }) (v := ?_) rfl (by kernel_rfl) (by kernel_rfl) (by kernel_rfl) (fun _ _ _ h => h) (Or.inl ⟨by rfl, ?_⟩) (by assumption) ?_
              rotate_left
              · (intro u hSw; (subst hSw); go_simp; try (with_reducible rfl))
              try simp only [Act.put, List.setIfInBounds_toArray, List.set_cons_zero, List.set_cons_succ]
              refine wpAnyH_take (i := 6) (oi := { dst := some 53, op := Go.Op.indexAddr 31 (Go.Operand.tmp 51) (Go.Operand.tmp 52), type := 0, pos := "ref.go:149", after := #[{ on := 4, ground := Go.Ground.data }, { on := 5, ground := Go.Ground.data }], guard := none }) (v := ?_) rfl (by kernel_rfl) (by kernel_rfl) (by kernel_rfl) (fun _ _ _ h => h) (Or.inl ⟨by rfl, ?_⟩) (by assumption) ?_
              rotate_left
              · (intro u hSw; (subst hSw); go_simp; try (with_reducible rfl))
              try simp only [Act.put, List.setIfInBounds_toArray, List.set_cons_zero, List.set_cons_succ]
              refine wpAnyH_take (i := 7) (oi := { dst := some 54, op := Go.Op.fieldAddr 57 (Go.Operand.tmp 53) 0, type := 0, pos := "ref.go:149", after := #[{ on := 6, ground := Go.Ground.data }], guard := none }) (v := ?_) rfl (by kernel_rfl) (by kernel_rfl) (by kernel_rfl) (fun _ _ _ h => h) (Or.inl ⟨by rfl, ?_⟩) (by assumption) ?_
              rotate_left
              · (intro u hSw; (subst hSw); go_simp; try (with_reducible rfl))
              try simp only [Act.put, List.setIfInBounds_toArray, List.set_cons_zero, List.set_cons_succ]
              refine wpAnyH_take (i := 8) (oi := { dst := some 55, op := Go.Op.load 9 (Go.Operand.tmp 54), type := 9, pos := "ref.go:149", after := #[{ on := 7, ground := Go.Ground.data }], guard := none }) (v := ?_) rfl (by kernel_rfl) (by kernel_rfl) (by kernel_rfl) (fun _ _ _ h => h) (Or.inl ⟨by rfl, ?_⟩) (by assumption) ?_
              rotate_left
              · (intro u hSw; (subst hSw); go_simp; try (with_reducible rfl))
              try simp only [Act.put, List.setIfInBounds_toArray, List.set_cons_zero, List.set_cons_succ]
              refine wpAnyH_ready (rs := [9]) (by kernel_rfl) (by simp) ?_
              refine AllReadyH.cons (o := { dst := some 56, op := Go.Op.call { callee := Go.Callee.value (Go.Operand.func 37), args := #[Go.Operand.tmp 50, Go.Operand.tmp 55], argTypes := #[31, 9] }, type := 3, pos := "ref.go:149", after := #[{ on := 3, ground := Go.Ground.data }, { on := 8, ground := Go.Ground.data }], guard := none }) rfl (fun K hK => ?_) AllReadyH.nil
              go_simp
              go_at_call 37
              refine HY.out.mono ?_
              rintro e w6 ⟨rfl, rfl⟩
              go_wp2_with fail
              refine hK.out _ _ rfl (fun hHeld => ?_)
              clear hK K
              try simp only [Act.put, List.setIfInBounds_toArray, List.set_cons_zero, List.set_cons_succ]
              refine wpAnyH_take (i := 10) (oi := { dst := some 57, op := Go.Op.binOp Go.BinOp.geq 3 (Go.Operand.tmp 56) (Go.Operand.const (Go.Value.int Go.IntKind.i64 0)) 3, type := 4, pos := "ref.go:149", after := #[{ on := 9, ground := Go.Ground.data }], guard := none }) (v := ?_) rfl (by kernel_rfl) (by kernel_rfl) (by kernel_rfl) (fun _ _ _ h => h) (Or.inl ⟨by rfl, ?_⟩) (by assumption) ?_
              rotate_left
              · (intro u hSw; (subst hSw); go_simp; try (with_reducible rfl))
              try simp only [Act.put, List.setIfInBounds_toArray, List.set_cons_zero, List.set_cons_succ]
              refine wpAnyH_take (i := 11) (oi := { dst := some 58, op := Go.Op.move (Go.Operand.tmp 57), type := 4, pos := "ref.go:149", after := #[{ on := 10, ground := Go.Ground.data }, { on := 9, ground := Go.Ground.chain }], guard := none }) (v := ?_) rfl (by kernel_rfl) (by kernel_rfl) (by kernel_rfl) (fun _ _ _ h => h) (Or.inl ⟨by rfl, ?_⟩) (by assumption) ?_
              rotate_left
              · (intro u hSw; (subst hSw); go_simp; try (with_reducible rfl))
              try simp only [Act.put, List.setIfInBounds_toArray, List.set_cons_zero, List.set_cons_succ]
              refine wpAnyH_take (i := 12) (oi := { dst := some 59, op := Go.Op.move (Go.Operand.tmp 1), type := 31, pos := "ref.go:149", after := #[{ on := 11, ground := Go.Ground.guard }], guard := some (11, false) }) (v := ?_) rfl (by kernel_rfl) (by kernel_rfl) (by kernel_rfl) (fun _ _ _ h => h) (Or.inl ⟨by rfl, ?_⟩) (by assumption) ?_
              rotate_left
              · (intro u hSw; (subst hSw); go_simp; try (with_reducible rfl))
              try simp only [Act.put, List.setIfInBounds_toArray, List.set_cons_zero, List.set_cons_succ]
              refine wpAnyH_take (i := 13) (oi := { dst := some 60, op := Go.Op.move (Go.Operand.tmp 6), type := 3, pos := "ref.go:149", after := #[{ on := 11, ground := Go.Ground.guard }], guard := some (11, false) }) (v := ?_) rfl (by kernel_rfl) (by kernel_rfl) (by kernel_rfl) (fun _ _ _ h => h) (Or.inl ⟨by rfl, ?_⟩) (by assumption) ?_
              rotate_left
              · (intro u hSw; (subst hSw); go_simp; try (with_reducible rfl))
              try simp only [Act.put, List.setIfInBounds_toArray, List.set_cons_zero, List.set_cons_succ]
              refine wpAnyH_take (i := 14) (oi := { dst := some 61, op := Go.Op.slice 31 (Go.Operand.tmp 59) none (some (Go.Operand.tmp 60)) none, type := 31, pos := "ref.go:149", after := #[{ on := 12, ground := Go.Ground.data }, { on := 13, ground := Go.Ground.data }, { on := 11, ground := Go.Ground.guard }], guard := some (11, false) }) (v := ?_) rfl (by kernel_rfl) (by kernel_rfl) (by kernel_rfl) (fun _ _ _ h => h) (Or.inl ⟨by rfl, ?_⟩) (by assumption) ?_
              rotate_left
              · (intro u hSw; (subst hSw); go_simp; try (with_reducible rfl))
              try simp only [Act.put, List.setIfInBounds_toArray, List.set_cons_zero, List.set_cons_succ]
              refine wpAnyH_take (i := 15) (oi := { dst := some 62, op := Go.Op.move (Go.Operand.tmp 1), type := 31, pos := "ref.go:149", after := #[{ on := 11, ground := Go.Ground.guard }], guard := some (11, false) }) (v := ?_) rfl (by kernel_rfl) (by kernel_rfl) (by kernel_rfl) (fun _ _ _ h => h) (Or.inl ⟨by rfl, ?_⟩) (by assumption) ?_
              rotate_left
              · (intro u hSw; (subst hSw); go_simp; try (with_reducible rfl))
              try simp only [Act.put, List.setIfInBounds_toArray, List.set_cons_zero, List.set_cons_succ]
              refine wpAnyH_take (i := 16) (oi := { dst := some 63, op := Go.Op.move (Go.Operand.tmp 6), type := 3, pos := "ref.go:149", after := #[{ on := 11, ground := Go.Ground.guard }], guard := some (11, false) }) (v := ?_) rfl (by kernel_rfl) (by kernel_rfl) (by kernel_rfl) (fun _ _ _ h => h) (Or.inl ⟨by rfl, ?_⟩) (by assumption) ?_
              rotate_left
              · (intro u hSw; (subst hSw); go_simp; try (with_reducible rfl))
              try simp only [Act.put, List.setIfInBounds_toArray, List.set_cons_zero, List.set_cons_succ]
              refine wpAnyH_take (i := 17) (oi := { dst := some 64, op := Go.Op.indexAddr 31 (Go.Operand.tmp 62) (Go.Operand.tmp 63), type := 0, pos := "ref.go:149", after := #[{ on := 15, ground := Go.Ground.data }, { on := 16, ground := Go.Ground.data }, { on := 11, ground := Go.Ground.guard }], guard := some (11, false) }) (v := ?_) rfl (by kernel_rfl) (by kernel_rfl) (by kernel_rfl) (fun _ _ _ h => h) (Or.inl ⟨by rfl, ?_⟩) (by assumption) ?_
              rotate_left
              · (intro u hSw; (subst hSw); go_simp; try (with_reducible rfl))
              try simp only [Act.put, List.setIfInBounds_toArray, List.set_cons_zero, List.set_cons_succ]
              refine wpAnyH_take (i := 18) (oi := { dst := some 65, op := Go.Op.fieldAddr 57 (Go.Operand.tmp 64) 0, type := 0, pos := "ref.go:149", after := #[{ on := 17, ground := Go.Ground.data }, { on := 11, ground := Go.Ground.guard }], guard := some (11, false) }) (v := ?_) rfl (by kernel_rfl) (by kernel_rfl) (by kernel_rfl) (fun _ _ _ h => h) (Or.inl ⟨by rfl, ?_⟩) (by assumption) ?_
              rotate_left
              · (intro u hSw; (subst hSw); go_simp; try (with_reducible rfl))
              try simp only [Act.put, List.setIfInBounds_toArray, List.set_cons_zero, List.set_cons_succ]
              refine wpAnyH_take (i := 19) (oi := { dst := some 66, op := Go.Op.load 9 (Go.Operand.tmp 65), type := 9, pos := "ref.go:149", after := #[{ on := 18, ground := Go.Ground.data }, { on := 11, ground := Go.Ground.guard }], guard := some (11, false) }) (v := ?_) rfl (by kernel_rfl) (by kernel_rfl) (by kernel_rfl) (fun _ _ _ h => h) (Or.inl ⟨by rfl, ?_⟩) (by assumption) ?_
              rotate_left
              · (intro u hSw; (subst hSw); go_simp; try (with_reducible rfl))
              try simp only [Act.put, List.setIfInBounds_toArray, List.set_cons_zero, List.set_cons_succ]
              refine wpAnyH_ready (rs := [20]) (by kernel_rfl) (by simp) ?_
              refine AllReadyH.cons (o := { dst := some 67, op := Go.Op.call { callee := Go.Callee.value (Go.Operand.func 37), args := #[Go.Operand.tmp 61, Go.Operand.tmp 66], argTypes := #[31, 9] }, type := 3, pos := "ref.go:149", after := #[{ on := 14, ground := Go.Ground.data }, { on := 19, ground := Go.Ground.data }, { on := 11, ground := Go.Ground.chain }, { on := 11, ground := Go.Ground.guard }], guard := some (11, false) }) rfl (fun K hK => ?_) AllReadyH.nil
              go_simp
              go_at_call 37
              refine HZ.out.mono ?_
              rintro e w7 ⟨rfl, rfl⟩
              go_wp2_with fail
              refine hK.out _ _ rfl (fun hHeld => ?_)
              clear hK K
              try simp only [Act.put, List.setIfInBounds_toArray, List.set_cons_zero, List.set_cons_succ]
              refine wpAnyH_take (i := 21) (oi := { dst := some 68, op := Go.Op.binOp Go.BinOp.geq 3 (Go.Operand.tmp 67) (Go.Operand.const (Go.Value.int Go.IntKind.i64 0)) 3, type := 4, pos := "ref.go:149", after := #[{ on := 20, ground := Go.Ground.data }, { on := 11, ground := Go.Ground.guard }], guard := some (11, false) }) (v := ?_) rfl (by kernel_rfl) (by kernel_rfl) (by kernel_rfl) (fun _ _ _ h => h) (Or.inl ⟨by rfl, ?_⟩) (by assumption) ?_
              rotate_left
              · (intro u hSw; (subst hSw); go_simp; try (with_reducible rfl))
              try simp only [Act.put, List.setIfInBounds_toArray, List.set_cons_zero, List.set_cons_succ]
              refine wpAnyH_take (i := 22) (oi := { dst := some 69, op := Go.Op.pick (Go.Operand.tmp 58) (Go.Operand.const (Go.Value.bool true)) (Go.Operand.tmp 68), type := 4, pos := "ref.go:149", after := #[{ on := 11, ground := Go.Ground.data }, { on := 21, ground := Go.Ground.data }], guard := none }) (v := ?_) rfl (by kernel_rfl) (by kernel_rfl) (by kernel_rfl) (fun _ _ _ h => h) (Or.inl ⟨by rfl, ?_⟩) (by assumption) ?_
              rotate_left
              · (intro u hSw; (subst hSw); go_simp; try (with_reducible rfl))
              try simp only [Act.put, List.setIfInBounds_toArray, List.set_cons_zero, List.set_cons_succ]
              refine wpAnyH_done (by kernel_rfl) ?_ _
              go_wp2
              go_roundw
              case rel => exact ⟨j + 1, hlt2, by go_num, HDu2, HD⟩
              case measure => simp [intOf]; omega
        · obtain rfl : j = i := by omega
          have hdu := HDu.out
          rw [List.drop_of_length_le (by rw [HN.out]; exact Nat.le_refl _)] at hdu
          have hdf : dup = false := by rw [← hdu]; rfl
          subst hdf
          have hTe := HTd.out
          rw [if_neg (by simp)] at hTe
          have HTe := Lib.hid hTe
          clear hdu hTe
          go_wp2
          go_loopw [7] (fun iv wq => ∃ (k : Nat), k ≤ j ∧ iv = .int .i64 (k : Int) ∧ Hid (IsRT wq r qp qb (layR R ((M.take k).map Ent.row))) ∧ Hid (Turn (fun g => g = r) w wq)) (fun iv _ => j - (intOf iv).toNat)
          case atStart => exact ⟨0, Nat.zero_le _, rfl, Lib.hid (HT.out.ext HX.out), Lib.hid (Turn.ofExt _ HX.out)⟩
          case round =>
            clear HX HDu
            obtain ⟨k, hk, rfl, HTk, HTu⟩ := hrel
            by_cases hlt3 : k < j
            · obtain ⟨⟨xp, xm, xL, xa, xc⟩, hx⟩ : ∃ x, M[k]? = some x := ⟨_, List.getElem?_eq_getElem (by have := HN.out; omega)⟩
              have HPk := Lib.hid (HP.out.turn HTu.out HT.out.noV)
              have hok := HOkR.out _ (List.mem_of_getElem? hx)
              have hv := HPk.out.2 _ (List.mem_of_getElem? hx)
              obtain ⟨pa, rfl, g0, g1, g2⟩ := HPk.out.three (Ext.refl wr).drew hx
              obtain ⟨p1, c1, M1, hB1, hP1, hM1, hG1, hc1⟩ := HTk.out
              have hrl1 : M1.length ≤ 60000 := by
                rw [← List.length_map (f := Ent.row), hM1]
                have := layR_len ((M.take k).map Ent.row) HG.out.up
                rw [List.length_map, List.length_take] at this
                rw [← HM0.out, List.length_map, HRL0.out] at this
                rw [← HM0.out]
                omega
              have b2 := hB1.drew.cell 2 _ rfl
              have HWi := Lib.hid (rwith_any wr.drew p1 c1 M1 (hP1.ext (Ext.refl wr).drew) (by omega) ⟨xp, xm, xL, xa, xc⟩ (hv.ext (Ext.refl wr).drew))
              have HB1 := Lib.hid hB1.drew
              have hlay : (withE ⟨xp, xm, xL, xa, xc⟩ false M1).map Ent.row = layR R ((M.take (k + 1)).map Ent.row) := by
                rw [withE_is (by rw [hM1]; exact hG1.up), hM1, List.take_add_one, hx, List.map_append, Option.toList_some, List.map_cons, List.map_nil, layR_snoc]
              have hgl : GoodR (layR R ((M.take (k + 1)).map Ent.row)) := layR_good _ HG.out (fun q hq => by
                obtain ⟨y, hy, rfl⟩ := List.mem_map.1 hq
                exact HOkR.out y (List.mem_of_mem_take hy))
              have HLay := Lib.hid hlay
              have HGl := Lib.hid hgl
              have HTd2 := Lib.hid (HTk.out.ext (Ext.refl wr).drew)
              have HTu2 := Lib.hid (HTu.out.ext (Ext.refl wr).drew)
              dsimp only at g0 g1 g2 HWi
              obtain ⟨xk, hxk⟩ : ∃ n, xL.length = n := ⟨_, rfl⟩
              obtain ⟨ml, hml⟩ : ∃ n, M1.length = n := ⟨_, rfl⟩
              rw [hxk] at HWi g2
              rw [hml] at HWi b2
              generalize withE ⟨xp, xm, xL, xa, xc⟩ false M1 = F at *
              clear hx hok hv hB1 hP1 hM1 hG1 hc1 hrl1 hlay hgl hxk hml
              go_upto_region 14 with (fail)
              go_region_law (first
                | (go_simp; go_at_call 56; refine HWi.out.mono ?_; rintro e w6 ⟨q6, c6, rfl, r6, n6, x6⟩; have B6 := HB1.out.ext x6; have e2 := B6.cell 2 _ rfl; have ef2 := B6.frozen 2; have HTp := Lib.hid (((HTd2.out.ext x6).put (c2 := c6) r6 (by rw [HLay.out]; exact HGl.out) n6.2)); have HTu6 := Lib.hid ((HTu2.out.ext x6).trans HTp.out.2); clear r6 n6 x6 B6))
              all_goals
                go_wp2
                go_roundw
                case rel => exact ⟨k + 1, hlt3, by go_num, Lib.hid (by have := HTp.out.1; rw [HLay.out] at this; exact this), HTu6⟩
                case measure => simp [intOf]; omega
            · obtain rfl : k = j := by omega
              go_wp2
              go_ret
              exact ⟨by rw [← HTe.out]; rfl, by rw [← HTe.out]; have := HTk.out; rwa [List.take_of_length_le (by rw [HN.out]; exact Nat.le_refl _)] at this, HTu.out⟩
end Go.Proofs.YtkjcpjalldbahaaGreatDoor
end
