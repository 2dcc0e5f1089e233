/- Versions compared; whether two cells are the same: the document's answer, and the program's. Contracts: whether a cell may be; what it is now; how many bytes it has. The program's and the document's. -/
import Derived.Test.YtkjcpjalldbahaaGreatDoorM06
import Derived.BigQuiet
import Derived.Laws.StructEq
import Derived.Deep.QuietTactic
import Derived.Lib.Hide
import Derived.Outline
section
namespace Go.Proofs.YtkjcpjalldbahaaGreatDoor
open Go.RowKit

theorem partV_n (x y z : Value) (u : World) : (part 25 #[x, y, z] 0).run Tryz.prog u = .ok x u := by
  simp [part, isAgg, run_underlying Tryz.underlying25]
theorem partV_s (x y z : Value) (u : World) : (part 5 #[x, y, z] 1).run Tryz.prog u = .ok y u := by
  simp [part, isAgg, run_underlying Tryz.underlying5]
theorem partV_t (x y z : Value) (u : World) : (part 9 #[x, y, z] 2).run Tryz.prog u = .ok z u := by
  simp [part, isAgg, run_underlying Tryz.underlying9]
theorem ver_fields : ∃ f g h : Field, (Tryz.prog.fieldsOf 41).toList = [f, g, h] ∧ f.name ≠ "_" ∧ f.type = 25 ∧ f.offset = 0 ∧ g.name ≠ "_" ∧ g.type = 5 ∧ g.offset = 1 ∧ h.name ≠ "_" ∧ h.type = 9 ∧ h.offset = 2 := by
  have hf : (Tryz.prog.fieldsOf 41).toList.map (fun f => (f.name != "_", f.type, f.offset)) = [(true, 25, 0), (true, 5, 1), (true, 9, 2)] := by kernel_rfl
  generalize (Tryz.prog.fieldsOf 41).toList = l at *
  rcases l with _ | ⟨f, _ | ⟨g, _ | ⟨h, _ | ⟨x, l⟩⟩⟩⟩
  · simp at hf
  · simp at hf
  · simp at hf
  · simp only [List.map_cons, List.map_nil, List.cons.injEq, Prod.mk.injEq, and_true, bne_iff_ne] at hf
    obtain ⟨⟨h1, h2, h3⟩, ⟨h4, h5, h6⟩, h7, h8, h9⟩ := hf
    exact ⟨f, g, h, rfl, h1, h2, h3, h4, h5, h6, h7, h8, h9⟩
  · simp at hf
theorem ver_eqIn (a b : Ver) (d : Nat) (u : World) : (Op.equalIn (d + 2) 41 (verV a) (verV b)).run Tryz.prog u = .ok ((a.n : Int) == (b.n : Int) && ((a.s : Int) == (b.s : Int) && a.t.toList == b.t.toList)) u := by
  unfold verV
  rw [run_equalIn_struct u (d + 1) 41 _ _ (by kernel_rfl) (by kernel_rfl)]
  obtain ⟨f, g, h, hl, h1, h2, h3, h4, h5, h6, h7, h8, h9⟩ := ver_fields
  rw [hl]
  simp only [Op.eqFields, h2, h3, h5, h6, h8, h9, if_pos h1, if_pos h4, if_pos h7]
  simp only [Sem.run_bind, partV_n, Result.andThen_ok, run_equalIn_int u d 25 .u64 .u64 _ _ Tryz.underlying25]
  cases ((a.n : Int) == (b.n : Int))
  · simp
  · simp only [Bool.not_true, Bool.false_eq_true, if_false, Sem.run_bind, partV_s, Result.andThen_ok, run_equalIn_int u d 5 .u8 .u8 _ _ Tryz.underlying5]
    cases ((a.s : Int) == (b.s : Int))
    · simp
    · simp only [Bool.not_true, Bool.false_eq_true, if_false, Sem.run_bind, partV_t, Result.andThen_ok, run_equalIn_string u d 9 _ _ Tryz.underlying9]
      cases (a.t.toList == b.t.toList) <;> simp
theorem ver_eqb (a b : Ver) : ((a.n : Int) == (b.n : Int) && ((a.s : Int) == (b.s : Int) && a.t.toList == b.t.toList)) = true ↔ a = b := by
  rw [Bool.and_eq_true, Bool.and_eq_true, beq_iff_eq, beq_iff_eq, beq_iff_eq, ByteArray.toList_eq, ByteArray.toList_eq]
  constructor
  · rintro ⟨h1, h2, h3⟩
    refine Ver.ext' (by omega) (by omega) ?_
    cases ha : a.t; cases hb : b.t
    rw [ha, hb] at h3
    congr 1
    exact Array.toList_inj.1 h3
  · rintro rfl
    exact ⟨rfl, rfl, rfl⟩
/-- Versions compared. -/
theorem ver_eql (a b : Ver) (d : Bool) (hd : d = true ↔ a = b) (u : World) : (binOp .eql 41 (.agg #[.int .u64 (a.n : Int), .int .u8 (a.s : Int), .string a.t]) (.agg #[.int .u64 (b.n : Int), .int .u8 (b.s : Int), .string b.t])).run Tryz.prog u = .ok (.bool d) u := by
  rw [run_eql_struct]
  have h := ver_eqIn a b 9998 u
  unfold verV at h
  have e : ((a.n : Int) == (b.n : Int) && ((a.s : Int) == (b.s : Int) && a.t.toList == b.t.toList)) = d := by
    rw [Bool.eq_iff_iff, ver_eqb, hd]
  rw [e] at h
  rw [h, Result.andThen_ok]
theorem ver_neq (a b : Ver) (d : Bool) (hd : d = true ↔ a ≠ b) (u : World) : (binOp .neq 41 (.agg #[.int .u64 (a.n : Int), .int .u8 (a.s : Int), .string a.t]) (.agg #[.int .u64 (b.n : Int), .int .u8 (b.s : Int), .string b.t])).run Tryz.prog u = .ok (.bool d) u := by
  rw [run_neq_struct]
  have h := ver_eqIn a b 9998 u
  unfold verV at h
  have e : ((a.n : Int) == (b.n : Int) && ((a.s : Int) == (b.s : Int) && a.t.toList == b.t.toList)) = !d := by
    rw [Bool.eq_iff_iff, ver_eqb]
    cases d
    · simp at hd ⊢; exact hd
    · simp at hd ⊢; exact hd
  rw [e] at h
  rw [h, Result.andThen_ok, Bool.not_not]
theorem ver_guard : Tryz.prog.eqGuardType Tryz.prog.depth 41 = false := by kernel_rfl
/-- The cells of version number j, as a walk spells them. -/
theorem VersP.three {w w' : World} {p : Option Addr} {L : List Ver} (h : VersP w p L) (hx : Ext w w') {j : Nat} {x : Ver} (hj : L[j]? = some x) : ∃ a, p = some a ∧ w'.cell? (a.add (j * 3)) = some (.int .u64 (x.n : Int)) ∧ w'.cell? ⟨(a.add (j * 3)).block, (a.add (j * 3)).off + 1, none⟩ = some (.int .u8 (x.s : Int)) ∧ w'.cell? ⟨(a.add (j * 3)).block, (a.add (j * 3)).off + 2, none⟩ = some (.string x.t) := by
  obtain ⟨a, h1, _, h4⟩ := (h.ext hx) j x hj
  exact ⟨a, h1, h4 0 _ rfl, ver_at (k := 0) (h4 1 _ rfl), ver_at (k := 1) (h4 2 _ rfl)⟩
theorem Blk.new1V (w : World) (o : Obj) (cs : List Value) (T : TypeId) : Blk ((w.alloc o).alloc (.cells cs.toArray T)) (w.heap.size + 1) T cs := by
  have h := Blk.new (w.alloc o) cs T
  rwa [show (w.alloc o).heap.size = w.heap.size + 1 by simp] at h
set_option maxRecDepth 100000 in
set_option maxHeartbeats 2000000 in
/-- The document's Same. -/
theorem rsame_any (w : World) (m n : Nat) (p q : Option Addr) (c d : Nat) (L M : List Ver) (hL : VersP w p L) (hM : VersP w q M) (hl : L.length ≤ 140737488355328) :
    Calls Tryz.prog 51 #[.agg #[.int .u64 (m : Int), .slice p L.length c], .agg #[.int .u64 (n : Int), .slice q M.length d]] w fun e w' => e = .returned (.bool (decide (m = n ∧ L = M))) ∧ Ext w w' := by
  by_cases hmn : m = n
  · subst hmn
    by_cases hne : L.length = M.length
    · have HL := Lib.hid hL; have HM := Lib.hid hM
      clear hL hM
      obtain ⟨k, hk⟩ : ∃ k, L.length = k := ⟨_, rfl⟩
      have HK := Lib.hid hk
      have HN := Lib.hid hne
      rw [← hne, hk]
      rw [hk] at hl
      clear hk hne
      have HB1 := Lib.hid ((Blk.new w [.int .u64 (m : Int), .slice p k c] 55).alloc (.cells #[.int .u64 (m : Int), .slice q k d] 55))
      have HB2 := Lib.hid (Blk.new1V w (.cells #[.int .u64 (m : Int), .slice p k c] 55) [.int .u64 (m : Int), .slice q k d] 55)
      have HX0 := Lib.hid (((Ext.refl w).alloc (.cells #[.int .u64 (m : Int), .slice p k c] 55)).alloc (.cells #[.int .u64 (m : Int), .slice q k d] 55))
      go_enter Tryz.func51, Tryz.ntmps51
      go_wp2
      go_loopw [5] (fun iv wr => ∃ j : Nat, j ≤ k ∧ iv = .int .i64 (j : Int) ∧ L.take j = M.take j ∧ Hid (Blk wr w.heap.size 55 [.int .u64 (m : Int), .slice p k c]) ∧ Hid (Blk wr (w.heap.size + 1) 55 [.int .u64 (m : Int), .slice q k d]) ∧ Ext w wr) (fun iv _ => k - (intOf iv).toNat)
      case atStart => exact ⟨0, Nat.zero_le _, rfl, rfl, HB1, HB2, HX0.out⟩
      case round =>
        obtain ⟨j, hj, rfl, htk, B1, B2, hx⟩ := hrel
        have HT := Lib.hid htk; have HX := Lib.hid hx
        have b1 := B1.out.cell 1 _ rfl
        have b2 := B2.out.cell 1 _ rfl
        clear htk hx
        by_cases hlt : j < k
        · have e1 := HK.out
          have e2 := HN.out
          obtain ⟨a, ha⟩ : ∃ a, L[j]? = some a := ⟨_, List.getElem?_eq_getElem (by omega)⟩
          obtain ⟨b, hb⟩ : ∃ b, M[j]? = some b := ⟨_, List.getElem?_eq_getElem (by omega)⟩
          clear e1 e2
          obtain ⟨g, rfl, c0, c1, c2⟩ := HL.out.three HX.out ha
          obtain ⟨g', rfl, d0, d1, d2⟩ := HM.out.three HX.out hb
          have Ha := Lib.hid ha; have Hb := Lib.hid hb
          clear ha hb
          have hgd := ver_guard
          by_cases hab : a = b
          · have hq := fun u => ver_neq a b false (by simp [hab]) u
            have hst : L.take (j + 1) = M.take (j + 1) := by rw [List.take_add_one, List.take_add_one, HT.out, Ha.out, Hb.out, hab]
            have HST := Lib.hid hst
            clear hst hab
            go_wp2
            go_quiet (fail)
            go_wp2
            go_roundw
            case rel => exact ⟨j + 1, hlt, by go_num, HST.out, Lib.hid B1.out.drew, Lib.hid B2.out.drew, HX.out.drewN _⟩
            case measure => simp [intOf]; omega
          · have hq := fun u => ver_neq a b true (by simp [hab]) u
            have hLM : ¬ L = M := fun e => hab (by
              have h1 := Ha.out
              rw [e, Hb.out] at h1
              exact (Option.some.inj h1).symm)
            have HLM := Lib.hid hLM
            clear hLM hab
            go_wp2
            go_quiet (fail)
            go_wp2
            go_ret
            exact ⟨by simp [HLM.out], HX.out.drewN _⟩
        · obtain rfl : j = k := by omega
          go_wp2
          go_ret
          refine ⟨?_, HX.out⟩
          have h1 := HT.out
          have e1 := HK.out
          have e2 := HN.out
          rw [List.take_of_length_le (by omega), List.take_of_length_le (by omega)] at h1
          simp [h1]
    · have hn : ((L.length : Int) != (M.length : Int)) = true := by
        have q : ¬ (L.length : Int) = (M.length : Int) := by omega
        simpa using q
      have hn2 : ¬ L = M := fun e => hne (by rw [e])
      clear hL hM
      go_enter Tryz.func51, Tryz.ntmps51
      go_wp2
      go_ret
      exact ⟨by simp [hn2], ((Ext.refl _).alloc _).alloc _⟩
  · have hn : ((m : Int) != (n : Int)) = true := by
      have q : ¬ (m : Int) = (n : Int) := by omega
      simpa using q
    clear hL hM
    go_enter Tryz.func51, Tryz.ntmps51
    go_wp2
    go_ret
    exact ⟨by simp [hmn], ((Ext.refl _).alloc _).alloc _⟩
end Go.Proofs.YtkjcpjalldbahaaGreatDoor
end

section
namespace Go.Proofs.YtkjcpjalldbahaaGreatDoor
open Go.RowKit

theorem isVersion_any (w : World) (v : Ver) : Calls Tryz.prog 91 #[.agg #[.int .u64 (v.n : Int), .int .u8 (v.s : Int), .string v.t]] w fun e w' => e = .returned (.bool (okV v)) ∧ Ext w w' := by
  obtain ⟨n, s, t⟩ := v
  have hx : Ext w (w.alloc (.cells #[.int .u64 (n : Int), .int .u8 (s : Int), .string t] 41)) := (Ext.refl w).alloc _
  by_cases h1 : s = 1
  · have hs : (s : Int) = 1 := by omega
    have HO := Lib.hid (show okV ⟨n, s, t⟩ = decide (t.size ≤ 4096) by simp [okV, h1])
    rw [HO.out]
    have HX := Lib.hid hx
    clear hx h1
    by_cases hz : t.size ≤ 4096
    · have hz2 : (t.size : Int) ≤ 4096 := by omega
      have HZ := Lib.hid hz
      clear hz
      go_enter Tryz.func91, Tryz.ntmps91
      go_wp2
      go_ret
      exact ⟨by simp [HZ.out], (Ext.refl _).alloc _⟩
    · have hz2 : ¬ (t.size : Int) ≤ 4096 := by omega
      have HZ := Lib.hid hz
      clear hz
      go_enter Tryz.func91, Tryz.ntmps91
      go_wp2
      go_ret
      exact ⟨by simp [HZ.out], (Ext.refl _).alloc _⟩
  · by_cases h2 : s = 2 ∨ s = 3
    · have HO := Lib.hid (show okV ⟨n, s, t⟩ = decide (t.size = 0) by rcases h2 with rfl | rfl <;> simp [okV])
      rw [HO.out]
      clear hx h1
      have HE : Hid (decide (t.size = 0) = t.toList.isEmpty) := Lib.hid (by
        rw [ByteArray.toList_eq]
        cases t with
        | mk d =>
          rcases d with ⟨l⟩
          cases l <;> simp [ByteArray.size])
      rcases h2 with h2 | h2
      · have hs : (s : Int) = 2 := by omega
        clear h2
        go_enter Tryz.func91, Tryz.ntmps91
        go_wp2
        go_ret
        exact ⟨congrArg (fun b => Ending.returned (Value.bool b)) HE.out.symm, (Ext.refl _).alloc _⟩
      · have hs : (s : Int) = 3 := by omega
        clear h2
        go_enter Tryz.func91, Tryz.ntmps91
        go_wp2
        go_ret
        exact ⟨congrArg (fun b => Ending.returned (Value.bool b)) HE.out.symm, (Ext.refl _).alloc _⟩
    · have HO := Lib.hid (show okV ⟨n, s, t⟩ = false by simp only [not_or] at h2; simp [okV, h1, h2.1, h2.2])
      rw [HO.out]
      have q1 : ¬ (s : Int) = 1 := by omega
      have q2 : ¬ (s : Int) = 2 := by omega
      have q3 : ¬ (s : Int) = 3 := by omega
      clear hx h1 h2
      go_enter Tryz.func91, Tryz.ntmps91
      go_wp2
      go_ret
      exact ⟨rfl, (Ext.refl _).alloc _⟩
set_option maxRecDepth 100000 in
set_option maxHeartbeats 2000000 in
theorem may_any (w : World) (m : Nat) (p : Option Addr) (c : Nat) (L : List Ver) (h : VersP w p L) (hl : L.length ≤ 140737488355328) :
    Calls Tryz.prog 72 #[.agg #[.int .u64 (m : Int), .slice p L.length c]] w fun e w' => e = .returned (.bool (mayL m L)) ∧ Ext w w' := by
  obtain ⟨k, hk⟩ : ∃ k, L.length = k := ⟨_, rfl⟩
  have HK := Lib.hid hk
  have HL := Lib.hid h
  rw [hk] at hl ⊢
  clear hk h
  by_cases h8 : 8 < k
  · have h8i : (8 : Int) < (k : Int) := by omega
    have HO := Lib.hid (mayL_long (last := m) (show 8 < L.length by rw [HK.out]; exact h8))
    rw [HO.out]
    clear h8
    go_enter Tryz.func72, Tryz.ntmps72
    go_wp2
    go_ret
    exact ⟨rfl, (Ext.refl _).alloc _⟩
  · have h8i : ¬ (8 : Int) < (k : Int) := by omega
    have HB1 := Lib.hid (Blk.new w [.int .u64 (m : Int), .slice p k c] 55)
    have HX0 := Lib.hid ((Ext.refl w).alloc (.cells #[.int .u64 (m : Int), .slice p k c] 55))
    go_enter Tryz.func72, Tryz.ntmps72
    go_wp2
    go_loopw [13, 3] (fun iv av wr => ∃ j b : Nat, j ≤ k ∧ iv = .int .i64 (j : Int) ∧ av = .int .u64 (b : Int) ∧ Hid (rise 0 (L.take j) = some b) ∧ Hid (Blk wr w.heap.size 55 [.int .u64 (m : Int), .slice p k c]) ∧ Hid (Ext w wr)) (fun iv _ _ => k - (intOf iv).toNat)
    case atStart => exact ⟨0, 0, Nat.zero_le _, rfl, rfl, Lib.hid rfl, HB1, HX0⟩
    case round =>
      obtain ⟨j, b, hj, rfl, rfl, HR, B1, HX⟩ := hrel
      have b0 := B1.out.cell 0 _ rfl
      have b1 := B1.out.cell 1 _ rfl
      by_cases hlt : j < k
      · have e1 := HK.out
        obtain ⟨x, hx⟩ : ∃ x, L[j]? = some x := ⟨_, List.getElem?_eq_getElem (by omega)⟩
        clear e1
        obtain ⟨g, rfl, c0, c1, c2⟩ := HL.out.three HX.out hx
        have HRT := Lib.hid (rise_take hx HR.out)
        have HRN : Hid (rise 0 (L.take (j + 1)) = none → mayL m L = false) := Lib.hid fun q => mayL_none (rise_none _ q)
        clear hx
        obtain ⟨xn, xs, xt⟩ := x
        have HV := Lib.hid (fun u => isVersion_any u ⟨xn, xs, xt⟩)
        generalize hov : okV ⟨xn, xs, xt⟩ = ov at *
        dsimp only at c0 c1 c2 HRT HV
        by_cases hle : xn ≤ b
        · have hle2 : (xn : Int) ≤ (b : Int) := by omega
          have HF := Lib.hid (HRN.out (by rw [HRT.out, if_pos hle]))
          clear hle hov
          go_wp2
          go_ret
          exact ⟨by rw [HF.out]; rfl, HX.out.alloc _⟩
        · have hle2 : ¬ (xn : Int) ≤ (b : Int) := by omega
          cases ov
          · have HF := Lib.hid (HRN.out (by rw [HRT.out, if_neg hle]; simp))
            clear hle hov
            go_wp2_with (go_at_call 91; refine (HV.out _).mono ?_; rintro e w1 ⟨rfl, x1⟩)
            go_ret
            exact ⟨by rw [HF.out]; rfl, (HX.out.alloc _).trans x1⟩
          · have HF := Lib.hid (HRT.out.trans (by rw [if_neg hle]))
            clear hle hov
            have HB2 := Lib.hid (Blk.new wr [.int .u64 (xn : Int), .int .u8 (xs : Int), .string xt] 41)
            have HB1 := Lib.hid (B1.out.alloc (.cells #[.int .u64 (xn : Int), .int .u8 (xs : Int), .string xt] 41))
            go_wp2_with (go_at_call 91; refine (HV.out _).mono ?_; rintro e w1 ⟨rfl, x1⟩; have k0 := (HB2.out.ext x1).cell 0 _ rfl; have X1 := Lib.hid x1; clear x1)
            go_roundw
            case rel => exact ⟨j + 1, xn, by omega, by go_num, by go_num, HF, Lib.hid (HB1.out.ext X1.out), Lib.hid ((HX.out.alloc _).trans X1.out)⟩
            case measure => simp [intOf]; omega
      · obtain rfl : j = k := by omega
        have HT : Hid (mayL m L = decide (b = m)) := Lib.hid (mayL_short (last := m) (L := L) (by rw [HK.out]; omega) (b := b) (by have := HR.out; rwa [List.take_of_length_le (by rw [HK.out]; exact Nat.le_refl _)] at this))
        have HD : Hid (((b : Int) == (m : Int)) = decide (b = m)) := Lib.hid (by rw [Bool.eq_iff_iff]; simp; omega)
        go_wp2
        go_ret
        exact ⟨by rw [HT.out, ← HD.out]; rfl, HX.out⟩
end Go.Proofs.YtkjcpjalldbahaaGreatDoor
end
