/- Contracts: whether two lists of records are the same, by the document's answer. -/
import Derived.Test.YthoajlajcmcabaaRecs
import Derived.Test.YthoajlajcmcabaaTextsP
import Derived.BigQuiet
import Derived.Laws.StructEq
import Derived.Deep.QuietTactic
namespace Go.Proofs.Ythoajlajcmcabaa
open Go.RowKit

theorem part_num (x y : Value) (u : World) : (part 22 #[x, y] 0).run Try.prog u = .ok x u := by
  simp [part, isAgg, run_underlying Try.underlying22]
theorem part_txt (x y : Value) (u : World) : (part 9 #[x, y] 1).run Try.prog u = .ok y u := by
  simp [part, isAgg, run_underlying Try.underlying9]
theorem rec_fields : ∃ f g : Field, (Try.prog.fieldsOf 24).toList = [f, g] ∧ f.name ≠ "_" ∧ f.type = 22 ∧ f.offset = 0 ∧ g.name ≠ "_" ∧ g.type = 9 ∧ g.offset = 1 := by
  have hf : (Try.prog.fieldsOf 24).toList.map (fun f => (f.name != "_", f.type, f.offset)) = [(true, 22, 0), (true, 9, 1)] := by kernel_rfl
  generalize (Try.prog.fieldsOf 24).toList = l at *
  rcases l with _ | ⟨f, _ | ⟨g, _ | ⟨x, l⟩⟩⟩
  · simp at hf
  · simp at hf
  · simp only [List.map_cons, List.map_nil, List.cons.injEq, Prod.mk.injEq, and_true, bne_iff_ne] at hf
    obtain ⟨⟨h1, h2, h3⟩, h4, h5, h6⟩ := hf
    exact ⟨f, g, rfl, h1, h2, h3, h4, h5, h6⟩
  · simp at hf
theorem rec_eqIn (a b : Rec) (d : Nat) (u : World) : (Op.equalIn (d + 2) 24 (recV a) (recV b)).run Try.prog u = .ok ((a.n : Int) == (b.n : Int) && a.t.toList == b.t.toList) u := by
  unfold recV
  rw [run_equalIn_struct u (d + 1) 24 _ _ (by kernel_rfl) (by kernel_rfl)]
  obtain ⟨f, g, hl, h1, h2, h3, h4, h5, h6⟩ := rec_fields
  rw [hl]
  simp only [Op.eqFields, h2, h3, h5, h6, if_pos h1, if_pos h4]
  simp only [Sem.run_bind, part_num, Result.andThen_ok, run_equalIn_int u d 22 .u64 .u64 _ _ Try.underlying22]
  cases ((a.n : Int) == (b.n : Int))
  · simp
  · simp only [Bool.not_true, Bool.false_eq_true, if_false, Sem.run_bind, part_txt, Result.andThen_ok, run_equalIn_string u d 9 _ _ Try.underlying9]
    cases (a.t.toList == b.t.toList) <;> simp
theorem rec_eqb (a b : Rec) : ((a.n : Int) == (b.n : Int) && a.t.toList == b.t.toList) = true ↔ a = b := by
  rw [Bool.and_eq_true, beq_iff_eq, beq_iff_eq, ByteArray.toList_eq, ByteArray.toList_eq]
  constructor
  · rintro ⟨h1, h2⟩
    refine Rec.ext' (by omega) ?_
    cases ha : a.t; cases hb : b.t
    rw [ha, hb] at h2
    congr 1
    exact Array.toList_inj.1 h2
  · rintro rfl
    exact ⟨rfl, rfl⟩
/-- Records compared. -/
theorem rec_eql (a b : Rec) (d : Bool) (hd : d = true ↔ a = b) (u : World) : (binOp .eql 24 (.agg #[.int .u64 (a.n : Int), .string a.t]) (.agg #[.int .u64 (b.n : Int), .string b.t])).run Try.prog u = .ok (.bool d) u := by
  rw [run_eql_struct]
  have h := rec_eqIn a b 9998 u
  unfold recV at h
  have e : ((a.n : Int) == (b.n : Int) && a.t.toList == b.t.toList) = d := by
    rw [Bool.eq_iff_iff, rec_eqb, hd]
  rw [e] at h
  rw [h, Result.andThen_ok]
theorem rec_neq (a b : Rec) (d : Bool) (hd : d = true ↔ a ≠ b) (u : World) : (binOp .neq 24 (.agg #[.int .u64 (a.n : Int), .string a.t]) (.agg #[.int .u64 (b.n : Int), .string b.t])).run Try.prog u = .ok (.bool d) u := by
  rw [run_neq_struct]
  have h := rec_eqIn a b 9998 u
  unfold recV at h
  have e : ((a.n : Int) == (b.n : Int) && a.t.toList == b.t.toList) = !d := by
    rw [Bool.eq_iff_iff, rec_eqb]
    cases d
    · simp at hd ⊢; exact hd
    · simp at hd ⊢; exact hd
  rw [e] at h
  rw [h, Result.andThen_ok, Bool.not_not]
theorem rec_guard : Try.prog.eqGuardType Try.prog.depth 24 = false := by kernel_rfl
set_option maxRecDepth 100000 in
set_option maxHeartbeats 2000000 in
theorem rSame_any (w : World) (p q : Option Addr) (c d : Nat) (L M : List Rec) (hL : RecsP w p L) (hM : RecsP w q M) (hl : L.length ≤ 1000000) :
    Calls Try.prog 19 #[.slice p L.length c, .slice q M.length d] w fun e w' => ∃ b, e = .returned (.bool b) ∧ Ext w w' ∧ (b = true ↔ L = M) := by
  by_cases hne : L.length = M.length
  · have HL := Lib.hid hL; have HM := Lib.hid hM
    clear hL hM
    go_enter Try.func19, Try.ntmps19
    rw [← hne]
    go_wp2
    have HNE := Lib.hid hne
    go_loopw [5] (fun iv wr => ∃ j : Nat, j ≤ L.length ∧ iv = .int .i64 (j : Int) ∧ L.take j = M.take j ∧ Ext w wr) (fun iv _ => L.length - (intOf iv).toNat)
    case atStart => exact ⟨0, Nat.zero_le _, rfl, rfl, Ext.refl _⟩
    case round =>
      obtain ⟨j, hj, rfl, htk, hx⟩ := hrel
      have HT := Lib.hid htk; have HX := Lib.hid hx
      clear htk hx
      by_cases hlt : j < L.length
      · obtain ⟨a, ha⟩ : ∃ a, L[j]? = some a := ⟨_, List.getElem?_eq_getElem hlt⟩
        obtain ⟨b, hb⟩ : ∃ b, M[j]? = some b := ⟨_, List.getElem?_eq_getElem (by omega)⟩
        obtain ⟨g, rfl, hg1, hg2, hg3⟩ := HL.out j a ha
        obtain ⟨g', rfl, hg4, hg5, hg6⟩ := HM.out j b hb
        have c0 := (HX.out.below.cell (p := ⟨g, j * 2, none⟩) hg1).trans hg2
        have c1 := (HX.out.below.cell (p := ⟨g, j * 2 + 1, none⟩) hg1).trans hg3
        have c2 := (HX.out.below.cell (p := ⟨g', j * 2, none⟩) hg4).trans hg5
        have c3 := (HX.out.below.cell (p := ⟨g', j * 2 + 1, none⟩) hg4).trans hg6
        have Ha := Lib.hid ha; have Hb := Lib.hid hb
        clear hg1 hg2 hg3 hg4 hg5 hg6 ha hb
        have hgd := rec_guard
        by_cases hab : a = b
        · have hq := fun u => rec_neq a b false (by simp [hab]) u
          have hst : L.take (j + 1) = M.take (j + 1) := by rw [List.take_add_one, List.take_add_one, HT.out, Ha.out, Hb.out, hab]
          have HST := Lib.hid hst
          clear hst hab
          go_wp2
          go_quiet (fail)
          go_wp2
          go_roundw
          case rel => exact ⟨j + 1, hlt, by go_num, HST.out, HX.out.drewN _⟩
          case measure => simp [intOf]; omega
        · have hq := fun u => rec_neq a b true (by simp [hab]) u
          have hLM : ¬ L = M := fun e => hab (by
            have h1 := Ha.out
            rw [e, Hb.out] at h1
            exact (Option.some.inj h1).symm)
          have HLM := Lib.hid hLM
          clear hLM hab
          go_wp2
          go_quiet (fail)
          go_wp2
          go_ret
          exact ⟨false, rfl, HX.out.drewN _, by simp [HLM.out]⟩
      · obtain rfl : j = L.length := by omega
        go_wp2
        go_ret
        refine ⟨true, rfl, HX.out, ?_⟩
        have h1 := HT.out
        rw [List.take_of_length_le (Nat.le_refl _), List.take_of_length_le (by have := HNE.out; omega)] at h1
        simp [h1]
  · have hn : ((L.length : Int) != (M.length : Int)) = true := by
      have q : ¬ (L.length : Int) = (M.length : Int) := by omega
      simpa using q
    have hn2 : ¬ L = M := fun e => hne (by rw [e])
    clear hL hM
    go_enter Try.func19, Try.ntmps19
    go_wp2
    go_ret
    exact ⟨false, rfl, Ext.refl _, by simp [hn2]⟩
end Go.Proofs.Ythoajlajcmcabaa
