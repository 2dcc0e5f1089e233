/- Contracts: a map's keys, and these sorted, by the library: of texts. Versions compared; whether two cells are the same: the document's answer, and the program's. -/
import Derived.Test.YtkjcpjalldbahaaDoorIterL
import Derived.Test.YtkjcpjalldbahaaDoorM09
import Derived.Test.YtkjcpjalldbahaaDoorM02
import Derived.Maps.OwnSet
import Derived.Test.YtkjcpjalldbahaaDoorM06
import Derived.BigQuiet
import Derived.Laws.StructEq
import Derived.Deep.QuietTactic
import Derived.Lib.Hide
import Derived.Outline
section
namespace Go.Proofs.YtkjcpjalldbahaaDoor
open Go.RowKit Go.Maps Go.Sort Go.Shelf

theorem keys_any (mb : Option Nat) (W : World) : Calls Tryd.prog 43 #[.map mb] W fun e w' => e = .returned (.func (.func 57) #[] #[.pointer (some ⟨W.heap.size, 0, none⟩)]) ∧ w' = W.alloc (.cells #[.map mb] 91) :=
  callsIn_wide.1 (AnyZ.keys_in Tryd.keysL Fence.wide 5 trivial rfl mb W)
theorem sorts_in (m : Nat) : AnyZ.SortsIn Tryd.prog Tryd.sortedL_ren Fence.wide m :=
  ⟨fun blk off cap ss W hH hblk hsz => callsIn_wide.2 (AnyM.slices_Sort_string Tryd.sortL blk off cap ss W hH hblk hsz),
   fun p cap W => callsIn_wide.2 (AnyM.slices_Sort_string_none Tryd.sortL p cap W)⟩
set_option maxHeartbeats 1000000 in
theorem sorted_keys {H : Type} (b nn : Nat) (D0 : DataW H) (R : Value → Option (DataW H × List MemPlace)) (w : World) (hown : w.ownsMap Tryd.prog 9 R b nn D0) (hmax : Maps.size D0 ≤ maxLen) (hbytes : Maps.size D0 * 16 ≤ 140737488355328) :
    CallsIn Fence.wide 5 Tryd.prog 21 #[.func (.func 57) #[] #[.pointer (some ⟨w.heap.size, 0, none⟩)]] (w.alloc (.cells #[.map (some b)] 91)) fun e w' => ∃ (v : Value) (ss : List (List UInt8)), e = .returned v ∧ ss.Perm (strKeys D0) ∧
      w'.ownsRow (w.alloc (.cells #[.map (some b)] 91)).heap.size 9 1 v ss.length ((ss.mergeSort (fun x y => decide (x ≤ y))).map encStr) ∧ (v = .slice none 0 0 ↔ ss = []) ∧ Below (w.alloc (.cells #[.map (some b)] 91)).heap.size (w.alloc (.cells #[.map (some b)] 91)) w' := by
  have hbl := hown.lt
  have hseq : SeqGives Fence.wide 2 Tryd.prog 57 #[.pointer (some ⟨w.heap.size, 0, none⟩)] encStr (fun ss => ss.Perm (strKeys D0)) (Maps.size D0) (w.alloc (.cells #[.map (some b)] 91)) :=
    AnyZ.keys_gives (ρ := Tryd.keysL_ren) { Tryd.keysL with } Fence.wide _ trivial rfl (by omega) w.heap.size b nn D0 _ (by simp) (by simp) (by
      obtain ⟨es, clock, hb, Ft, hs, hD⟩ := hown
      exact ⟨es, clock, (Below.heap_alloc _ _ b hbl).trans hb, Ft, hs, hD⟩)
  exact AnyZ.sorted_in Tryd.sortedL Fence.wide 5 trivial trivial trivial trivial rfl (by omega) (sorts_in _) (enters_of Tryd.func36 (by kernel_rfl) rfl) 57 #[.pointer (some ⟨w.heap.size, 0, none⟩)] trivial (enters_of Tryd.func57 (by kernel_rfl) rfl) _ _ hmax hbytes _ hseq
/-- A rising list has no text twice. -/
theorem rises_nodup {l : List (List UInt8)} (h : Rises l) : l.Nodup := List.Pairwise.imp (fun {a b} hab => fun e => by subst e; exact absurd hab (List.lt_irrefl a)) h
theorem sorted_names {ss ns : List (List UInt8)} (hp : ss.Perm ns) (hn : Rises ns) : ss.mergeSort (fun x y => decide (x ≤ y)) = ns := by
  refine rises_ext _ _ ?_ hn (fun x => ?_)
  · have h1 : (ss.mergeSort (fun x y => decide (x ≤ y))).Pairwise (fun a b => decide (a ≤ b) = true) := List.pairwise_mergeSort (fun a b c h1 h2 => by simp only [decide_eq_true_eq] at *; exact List.le_trans h1 h2) (fun a b => by
      simp only [Bool.or_eq_true, decide_eq_true_eq]; exact List.le_total a b) ss
    have h2 : (ss.mergeSort (fun x y => decide (x ≤ y))).Nodup := (((List.mergeSort_perm ss _).trans hp).nodup_iff).2 (rises_nodup hn)
    have h3 := h1.and h2
    refine h3.imp ?_
    intro a b ⟨hab, hne⟩
    simp only [decide_eq_true_eq] at hab
    exact Decidable.byContradiction fun h => hne (List.le_antisymm hab (List.not_lt.1 h))
  · exact ((List.mergeSort_perm ss _).trans hp).mem_iff
theorem key_law : Keyed Tryd.prog 9 := string_keyed Tryd.underlying9
/-- What a set of names, by maps.Keys, sorted, is. -/
theorem sorted_any (b nn : Nat) (D : DataW Unit) (R : Value → Option (DataW Unit × List MemPlace)) (ns : List (List UInt8)) (w : World) (hown : w.ownsMap Tryd.prog 9 R b nn D) (hmax : nn ≤ 1000000) (hn : Rises ns) (hm : ∀ x, x ∈ ns ↔ Maps.has D (.string x) = true) :
    Calls Tryd.prog 21 #[.func (.func 57) #[] #[.pointer (some ⟨w.heap.size, 0, none⟩)]] (w.alloc (.cells #[.map (some b)] 91)) fun e w' => ∃ v, e = .returned v ∧ BufS w' w.heap.size v (ns.map toB) ∧ Ext w w' := by
  have hsz := hown.size_le
  have ht := hown.tidy key_law
  obtain ⟨es0, he0, hk⟩ := hown.keysOf
  refine (callsIn_wide.1 (sorted_keys b nn D R w hown (by unfold maxLen; omega) (by omega))).mono ?_
  rintro e w' ⟨v, ss, rfl, hp, hrow, _, hb⟩
  obtain ⟨es, he, hpw⟩ := ht
  have hp2 : ns.Perm (strKeys D) := by
    rw [he]
    refine perm_strKeys hpw ?_ (rises_nodup hn) (fun x => by rw [← he]; exact hm x)
    intro q hq
    rw [he] at he0
    obtain rfl : es = es0 := by cases he0; rfl
    obtain ⟨key, hkey⟩ := hk q hq
    obtain ⟨x, _, hx, _⟩ := Maps.keyOf_str Tryd.underlying9 hkey
    exact ⟨x, hx⟩
  have e := sorted_names (hp.trans hp2.symm) hn
  rw [e] at hrow
  have hl : ss.length = ns.length := (hp.trans hp2.symm).length_eq
  refine ⟨v, rfl, ?_, Below.trans ((Ext.refl w).alloc _) (hb.mono (by simp))⟩
  have e2 : ns.map encStr = (ns.map toB).map Value.string := by rw [List.map_map]; rfl
  rw [e2, hl] at hrow
  unfold BufS
  rw [List.length_map]
  exact ownsRow_base_a hrow (by simp)
end Go.Proofs.YtkjcpjalldbahaaDoor
end

section
namespace Go.Proofs.YtkjcpjalldbahaaDoor
open Go.RowKit

theorem partV_n (x y z : Value) (u : World) : (part 38 #[x, y, z] 0).run Tryd.prog u = .ok x u := by
  simp [part, isAgg, run_underlying Tryd.underlying38]
theorem partV_s (x y z : Value) (u : World) : (part 5 #[x, y, z] 1).run Tryd.prog u = .ok y u := by
  simp [part, isAgg, run_underlying Tryd.underlying5]
theorem partV_t (x y z : Value) (u : World) : (part 9 #[x, y, z] 2).run Tryd.prog u = .ok z u := by
  simp [part, isAgg, run_underlying Tryd.underlying9]
theorem ver_fields : ∃ f g h : Field, (Tryd.prog.fieldsOf 58).toList = [f, g, h] ∧ f.name ≠ "_" ∧ f.type = 38 ∧ f.offset = 0 ∧ g.name ≠ "_" ∧ g.type = 5 ∧ g.offset = 1 ∧ h.name ≠ "_" ∧ h.type = 9 ∧ h.offset = 2 := by
  have hf : (Tryd.prog.fieldsOf 58).toList.map (fun f => (f.name != "_", f.type, f.offset)) = [(true, 38, 0), (true, 5, 1), (true, 9, 2)] := by kernel_rfl
  generalize (Tryd.prog.fieldsOf 58).toList = l at *
  rcases l with _ | ⟨f, _ | ⟨g, _ | ⟨h, _ | ⟨x, l⟩⟩⟩⟩
  · simp at hf
  · simp at hf
  · simp at hf
  · simp only [List.map_cons, List.map_nil, List.cons.injEq, Prod.mk.injEq, and_true, bne_iff_ne] at hf
    obtain ⟨⟨h1, h2, h3⟩, ⟨h4, h5, h6⟩, h7, h8, h9⟩ := hf
    exact ⟨f, g, h, rfl, h1, h2, h3, h4, h5, h6, h7, h8, h9⟩
  · simp at hf
theorem ver_eqIn (a b : Ver) (d : Nat) (u : World) : (Op.equalIn (d + 2) 58 (verV a) (verV b)).run Tryd.prog u = .ok ((a.n : Int) == (b.n : Int) && ((a.s : Int) == (b.s : Int) && a.t.toList == b.t.toList)) u := by
  unfold verV
  rw [run_equalIn_struct u (d + 1) 58 _ _ (by kernel_rfl) (by kernel_rfl)]
  obtain ⟨f, g, h, hl, h1, h2, h3, h4, h5, h6, h7, h8, h9⟩ := ver_fields
  rw [hl]
  simp only [Op.eqFields, h2, h3, h5, h6, h8, h9, if_pos h1, if_pos h4, if_pos h7]
  simp only [Sem.run_bind, partV_n, Result.andThen_ok, run_equalIn_int u d 38 .u64 .u64 _ _ Tryd.underlying38]
  cases ((a.n : Int) == (b.n : Int))
  · simp
  · simp only [Bool.not_true, Bool.false_eq_true, if_false, Sem.run_bind, partV_s, Result.andThen_ok, run_equalIn_int u d 5 .u8 .u8 _ _ Tryd.underlying5]
    cases ((a.s : Int) == (b.s : Int))
    · simp
    · simp only [Bool.not_true, Bool.false_eq_true, if_false, Sem.run_bind, partV_t, Result.andThen_ok, run_equalIn_string u d 9 _ _ Tryd.underlying9]
      cases (a.t.toList == b.t.toList) <;> simp
theorem ver_eqb (a b : Ver) : ((a.n : Int) == (b.n : Int) && ((a.s : Int) == (b.s : Int) && a.t.toList == b.t.toList)) = true ↔ a = b := by
  rw [Bool.and_eq_true, Bool.and_eq_true, beq_iff_eq, beq_iff_eq, beq_iff_eq, ByteArray.toList_eq, ByteArray.toList_eq]
  constructor
  · rintro ⟨h1, h2, h3⟩
    refine Ver.ext' (by omega) (by omega) ?_
    cases ha : a.t; cases hb : b.t
    rw [ha, hb] at h3
    congr 1
    exact Array.toList_inj.1 h3
  · rintro rfl
    exact ⟨rfl, rfl, rfl⟩
/-- Versions compared. -/
theorem ver_eql (a b : Ver) (d : Bool) (hd : d = true ↔ a = b) (u : World) : (binOp .eql 58 (.agg #[.int .u64 (a.n : Int), .int .u8 (a.s : Int), .string a.t]) (.agg #[.int .u64 (b.n : Int), .int .u8 (b.s : Int), .string b.t])).run Tryd.prog u = .ok (.bool d) u := by
  rw [run_eql_struct]
  have h := ver_eqIn a b 9998 u
  unfold verV at h
  have e : ((a.n : Int) == (b.n : Int) && ((a.s : Int) == (b.s : Int) && a.t.toList == b.t.toList)) = d := by
    rw [Bool.eq_iff_iff, ver_eqb, hd]
  rw [e] at h
  rw [h, Result.andThen_ok]
theorem ver_neq (a b : Ver) (d : Bool) (hd : d = true ↔ a ≠ b) (u : World) : (binOp .neq 58 (.agg #[.int .u64 (a.n : Int), .int .u8 (a.s : Int), .string a.t]) (.agg #[.int .u64 (b.n : Int), .int .u8 (b.s : Int), .string b.t])).run Tryd.prog u = .ok (.bool d) u := by
  rw [run_neq_struct]
  have h := ver_eqIn a b 9998 u
  unfold verV at h
  have e : ((a.n : Int) == (b.n : Int) && ((a.s : Int) == (b.s : Int) && a.t.toList == b.t.toList)) = !d := by
    rw [Bool.eq_iff_iff, ver_eqb]
    cases d
    · simp at hd ⊢; exact hd
    · simp at hd ⊢; exact hd
  rw [e] at h
  rw [h, Result.andThen_ok, Bool.not_not]
theorem ver_guard : Tryd.prog.eqGuardType Tryd.prog.depth 58 = false := by kernel_rfl
/-- The cells of version number j, as a walk spells them. -/
theorem VersP.three {w w' : World} {p : Option Addr} {L : List Ver} (h : VersP w p L) (hx : Ext w w') {j : Nat} {x : Ver} (hj : L[j]? = some x) : ∃ a, p = some a ∧ w'.cell? (a.add (j * 3)) = some (.int .u64 (x.n : Int)) ∧ w'.cell? ⟨(a.add (j * 3)).block, (a.add (j * 3)).off + 1, none⟩ = some (.int .u8 (x.s : Int)) ∧ w'.cell? ⟨(a.add (j * 3)).block, (a.add (j * 3)).off + 2, none⟩ = some (.string x.t) := by
  obtain ⟨a, h1, _, h4⟩ := (h.ext hx) j x hj
  exact ⟨a, h1, h4 0 _ rfl, ver_at (k := 0) (h4 1 _ rfl), ver_at (k := 1) (h4 2 _ rfl)⟩
theorem Blk.new1V (w : World) (o : Obj) (cs : List Value) (T : TypeId) : Blk ((w.alloc o).alloc (.cells cs.toArray T)) (w.heap.size + 1) T cs := by
  have h := Blk.new (w.alloc o) cs T
  rwa [show (w.alloc o).heap.size = w.heap.size + 1 by simp] at h
set_option maxRecDepth 100000 in
set_option maxHeartbeats 2000000 in
/-- The document's Same. -/
theorem rsame_any (w : World) (m n : Nat) (p q : Option Addr) (c d : Nat) (L M : List Ver) (hL : VersP w p L) (hM : VersP w q M) (hl : L.length ≤ 140737488355328) :
    Calls Tryd.prog 24 #[.agg #[.int .u64 (m : Int), .slice p L.length c], .agg #[.int .u64 (n : Int), .slice q M.length d]] w fun e w' => e = .returned (.bool (decide (m = n ∧ L = M))) ∧ Ext w w' := by
  by_cases hmn : m = n
  · subst hmn
    by_cases hne : L.length = M.length
    · have HL := Lib.hid hL; have HM := Lib.hid hM
      clear hL hM
      obtain ⟨k, hk⟩ : ∃ k, L.length = k := ⟨_, rfl⟩
      have HK := Lib.hid hk
      have HN := Lib.hid hne
      rw [← hne, hk]
      rw [hk] at hl
      clear hk hne
      have HB1 := Lib.hid ((Blk.new w [.int .u64 (m : Int), .slice p k c] 54).alloc (.cells #[.int .u64 (m : Int), .slice q k d] 54))
      have HB2 := Lib.hid (Blk.new1V w (.cells #[.int .u64 (m : Int), .slice p k c] 54) [.int .u64 (m : Int), .slice q k d] 54)
      have HX0 := Lib.hid (((Ext.refl w).alloc (.cells #[.int .u64 (m : Int), .slice p k c] 54)).alloc (.cells #[.int .u64 (m : Int), .slice q k d] 54))
      go_enter Tryd.func24, Tryd.ntmps24
      go_wp2
      go_loopw [5] (fun iv wr => ∃ j : Nat, j ≤ k ∧ iv = .int .i64 (j : Int) ∧ L.take j = M.take j ∧ Hid (Blk wr w.heap.size 54 [.int .u64 (m : Int), .slice p k c]) ∧ Hid (Blk wr (w.heap.size + 1) 54 [.int .u64 (m : Int), .slice q k d]) ∧ Ext w wr) (fun iv _ => k - (intOf iv).toNat)
      case atStart => exact ⟨0, Nat.zero_le _, rfl, rfl, HB1, HB2, HX0.out⟩
      case round =>
        obtain ⟨j, hj, rfl, htk, B1, B2, hx⟩ := hrel
        have HT := Lib.hid htk; have HX := Lib.hid hx
        have b1 := B1.out.cell 1 _ rfl
        have b2 := B2.out.cell 1 _ rfl
        clear htk hx
        by_cases hlt : j < k
        · have e1 := HK.out
          have e2 := HN.out
          obtain ⟨a, ha⟩ : ∃ a, L[j]? = some a := ⟨_, List.getElem?_eq_getElem (by omega)⟩
          obtain ⟨b, hb⟩ : ∃ b, M[j]? = some b := ⟨_, List.getElem?_eq_getElem (by omega)⟩
          clear e1 e2
          obtain ⟨g, rfl, c0, c1, c2⟩ := HL.out.three HX.out ha
          obtain ⟨g', rfl, d0, d1, d2⟩ := HM.out.three HX.out hb
          have Ha := Lib.hid ha; have Hb := Lib.hid hb
          clear ha hb
          have hgd := ver_guard
          by_cases hab : a = b
          · have hq := fun u => ver_neq a b false (by simp [hab]) u
            have hst : L.take (j + 1) = M.take (j + 1) := by rw [List.take_add_one, List.take_add_one, HT.out, Ha.out, Hb.out, hab]
            have HST := Lib.hid hst
            clear hst hab
            go_wp2
            go_quiet (fail)
            go_wp2
            go_roundw
            case rel => exact ⟨j + 1, hlt, by go_num, HST.out, Lib.hid B1.out.drew, Lib.hid B2.out.drew, HX.out.drewN _⟩
            case measure => simp [intOf]; omega
          · have hq := fun u => ver_neq a b true (by simp [hab]) u
            have hLM : ¬ L = M := fun e => hab (by
              have h1 := Ha.out
              rw [e, Hb.out] at h1
              exact (Option.some.inj h1).symm)
            have HLM := Lib.hid hLM
            clear hLM hab
            go_wp2
            go_quiet (fail)
            go_wp2
            go_ret
            exact ⟨by simp [HLM.out], HX.out.drewN _⟩
        · obtain rfl : j = k := by omega
          go_wp2
          go_ret
          refine ⟨?_, HX.out⟩
          have h1 := HT.out
          have e1 := HK.out
          have e2 := HN.out
          rw [List.take_of_length_le (by omega), List.take_of_length_le (by omega)] at h1
          simp [h1]
    · have hn : ((L.length : Int) != (M.length : Int)) = true := by
        have q : ¬ (L.length : Int) = (M.length : Int) := by omega
        simpa using q
      have hn2 : ¬ L = M := fun e => hne (by rw [e])
      clear hL hM
      go_enter Tryd.func24, Tryd.ntmps24
      go_wp2
      go_ret
      exact ⟨by simp [hn2], ((Ext.refl _).alloc _).alloc _⟩
  · have hn : ((m : Int) != (n : Int)) = true := by
      have q : ¬ (m : Int) = (n : Int) := by omega
      simpa using q
    clear hL hM
    go_enter Tryd.func24, Tryd.ntmps24
    go_wp2
    go_ret
    exact ⟨by simp [hmn], ((Ext.refl _).alloc _).alloc _⟩
end Go.Proofs.YtkjcpjalldbahaaDoor
end
