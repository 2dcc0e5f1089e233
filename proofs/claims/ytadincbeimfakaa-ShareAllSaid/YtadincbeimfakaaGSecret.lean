/- Contracts: the secret whose shares came, by the program. -/
import Derived.Test.YtadincbeimfakaaGHave
import Derived.Test.YtadincbeimfakaaMixed
import Derived.StillTailTactics
import Derived.Deep.Slices
namespace Go.Proofs.Ytadincbeimfakaa
open Go.RowKit
attribute [local irreducible] xorL xorAll

theorem slice_tail (a : Addr) (n c : Nat) (h1 : 1 ≤ n) (u : World) : (Instr.slice 22 (.slice (some a) n c) (some (.int .i64 1)) none none).run Try.prog u = .ok (.slice (some (if c = 1 then a else a.add 1)) (n - 1) (c - 1)) u := by
  have hj : (1 : Int) ≤ (n : Int) := by omega
  have hs := Try.sizeOf9 u
  simp [Instr.slice, Instr.sliceBounds, Instr.sliceBound, asIntOf, run_underlying Try.underlying22, hj, hs, Result.andThen]
  split <;> simp_all
/-- The texts behind the first. -/
theorem TextsP.tail {w : World} {a : Addr} {s : ByteArray} {l : List ByteArray} (h : TextsP w (some a) (s :: l)) (c : Nat) (hc : (s :: l).length ≤ c) : TextsP w (some (if c = 1 then a else a.add 1)) l := fun i t ht => by
  have h1 : ¬ c = 1 := by
    have := (List.getElem?_eq_some_iff.1 ht).1
    simp at hc; omega
  rw [if_neg h1]
  obtain ⟨a', e, hb, hcell⟩ := h (i + 1) t (by simpa using ht)
  cases e
  refine ⟨_, rfl, by rw [add_block]; exact hb, ?_⟩
  have e : (a.add 1).add i = a.add (i + 1) := by rw [Go.Deep.add_add, Nat.add_comm]
  rw [e]; exact hcell
theorem secret_nil (w : World) :
    Calls Try.prog 18 #[.pointer none] w fun e w' => e = .returned (.tuple #[.string ⟨#[]⟩, .bool false]) ∧ w = w' := by
  go_enter Try.func18, Try.ntmps18
  go_wp2_with (go_at_call 17; refine (have_nil _).mono ?_; rintro e w1 ⟨rfl, rfl⟩)
  go_ret2
  exact ⟨rfl, rfl⟩
theorem secret_no (w : World) (g b n m : Nat) (L : List (Nat × ByteArray)) (h : IsG w g b n m L) (hl : L.length < n) :
    Calls Try.prog 18 #[.pointer (some ⟨g, 0, none⟩)] w fun e w' => e = .returned (.tuple #[.string ⟨#[]⟩, .bool false]) ∧ Ext w w' := by
  by_cases h0 : L = []
  · subst h0
    have HH := Lib.hid (fun u (hu : IsG u g b n m []) => have_any u g b n m [] hu)
    have HG := Lib.hid h
    clear h
    go_enter Try.func18, Try.ntmps18
    go_wp2_with (go_at_call 17; refine (HH.out _ HG.out).mono ?_; rintro e w1 ⟨rfl, x1⟩)
    go_ret2
    exact ⟨rfl, x1⟩
  · have HH := Lib.hid (fun u (hu : IsG u g b n m L) => have_any u g b n m L hu)
    rw [haveN_some h0] at HH
    have HG := Lib.hid h
    have hpos : 0 < L.length := List.length_pos_iff.2 h0
    have e1 : ((L.length : Int) == 0) = false := by rw [beq_eq_false_iff_ne]; omega
    clear h h0
    go_enter Try.func18, Try.ntmps18
    go_wp2_with (go_at_call 17; refine (HH.out _ HG.out).mono ?_; rintro e w1 ⟨rfl, x1⟩)
    go_ret2
    exact ⟨rfl, x1⟩
theorem field_share (n : Int) (s : ByteArray) (u : World) : (Instr.field 62 (.agg #[.int .i64 n, .string s]) 1).run Try.prog u = .ok (.string s) u := by kernel_rfl
theorem wpList_field_share {w : World} {ops : Array Oper} {rest : List Oper} {o : Oper} {a : Act} {Q : Exit → Act → World → Prop} (hg : o.guard = none) (x : Operand) (hop : o.op = Op.field 62 x 1) (n : Int) (s : ByteArray)
    (hx : a.eval x = .agg #[.int .i64 n, .string s]) (h : wpList Try.prog ops Q rest (a.put o.dst (.string s)) w) : wpList Try.prog ops Q (o :: rest) a w := by
  refine wpList_plain hg fun K' hK' => ?_
  have hf := field_share n s w
  unfold Oper.wp
  simp only [execOp, hop, hx]
  rw [Sem.run_bind, hf]
  exact hK' _ _ h
set_option maxRecDepth 100000 in
set_option maxHeartbeats 4000000 in
theorem secret_yes (w : World) (g b n m : Nat) (L : List (Nat × ByteArray)) (h : IsG w g b n m L) (hl : L.length = n) (s0 : ByteArray) (St : List ByteArray) (hS : St.length + 1 = n) (hall : ∀ (j : Nat) (s : ByteArray), (s0 :: St)[j]? = some s → (j + 1, s) ∈ L) :
    Calls Try.prog 18 #[.pointer (some ⟨g, 0, none⟩)] w fun e w' => e = .returned (.tuple #[.string ⟨(xorAll s0.data.toList St).toArray⟩, .bool true]) ∧ Ext w w' := by
  have h0 : L ≠ [] := by intro e; rw [e] at hl; simp at hl; omega
  have HH := Lib.hid (fun u (hu : IsG u g b n m L) => have_any u g b n m L hu)
  rw [haveN_some h0, hl] at HH
  have HG := Lib.hid h
  have e1 : ((n : Int) == 0) = false := by rw [beq_eq_false_iff_ne]; omega
  have n16 := h.alike.n16
  have hmk := make_texts n (by omega)
  obtain ⟨C, hC⟩ : ∃ C, madeCells #[Value.string ⟨#[]⟩] n = C := ⟨_, rfl⟩
  rw [hC] at hmk
  have HMade := Lib.hid (fun u (hu : w.heap.size ≤ u.heap.size) => BufS.made u n (by unfold maxLen; omega) hu)
  rw [hC] at HMade
  have HAll := Lib.hid hall
  have hsz : ∀ s, s ∈ s0 :: St → s.size = m := fun s hs => by
    obtain ⟨j, hj⟩ := List.getElem?_of_mem hs
    exact (h.alike.each _ (hall j s hj)).2.2
  have hm64 := h.alike.m64
  have HMx := Lib.hid (fun u p c (ht : TextsP u p St) => mixed_yes u s0 p c St (by rw [hsz s0 (by simp)]; omega) (by omega) ht (fun s hs => by rw [hsz s (by simp [hs]), hsz s0 (by simp)]))
  clear h h0 hall hsz hC hl
  go_enter Try.func18, Try.ntmps18
  go_wp2_with (go_at_call 17; refine (HH.out _ HG.out).mono ?_; rintro e w1 ⟨rfl, x1⟩)
  have HX1 := Lib.hid (x1.alloc (.cells C 9))
  have HB0 : Hid (BufS (w1.alloc (.cells C 9)) w.heap.size (.slice (some ⟨w1.heap.size, 0, none⟩) 0 n) []) := Lib.hid (HMade.out w1 x1.size)
  clear x1
  go_loopw [6, 23] (fun v i wr => ∃ j : Nat, j ≤ n ∧ i = .int .i64 (j : Int) ∧ BufS wr w.heap.size v ((s0 :: St).take j) ∧ Ext w wr) (fun _ i _ => n - (intOf i).toNat)
  case atStart => exact ⟨0, Nat.zero_le _, rfl, by rw [List.take_zero]; exact HB0.out, HX1.out⟩
  case round =>
    obtain ⟨j, hj, rfl, hb, hext⟩ := hrel
    have HB := Lib.hid hb; have HE := Lib.hid hext
    have hcg := (HG.out.ext hext).cell
    clear hb hext
    by_cases hlt : j < n
    · obtain ⟨s, hs⟩ : ∃ s, (s0 :: St)[j]? = some s := ⟨_, List.getElem?_eq_getElem (by simp; omega)⟩
      have hlk := (HG.out.ext HE.out).map.look keyI Try.underlying58 false (v := .agg #[.int .i64 (n : Int), .string s]) (key_at (j + 1) (by omega)) (List.mem_map.2 ⟨_, HAll.out j s hs, rfl⟩)
      have ek : ((j + 1 : Nat) : Int) = (j : Int) + 1 := by omega
      simp only [Bool.false_eq_true, if_false, ek] at hlk
      clear ek
      have HTj : Hid ((s0 :: St).take (j + 1) = (s0 :: St).take j ++ [s]) := Lib.hid (by rw [List.take_add_one, hs]; rfl)
      have HX3 := Lib.hid ((Ext.refl wr).alloc (.cells #[.string s] 9))
      have HCl : Hid ((wr.alloc (.cells #[.string s] 9)).cell? ⟨wr.heap.size, 0, none⟩ = some (.string s)) := Lib.hid ((Blk.new wr [.string s] 9).cell 0 _ rfl)
      have HLe : Hid (((s0 :: St).take j).length ≤ 1000000) := Lib.hid (by rw [List.length_take]; omega)
      clear hs
      go_wp2_with (first | (refine wpList_field_share rfl (.tmp 33) rfl _ _ rfl ?_) | (at_builtin; refine append_text rfl (.tmp 26) (.tmp 35) rfl w.heap.size _ _ rfl (HB.out.ext HX3.out) wr.heap.size s rfl HCl.out HLe.out (HE.out.trans HX3.out).size ?_; intro v1 w2 hb1 hx4; have x5 : Ext w w2 := Below.trans (HE.out.trans HX3.out) hx4))
      go_roundw
      case rel => exact ⟨j + 1, hlt, by go_num, by rw [HTj.out]; exact hb1, x5⟩
      case measure => simp [intOf]; omega
    · obtain rfl : j = n := by omega
      have hb := HB.out
      rw [List.take_of_length_le (by simp; omega)] at hb
      obtain ⟨p, c, rfl, ht, hp1, hp2⟩ := hb.texts
      obtain ⟨a, rfl, _, hc0⟩ := ht 0 s0 rfl
      have hcc := (hp2 a rfl).2
      have hln : (s0 :: St).length = j := by simp; omega
      have hsl := fun u => slice_tail a (s0 :: St).length c (by simp) u
      have HTt := Lib.hid (ht.tail c hcc)
      rw [show (s0 :: St).length - 1 = St.length by simp] at hsl
      have ha0 : a.add 0 = a := by simp [Addr.add]
      rw [ha0] at hc0
      generalize (if c = 1 then a else a.add 1) = a1 at *
      clear hb ht hp1 hp2 hcc ha0 HB
      have hlq : 0 < (s0 :: St).length := by simp
      have hlp : (0 : Int) < ((s0 :: St).length : Int) := by omega
      clear hln
      generalize (s0 :: St).length = q at *
      go_wp2
      go_region_with (go_at_call 22; refine (HMx.out _ _ _ HTt.out.drew).mono ?_; rintro e w2 ⟨rfl, x2⟩)
      all_goals
        go_wp2
        go_ret2
        exact ⟨rfl, HE.out.drew.trans x2⟩
end Go.Proofs.Ytadincbeimfakaa
