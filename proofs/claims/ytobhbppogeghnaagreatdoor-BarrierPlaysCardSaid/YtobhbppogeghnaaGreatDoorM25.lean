/- Contracts: texts, either or all of them; a share's bytes: by the program. Contracts: the secret whose shares came, by the program. Plain: the newest epoch, what goes, what comes; all epochs, so many. Contract: a byte written to a builder of strings. Contracts: keys by epochs: a ring's bytes: by the program. -/
import Derived.Test.YtobhbppogeghnaaGreatDoorM23
import Derived.Test.YtobhbppogeghnaaGreatDoorM02
import Derived.Test.YtobhbppogeghnaaGreatDoorM24
import Derived.StillTailTactics
import Derived.Deep.Slices
import Derived.Test.YtobhbppogeghnaaGreatDoorM17
import Derived.Deep.DeepCutAuto
import Derived.Outline
import Derived.Shelf.Strings.BuilderK
import Derived.Test.YtobhbppogeghnaaGreatDoorM07
import Derived.Test.YtobhbppogeghnaaGreatDoorM06
import Derived.Test.YtobhbppogeghnaaGreatDoorM05
section
namespace Go.Proofs.YtobhbppogeghnaaGreatDoor
open Go.RowKit
attribute [local irreducible] xorL xorAll

theorem shareBytes_any (i n : Nat) (s : ByteArray) (hi : i < 256) (hn : n < 256) (hs : s.size ≤ 1048576) (w : World) :
    Calls Tryz.prog 72 #[.int .i64 (i : Int), .int .i64 (n : Int), .string s] w fun e w' => e = .returned (.string (shareT i n s)) ∧ Ext w w' := by
  obtain ⟨x, hx⟩ : ∃ x, x = UInt8.ofNat i := ⟨_, rfl⟩
  obtain ⟨y, hy⟩ : ∃ y, y = UInt8.ofNat n := ⟨_, rfl⟩
  have hcv := fun u => two_text (i : Int) (n : Int) x y (by rw [hx]; simp; omega) (by rw [hy]; simp; omega) 5 u
  have hcat := share_cat i n x y s hx hy
  have hw1 : IntKind.u8.wrap (i : Int) = (i : Int) := IntWalk.u8_in _ ⟨by omega, by omega⟩
  have hw2 : IntKind.u8.wrap (n : Int) = (n : Int) := IntWalk.u8_in _ ⟨by omega, by omega⟩
  have hs64 : ¬ 9223372036854775807 < 2 + s.size := by omega
  generalize shareT i n s = T at *
  clear hx hy
  go_enter Tryz.func72, Tryz.ntmps72
  go_wp2
  go_ret
  exact ⟨rfl, (Ext.refl w).alloc _⟩
/-- One text's round. -/
theorem xor_round (secret : ByteArray) (l : List ByteArray) (j : Nat) (s : ByteArray) (hs : l[j]? = some s) (h2 : secret.size ≤ 1048576) (hl : ∀ i t, i ≤ j → l[i]? = some t → t.size = secret.size) (u : World) :
    Calls Tryz.prog 108 #[.string ⟨(xorAll secret.data.toList (l.take j)).toArray⟩, .string s] u fun e w' => e = .returned (.tuple #[.string ⟨(xorAll secret.data.toList (l.take (j + 1))).toArray⟩, .bool true]) ∧ Ext u w' := by
  have hlen : (xorAll secret.data.toList (l.take j)).length = secret.size := xorAll_length _ _ (size_list _) (fun b hb => by
    obtain ⟨i, hi⟩ := List.getElem?_of_mem hb
    rw [List.getElem?_take] at hi
    split at hi
    · exact hl i b (by omega) hi
    · cases hi)
  have h := xor_yes ⟨(xorAll secret.data.toList (l.take j)).toArray⟩ s (by rw [txt_size, hlen, hl j s (Nat.le_refl _) hs]) (by rw [txt_size, hlen]; omega) u
  have exd : (⟨(xorAll secret.data.toList (l.take j)).toArray⟩ : ByteArray).data.toList = xorAll secret.data.toList (l.take j) := by simp
  rw [exd, ← xorAll_step _ _ _ _ hs] at h
  exact h
set_option maxRecDepth 100000 in
set_option maxHeartbeats 2000000 in
theorem mixed_yes (w : World) (secret : ByteArray) (p : Option Addr) (c : Nat) (l : List ByteArray) (h2 : secret.size ≤ 1048576) (h3 : l.length ≤ 1000000) (h : TextsP w p l) (hl : ∀ s, s ∈ l → s.size = secret.size) :
    Calls Tryz.prog 71 #[.string secret, .slice p l.length c] w fun e w' => e = .returned (.tuple #[.string ⟨(xorAll secret.data.toList l).toArray⟩, .bool true]) ∧ Ext w w' := by
  have HH := Lib.hid (fun u (hu : Ext w u) => h.ext hu)
  have hX0 : xorAll secret.data.toList (l.take 0) = secret.data.toList := by rw [List.take_zero]; unfold xorAll; rfl
  have HX0 := Lib.hid hX0
  clear h hX0
  go_enter Tryz.func71, Tryz.ntmps71
  go_wp2
  go_loopw [0, 12] (fun last i wr => ∃ j : Nat, j ≤ l.length ∧ i = .int .i64 (j : Int) ∧ last = .string ⟨(xorAll secret.data.toList (l.take j)).toArray⟩ ∧ Ext w wr) (fun _ i _ => l.length - (intOf i).toNat)
  case atStart => exact ⟨0, Nat.zero_le _, rfl, by rw [HX0.out], Ext.refl _⟩
  case round =>
    obtain ⟨j, hj, rfl, rfl, hext⟩ := hrel
    have HE := Lib.hid hext
    by_cases hlt : j < l.length
    · obtain ⟨s, hs⟩ : ∃ s, l[j]? = some s := ⟨_, List.getElem?_eq_getElem hlt⟩
      obtain ⟨a, rfl, hab, hc1⟩ := HH.out _ hext j s hs
      have HXr := Lib.hid (fun u => xor_round secret l j s hs h2 (fun i t _ ht => hl t (List.mem_of_getElem? ht)) u)
      clear hext hs hab
      generalize (⟨(xorAll secret.data.toList (l.take j)).toArray⟩ : ByteArray) = L0 at *
      go_wp2_with (go_at_call 108; refine (HXr.out _).mono ?_; rintro e w2 ⟨rfl, x2⟩)
      go_roundw
      case rel => exact ⟨j + 1, hlt, by go_num, rfl, HE.out.trans x2⟩
      case measure => simp [intOf]; omega
    · obtain rfl : j = l.length := by omega
      rw [List.take_of_length_le (Nat.le_refl l.length)]
      go_wp2
      go_ret2
      exact ⟨rfl, hext⟩
set_option maxRecDepth 100000 in
set_option maxHeartbeats 2000000 in
theorem mixed_no (w : World) (secret : ByteArray) (p : Option Addr) (c : Nat) (l : List ByteArray) (h2 : secret.size ≤ 1048576) (h3 : l.length ≤ 1000000) (h : TextsP w p l) (k : Nat) (t : ByteArray) (hk : l[k]? = some t) (ht : ¬ t.size = secret.size) (hl : ∀ i s, i < k → l[i]? = some s → s.size = secret.size) :
    Calls Tryz.prog 71 #[.string secret, .slice p l.length c] w fun e w' => e = .returned (.tuple #[.string ⟨#[]⟩, .bool false]) ∧ Ext w w' := by
  have HH := Lib.hid (fun u (hu : Ext w u) => h.ext hu)
  have hX0 : xorAll secret.data.toList (l.take 0) = secret.data.toList := by rw [List.take_zero]; unfold xorAll; rfl
  have HX0 := Lib.hid hX0
  have hkl : k < l.length := (List.getElem?_eq_some_iff.1 hk).1
  have hlen : (xorAll secret.data.toList (l.take k)).length = secret.size := xorAll_length _ _ (size_list _) (fun b hb => by
    obtain ⟨i, hi⟩ := List.getElem?_of_mem hb
    rw [List.getElem?_take] at hi
    split at hi
    · exact hl i b (by omega) hi
    · cases hi)
  have HXn := Lib.hid (fun u => xor_no ⟨(xorAll secret.data.toList (l.take k)).toArray⟩ t (by rw [txt_size, hlen]; omega) u)
  have HK := Lib.hid hk
  clear h hX0 hlen ht hk
  go_enter Tryz.func71, Tryz.ntmps71
  go_wp2
  go_loopw [0, 12] (fun last i wr => ∃ j : Nat, j ≤ k ∧ i = .int .i64 (j : Int) ∧ last = .string ⟨(xorAll secret.data.toList (l.take j)).toArray⟩ ∧ Ext w wr) (fun _ i _ => l.length - (intOf i).toNat)
  case atStart => exact ⟨0, Nat.zero_le _, rfl, by rw [HX0.out], Ext.refl _⟩
  case round =>
    obtain ⟨j, hj, rfl, rfl, hext⟩ := hrel
    have HE := Lib.hid hext
    have hlt : j < l.length := by omega
    by_cases hjk : j < k
    · obtain ⟨s, hs⟩ : ∃ s, l[j]? = some s := ⟨_, List.getElem?_eq_getElem hlt⟩
      obtain ⟨a, rfl, hab, hc1⟩ := HH.out _ hext j s hs
      have HXr := Lib.hid (fun u => xor_round secret l j s hs h2 (fun i t hi ht => hl i t (by omega) ht) u)
      clear hext hs hab
      generalize (⟨(xorAll secret.data.toList (l.take j)).toArray⟩ : ByteArray) = L0 at *
      go_wp2_with (go_at_call 108; refine (HXr.out _).mono ?_; rintro e w2 ⟨rfl, x2⟩)
      go_roundw
      case rel => exact ⟨j + 1, by omega, by go_num, rfl, HE.out.trans x2⟩
      case measure => simp [intOf]; omega
    · obtain rfl : j = k := by omega
      obtain ⟨a, rfl, hab, hc1⟩ := HH.out _ hext j t HK.out
      clear hext hab
      generalize (⟨(xorAll secret.data.toList (l.take j)).toArray⟩ : ByteArray) = L0 at *
      go_wp2_with (go_at_call 108; refine (HXn.out _).mono ?_; rintro e w2 ⟨rfl, x2⟩)
      go_ret2
      exact ⟨rfl, HE.out.trans x2⟩
/-- The first that is of another length. -/
theorem first_other (secret : ByteArray) : ∀ (l : List ByteArray), (∀ s, s ∈ l → s.size = secret.size) ∨ ∃ (k : Nat) (t : ByteArray), l[k]? = some t ∧ ¬ t.size = secret.size ∧ ∀ (i : Nat) (s : ByteArray), i < k → l[i]? = some s → s.size = secret.size
  | [] => .inl (by simp)
  | a :: r => by
    by_cases ha : a.size = secret.size
    · rcases first_other secret r with h | ⟨k, t, h1, h2, h3⟩
      · exact .inl fun s hs => by
          rcases List.mem_cons.1 hs with rfl | hs
          · exact ha
          · exact h s hs
      · refine .inr ⟨k + 1, t, h1, h2, fun i s hi hs => ?_⟩
        cases i with
        | zero => simp at hs; rw [← hs]; exact ha
        | succ i => exact h3 i s (by omega) (by simpa using hs)
    · exact .inr ⟨0, a, rfl, ha, fun i s hi => by omega⟩
end Go.Proofs.YtobhbppogeghnaaGreatDoor
end

section
namespace Go.Proofs.YtobhbppogeghnaaGreatDoor
open Go.RowKit
attribute [local irreducible] xorL xorAll

theorem slice_tail (a : Addr) (n c : Nat) (h1 : 1 ≤ n) (u : World) : (Instr.slice 35 (.slice (some a) n c) (some (.int .i64 1)) none none).run Tryz.prog u = .ok (.slice (some (if c = 1 then a else a.add 1)) (n - 1) (c - 1)) u := by
  have hj : (1 : Int) ≤ (n : Int) := by omega
  have hs := Tryz.sizeOf9 u
  simp [Instr.slice, Instr.sliceBounds, Instr.sliceBound, asIntOf, run_underlying Tryz.underlying35, hj, hs, Result.andThen]
  split <;> simp_all
/-- The texts behind the first. -/
theorem TextsP.tail {w : World} {a : Addr} {s : ByteArray} {l : List ByteArray} (h : TextsP w (some a) (s :: l)) (c : Nat) (hc : (s :: l).length ≤ c) : TextsP w (some (if c = 1 then a else a.add 1)) l := fun i t ht => by
  have h1 : ¬ c = 1 := by
    have := (List.getElem?_eq_some_iff.1 ht).1
    simp at hc; omega
  rw [if_neg h1]
  obtain ⟨a', e, hb, hcell⟩ := h (i + 1) t (by simpa using ht)
  cases e
  refine ⟨_, rfl, by rw [add_block]; exact hb, ?_⟩
  have e : (a.add 1).add i = a.add (i + 1) := by rw [Go.Deep.add_add, Nat.add_comm]
  rw [e]; exact hcell
theorem secret_no (w : World) (g b n m : Nat) (L : List (Nat × ByteArray)) (h : IsG w g b n m L) (hl : L.length < n) :
    Calls Tryz.prog 51 #[.pointer (some ⟨g, 0, none⟩)] w fun e w' => e = .returned (.tuple #[.string ⟨#[]⟩, .bool false]) ∧ Ext w w' := by
  by_cases h0 : L = []
  · subst h0
    have HH := Lib.hid (fun u (hu : IsG u g b n m []) => have_any u g b n m [] hu)
    have HG := Lib.hid h
    clear h
    go_enter Tryz.func51, Tryz.ntmps51
    go_wp2_with (go_at_call 55; refine (HH.out _ HG.out).mono ?_; rintro e w1 ⟨rfl, x1⟩)
    go_ret2
    exact ⟨rfl, x1⟩
  · have HH := Lib.hid (fun u (hu : IsG u g b n m L) => have_any u g b n m L hu)
    rw [haveN_some h0] at HH
    have HG := Lib.hid h
    have hpos : 0 < L.length := List.length_pos_iff.2 h0
    have e1 : ((L.length : Int) == 0) = false := by rw [beq_eq_false_iff_ne]; omega
    clear h h0
    go_enter Tryz.func51, Tryz.ntmps51
    go_wp2_with (go_at_call 55; refine (HH.out _ HG.out).mono ?_; rintro e w1 ⟨rfl, x1⟩)
    go_ret2
    exact ⟨rfl, x1⟩
theorem field_share (n : Int) (s : ByteArray) (u : World) : (Instr.field 129 (.agg #[.int .i64 n, .string s]) 1).run Tryz.prog u = .ok (.string s) u := by kernel_rfl
theorem wpList_field_share {w : World} {ops : Array Oper} {rest : List Oper} {o : Oper} {a : Act} {Q : Exit → Act → World → Prop} (hg : o.guard = none) (x : Operand) (hop : o.op = Op.field 129 x 1) (n : Int) (s : ByteArray)
    (hx : a.eval x = .agg #[.int .i64 n, .string s]) (h : wpList Tryz.prog ops Q rest (a.put o.dst (.string s)) w) : wpList Tryz.prog ops Q (o :: rest) a w := by
  refine wpList_plain hg fun K' hK' => ?_
  have hf := field_share n s w
  unfold Oper.wp
  simp only [execOp, hop, hx]
  rw [Sem.run_bind, hf]
  exact hK' _ _ h
set_option maxRecDepth 100000 in
set_option maxHeartbeats 4000000 in
theorem secret_yes (w : World) (g b n m : Nat) (L : List (Nat × ByteArray)) (h : IsG w g b n m L) (hl : L.length = n) (s0 : ByteArray) (St : List ByteArray) (hS : St.length + 1 = n) (hall : ∀ (j : Nat) (s : ByteArray), (s0 :: St)[j]? = some s → (j + 1, s) ∈ L) :
    Calls Tryz.prog 51 #[.pointer (some ⟨g, 0, none⟩)] w fun e w' => e = .returned (.tuple #[.string ⟨(xorAll s0.data.toList St).toArray⟩, .bool true]) ∧ Ext w w' := by
  have h0 : L ≠ [] := by intro e; rw [e] at hl; simp at hl; omega
  have HH := Lib.hid (fun u (hu : IsG u g b n m L) => have_any u g b n m L hu)
  rw [haveN_some h0, hl] at HH
  have HG := Lib.hid h
  have e1 : ((n : Int) == 0) = false := by rw [beq_eq_false_iff_ne]; omega
  have n16 := h.alike.n16
  have hmk := make_texts n (by omega)
  obtain ⟨C, hC⟩ : ∃ C, madeCells #[Value.string ⟨#[]⟩] n = C := ⟨_, rfl⟩
  rw [hC] at hmk
  have HMade := Lib.hid (fun u (hu : w.heap.size ≤ u.heap.size) => BufS.made u n (by unfold maxLen; omega) hu)
  rw [hC] at HMade
  have HAll := Lib.hid hall
  have hsz : ∀ s, s ∈ s0 :: St → s.size = m := fun s hs => by
    obtain ⟨j, hj⟩ := List.getElem?_of_mem hs
    exact (h.alike.each _ (hall j s hj)).2.2
  have hm64 := h.alike.m64
  have HMx := Lib.hid (fun u p c (ht : TextsP u p St) => mixed_yes u s0 p c St (by rw [hsz s0 (by simp)]; omega) (by omega) ht (fun s hs => by rw [hsz s (by simp [hs]), hsz s0 (by simp)]))
  clear h h0 hall hsz hC hl
  go_enter Tryz.func51, Tryz.ntmps51
  go_wp2_with (go_at_call 55; refine (HH.out _ HG.out).mono ?_; rintro e w1 ⟨rfl, x1⟩)
  have HX1 := Lib.hid (x1.alloc (.cells C 9))
  have HB0 : Hid (BufS (w1.alloc (.cells C 9)) w.heap.size (.slice (some ⟨w1.heap.size, 0, none⟩) 0 n) []) := Lib.hid (HMade.out w1 x1.size)
  clear x1
  go_loopw [6, 23] (fun v i wr => ∃ j : Nat, j ≤ n ∧ i = .int .i64 (j : Int) ∧ BufS wr w.heap.size v ((s0 :: St).take j) ∧ Ext w wr) (fun _ i _ => n - (intOf i).toNat)
  case atStart => exact ⟨0, Nat.zero_le _, rfl, by rw [List.take_zero]; exact HB0.out, HX1.out⟩
  case round =>
    obtain ⟨j, hj, rfl, hb, hext⟩ := hrel
    have HB := Lib.hid hb; have HE := Lib.hid hext
    have hcg := (HG.out.ext hext).cell
    clear hb hext
    by_cases hlt : j < n
    · obtain ⟨s, hs⟩ : ∃ s, (s0 :: St)[j]? = some s := ⟨_, List.getElem?_eq_getElem (by simp; omega)⟩
      have hlk := (HG.out.ext HE.out).map.look keyI Tryz.underlying95 false (v := .agg #[.int .i64 (n : Int), .string s]) (key_at (j + 1) (by omega)) (List.mem_map.2 ⟨_, HAll.out j s hs, rfl⟩)
      have ek : ((j + 1 : Nat) : Int) = (j : Int) + 1 := by omega
      simp only [Bool.false_eq_true, if_false, ek] at hlk
      clear ek
      have HTj : Hid ((s0 :: St).take (j + 1) = (s0 :: St).take j ++ [s]) := Lib.hid (by rw [List.take_add_one, hs]; rfl)
      have HX3 := Lib.hid ((Ext.refl wr).alloc (.cells #[.string s] 9))
      have HCl : Hid ((wr.alloc (.cells #[.string s] 9)).cell? ⟨wr.heap.size, 0, none⟩ = some (.string s)) := Lib.hid ((Blk.new wr [.string s] 9).cell 0 _ rfl)
      have HLe : Hid (((s0 :: St).take j).length ≤ 1000000) := Lib.hid (by rw [List.length_take]; omega)
      clear hs
      go_wp2_with (first | (refine wpList_field_share rfl (.tmp 33) rfl _ _ rfl ?_) | (at_builtin; refine append_text rfl (.tmp 26) (.tmp 35) rfl w.heap.size _ _ rfl (HB.out.ext HX3.out) wr.heap.size s rfl HCl.out HLe.out (HE.out.trans HX3.out).size ?_; intro v1 w2 hb1 hx4; have x5 : Ext w w2 := Below.trans (HE.out.trans HX3.out) hx4))
      go_roundw
      case rel => exact ⟨j + 1, hlt, by go_num, by rw [HTj.out]; exact hb1, x5⟩
      case measure => simp [intOf]; omega
    · obtain rfl : j = n := by omega
      have hb := HB.out
      rw [List.take_of_length_le (by simp; omega)] at hb
      obtain ⟨p, c, rfl, ht, hp1, hp2⟩ := hb.texts
      obtain ⟨a, rfl, _, hc0⟩ := ht 0 s0 rfl
      have hcc := (hp2 a rfl).2
      have hln : (s0 :: St).length = j := by simp; omega
      have hsl := fun u => slice_tail a (s0 :: St).length c (by simp) u
      have HTt := Lib.hid (ht.tail c hcc)
      rw [show (s0 :: St).length - 1 = St.length by simp] at hsl
      have ha0 : a.add 0 = a := by simp [Addr.add]
      rw [ha0] at hc0
      generalize (if c = 1 then a else a.add 1) = a1 at *
      clear hb ht hp1 hp2 hcc ha0 HB
      have hlq : 0 < (s0 :: St).length := by simp
      have hlp : (0 : Int) < ((s0 :: St).length : Int) := by omega
      clear hln
      generalize (s0 :: St).length = q at *
      go_wp2
      go_region_with (go_at_call 71; refine (HMx.out _ _ _ HTt.out.drew).mono ?_; rintro e w2 ⟨rfl, x2⟩)
      all_goals
        go_wp2
        go_ret2
        exact ⟨rfl, HE.out.drew.trans x2⟩
end Go.Proofs.YtobhbppogeghnaaGreatDoor
end

section
namespace Go.Proofs.YtobhbppogeghnaaGreatDoor
open Go.RowKit

/-! ### Plain -/
section
variable {K : List (Nat × ByteArray)}
/-- The newest is the last. -/
theorem last_top (hg : GoodK K) {n : Nat} (hn : K.length = n + 1) (hl : n < (eps K).length) : (eps K)[n] = top (eps K) := by
  obtain ⟨i, hi, he⟩ := List.getElem_of_mem hg.top_in
  have hlen : (eps K).length = n + 1 := by simp [eps, hn]
  rcases Nat.lt_or_ge i n with q | q
  · have := List.pairwise_iff_getElem.1 hg.up i n hi hl q
    have h2 := le_top (List.getElem_mem hl)
    omega
  · obtain rfl : i = n := by omega
    exact he
end
theorem IsE.at_ {w : World} {B g c : Nat} {l : List Nat} (h : IsE w B g c l) (i x : Nat) (hi : i < l.length) (hx : l[i] = x) : w.cell? ⟨g, i, none⟩ = some (.int .u32 (x : Int)) := by
  subst hx
  exact h.cell i hi
/-- All epochs, so many. -/
theorem epochs_n (w : World) (r b : Nat) (L : List (Nat × ByteArray)) (h : IsK w r b L) (n : Nat) (hn : L.length = n) :
    Calls Tryz.prog 54 #[.pointer (some ⟨r, 0, none⟩)] w fun e w' => ∃ g c, e = .returned (.slice (some ⟨g, 0, none⟩) n c) ∧ IsE w' w.heap.size g c (eps L) ∧ Ext w w' := by
  subst hn
  exact epochs_any w r b L h
end Go.Proofs.YtobhbppogeghnaaGreatDoor
end

section
namespace Go.Proofs.YtobhbppogeghnaaGreatDoor
open Go.RowKit

def renB : Go.Shelf.Ren := ⟨fun | 167 => 109 | 240 => 132 | 276 => 156 | n => n, fun | 0 => 0 | 4 => 4 | 5 => 5 | 9 => 9 | 20 => 20 | 37 => 43 | 70 => 149 | 72 => 151 | 75 => 153 | 164 => 200 | 80 => 53 | n => n, fun n => n⟩
theorem laysB : Go.Proofs.Lays.n167 Tryz.prog renB := {
  mixed := by kernel_rfl
  f167 := Tryz.func109.trans (congrArg some (by kernel_rfl))
  f240 := Tryz.func132.trans (congrArg some (by kernel_rfl))
  f276 := Tryz.func156.trans (congrArg some (by kernel_rfl))
  t0 := Tryz.underlying0
  a0 := Tryz.isAgg0
  z0 := Tryz.sizeOf0
  v0 := Tryz.zeroValue0
  t4 := Tryz.underlying4
  a4 := Tryz.isAgg4
  z4 := Tryz.sizeOf4
  v4 := Tryz.zeroValue4
  t5 := Tryz.underlying5
  a5 := Tryz.isAgg5
  z5 := Tryz.sizeOf5
  v5 := Tryz.zeroValue5
  t9 := Tryz.underlying9
  a9 := Tryz.isAgg9
  z9 := Tryz.sizeOf9
  v9 := Tryz.zeroValue9
  t20 := Tryz.underlying20
  a20 := Tryz.isAgg20
  z20 := Tryz.sizeOf20
  v20 := Tryz.zeroValue20
  t37 := Tryz.underlying43
  a37 := Tryz.isAgg43
  z37 := Tryz.sizeOf43
  v37 := Tryz.zeroValue43
  t70 := Tryz.underlying149
  a70 := Tryz.isAgg149
  z70 := Tryz.sizeOf149
  v70 := Tryz.zeroValue149
  t72 := Tryz.underlying151
  a72 := Tryz.isAgg151
  z72 := Tryz.sizeOf151
  v72 := Tryz.zeroValue151
  t75 := Tryz.underlying153
  a75 := Tryz.isAgg153
  z75 := Tryz.sizeOf153
  v75 := Tryz.zeroValue153
  t164 := Tryz.underlying200
  a164 := Tryz.isAgg200
  z164 := Tryz.sizeOf200
  v164 := Tryz.zeroValue200 }
theorem extraB : Builder.Extra Tryz.prog renB := {
  sizeBuilder := by kernel_rfl
  liesBuilder := by kernel_rfl
  t5 := Tryz.underlying5
  a5 := Tryz.isAgg5
  z5 := Tryz.sizeOf5
  v5 := Tryz.zeroValue5
  infoByte := by kernel_rfl
  cellsByte := by kernel_rfl
  sizeByte := by kernel_rfl
  neB5 := by decide }
theorem byteCells_oneB (x : Int) (b : UInt8) (hx : x = (b.toNat : Int)) : [Value.int .u8 x] = Lib.byteCells [b] := by subst hx; rfl
theorem byte_b (B b : Nat) (l : List UInt8) (x : Int) (c : UInt8) (hx : x = (c.toNat : Int)) (w : World) (h : IsB w B b l) (hlen : l.length + 1 ≤ 140737488355328) (hBw : B ≤ w.heap.size) :
    Calls Tryz.prog 109 #[.pointer (some ⟨b, 0, none⟩), .int .u8 x] w fun e w' => e = .returned .nilIface ∧ IsB w' B b (l ++ [c]) ∧ Below B w w' :=
  (Any.Builder_WriteByte_k laysB extraB B b (Lib.byteCells l) x w h (by rw [Lib.byteCells_length]; exact hlen) hBw).mono fun _ _ h => ⟨h.1, .inr (by rw [Lib.byteCells_append, ← byteCells_oneB x c hx]; exact h.2.1), h.2.2.1⟩
end Go.Proofs.YtobhbppogeghnaaGreatDoor
end

section
namespace Go.Proofs.YtobhbppogeghnaaGreatDoor
open Go.RowKit

theorem field_rk (s : ByteArray) (u : World) : (Instr.field 108 (.agg #[.string s]) 0).run Tryz.prog u = .ok (.string s) u := by kernel_rfl
/-- A text written: what else is no row of bytes stays. -/
theorem write_k (B b : Nat) (l : List UInt8) (s : ByteArray) (w : World) (h : IsB w B b l) (hlen : l.length + s.size ≤ 140737488355328) (hBw : B ≤ w.heap.size) :
    Calls Tryz.prog 110 #[.pointer (some ⟨b, 0, none⟩), .string s] w fun e w' => (∃ v, e = .returned v) ∧ IsB w' B b (l ++ s.data.toList) ∧ Below B w w' ∧ Lib.OthersKept 5 (some b) w w' :=
  (Any.Builder_WriteString_k laysW extraW B b (Lib.byteCells l) s w h (by rw [Lib.byteCells_length]; exact hlen) hBw).mono fun _ _ q => ⟨⟨_, q.1⟩, .inr (by rw [Lib.byteCells_append]; exact q.2.1), q.2.2⟩
theorem write_km (B b : Nat) (l m : List UInt8) (w : World) (h : IsB w B b l) (hlen : l.length + m.length ≤ 140737488355328) (hBw : B ≤ w.heap.size) :
    Calls Tryz.prog 110 #[.pointer (some ⟨b, 0, none⟩), .string ⟨m.toArray⟩] w fun e w' => (∃ v, e = .returned v) ∧ IsB w' B b (l ++ m) ∧ Below B w w' ∧ Lib.OthersKept 5 (some b) w w' := by
  have h1 := write_k B b l ⟨m.toArray⟩ w h (by rw [txt_size]; exact hlen) hBw
  have e : (⟨m.toArray⟩ : ByteArray).data.toList = m := by simp
  rw [e] at h1
  exact h1
theorem IsE.kept {w w' : World} {B g c k : Nat} {l : List Nat} (h : IsE w B g c l) (hk : Lib.OthersKept 5 (some k) w w') (hg : g ≠ k) : IsE w' B g c l := by
  obtain ⟨⟨pos, h1, h2⟩, h3, h4⟩ := h
  refine ⟨⟨pos, hk g _ h1 (by simpa using hg) (fun c fz e => ?_), h2⟩, h3, h4⟩
  injection e with _ e2
  exact absurd e2 (by decide)
set_option maxRecDepth 100000 in
set_option maxHeartbeats 4000000 in
theorem bytes_any (w : World) (r b : Nat) (L : List (Nat × ByteArray)) (h : IsK w r b L) :
    Calls Tryz.prog 74 #[.pointer (some ⟨r, 0, none⟩)] w fun e w' => e = .returned (.string ⟨(ringL L).toArray⟩) ∧ Ext w w' := by
  have hc := h.cell
  have hlen := fun ty => h.map.len ty
  have h64 := h.good.few
  have HK := Lib.hid h
  have hb0 := IsB.new w w.heap.size (Nat.le_refl _)
  obtain ⟨W0, hW0⟩ : ∃ W0, w.alloc (.cells #[.pointer none, .slice none 0 0] 151) = W0 := ⟨_, rfl⟩
  have hx0 : Ext w W0 := by rw [← hW0]; exact (Ext.refl w).alloc _
  rw [hW0] at hb0
  have HB0 := Lib.hid hb0; have HX0 := Lib.hid hx0
  have hz0 : w.heap.size < W0.heap.size := by rw [← hW0]; simp
  have HZ0 := Lib.hid hz0
  clear hz0
  have hc2 := (h.ext hx0).cell
  have hlen2 := fun ty => (h.ext hx0).map.len ty
  have hwr : IntKind.u8.wrap (L.length : Int) = (L.length : Int) := by simp [IntKind.wrap, IntKind.signed, IntKind.bits]; omega
  have hE := fun u (hu : IsK u r b L) => epochs_any u r b L hu
  have HE := Lib.hid hE
  clear h hb0 hx0 hE
  go_enter Tryz.func74, Tryz.ntmps74
  go_wp2_with (first
    | (go_at_call 84; refine (thereK_yes _ r b hc).mono ?_; rintro e w1 ⟨rfl, rfl⟩)
    | (go_at_call 109; refine (byte_b w.heap.size w.heap.size [] _ (UInt8.ofNat L.length) (by simp; omega) _ HB0.out (by simp) HX0.out.size).mono ?_; rintro e w2 ⟨rfl, hb2, x2⟩; have HB2 := Lib.hid hb2; have HX2 : Hid (Ext w w2) := Lib.hid (HX0.out.trans3 x2); have HZ2 : Hid (w.heap.size < w2.heap.size) := Lib.hid (Nat.lt_of_lt_of_le HZ0.out x2.size); clear hb2 x2)
    | (go_at_call 54; refine (HE.out _ (HK.out.ext HX2.out)).mono ?_; rintro e w3 ⟨g, c, rfl, i3, x3⟩; have HB3 := Lib.hid (HB2.out.ext x3); have E3 := Lib.hid i3; have HX3 := Lib.hid (HX2.out.trans x3); clear i3 x3))
  have hsz : ∀ x ∈ L, x.2.size = 32 := fun x hx => (HK.out.good.each x hx).2.2
  have HSz := Lib.hid hsz
  clear hsz hlen hlen2 hc hc2 hW0
  go_loopw [19] (fun jv wr => ∃ j : Nat, j ≤ L.length ∧ jv = .int .i64 (j : Int) ∧ Hid (IsB wr w.heap.size w.heap.size (UInt8.ofNat L.length :: rowsL (L.take j))) ∧ Hid (IsE wr w2.heap.size g c (eps L)) ∧ Hid (Ext w wr)) (fun jv _ => L.length - (intOf jv).toNat)
  case atStart => exact ⟨0, Nat.zero_le _, rfl, Lib.hid (by simpa [rowsL] using HB3.out), E3, HX3⟩
  case round =>
    obtain ⟨j, hj, rfl, hB, hE, hX⟩ := hrel
    by_cases hlt : j < L.length
    · have hlti : (j : Int) < (L.length : Int) := by omega
      obtain ⟨⟨e, s⟩, hx⟩ : ∃ x, L[j]? = some x := ⟨_, List.getElem?_eq_getElem hlt⟩
      have hmem := List.mem_of_getElem? hx
      have hs : s.size = 32 := HSz.out _ hmem
      have he32 : e < 4294967296 := (HK.out.good.each _ hmem).2.1
      have hjl : j < (eps L).length := by simpa [eps] using hlt
      have hje : (eps L)[j] = e := by
        obtain ⟨h1, h2⟩ := List.getElem?_eq_some_iff.1 hx
        simp [eps, h2]
      have hle := hE.out.le
      have cj := hE.out.at_ j e hjl hje
      have HLk := Lib.hid (fun u (hu : IsM u b L) => hu.look false he32 hmem)
      have HSu := Lib.hid (rowsL_succ hx)
      have hln : (UInt8.ofNat L.length :: rowsL (L.take j)).length ≤ 3000 := by
        rw [List.length_cons, rowsL_length fun y hy => HSz.out y (List.mem_of_mem_take hy), List.length_take]
        omega
      have HLn := Lib.hid hln
      have hbl := Lib.hid (be_length 4 e)
      have hfd := field_rk s
      have hel : (eps L).length = L.length := by simp [eps]
      have HEl := Lib.hid hel
      rw [hel] at hle
      clear hx hmem hjl hje hln hel
      generalize rowsL (L.take j) = R at *
      have HPut := Lib.hid (fun u => Put32_any e u)
      generalize be 4 e = E at *
      have HW1 := Lib.hid (fun u hu hs => write_km w.heap.size w.heap.size (UInt8.ofNat L.length :: R) E u hu (by have h1 := HLn.out; have h2 := hbl.out; omega) hs)
      have HW2 := Lib.hid (fun u hu hs => write_k w.heap.size w.heap.size (UInt8.ofNat L.length :: R ++ E) s u hu (by have h1 := HLn.out; have h2 := hbl.out; rw [List.length_append]; omega) hs)
      go_wp2_with (first
        | (go_at_call 79; refine (HPut.out _).mono ?_; rintro e1 w4 ⟨rfl, x4⟩; have HB4 := Lib.hid (hB.out.ext x4); have HE4 := Lib.hid (hE.out.ext x4); have HX4 := Lib.hid (hX.out.trans x4); clear x4)
        | (go_at_call 110; refine (HW1.out _ HB4.out HX4.out.size).mono ?_; rintro e1 w5 ⟨⟨v5, rfl⟩, hb5, x5, o5⟩; have HB5 := Lib.hid hb5; have HE5 := Lib.hid (HE4.out.kept o5 (Nat.ne_of_gt (Nat.lt_of_lt_of_le HZ2.out HE4.out.new))); have HX5 := Lib.hid (HX4.out.trans3 x5); have HK5 := Lib.hid (HK.out.ext HX5.out); have c5 := HK5.out.cell; have hlk := HLk.out _ HK5.out.map; simp only [Bool.false_eq_true, if_false] at hlk; clear hb5 x5 o5 HW1)
        | (go_at_call 110; refine (HW2.out _ HB5.out HX5.out.size).mono ?_; rintro e1 w6 ⟨⟨v6, rfl⟩, hb6, x6, o6⟩; have HB6 := Lib.hid hb6; have HE6 := Lib.hid (HE5.out.kept o6 (Nat.ne_of_gt (Nat.lt_of_lt_of_le HZ2.out HE5.out.new))); have HX6 := Lib.hid (HX5.out.trans3 x6); clear hb6 x6 o6))
      have h6 := HB6.out
      rw [List.cons_append, List.cons_append, ← HSu.out] at h6
      have HB7 := Lib.hid h6
      clear h6
      go_roundw
      case rel => exact ⟨j + 1, hlt, by go_num, HB7, HE6, HX6⟩
      case measure => simp [intOf]; omega
    · obtain rfl : j = L.length := by omega
      have HB9 := Lib.hid (by have := hB.out; rwa [List.take_length] at this)
      have HS := Lib.hid (fun u (hu : Ext w u) (h : IsB u w.heap.size w.heap.size (UInt8.ofNat L.length :: rowsL L)) => string_b w.heap.size w.heap.size _ u h hu.size)
      go_wp2_with (go_at_call 111; refine (HS.out _ hX.out HB9.out).mono ?_; rintro e1 w9 ⟨rfl, x9⟩)
      go_ret
      exact ⟨rfl, hX.out.trans3 x9⟩
end Go.Proofs.YtobhbppogeghnaaGreatDoor
end
