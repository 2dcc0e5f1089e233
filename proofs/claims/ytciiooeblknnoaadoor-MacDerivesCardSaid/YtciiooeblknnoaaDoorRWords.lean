/- Contracts: the words of a block, by the document's answer: a slice that grows. -/
import Derived.Test.YtciiooeblknnoaaDoorWordsP
import Derived.Test.YtciiooeblknnoaaDoorHex
import Derived.IntWalk
namespace Go.Proofs.YtciiooeblknnoaaDoor
open Go.RowKit

theorem info29 : (Tryd.prog.info? 60).map (fun i => (i.zero, i.size, i.bytes)) = some (some (.int .u32 0), 1, 4) := by kernel_rfl
/-- A slice of numbers of the call's own (nil, or in a block from B on) that holds just these. -/
def Buf32 (w : World) (B : Nat) (v : Value) (l : List Nat) : Prop := w.ownsRow B 60 1 v l.length (l.map cell32)
/-- The first cells of block g are these numbers. -/
def Seg32 (w : World) (g : Nat) (l : List Nat) : Prop := ∃ cur : Array Value, w.heap[g]? = some (.cells cur 60 (0, 0)) ∧ cur.toList.take l.length = l.map cell32
section
variable {w w' : World} {B : Nat} {v : Value} {l : List Nat} {g : Nat}
theorem Seg32.lt (h : Seg32 w g l) : g < w.heap.size := by obtain ⟨cur, hg, _⟩ := h; exact heap_lt hg
theorem Seg32.cell (h : Seg32 w g l) (i : Nat) (hi : i < l.length) : w.cell? ⟨g, i, none⟩ = some (.int .u32 (l.getD i 0 : Nat)) := by
  obtain ⟨cur, hg, ht⟩ := h
  rw [cell_of_row w g i _ _ (0, 0) hg]
  have e : cur.toList[i]? = (l.map cell32)[i]? := by rw [← ht, List.getElem?_take, if_pos hi]
  rw [← Array.getElem?_toList, e]
  simp [List.getElem?_eq_getElem hi, cell32]
theorem Seg32.below {B : Nat} (h : Seg32 w g l) (hb : Below B w w') (hg : g < B) : Seg32 w' g l := by
  obtain ⟨cur, h1, h2⟩ := h; exact ⟨cur, (hb.block g hg).trans h1, h2⟩
theorem Seg32.ext (h : Seg32 w g l) (hb : Ext w w') : Seg32 w' g l := h.below hb h.lt
theorem Seg32.drew (h : Seg32 w g l) : Seg32 w.drew g l := h
theorem Seg32.alloc (h : Seg32 w g l) (o : Obj) : Seg32 (w.alloc o) g l := by
  have := h.lt
  obtain ⟨cur, h1, h2⟩ := h; exact ⟨cur, (Below.heap_alloc w o g this).trans h1, h2⟩
theorem Row32.seg (h : Row32 w g 60 l) : Seg32 w g l := ⟨_, h, by rw [List.take_of_length_le (by simp)]⟩
theorem Buf32.nil (w : World) (B : Nat) : Buf32 w B (.slice none 0 0) [] := World.ownsRow_nil _ _ _ _
theorem Buf32.alloc (h : Buf32 w B v l) (o : Obj) : Buf32 (w.alloc o) B v l := World.ownsRow.alloc h o
theorem Buf32.drew (h : Buf32 w B v l) : Buf32 w.drew B v l := h
theorem Buf32.parts (h : Buf32 w B v l) (h0 : 0 < l.length) : ∃ g cap, v = .slice (some ⟨g, 0, none⟩) l.length cap ∧ B ≤ g ∧ l.length ≤ cap ∧ cap ≤ maxLen ∧ Seg32 w g l := by
  rcases h.2 with ⟨rfl, hz⟩ | ⟨g, cap, cur, rfl, hb, hg, hle, hm, hsz, ht⟩
  · omega
  · exact ⟨g, cap, rfl, hb, hle, hm, cur, hg, by simpa using ht⟩
end
theorem Row32.one (w : World) (t : TypeId) (x : Int) (n : Nat) (hx : x = (n : Int)) : Row32 (w.alloc (.cells #[.int .u32 x] t)) w.heap.size t [n] := by
  subst hx; exact heap_alloc_new w _

/-- append(b, x) of a block of new numbers. -/
theorem append32 {w : World} {ops : Array Oper} {rest : List Oper} {o : Oper} {a : Act} {Q : Exit → Act → World → Prop} (hgd : o.guard = none) (s x : Operand)
    (ho : o.op = .call { callee := .builtin .append, args := #[s, x], argTypes := #[61, 61] })
    (B : Nat) (v : Value) (l : List Nat) (hs : a.eval s = v) (hbuf : Buf32 w B v l) (g m : Nat) (news : List Nat) (hx : a.eval x = .slice (some ⟨g, 0, none⟩) m m) (hl : news.length = m) (hrow : Row32 w g 60 news)
    (hlen : l.length + m ≤ 1099511627776) (hB : B ≤ w.heap.size)
    (h : ∀ v' w', Buf32 w' B v' (l ++ news) → Below B w w' → wpList Tryd.prog ops Q rest (a.put o.dst v') w') : wpList Tryd.prog ops Q (o :: rest) a w := by
  obtain ⟨i0, hi, hz0, hz1, hz2⟩ := info_parts info29
  refine wpList_append_own w hgd s x 61 ho B 60 i0 (.int .u32 0) 1 4 Tryd.underlying61 hi hz0 hz1 hz2 rfl (by decide) v l.length (l.map cell32) hs hbuf ⟨g, 0, none⟩ m m (news.map cell32) hx (by simp [hl]) ?_ ?_ (by unfold maxLen; omega) (by omega) hB ?_
  · intro j u hj
    have e : ((⟨g, 0, none⟩ : Addr).add j) = ⟨g, j, none⟩ := by unfold Addr.add; split <;> simp_all
    rw [e, cell_of_row w g j _ _ (0, 0) hrow]
    simpa using hj
  · intro u hu
    simp only [List.mem_map] at hu
    obtain ⟨b, _, rfl⟩ := hu
    rfl
  · intro v' w' h1 h2 _
    refine h v' w' ?_ (Below.grown (Below.refl _ _) h2 hB fun k hk => (World.ownsRow.lt hbuf k hk).1)
    unfold Buf32
    simpa [hl] using h1
/-- The same, as a step of a region that draws its order. -/
theorem step_append32 {w : World} {ops : Array Oper} {o : Oper} {a : Act} {K : Act → World → Prop} {Q : Exit → Act → World → Prop} {E : Prop} (hg : o.guard = none) (s x : Operand)
    (ho : o.op = .call { callee := .builtin .append, args := #[s, x], argTypes := #[61, 61] })
    (B : Nat) (v : Value) (l : List Nat) (hs : a.eval s = v) (hbuf : Buf32 w B v l) (g m : Nat) (news : List Nat) (hx : a.eval x = .slice (some ⟨g, 0, none⟩) m m) (hl : news.length = m) (hrow : Row32 w g 60 news)
    (hlen : l.length + m ≤ 1099511627776) (hB : B ≤ w.heap.size)
    (h : ∀ v' w', Buf32 w' B v' (l ++ news) → Below B w w' → K (a.put o.dst v') w') : if Region.wanted o (yielded ops a.tmps) = true then Oper.wp Tryd.prog o a w K Q else E := by
  have hw : Region.wanted o (yielded ops a.tmps) = true := by simp [Region.wanted, hg]
  rw [if_pos hw]
  obtain ⟨i0, hi, hz0, hz1, hz2⟩ := info_parts info29
  refine wp_append_own w s x 61 ho B 60 i0 (.int .u32 0) 1 4 Tryd.underlying61 hi hz0 hz1 hz2 rfl (by decide) v l.length (l.map cell32) hs hbuf ⟨g, 0, none⟩ m m (news.map cell32) hx (by simp [hl]) ?_ ?_ (by unfold maxLen; omega) (by omega) hB ?_
  · intro j u hj
    have e : ((⟨g, 0, none⟩ : Addr).add j) = ⟨g, j, none⟩ := by unfold Addr.add; split <;> simp_all
    rw [e, cell_of_row w g j _ _ (0, 0) hrow]
    simpa using hj
  · intro u hu
    simp only [List.mem_map] at hu
    obtain ⟨b, _, rfl⟩ := hu
    rfl
  · intro v' w' h1 h2 _
    refine h v' w' ?_ (Below.grown (Below.refl _ _) h2 hB fun k hk => (World.ownsRow.lt hbuf k hk).1)
    unfold Buf32
    simpa [hl] using h1

theorem rget4_any (s : ByteArray) (hs : s.size = 64) (t : Nat) (ht : t < 16) (w : World) :
    Calls Tryd.prog 48 #[.string s, .int .i64 (4 * (t : Int)), .int .i64 4] w fun e w' => e = .returned (.tuple #[.int .u64 ((wat s.data.toList t : Nat) : Int), .bool true]) ∧ w = w' := by
  have h := rGet_any s (4 * (t : Int)) 4 (by omega) (by omega) w
  have e : (4 * (t : Int)) = ((4 * t : Nat) : Int) := by omega
  rw [e] at h ⊢
  rw [getv_yes (by omega), gets_yes (by omega)] at h
  exact h
/-- The words of a block, in a new slice. -/
def WordsPost (l : List UInt8) (w : World) (e : Ending) (w' : World) : Prop := ∃ g cap, e = .returned (.slice (some ⟨g, 0, none⟩) 64 cap) ∧ 64 ≤ cap ∧ cap ≤ maxLen ∧ Seg32 w' g (ws l 64) ∧ Ext w w'

set_option maxRecDepth 100000 in
set_option maxHeartbeats 1000000 in
theorem rWords_any (s : ByteArray) (hs : s.size = 64) (w : World) :
    Calls Tryd.prog 38 #[.string s] w (WordsPost s.data.toList w) := by
  have CG := fun t ht u => rget4_any s hs t ht u
  have HG := Lib.hid CG; clear CG
  have Hs := Lib.hid hs; clear hs
  go_enter Tryd.func38, Tryd.ntmps38
  go_wp2
  go_loopw [3, 4] (fun v i wr => ∃ t : Nat, t ≤ 16 ∧ i = .int .i64 t ∧ Buf32 wr w.heap.size v (ws s.data.toList t) ∧ Ext w wr) (fun _ i _ => 16 - (intOf i).toNat)
  case atStart => exact ⟨0, Nat.zero_le _, rfl, Buf32.nil _ _, Ext.refl w⟩
  case round =>
    obtain ⟨t, ht, rfl, hbuf, hext⟩ := hrel
    by_cases hlt : t < 16
    · have hb := wat_lt s.data.toList t
      obtain ⟨x, ex⟩ : ∃ x, x = wat s.data.toList t := ⟨_, rfl⟩
      have C := HG.out t hlt
      rw [← ex] at hb C
      have E := Lib.hid ex; clear ex
      have HC := Lib.hid C; clear C
      have H2 : Hid ((ws s.data.toList t).length + 1 ≤ 1099511627776) := by rw [ws_length]; show _ ≤ _; omega
      go_wp2_with (first
        | (go_at_call 48; ((with_reducible refine (HC.out _).mono ?_); rintro e w1 ⟨rfl, rfl⟩))
        | (at_builtin; refine append32 rfl (.tmp 23) (.tmp 26) rfl w.heap.size _ _ rfl (hbuf.alloc _) wr.heap.size 1 [x] rfl rfl (Row32.one _ _ _ _ rfl) H2.out (hext.alloc _).size ?_; intro v1 w1 hbuf1 hb1; have hext1 : Ext w w1 := Below.trans (hext.alloc _) hb1; clear hb1))
      go_roundw
      case rel => exact ⟨t + 1, by omega, by go_num, by rw [ws, if_pos hlt, ← E.out]; exact hbuf1, hext1⟩
      case measure => simp [intOf]; omega
    · obtain rfl : t = 16 := by omega
      clear hlt ht
      have e16 : ((16 : Nat) : Int) = 16 := rfl
      rw [e16]
      clear e16
      go_wp2
      go_loopw [3, 7] (fun v i wr => ∃ t : Nat, 16 ≤ t ∧ t ≤ 64 ∧ i = .int .i64 t ∧ Buf32 wr w.heap.size v (ws s.data.toList t) ∧ Ext w wr) (fun _ i _ => 64 - (intOf i).toNat)
      case atStart => exact ⟨16, by omega, by omega, rfl, hbuf, hext⟩
      case round =>
        clear hbuf hext
        obtain ⟨t, h16, ht, rfl, hbuf, hext⟩ := hrel
        obtain ⟨g, cap, hv, hg, hcap, hm, hseg⟩ := hbuf.parts (by rw [ws_length]; omega)
        rw [ws_length] at hv hcap
        subst hv
        by_cases hlt : t < 64
        · have c2 := hseg.cell (t - 2) (by rw [ws_length]; omega)
          have c7 := hseg.cell (t - 7) (by rw [ws_length]; omega)
          have c15 := hseg.cell (t - 15) (by rw [ws_length]; omega)
          have c16 := hseg.cell (t - 16) (by rw [ws_length]; omega)
          have b2 := getD_lt (ws_lt s.data.toList t) (t - 2)
          have b15 := getD_lt (ws_lt s.data.toList t) (t - 15)
          have hgl := hseg.lt
          clear hseg
          obtain ⟨x2, e2⟩ : ∃ x, x = (ws s.data.toList t).getD (t - 2) 0 := ⟨_, rfl⟩
          obtain ⟨x7, e7⟩ : ∃ x, x = (ws s.data.toList t).getD (t - 7) 0 := ⟨_, rfl⟩
          obtain ⟨x15, e15⟩ : ∃ x, x = (ws s.data.toList t).getD (t - 15) 0 := ⟨_, rfl⟩
          obtain ⟨x16, e16⟩ : ∃ x, x = (ws s.data.toList t).getD (t - 16) 0 := ⟨_, rfl⟩
          rw [← e2] at c2 b2; rw [← e7] at c7; rw [← e15] at c15 b15; rw [← e16] at c16
          have E2 := Lib.hid e2; have E7 := Lib.hid e7; have E15 := Lib.hid e15; have E16 := Lib.hid e16
          clear e2 e7 e15 e16
          have v1 := sg1_int x2 b2
          have v0 := sg0_int x15 b15
          have H2 : Hid ((ws s.data.toList t).length + 1 ≤ 1099511627776) := by rw [ws_length]; show _ ≤ _; omega
          go_wp2
          go_region
          all_goals
            go_wp2_with (go_at_call 49; ((with_reducible refine (rTurn_any _ (by assumption) _ _).mono ?_); rintro e w1 ⟨rfl, rfl⟩))
          all_goals
            clear v1 v0
            have w7 : IntKind.i64.wrap ((t : Int) - 7) = (t : Int) - 7 := IntWalk.i64_in _ (by omega)
            have w16 : IntKind.i64.wrap ((t : Int) - 16) = (t : Int) - 16 := IntWalk.i64_in _ (by omega)
            have p7 : (0 : Int) ≤ (t : Int) - 7 := by omega
            have p16 : (0 : Int) ≤ (t : Int) - 16 := by omega
            have r7 : (7 : Int) ≤ (t : Int) := by omega
            have r16 : (16 : Int) ≤ (t : Int) := by omega
            have q7 : (t : Int) - 7 < (t : Int) := by omega
            have q16 : (t : Int) - 16 < (t : Int) := by omega
            have n7 : ((t : Int) - 7).toNat = t - 7 := by omega
            have n16 : ((t : Int) - 16).toNat = t - 16 := by omega
            go_region_law (refine step_append32 rfl (.tmp 58) (.tmp 74) rfl w.heap.size _ _ (by simp [Act.eval]) (hbuf.alloc _) wr.heap.size 1 [wnext (ws s.data.toList t) t] (by simp [Act.eval]) rfl (Row32.one _ _ _ _ (wnext_wrap _ _ _ _ _ _ E2.out E7.out E15.out E16.out)) H2.out (hext.alloc _).size ?_; intro v1 w1 hbuf1 hb1)
          all_goals
            have hext1 : Ext w w1 := Below.trans ((hext.alloc _).drew.drew) hb1
            clear hb1
            go_wp2
            go_roundw
            case rel => exact ⟨t + 1, by omega, by omega, by go_num, by rw [ws, if_neg (by omega)]; exact hbuf1, hext1⟩
            case measure => simp [intOf]; omega
        · obtain rfl : t = 64 := by omega
          have e64 : ((64 : Nat) : Int) = 64 := rfl
          rw [e64]
          clear e64
          go_wp2
          go_ret
          exact ⟨g, cap, rfl, hcap, hm, hseg, hext⟩
end Go.Proofs.YtciiooeblknnoaaDoor
