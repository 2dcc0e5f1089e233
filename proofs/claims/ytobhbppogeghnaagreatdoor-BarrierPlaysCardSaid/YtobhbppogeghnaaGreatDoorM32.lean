/- Contracts: the words of a block, by the document's answer: a slice that grows. Contracts: the document's answer's turns by three numbers, either or. Contracts: the state behind a block, by the document's answer. Contracts: the sum of a text, by the document's answer. -/
import Derived.Test.YtobhbppogeghnaaGreatDoorM01
import Derived.Test.YtobhbppogeghnaaGreatDoorM31
import Derived.IntWalk
import Derived.Test.YtobhbppogeghnaaGreatDoorM00
import Derived.Deep.QuietTactic
import Derived.BigQuiet
import Derived.RegionTactic
import Derived.StillTailTactics
import Derived.Test.YtobhbppogeghnaaGreatDoorM07
section
namespace Go.Proofs.YtobhbppogeghnaaGreatDoor
open Go.RowKit

theorem info29 : (Tryz.prog.info? 40).map (fun i => (i.zero, i.size, i.bytes)) = some (some (.int .u32 0), 1, 4) := by kernel_rfl
/-- A slice of numbers of the call's own (nil, or in a block from B on) that holds just these. -/
def Buf32 (w : World) (B : Nat) (v : Value) (l : List Nat) : Prop := w.ownsRow B 40 1 v l.length (l.map cell32)
/-- The first cells of block g are these numbers. -/
def Seg32 (w : World) (g : Nat) (l : List Nat) : Prop := ∃ cur : Array Value, w.heap[g]? = some (.cells cur 40 (0, 0)) ∧ cur.toList.take l.length = l.map cell32
section
variable {w w' : World} {B : Nat} {v : Value} {l : List Nat} {g : Nat}
theorem Seg32.lt (h : Seg32 w g l) : g < w.heap.size := by obtain ⟨cur, hg, _⟩ := h; exact heap_lt hg
theorem Seg32.cell (h : Seg32 w g l) (i : Nat) (hi : i < l.length) : w.cell? ⟨g, i, none⟩ = some (.int .u32 (l.getD i 0 : Nat)) := by
  obtain ⟨cur, hg, ht⟩ := h
  rw [cell_of_row w g i _ _ (0, 0) hg]
  have e : cur.toList[i]? = (l.map cell32)[i]? := by rw [← ht, List.getElem?_take, if_pos hi]
  rw [← Array.getElem?_toList, e]
  simp [List.getElem?_eq_getElem hi, cell32]
theorem Seg32.below {B : Nat} (h : Seg32 w g l) (hb : Below B w w') (hg : g < B) : Seg32 w' g l := by
  obtain ⟨cur, h1, h2⟩ := h; exact ⟨cur, (hb.block g hg).trans h1, h2⟩
theorem Seg32.ext (h : Seg32 w g l) (hb : Ext w w') : Seg32 w' g l := h.below hb h.lt
theorem Seg32.drew (h : Seg32 w g l) : Seg32 w.drew g l := h
theorem Seg32.alloc (h : Seg32 w g l) (o : Obj) : Seg32 (w.alloc o) g l := by
  have := h.lt
  obtain ⟨cur, h1, h2⟩ := h; exact ⟨cur, (Below.heap_alloc w o g this).trans h1, h2⟩
theorem Row32.seg (h : Row32 w g 40 l) : Seg32 w g l := ⟨_, h, by rw [List.take_of_length_le (by simp)]⟩
theorem Buf32.nil (w : World) (B : Nat) : Buf32 w B (.slice none 0 0) [] := World.ownsRow_nil _ _ _ _
theorem Buf32.alloc (h : Buf32 w B v l) (o : Obj) : Buf32 (w.alloc o) B v l := World.ownsRow.alloc h o
theorem Buf32.drew (h : Buf32 w B v l) : Buf32 w.drew B v l := h
theorem Buf32.parts (h : Buf32 w B v l) (h0 : 0 < l.length) : ∃ g cap, v = .slice (some ⟨g, 0, none⟩) l.length cap ∧ B ≤ g ∧ l.length ≤ cap ∧ cap ≤ maxLen ∧ Seg32 w g l := by
  rcases h.2 with ⟨rfl, hz⟩ | ⟨g, cap, cur, rfl, hb, hg, hle, hm, hsz, ht⟩
  · omega
  · exact ⟨g, cap, rfl, hb, hle, hm, cur, hg, by simpa using ht⟩
end
theorem Row32.one (w : World) (t : TypeId) (x : Int) (n : Nat) (hx : x = (n : Int)) : Row32 (w.alloc (.cells #[.int .u32 x] t)) w.heap.size t [n] := by
  subst hx; exact heap_alloc_new w _

/-- append(b, x) of a block of new numbers. -/
theorem append32 {w : World} {ops : Array Oper} {rest : List Oper} {o : Oper} {a : Act} {Q : Exit → Act → World → Prop} (hgd : o.guard = none) (s x : Operand)
    (ho : o.op = .call { callee := .builtin .append, args := #[s, x], argTypes := #[59, 59] })
    (B : Nat) (v : Value) (l : List Nat) (hs : a.eval s = v) (hbuf : Buf32 w B v l) (g m : Nat) (news : List Nat) (hx : a.eval x = .slice (some ⟨g, 0, none⟩) m m) (hl : news.length = m) (hrow : Row32 w g 40 news)
    (hlen : l.length + m ≤ 1099511627776) (hB : B ≤ w.heap.size)
    (h : ∀ v' w', Buf32 w' B v' (l ++ news) → Below B w w' → wpList Tryz.prog ops Q rest (a.put o.dst v') w') : wpList Tryz.prog ops Q (o :: rest) a w := by
  obtain ⟨i0, hi, hz0, hz1, hz2⟩ := info_parts info29
  refine wpList_append_own w hgd s x 59 ho B 40 i0 (.int .u32 0) 1 4 Tryz.underlying59 hi hz0 hz1 hz2 rfl (by decide) v l.length (l.map cell32) hs hbuf ⟨g, 0, none⟩ m m (news.map cell32) hx (by simp [hl]) ?_ ?_ (by unfold maxLen; omega) (by omega) hB ?_
  · intro j u hj
    have e : ((⟨g, 0, none⟩ : Addr).add j) = ⟨g, j, none⟩ := by unfold Addr.add; split <;> simp_all
    rw [e, cell_of_row w g j _ _ (0, 0) hrow]
    simpa using hj
  · intro u hu
    simp only [List.mem_map] at hu
    obtain ⟨b, _, rfl⟩ := hu
    rfl
  · intro v' w' h1 h2 _
    refine h v' w' ?_ (Below.grown (Below.refl _ _) h2 hB fun k hk => (World.ownsRow.lt hbuf k hk).1)
    unfold Buf32
    simpa [hl] using h1
/-- The same, as a step of a region that draws its order. -/
theorem step_append32 {w : World} {ops : Array Oper} {o : Oper} {a : Act} {K : Act → World → Prop} {Q : Exit → Act → World → Prop} {E : Prop} (hg : o.guard = none) (s x : Operand)
    (ho : o.op = .call { callee := .builtin .append, args := #[s, x], argTypes := #[59, 59] })
    (B : Nat) (v : Value) (l : List Nat) (hs : a.eval s = v) (hbuf : Buf32 w B v l) (g m : Nat) (news : List Nat) (hx : a.eval x = .slice (some ⟨g, 0, none⟩) m m) (hl : news.length = m) (hrow : Row32 w g 40 news)
    (hlen : l.length + m ≤ 1099511627776) (hB : B ≤ w.heap.size)
    (h : ∀ v' w', Buf32 w' B v' (l ++ news) → Below B w w' → K (a.put o.dst v') w') : if Region.wanted o (yielded ops a.tmps) = true then Oper.wp Tryz.prog o a w K Q else E := by
  have hw : Region.wanted o (yielded ops a.tmps) = true := by simp [Region.wanted, hg]
  rw [if_pos hw]
  obtain ⟨i0, hi, hz0, hz1, hz2⟩ := info_parts info29
  refine wp_append_own w s x 59 ho B 40 i0 (.int .u32 0) 1 4 Tryz.underlying59 hi hz0 hz1 hz2 rfl (by decide) v l.length (l.map cell32) hs hbuf ⟨g, 0, none⟩ m m (news.map cell32) hx (by simp [hl]) ?_ ?_ (by unfold maxLen; omega) (by omega) hB ?_
  · intro j u hj
    have e : ((⟨g, 0, none⟩ : Addr).add j) = ⟨g, j, none⟩ := by unfold Addr.add; split <;> simp_all
    rw [e, cell_of_row w g j _ _ (0, 0) hrow]
    simpa using hj
  · intro u hu
    simp only [List.mem_map] at hu
    obtain ⟨b, _, rfl⟩ := hu
    rfl
  · intro v' w' h1 h2 _
    refine h v' w' ?_ (Below.grown (Below.refl _ _) h2 hB fun k hk => (World.ownsRow.lt hbuf k hk).1)
    unfold Buf32
    simpa [hl] using h1

theorem rget4_any (s : ByteArray) (hs : s.size = 64) (t : Nat) (ht : t < 16) (w : World) :
    Calls Tryz.prog 98 #[.string s, .int .i64 (4 * (t : Int)), .int .i64 4] w fun e w' => e = .returned (.tuple #[.int .u64 ((wat s.data.toList t : Nat) : Int), .bool true]) ∧ w = w' := by
  have h := rGet_any s (4 * (t : Int)) 4 (by omega) (by omega) w
  have e : (4 * (t : Int)) = ((4 * t : Nat) : Int) := by omega
  rw [e] at h ⊢
  rw [getv_yes (by omega), gets_yes (by omega)] at h
  exact h
/-- The words of a block, in a new slice. -/
def WordsPost (l : List UInt8) (w : World) (e : Ending) (w' : World) : Prop := ∃ g cap, e = .returned (.slice (some ⟨g, 0, none⟩) 64 cap) ∧ 64 ≤ cap ∧ cap ≤ maxLen ∧ Seg32 w' g (ws l 64) ∧ Ext w w'

set_option maxRecDepth 100000 in
set_option maxHeartbeats 1000000 in
theorem rWords_any (s : ByteArray) (hs : s.size = 64) (w : World) :
    Calls Tryz.prog 207 #[.string s] w (WordsPost s.data.toList w) := by
  have CG := fun t ht u => rget4_any s hs t ht u
  have HG := Lib.hid CG; clear CG
  have Hs := Lib.hid hs; clear hs
  go_enter Tryz.func207, Tryz.ntmps207
  go_wp2
  go_loopw [3, 4] (fun v i wr => ∃ t : Nat, t ≤ 16 ∧ i = .int .i64 t ∧ Buf32 wr w.heap.size v (ws s.data.toList t) ∧ Ext w wr) (fun _ i _ => 16 - (intOf i).toNat)
  case atStart => exact ⟨0, Nat.zero_le _, rfl, Buf32.nil _ _, Ext.refl w⟩
  case round =>
    obtain ⟨t, ht, rfl, hbuf, hext⟩ := hrel
    by_cases hlt : t < 16
    · have hb := wat_lt s.data.toList t
      obtain ⟨x, ex⟩ : ∃ x, x = wat s.data.toList t := ⟨_, rfl⟩
      have C := HG.out t hlt
      rw [← ex] at hb C
      have E := Lib.hid ex; clear ex
      have HC := Lib.hid C; clear C
      have H2 : Hid ((ws s.data.toList t).length + 1 ≤ 1099511627776) := by rw [ws_length]; show _ ≤ _; omega
      go_wp2_with (first
        | (go_at_call 98; ((with_reducible refine (HC.out _).mono ?_); rintro e w1 ⟨rfl, rfl⟩))
        | (at_builtin; refine append32 rfl (.tmp 23) (.tmp 26) rfl w.heap.size _ _ rfl (hbuf.alloc _) wr.heap.size 1 [x] rfl rfl (Row32.one _ _ _ _ rfl) H2.out (hext.alloc _).size ?_; intro v1 w1 hbuf1 hb1; have hext1 : Ext w w1 := Below.trans (hext.alloc _) hb1; clear hb1))
      go_roundw
      case rel => exact ⟨t + 1, by omega, by go_num, by rw [ws, if_pos hlt, ← E.out]; exact hbuf1, hext1⟩
      case measure => simp [intOf]; omega
    · obtain rfl : t = 16 := by omega
      clear hlt ht
      have e16 : ((16 : Nat) : Int) = 16 := rfl
      rw [e16]
      clear e16
      go_wp2
      go_loopw [3, 7] (fun v i wr => ∃ t : Nat, 16 ≤ t ∧ t ≤ 64 ∧ i = .int .i64 t ∧ Buf32 wr w.heap.size v (ws s.data.toList t) ∧ Ext w wr) (fun _ i _ => 64 - (intOf i).toNat)
      case atStart => exact ⟨16, by omega, by omega, rfl, hbuf, hext⟩
      case round =>
        clear hbuf hext
        obtain ⟨t, h16, ht, rfl, hbuf, hext⟩ := hrel
        obtain ⟨g, cap, hv, hg, hcap, hm, hseg⟩ := hbuf.parts (by rw [ws_length]; omega)
        rw [ws_length] at hv hcap
        subst hv
        by_cases hlt : t < 64
        · have c2 := hseg.cell (t - 2) (by rw [ws_length]; omega)
          have c7 := hseg.cell (t - 7) (by rw [ws_length]; omega)
          have c15 := hseg.cell (t - 15) (by rw [ws_length]; omega)
          have c16 := hseg.cell (t - 16) (by rw [ws_length]; omega)
          have b2 := getD_lt (ws_lt s.data.toList t) (t - 2)
          have b15 := getD_lt (ws_lt s.data.toList t) (t - 15)
          have hgl := hseg.lt
          clear hseg
          obtain ⟨x2, e2⟩ : ∃ x, x = (ws s.data.toList t).getD (t - 2) 0 := ⟨_, rfl⟩
          obtain ⟨x7, e7⟩ : ∃ x, x = (ws s.data.toList t).getD (t - 7) 0 := ⟨_, rfl⟩
          obtain ⟨x15, e15⟩ : ∃ x, x = (ws s.data.toList t).getD (t - 15) 0 := ⟨_, rfl⟩
          obtain ⟨x16, e16⟩ : ∃ x, x = (ws s.data.toList t).getD (t - 16) 0 := ⟨_, rfl⟩
          rw [← e2] at c2 b2; rw [← e7] at c7; rw [← e15] at c15 b15; rw [← e16] at c16
          have E2 := Lib.hid e2; have E7 := Lib.hid e7; have E15 := Lib.hid e15; have E16 := Lib.hid e16
          clear e2 e7 e15 e16
          have v1 := sg1_int x2 b2
          have v0 := sg0_int x15 b15
          have H2 : Hid ((ws s.data.toList t).length + 1 ≤ 1099511627776) := by rw [ws_length]; show _ ≤ _; omega
          go_wp2
          go_region
          all_goals
            go_wp2_with (go_at_call 217; ((with_reducible refine (rTurn_any _ (by assumption) _ _).mono ?_); rintro e w1 ⟨rfl, rfl⟩))
          all_goals
            clear v1 v0
            have w7 : IntKind.i64.wrap ((t : Int) - 7) = (t : Int) - 7 := IntWalk.i64_in _ (by omega)
            have w16 : IntKind.i64.wrap ((t : Int) - 16) = (t : Int) - 16 := IntWalk.i64_in _ (by omega)
            have p7 : (0 : Int) ≤ (t : Int) - 7 := by omega
            have p16 : (0 : Int) ≤ (t : Int) - 16 := by omega
            have r7 : (7 : Int) ≤ (t : Int) := by omega
            have r16 : (16 : Int) ≤ (t : Int) := by omega
            have q7 : (t : Int) - 7 < (t : Int) := by omega
            have q16 : (t : Int) - 16 < (t : Int) := by omega
            have n7 : ((t : Int) - 7).toNat = t - 7 := by omega
            have n16 : ((t : Int) - 16).toNat = t - 16 := by omega
            go_region_law (refine step_append32 rfl (.tmp 58) (.tmp 74) rfl w.heap.size _ _ (by simp [Act.eval]) (hbuf.alloc _) wr.heap.size 1 [wnext (ws s.data.toList t) t] (by simp [Act.eval]) rfl (Row32.one _ _ _ _ (wnext_wrap _ _ _ _ _ _ E2.out E7.out E15.out E16.out)) H2.out (hext.alloc _).size ?_; intro v1 w1 hbuf1 hb1)
          all_goals
            have hext1 : Ext w w1 := Below.trans ((hext.alloc _).drew.drew) hb1
            clear hb1
            go_wp2
            go_roundw
            case rel => exact ⟨t + 1, by omega, by omega, by go_num, by rw [ws, if_neg (by omega)]; exact hbuf1, hext1⟩
            case measure => simp [intOf]; omega
        · obtain rfl : t = 64 := by omega
          have e64 : ((64 : Nat) : Int) = 64 := rfl
          rw [e64]
          clear e64
          go_wp2
          go_ret
          exact ⟨g, cap, rfl, hcap, hm, hseg, hext⟩
end Go.Proofs.YtobhbppogeghnaaGreatDoor
end

section
namespace Go.Proofs.YtobhbppogeghnaaGreatDoor
open Go.RowKit

theorem three_any (x : Nat) (hx : x < 4294967296) (a b c : Int) (w : World) :
    Calls Tryz.prog 208 #[.int .u32 (x : Int), .int .i64 a, .int .i64 b, .int .i64 c] w fun e w' => e = .returned (.int .u32 (((rot x (places a) ^^^ rot x (places b)) ^^^ rot x (places c) : Nat) : Int)) ∧ w = w' := by
  have l1 := rot_lt x (places a) hx
  have l2 := rot_lt x (places b) hx
  have l3 := rot_lt x (places c) hx
  have l4 := xor_lt32 l1 l2
  have h1 := xor32 _ _ l1 l2
  have h2 := xor32 _ _ l4 l3
  go_enter Tryz.func208, Tryz.ntmps208
  go_wp2_with (go_at_call 217; refine (rTurn_any _ hx _ _).mono ?_; rintro e w1 ⟨rfl, rfl⟩)
  go_ret
  exact ⟨rfl, rfl⟩
end Go.Proofs.YtobhbppogeghnaaGreatDoor
end

section
namespace Go.Proofs.YtobhbppogeghnaaGreatDoor
open Go.RowKit

theorem three1_any (x : Nat) (hx : x < 4294967296) (w : World) :
    Calls Tryz.prog 208 #[.int .u32 (x : Int), .int .i64 6, .int .i64 11, .int .i64 25] w fun e w' => e = .returned (.int .u32 ((sum1 x : Nat) : Int)) ∧ w = w' := three_any x hx 6 11 25 w
theorem three0_any (x : Nat) (hx : x < 4294967296) (w : World) :
    Calls Tryz.prog 208 #[.int .u32 (x : Int), .int .i64 2, .int .i64 13, .int .i64 22] w fun e w' => e = .returned (.int .u32 ((sum0 x : Nat) : Int)) ∧ w = w' := three_any x hx 2 13 22 w
theorem three1_q (x : Nat) (hx : x < 4294967296) (w : World) :
    Calls Tryz.prog 208 #[.int .u32 (x : Int), .int .i64 6, .int .i64 11, .int .i64 25] w fun e w' => e = .returned (.int .u32 ((sum1 x : Nat) : Int)) ∧ w' = w := (three1_any x hx w).mono fun _ _ h => ⟨h.1, h.2.symm⟩
/-- A new slice of just these numbers. -/
def NewPost (l : List Nat) (w : World) (e : Ending) (w' : World) : Prop := ∃ g, e = .returned (.slice (some ⟨g, 0, none⟩) l.length l.length) ∧ Row32 w' g 40 l ∧ w.heap.size ≤ g ∧ Ext w w'
theorem Row32.lit (w : World) (cs : Array Value) (t : TypeId) (l : List Nat) (h : cs = (l.map cell32).toArray) : Row32 (w.alloc (.cells cs t)) w.heap.size t l := by subst h; exact Row32.new w l t
set_option maxRecDepth 100000 in
theorem rK_any (w : World) : Calls Tryz.prog 206 #[] w (NewPost Kc w) := by
  go_enter Tryz.func206, Tryz.ntmps206
  go_wp2
  go_ret
  exact ⟨w.heap.size, rfl, Row32.lit w _ _ Kc rfl, Nat.le_refl _, (Ext.refl w).alloc _⟩

theorem rK64_any (w : World) : Calls Tryz.prog 206 #[] w fun e w' => ∃ g, e = .returned (.slice (some ⟨g, 0, none⟩) 64 64) ∧ Row32 w' g 40 Kc ∧ w.heap.size ≤ g ∧ Ext w w' := rK_any w
theorem seg8 {w : World} {g : Nat} {st : St} (h : Seg32 w g st.list) :
    w.cell? ⟨g, 0, none⟩ = some (.int .u32 (st.a : Nat)) ∧ w.cell? ⟨g, 1, none⟩ = some (.int .u32 (st.b : Nat)) ∧ w.cell? ⟨g, 2, none⟩ = some (.int .u32 (st.c : Nat)) ∧ w.cell? ⟨g, 3, none⟩ = some (.int .u32 (st.d : Nat)) ∧
    w.cell? ⟨g, 4, none⟩ = some (.int .u32 (st.e : Nat)) ∧ w.cell? ⟨g, 5, none⟩ = some (.int .u32 (st.f : Nat)) ∧ w.cell? ⟨g, 6, none⟩ = some (.int .u32 (st.g : Nat)) ∧ w.cell? ⟨g, 7, none⟩ = some (.int .u32 (st.h : Nat)) :=
  ⟨h.cell 0 (by simp [St.list]), h.cell 1 (by simp [St.list]), h.cell 2 (by simp [St.list]), h.cell 3 (by simp [St.list]), h.cell 4 (by simp [St.list]), h.cell 5 (by simp [St.list]), h.cell 6 (by simp [St.list]), h.cell 7 (by simp [St.list])⟩

set_option maxRecDepth 100000 in
set_option maxHeartbeats 1000000 in
theorem rstep_any (st : St) (ok : st.Ok) (s : ByteArray) (hs : s.size = 64) (g : Nat) (w : World) (hseg : Seg32 w g st.list) :
    Calls Tryz.prog 181 #[.slice (some ⟨g, 0, none⟩) 8 8, .string s] w (NewPost (stp s.data.toList st).list w) := by
  have CW := fun u => rWords_any s hs u
  have HW := Lib.hid CW; clear CW
  have Hs := Lib.hid hs; clear hs
  have hg := hseg.lt
  have HS := Lib.hid hseg; clear hseg
  obtain ⟨a, b, c, d, ee, f, gg, h⟩ := st
  go_enter Tryz.func181, Tryz.ntmps181
  go_wp2_with (first
    | (go_at_call 206; refine (rK64_any _).mono ?_; rintro e w1 ⟨gk, rfl, hK, hgk, h1⟩)
    | (go_at_call 207; refine (HW.out _).mono ?_; rintro e w2 ⟨gw, cw, rfl, hcw, hmw, hW, h2⟩))
  have hs2 := (HS.out.ext h1).ext h2
  have hK2 := hK.seg.ext h2
  have hx := h1.trans h2
  clear h1 h2 hK
  obtain ⟨k0, k1, k2, k3, k4, k5, k6, k7⟩ := seg8 hs2
  have HS2 := Lib.hid hs2; clear hs2 HS
  have HK2 := Lib.hid hK2; clear hK2
  have HW2 := Lib.hid hW; clear hW
  simp only at k0 k1 k2 k3 k4 k5 k6 k7
  go_quiet (fail)
  go_wp2
  go_quiet (fail)
  go_wp2
  clear k0 k1 k2 k3 k4 k5 k6 k7
  go_loopw [7, 8, 9, 10, 11, 12, 13, 14, 15] (fun va vb vc vd ve vf vg vh i wr => ∃ (t : Nat) (s2 : St), t ≤ 64 ∧ i = .int .i64 t ∧ s2 = rnds (ws s.data.toList 64) ⟨a, b, c, d, ee, f, gg, h⟩ t ∧ va = .int .u32 (s2.a : Int) ∧ vb = .int .u32 (s2.b : Int) ∧ vc = .int .u32 (s2.c : Int) ∧ vd = .int .u32 (s2.d : Int) ∧ ve = .int .u32 (s2.e : Int) ∧ vf = .int .u32 (s2.f : Int) ∧ vg = .int .u32 (s2.g : Int) ∧ vh = .int .u32 (s2.h : Int) ∧ Ext w2 wr) (fun _ _ _ _ _ _ _ _ i _ => 64 - (intOf i).toNat)
  case atStart => exact ⟨0, _, Nat.zero_le _, rfl, rfl, rfl, rfl, rfl, rfl, rfl, rfl, rfl, rfl, by first | exact (Ext.refl _).drewN _ | exact ((Ext.refl _).drewN _).drewN _⟩
  case round =>
    obtain ⟨t, ⟨a2, b2, c2, d2, e2, f2, g2, h2⟩, ht, rfl, hs3, rfl, rfl, rfl, rfl, rfl, rfl, rfl, rfl, hext⟩ := hrel
    have ok2 := rnds_ok ok (ws s.data.toList 64) t
    rw [← hs3] at ok2
    have HS3 := Lib.hid hs3; clear hs3
    have OK2 := Lib.hid ok2
    obtain ⟨o1, o2, o3, o4, o5, o6, o7, o8⟩ := ok2
    simp only at o1 o2 o3 o4 o5 o6 o7 o8
    by_cases hlt : t < 64
    · have hk := (HK2.out.ext hext).cell t (by rw [Kc_length]; exact hlt)
      have hw := (HW2.out.ext hext).cell t (by rw [ws_length]; exact hlt)
      have hgk := (HK2.out.ext hext).lt
      have hgw := (HW2.out.ext hext).lt
      obtain ⟨k, ek⟩ : ∃ k, k = Kc.getD t 0 := ⟨_, rfl⟩
      obtain ⟨x, ew⟩ : ∃ x, x = (ws s.data.toList 64).getD t 0 := ⟨_, rfl⟩
      rw [← ek] at hk; rw [← ew] at hw
      have EK := Lib.hid ek; have EW := Lib.hid ew; clear ek ew
      have hd : decide ((t : Int) < 64) = true := by simp; omega
      go_wp2_with fail
      go_quiet ((go_at_call 208; exact Calls.quiet_of_same (three1_q _ o5 _)))
      go_wp2_with (go_at_call 208; ((with_reducible refine (three0_any _ o1 _).mono ?_); rintro e w3 ⟨rfl, rfl⟩))
      go_roundw
      case rel =>
        refine ⟨t + 1, rnd ⟨a2, b2, c2, d2, e2, f2, g2, h2⟩ k x, by omega, by go_num, ?_, int_eq (rnd_a ⟨a2, b2, c2, d2, e2, f2, g2, h2⟩ OK2.out k x), rfl, rfl, rfl, int_eq (rnd_e ⟨a2, b2, c2, d2, e2, f2, g2, h2⟩ OK2.out k x), rfl, rfl, rfl, hext.drewN _⟩
        rw [rnds, ← HS3.out, ← EK.out, ← EW.out]
      case measure => simp [intOf]; omega
    · obtain rfl : t = 64 := by omega
      obtain ⟨k0, k1, k2, k3, k4, k5, k6, k7⟩ := seg8 (HS2.out.ext hext)
      simp only at k0 k1 k2 k3 k4 k5 k6 k7
      have hd : decide (((64 : Nat) : Int) < 64) = false := rfl
      have hgl := (HS2.out.ext hext).lt
      have e64 : ((64 : Nat) : Int) = 64 := rfl
      rw [e64] at hd ⊢
      clear e64
      have hx5 : Ext w wr.drew := (hx.trans hext).drew
      have hp := stp_eq s.data.toList ⟨a, b, c, d, ee, f, gg, h⟩ _ HS3.out
      have HP := Lib.hid hp; clear hp
      go_wp2_with fail
      go_still_tail 40, (by kernel_rfl)
      change wpList _ _ _ _ _ wr.drew
      generalize wr.drew = w4 at hx5 ⊢
      go_wp2
      go_ret
      exact ⟨w4.heap.size, by rw [HP.out]; rfl, by rw [HP.out]; exact Row32.lit w4 _ _ _ (by simp [St.list, plus, cell32]), hx5.size, hx5.alloc _⟩
end Go.Proofs.YtobhbppogeghnaaGreatDoor
end

section
namespace Go.Proofs.YtobhbppogeghnaaGreatDoor
open Go.RowKit

theorem rput8 (n : Nat) (hn : n ≤ 1099511627776) (w : World) : Calls Tryz.prog 107 #[.int .u64 (8 * (n : Int)), .int .i64 8] w fun e w' => e = .returned (.string ⟨(be 8 (8 * n)).toArray⟩) ∧ Ext w w' := by
  have := rPut_any (8 * n) (show _ < _ by omega) 8 (by omega) w
  have e : ((8 * n : Nat) : Int) = 8 * (n : Int) := by omega
  rw [e] at this
  exact this
theorem rput4 (n : Nat) (hn : n < 4294967296) (w : World) : Calls Tryz.prog 107 #[.int .u64 (n : Int), .int .i64 4] w fun e w' => e = .returned (.string ⟨(be 4 n).toArray⟩) ∧ Ext w w' :=
  rPut_any n (show _ < _ by omega) 4 (by omega) w

set_option maxRecDepth 100000 in
set_option maxHeartbeats 1000000 in
theorem rOf_any (s : ByteArray) (hs : s.size ≤ 1099511627776) (w : World) :
    Calls Tryz.prog 152 #[.string s] w fun e w' => e = .returned (.string ⟨(shaL s.data.toList).toArray⟩) ∧ Ext w w' := by
  have hz := zeros_le s.size
  have hp0 := PD_zero s
  go_enter Tryz.func152, Tryz.ntmps152
  go_wp2_with fail
  go_loop [3] (fun p => RP s p) (fun p => s.size + 1 + zeros s.size - strLen p)
  case atStart => exact ⟨0, Nat.zero_le _, rfl⟩
  case round =>
    clear hp0
    obtain ⟨j, hj, rfl⟩ := hrel
    have hsz := PD_size s j
    have hp1 := PD_succ s j
    have hb1 : (PD s j).size ≤ 1099511627776 + 64 := by omega
    have hb2 : (PD s (j + 1)).size = s.size + 1 + (j + 1) := PD_size s (j + 1)
    have Hsz := Lib.hid hsz; have Hb2 := Lib.hid hb2; clear hsz hb2
    by_cases hlt : j < zeros s.size
    · have hne := pad_step s.size j hlt
      have ht : (((PD s j).size : Int) % 64 != 56) = true := by rw [Hsz.out]; simp; omega
      have HN := Lib.hid hne; clear hne
      go_wp2_with fail
      go_round
      case rel => exact ⟨j + 1, hlt, rfl⟩
      case measure => simp only [strLen]; rw [Hb2.out, Hsz.out]; omega
    · obtain rfl : j = zeros s.size := by omega
      have ht : (((PD s (zeros s.size)).size : Int) % 64 != 56) = false := by rw [Hsz.out]; have := pad_end s.size; simp; omega
      have hpe := PAD_eq s
      have hps := PAD_size s
      clear hp1
      have hbl : (be 8 (8 * s.size)).length = 8 := be_length _ _
      go_wp2_with (go_at_call 107; ((with_reducible refine (rput8 s.size hs _).mono ?_); rintro e w1 ⟨rfl, h1⟩))
      clear hpe ht hb1 Hb2 Hsz hj hbl
      have hw : 64 * (((PAD s).size) / 64) = (PAD s).size := by have := pad_whole s.size; omega
      obtain ⟨N, hN⟩ : ∃ N, N = (PAD s).size / 64 := ⟨_, rfl⟩
      rw [← hN] at hw
      have hps2 : (PAD s).size ≤ 1099511627776 + 100 := by omega
      have hd : (PAD s).data.toList = pad s.data.toList := rfl
      have hfin : shaL s.data.toList = txt (folds N (pad s.data.toList) init) := by
        have : N = (s.data.toList.length + zeros s.data.toList.length + 9) / 64 := by rw [hN, hps, size_list]
        rw [this]; rfl
      have HW := Lib.hid hw; have HF := Lib.hid hfin; have HD := Lib.hid hd
      have hw1 : (PAD s).size = 64 * N := hw.symm
      clear hps hN hw hfin hd
      have HW1 := Lib.hid hw1; clear hw1
      generalize PAD s = P at *
      go_loopw [4, 5] (fun v i wr => ∃ (k : Nat) (g : Nat), k ≤ N ∧ i = .int .i64 (64 * (k : Int)) ∧ v = .slice (some ⟨g, 0, none⟩) 8 8 ∧ Row32 wr g 40 (folds k (pad s.data.toList) init).list ∧ Ext w wr) (fun _ i _ => 64 * N - (intOf i).toNat)
      case atStart => exact ⟨0, _, Nat.zero_le _, rfl, rfl, Row32.lit _ _ _ _ rfl, h1.alloc _⟩
      case round =>
        clear h1
        obtain ⟨k, g, hk, rfl, rfl, hrow, hext⟩ := hrel
        have hok := folds_ok k (pad s.data.toList) init_ok
        have hseg := hrow.seg
        have hf := pad_folds (pad s.data.toList) k
        have HO := Lib.hid hok; have HS := Lib.hid hseg; have HR := Lib.hid hrow; have HFF := Lib.hid hf
        clear hok hseg hrow hf
        by_cases hlt : k < N
        · have hq : 64 * k + 64 ≤ P.size := by rw [HW1.out]; omega
          have hq2 : ((64 * k : Nat) : Int) < (P.size : Int) := by omega
          have hsz : (P.extract (64 * k) (64 * k + 64)).size = 64 := by rw [ByteArray.size_extract]; omega
          have hdt : (P.extract (64 * k) (64 * k + 64)).data.toList = ((pad s.data.toList).drop (64 * k)).take 64 := by
            rw [Lib.extract_data, HD.out]; congr 1; omega
          have C := fun u h => rstep_any _ HO.out (P.extract (64 * k) (64 * k + 64)) hsz g u h
          rw [hdt, ← HFF.out] at C
          have HC := Lib.hid C; clear C hdt hsz
          go_wp2_with (go_at_call 181; refine (HC.out _ HS.out).mono ?_; rintro e w2 ⟨g2, he, hr2, _, h2⟩; obtain rfl : e = .returned (.slice (some ⟨g2, 0, none⟩) 8 8) := he)
          go_roundw
          case rel => exact ⟨k + 1, g2, hlt, int_eq (by omega), rfl, hr2, hext.trans h2⟩
          case measure => simp [intOf]; omega
        · obtain rfl : k = N := by omega
          have hq2 : (P.size : Int) ≤ 64 * (k : Int) := by have := HW1.out; omega
          have hF := HF.out
          obtain ⟨S, hS⟩ : ∃ S, S = folds k (pad s.data.toList) init := ⟨_, rfl⟩
          rw [← hS] at HO HS hF
          have HF2 := Lib.hid hF; clear hF
          clear hS HFF HR HF HD HW HW1
          go_wp2_with fail
          clear hq2
          go_loopw [6, 7] (fun p i wr2 => ∃ n : Nat, n ≤ 8 ∧ i = .int .i64 n ∧ p = .string ⟨(cat S.list n).toArray⟩ ∧ Ext wr wr2) (fun _ i _ => 8 - (intOf i).toNat)
          case atStart => exact ⟨0, by omega, rfl, rfl, Ext.refl _⟩
          case round =>
            obtain ⟨n, hn, rfl, rfl, hext3⟩ := hrel
            by_cases hlt8 : n < 8
            · have hc := (HS.out.ext hext3).cell n (by rw [list_slot]; exact hlt8)
              have hgl := (HS.out.ext hext3).lt
              have hx := getD_lt (l := S.list) (list_lt HO.out) n
              have hs1 := cat_succ S.list n (by rw [list_slot]; exact hlt8)
              obtain ⟨x, ex⟩ : ∃ x, x = S.list.getD n 0 := ⟨_, rfl⟩
              rw [← ex] at hc hx hs1
              clear ex
              have hs2 : (⟨(cat S.list n).toArray⟩ : ByteArray) ++ ⟨(be 4 x).toArray⟩ = ⟨(cat S.list (n + 1)).toArray⟩ := by rw [str_append, hs1]
              have hl1 := cat_length S.list n
              have hl2 : (be 4 x).length = 4 := be_length _ _
              have hl3 : (⟨(cat S.list n).toArray⟩ : ByteArray).size ≤ 4 * n := by rw [txt_size]; exact hl1
              have H3 := Lib.hid hext3
              clear hs1 hext3
              have HL3 := Lib.hid hl3; clear hl3
              go_wp2_with (go_at_call 107; ((with_reducible refine (rput4 x hx _).mono ?_); rintro e w3 ⟨rfl, h3⟩))
              go_roundw
              case rel => exact ⟨n + 1, hlt8, by go_num, by first | rfl | rw [hs2], H3.out.trans h3⟩
              case measure => simp [intOf]; omega
            · obtain rfl : n = 8 := by omega
              have e8 : ((8 : Nat) : Int) = 8 := rfl
              rw [e8, cat_all]
              clear e8
              go_wp2_with fail
              go_ret
              exact ⟨by rw [HF2.out]; rfl, hext.trans hext3⟩
end Go.Proofs.YtobhbppogeghnaaGreatDoor
end
