/- Contract: the head that a record is, by the program: any record. What a round of a range over a function keeps: all below a bound, and named blocks above it. Plain: slices of records that grow by append; records' cells. Contract: the records in front of bytes, as an iterator hands them out, and behind them the fault. -/
import Derived.Test.YtbekdcpdfmfopaaGreatBegunW
import Derived.RangeFuncNested
import Derived.RangeFuncBound
import Derived.RangeFuncCalls
import Derived.RangeFuncLeaves
import Derived.RangeFuncFrom
import Derived.Shelf.Abstract
import Derived.Shelf.RegionOpen
import Derived.WalkKit
import Derived.OwnWalkIn
import Derived.TacticsInMore
import Derived.LoopNIn
import Derived.LoopIn
import Derived.Test.YtbekdcpdfmfopaaGreatM00
import Derived.Test.YtbekdcpdfmfopaaGreatM03
import Derived.Test.YtbekdcpdfmfopaaGreatFDec
import Derived.Test.YtbekdcpdfmfopaaGreatM04
section
namespace Go.Proofs.YtbekdcpdfmfopaaGreat
open Go.RowKit

theorem begF_cons (_n : Nat) (T : ByteArray) (b : UInt8) (l : List UInt8) (hT : T.data.toList = b :: l) : (T.extract 1 T.size).data.toList = l := by
  have e : T = ⟨(b :: l).toArray⟩ := by rw [← hT]
  have hs : T.size = l.length + 1 := by rw [← size_list, hT]; rfl
  rw [hs, e, txt_extract']
  simp
theorem begun_any (n : Nat) (T : ByteArray) (hs6 : T.size ≤ 1000000) (w : World) :
    Calls Tryz.prog 87 #[.agg #[.int .u64 (n : Int), .string T]] w fun e w' => e = .returned (begV (begF ⟨n, T⟩) n) ∧ Ext w w' := by
  cases hT : T.data.toList with
  | nil =>
    have h0 : T.size = 0 := by rw [← size_list, hT]; rfl
    have : begF ⟨n, T⟩ = none := by show begL n T T.data.toList = _; rw [hT]; rfl
    rw [this]
    exact begun_none n T h0 w
  | cons b l =>
    have hl := begF_cons n T b l hT
    have hs : T.size = l.length + 1 := by rw [← size_list, hT]; rfl
    have hs1 : (T.extract 1 T.size).size ≤ 1000000 := by rw [ByteArray.size_extract]; omega
    have hb := begl_eq n T b l hT
    rcases numR_or l with ⟨v, sz, hn, _, hv64, h1, h10, hsl⟩ | hn | hn
    · rw [hn] at hb
      dsimp only at hb
      rw [if_pos rfl] at hb
      by_cases hv : v ≤ 281474976710656
      · have h := begun_walk n T b l hT hs6 v 0 ((T.extract 1 T.size).extract sz (T.extract 1 T.size).size) (by rw [ByteArray.size_extract, ByteArray.size_extract]; omega)
          (fun u r hr => Uint_ok u r _ hr hs1 281474976710656 v sz (by rw [hl]; exact hn) hv) w
        have e : T.size - ((T.extract 1 T.size).extract sz (T.extract 1 T.size).size).size = 1 + sz := by rw [ByteArray.size_extract, ByteArray.size_extract]; omega
        rw [e] at h
        rw [hb]
        simpa using h
      · have h := begun_walk n T b l hT hs6 0 80 (T.extract 1 T.size) (by rw [ByteArray.size_extract]; omega)
          (fun u r hr => Uint_over u r _ hr hs1 281474976710656 v sz (by rw [hl]; exact hn) hv) w
        rw [if_neg (by simp)] at h
        rw [hb, if_neg (fun hm => hv hm.2.1.2)]
        exact h
    · rw [hn] at hb
      rw [if_neg (by simp)] at hb
      have h := begun_walk n T b l hT hs6 0 6 (T.extract 1 T.size) (by rw [ByteArray.size_extract]; omega)
        (fun u r hr => Uint_bad u r _ hr hs1 281474976710656 6 (by rw [hl]; exact hn) (by decide)) w
      rw [if_neg (by simp)] at h
      rw [hb]
      exact h
    · rw [hn] at hb
      rw [if_neg (by simp)] at hb
      have h := begun_walk n T b l hT hs6 0 7 (T.extract 1 T.size) (by rw [ByteArray.size_extract]; omega)
        (fun u r hr => Uint_bad u r _ hr hs1 281474976710656 7 (by rw [hl]; exact hn) (by decide)) w
      rw [if_neg (by simp)] at h
      rw [hb]
      exact h
end Go.Proofs.YtbekdcpdfmfopaaGreat
end

section
namespace Go.Proofs.YtbekdcpdfmfopaaGreat
open Go.RowKit Go.Shelf

theorem grown_of_ext {W W' : World} (h : Ext W W') : W.grownBy W' none := ⟨h.os, h.tape, h.output, h.size, fun k hk _ => h.block k hk⟩
/-- What a round keeps: all below n₀, and the blocks bs. -/
def KpL (n₀ : Nat) (bs : List Nat) (W W' : World) : Prop := Below n₀ W W' ∧ ∀ b, b ∈ bs → W'.heap[b]? = W.heap[b]?
theorem KpL.refl (n₀ : Nat) (bs : List Nat) (W : World) : KpL n₀ bs W W := ⟨Below.refl _ _, fun _ _ => rfl⟩
theorem KpL.trans {n₀ : Nat} {bs : List Nat} {A B C : World} (h : KpL n₀ bs A B) (k : KpL n₀ bs B C) : KpL n₀ bs A C := ⟨h.1.trans k.1, fun b hb => (k.2 b hb).trans (h.2 b hb)⟩
theorem KpL.of_ext {n₀ : Nat} {bs : List Nat} {A B : World} (h : Ext A B) (hn : n₀ ≤ A.heap.size) (hb : ∀ b, b ∈ bs → b < A.heap.size) : KpL n₀ bs A B := ⟨Below.mono h.below hn, fun b hm => h.block b (hb b hm)⟩
theorem KpL.put {n₀ : Nat} {bs : List Nat} {w : World} (hn : n₀ ≤ w.heap.size) (hb : ∀ b, b ∈ bs → b < w.heap.size) (W : World) (l : Nat) (o o' : Obj) (hwl : w.heap.size ≤ l) (h : W.heap[l]? = some o) (h1 : o.isCells = false) (h2 : o.isWalk = false) : KpL n₀ bs W (W.putObj l o') :=
  ⟨belowK_b hn W l o o' hwl h h1 h2, fun b hm => World.putObj_heap_other (by have := hb b hm; omega)⟩
theorem KpL.below {n₀ : Nat} {bs : List Nat} {A B : World} (h : KpL n₀ bs A B) : Below n₀ A B := h.1
theorem KpL.keeps {n₀ : Nat} {bs : List Nat} {A B : World} (h : KpL n₀ bs A B) {b : Nat} (hb : b ∈ bs) : B.heap[b]? = A.heap[b]? := h.2 b hb
end Go.Proofs.YtbekdcpdfmfopaaGreat
end

section
namespace Go.Proofs.YtbekdcpdfmfopaaGreat
open Go.RowKit

def recCells (r : Rec) : List Value := [.int .u64 (r.n : Int), .string r.t]
/-- Records' cells, one behind the other. -/
def rsCells (L : List Rec) : List Value := L.flatMap recCells
theorem rsCells_length (L : List Rec) : (rsCells L).length = L.length * 2 := by
  induction L with
  | nil => rfl
  | cons a r ih => simp only [rsCells, recCells, List.flatMap_cons, List.length_append, List.length_cons, List.length_nil] at ih ⊢; omega
theorem rsCells_get : ∀ (L : List Rec) (i : Nat) (x : Rec), L[i]? = some x → (rsCells L)[i * 2]? = some (.int .u64 (x.n : Int)) ∧ (rsCells L)[i * 2 + 1]? = some (.string x.t)
  | [], i, x, h => by simp at h
  | a :: r, 0, x, h => by
    simp at h; subst h
    exact ⟨rfl, rfl⟩
  | a :: r, i + 1, x, h => by
    have ih := rsCells_get r i x (by simpa using h)
    have e : ∀ k, (rsCells (a :: r))[(i + 1) * 2 + k]? = (rsCells r)[i * 2 + k]? := fun k => by
      have e1 : (i + 1) * 2 + k = (i * 2 + k) + 2 := by omega
      rw [e1]; rfl
    exact ⟨(e 0).trans ih.1, (e 1).trans ih.2⟩
theorem rsCells_snoc (L : List Rec) (x : Rec) : rsCells (L ++ [x]) = rsCells L ++ recCells x := by simp [rsCells]
theorem infoRec : (Tryz.prog.info? 111).map (fun i => (i.zero, i.size, i.bytes)) = some (some (.agg #[.int .u64 0, .string ⟨#[]⟩]), 2, 24) := by kernel_rfl
/-- A slice of records that grew by append. -/
def BufR (w : World) (B : Nat) (v : Value) (L : List Rec) : Prop := w.ownsRow B 111 2 v L.length (rsCells L)
/-- The cells from the address on, if there are any, are these records. -/
def RecsP (w : World) (p : Option Addr) (L : List Rec) : Prop := ∀ (i : Nat) (x : Rec), L[i]? = some x → ∃ q, p = some ⟨q, 0, none⟩ ∧ q < w.heap.size ∧
    w.cell? ⟨q, i * 2, none⟩ = some (.int .u64 (x.n : Int)) ∧ w.cell? ⟨q, i * 2 + 1, none⟩ = some (.string x.t)
section
variable {w w' : World} {B : Nat} {v : Value} {L : List Rec} {p : Option Addr}
theorem BufR.ext (h : BufR w B v L) (hx : Ext w w') : BufR w' B v L := by
  refine ⟨h.1, ?_⟩
  rcases h.2 with h0 | ⟨g, cap, cur, e1, e2, e3, e4⟩
  · exact .inl h0
  · exact .inr ⟨g, cap, cur, e1, e2, (hx.below.block g (heap_lt e3)).trans e3, e4⟩
theorem BufR.nil (w : World) (B : Nat) : BufR w B (.slice none 0 0) [] := World.ownsRow_nil _ _ _ _
theorem BufR.drew (h : BufR w B v L) : BufR w.drew B v L := h
theorem BufR.base {B' : Nat} (h : BufR w B v L) (hB : B' ≤ B) : BufR w B' v L := by
  refine ⟨h.1, ?_⟩
  rcases h.2 with h0 | ⟨g, cap, cur, e1, e2, e3, e4⟩
  · exact .inl h0
  · exact .inr ⟨g, cap, cur, e1, Nat.le_trans hB e2, e3, e4⟩
/-- What keeps all blocks of records keeps the slice. -/
theorem BufR.kept (h : BufR w B v L) (hk : ∀ (g : Nat) (cs : Array Value) (fz : Nat × Nat), B ≤ g → w.heap[g]? = some (.cells cs 111 fz) → w'.heap[g]? = some (.cells cs 111 fz)) : BufR w' B v L := by
  refine ⟨h.1, ?_⟩
  rcases h.2 with h0 | ⟨g, cap, cur, e1, e2, e3, e4⟩
  · exact .inl h0
  · exact .inr ⟨g, cap, cur, e1, e2, hk g _ _ e2 e3, e4⟩
/-- The slice, its cells. -/
theorem BufR.recs (h : BufR w B v L) : ∃ p c, v = .slice p L.length c ∧ RecsP w p L ∧ (∀ q, p = some q → B ≤ q.block) := by
  unfold BufR at h
  rcases h.2 with ⟨hv, h0⟩ | ⟨g, cap, cur, hv, hB, hg, hle, _, hsz, ht⟩
  · have : L = [] := List.length_eq_zero_iff.1 h0
    subst this
    exact ⟨none, 0, hv, fun i x hx => by simp at hx, by simp⟩
  · refine ⟨some ⟨g, 0, none⟩, cap, hv, fun i x hx => ⟨g, rfl, heap_lt hg, ?_⟩, fun q hq => by cases hq; exact hB⟩
    have hi : i < L.length := (List.getElem?_eq_some_iff.1 hx).1
    obtain ⟨c0, c1⟩ := rsCells_get L i x hx
    have key : ∀ (k : Nat) (u : Value), k < L.length * 2 → (rsCells L)[k]? = some u → w.cell? ⟨g, k, none⟩ = some u := fun k u hk hu => by
      rw [cell_of_row w g k cur _ (0, 0) hg]
      have e : cur.toList[k]? = (rsCells L)[k]? := by
        rw [← ht, List.getElem?_take, if_pos hk]
      rw [← Array.getElem?_toList, e, hu]
    exact ⟨key _ _ (by omega) c0, key _ _ (by omega) c1⟩
theorem RecsP.ext (h : RecsP w p L) (hx : Ext w w') : RecsP w' p L := fun i x hi => by
  obtain ⟨q, h1, h2, h3, h4⟩ := h i x hi
  exact ⟨q, h1, Nat.lt_of_lt_of_le h2 hx.size, (hx.below.cell (p := ⟨q, i * 2, none⟩) h2).trans h3, (hx.below.cell (p := ⟨q, i * 2 + 1, none⟩) h2).trans h4⟩
theorem RecsP.take (h : RecsP w p L) (n : Nat) : RecsP w p (L.take n) := fun i x hi => h i x (by
  rw [List.getElem?_take] at hi
  split at hi
  · exact hi
  · cases hi)
end
theorem rec_two {w : World} {g : Nat} {r : Rec} (hrow : Blk w g 111 (recCells r)) : ∀ (j : Nat) (u : Value), (recCells r)[j]? = some u → w.cell? ((⟨g, 0, none⟩ : Addr).add j) = some u := fun j u hj => by
  have e : ((⟨g, 0, none⟩ : Addr).add j) = ⟨g, j, none⟩ := by unfold Addr.add; split <;> simp_all
  rw [e]
  exact hrow.cell j u hj
theorem rec_one (r : Rec) : ∀ u ∈ recCells r, u.oneCell' = true := fun u hu => by
  simp only [recCells, List.mem_cons, List.not_mem_nil, or_false] at hu
  rcases hu with rfl | rfl <;> rfl
/-- append(l, r) of one record in a new block. -/
theorem append_rec {w : World} {ops : Array Oper} {rest : List Oper} {o : Oper} {a : Act} {Q : Exit → Act → World → Prop} (hgd : o.guard = none) (s x : Operand)
    (ho : o.op = .call { callee := .builtin .append, args := #[s, x], argTypes := #[139, 139] })
    (B : Nat) (v : Value) (L : List Rec) (hs : a.eval s = v) (hbuf : BufR w B v L) (g : Nat) (r : Rec) (hx : a.eval x = .slice (some ⟨g, 0, none⟩) 1 1) (hrow : Blk w g 111 (recCells r))
    (hlen : L.length ≤ 1000000) (hB : B ≤ w.heap.size)
    (h : ∀ v' w', BufR w' B v' (L ++ [r]) → Below B w w' → w.grownBy w' v.ownBlock → wpList Tryz.prog ops Q rest (a.put o.dst v') w') : wpList Tryz.prog ops Q (o :: rest) a w := by
  obtain ⟨i0, hi, hz0, hz1, hz2⟩ := info_parts infoRec
  refine wpList_append_own w hgd s x 139 ho B 111 i0 (.agg #[.int .u64 0, .string ⟨#[]⟩]) 2 24 Tryz.underlying139 hi hz0 hz1 hz2 rfl (by decide) v L.length (rsCells L) hs hbuf ⟨g, 0, none⟩ 1 1 (recCells r) hx rfl (rec_two hrow) (rec_one r) (by unfold maxLen; omega) (by omega) hB ?_
  intro v' w' h1 h2 _
  refine h v' w' ?_ (Below.grown (Below.refl _ _) h2 hB fun k hk => (World.ownsRow.lt hbuf k hk).1) h2
  unfold BufR
  rw [rsCells_snoc]
  simpa using h1
/-- The same inside a fence. -/
theorem append_recIn {F : Fence} {n : Nat} {w : World} {ops : Array Oper} {rest : List Oper} {o : Oper} {a : Act} {Q : Exit → Act → World → Prop} (hgd : o.guard = none) (s x : Operand)
    (ho : o.op = .call { callee := .builtin .append, args := #[s, x], argTypes := #[139, 139] })
    (B : Nat) (v : Value) (L : List Rec) (hs : a.eval s = v) (hbuf : BufR w B v L) (g : Nat) (r : Rec) (hx : a.eval x = .slice (some ⟨g, 0, none⟩) 1 1) (hrow : Blk w g 111 (recCells r))
    (hlen : L.length ≤ 1000000) (hB : B ≤ w.heap.size)
    (h : ∀ v' w', BufR w' B v' (L ++ [r]) → Below B w w' → w.grownBy w' v.ownBlock → wpListIn F n Tryz.prog ops Q rest (a.put o.dst v') w') : wpListIn F n Tryz.prog ops Q (o :: rest) a w := by
  obtain ⟨i0, hi, hz0, hz1, hz2⟩ := info_parts infoRec
  refine wpListIn_append_own w hgd s x 139 ho B 111 i0 (.agg #[.int .u64 0, .string ⟨#[]⟩]) 2 24 Tryz.underlying139 hi hz0 hz1 hz2 rfl (by decide) v L.length (rsCells L) hs hbuf ⟨g, 0, none⟩ 1 1 (recCells r) hx rfl (rec_two hrow) (rec_one r) (by unfold maxLen; omega) (by omega) hB ?_
  intro v' w' h1 h2 _
  refine h v' w' ?_ (Below.grown (Below.refl _ _) h2 hB fun k hk => (World.ownsRow.lt hbuf k hk).1) h2
  unfold BufR
  rw [rsCells_snoc]
  simpa using h1
end Go.Proofs.YtbekdcpdfmfopaaGreat
end

section
namespace Go.Proofs.YtbekdcpdfmfopaaGreat
open Go.RowKit Go.Shelf
attribute [local go_sem] Oper.semAt_some

def strSize : Value → Nat
  | .string b => b.size
  | _ => 0
theorem frames_any (s : ByteArray) (w : World) :
    Calls Tryz.prog 106 #[.string s] w fun e w' => e = .returned (.func (.func 119) #[] #[.pointer (some ⟨w.heap.size, 0, none⟩)]) ∧ w' = w.alloc (.cells #[.string s] 9) := by
  go_enter Tryz.func106, Tryz.ntmps106
  go_wp2
  go_ret
  exact ⟨rfl, rfl⟩
set_option maxRecDepth 100000 in
set_option maxHeartbeats 2000000 in
theorem frames_stops (n : Nat) (hn : 1 ≤ n) (bs n₀ : Nat) (s : ByteArray) (hs : s.size ≤ 1000000) (w : World) (hw : n₀ ≤ w.heap.size)
    (hbs : bs < w.heap.size) (h1 : w.cell? ⟨bs, 0, none⟩ = some (.string s)) :
    SeqStopsK Fence.wide n Tryz.prog 119 #[.pointer (some ⟨bs, 0, none⟩)] (fun x : Itm => #[recV x.1.1, .int .i64 (x.1.2 : Int)]) (Below n₀)
      (fun xs => xs = allI s) (fun pre => ∃ t, pre ++ t = allI s) (allI s).length w := fun l J Jx W hW hJ hJx hY h0 => by
  have HY := Lib.hid hY; have HJ := Lib.hid hJ
  have c1 := (hW.cell (p := ⟨bs, 0, none⟩) hbs).trans h1
  have HW := Lib.hid (show n₀ ≤ W.heap.size from by have := hW.size; omega)
  clear hW hY hJ hJx h1
  refine callsIn_of_wp Tryz.func119 rfl trivial ?_ rfl
  simp only [Tryz.ntmps119, List.size_toArray, List.length_cons, List.length_nil, Nat.reduceAdd, Nat.reduceSub, Array.replicate_succ, Array.replicate_zero, List.push_toArray, List.append_toArray, List.nil_append, List.cons_append]
  gi_wp2
  gi_loopw [3] (fun rv wr => ∃ (pre : List Itm) (r : ByteArray), rv = .string r ∧ allI s = pre ++ allI r ∧ r.size ≤ s.size ∧ J pre wr ∧ Below n₀ W wr) (fun rv _ => strSize rv)
  case atStart => exact ⟨[], s, rfl, rfl, Nat.le_refl _, h0, Below.refl _ _⟩
  case round =>
    obtain ⟨pre, r, rfl, hall, hr, hJr, hbr⟩ := hrel
    clear h0
    have HJr := Lib.hid hJr; have HBr := Lib.hid hbr; have HA := Lib.hid hall
    clear hJr hbr hall
    by_cases h0 : r.size = 0
    · obtain rfl : r = ⟨#[]⟩ := by
        cases r with | mk d => congr 1; exact Array.size_eq_zero_iff.1 h0
      have hS := HA.out
      rw [allI_nil h0, List.append_nil] at hS
      have HS := Lib.hid hS
      clear hS h0 hr
      gi_wp2
      go_end0
      exact ⟨⟨_, rfl⟩, .inl ⟨_, HS.out.symm, HJr.out⟩⟩
    · have hne : (r.toList == []) = false := by
        rw [ByteArray.toList_eq]
        cases hq : (r.data.toList == []) with
        | false => rfl
        | true =>
          have := beq_iff_eq.1 hq
          exact absurd (by rw [← size_list, this]; rfl) h0
      have HD := Lib.hid (fun u => Decode_any r (by omega) u)
      have HEnc : Hid ((itm r).1 = ((decF r).1, (decF r).2.2)) := Lib.hid rfl
      have HUse := Lib.hid (fun h => decF_used r h)
      have HOk := Lib.hid (fun h => allI_ok h0 h)
      have HBad := Lib.hid (fun h => allI_bad h0 h)
      have he101 := (decF_itm r).2.2
      have hlt : pre.length < (allI s).length := by
        rw [HA.out, List.length_append]
        by_cases he : (decF r).2.2 = 0
        · rw [allI_ok h0 he, List.length_cons]; omega
        · rw [allI_bad h0 he, List.length_singleton]; omega
      have HY2 := Lib.hid (fun W1 (h : J pre W1) => HY.out pre (itm r) W1 h hlt)
      obtain ⟨x, hx⟩ : ∃ x, x = itm r := ⟨_, rfl⟩
      rw [← hx] at HOk HBad HEnc HY2
      have HS := Lib.hid (show n₀ ≤ wr.heap.size from by have := HBr.out.size; have := HW.out; omega)
      rw [HEnc.out] at HY2
      clear hx hlt
      generalize hd : decF r = D at *
      obtain ⟨q, u, e0⟩ := D
      dsimp only at *
      unfold recV at HD HY2
      have HBl : Hid (∀ w1 : World, Blk (w1.alloc (.cells #[.int .u64 (q.n : Int), .string q.t] 111)) w1.heap.size 111 (recCells q)) := Lib.hid (fun w1 => Blk.new w1 _ _)
      clear hd
      by_cases he : e0 = 0
      · subst he
        have HA2 := HA.out
        rw [HOk.out rfl] at HA2
        have HA3 := Lib.hid HA2
        obtain ⟨hu1, hu2, hu3⟩ := HUse.out rfl
        have Hu1 := Lib.hid hu1
        have HD0 : Hid (∀ u1, Calls Tryz.prog 86 #[.string r] u1 fun e w' => e = .returned (.tuple #[.agg #[.int .u64 (q.n : Int), .string q.t], .int .i64 (u : Int), .int .i64 0]) ∧ Ext u1 w') := HD
        have HY0 : Hid (∀ W1, J pre W1 → YieldAt Fence.wide (n - 1) Tryz.prog l #[.agg #[.int .u64 (q.n : Int), .string q.t], .int .i64 0] W1 fun e W' => (e = .returned (.bool true) ∧ J (pre ++ [x]) W' ∧ Below n₀ W1 W') ∨ (e = .returned (.bool false) ∧ Jx (pre ++ [x]) W')) := HY2
        have hcut := fun u1 => cut_from r u hu2 u1
        clear HBad HUse HOk HD HY2 HEnc HA2 hu1
        gi_wp2_with (refine ⟨trivial, ?_⟩; gi_at_call 86; refine (callsIn_wide.2 (HD0.out _)).mono ?_; rintro e w2 ⟨rfl, x2⟩; have x3 := x2.alloc (.cells #[.int .u64 (q.n : Int), .string q.t] 111); have hb2 := HBl.out w2; have c2 := hb2.cell 0 _ rfl; have c3 := hb2.cell 1 _ rfl; have X3 := Lib.hid x3; obtain ⟨fn, tmps, assign, body, hy, hR⟩ := HY0.out _ (HJ.out _ _ _ none HJr.out (grown_of_ext x3) (fun r e => by cases e)); clear x2 x3 hb2)
        refine hR.mono ?_
        rintro e W3 (⟨rfl, hJ3, hk3⟩ | ⟨rfl, hJx3⟩)
        · gi_wp2
          go_roundw
          case rel => exact ⟨pre ++ [x], r.extract u r.size, rfl, by rw [HA3.out]; simp, by rw [rest_size]; omega, hJ3, (HBr.out.trans (Below.mono X3.out.below HS.out)).trans hk3⟩
          case measure => simp only [strSize]; rw [rest_size]; have := Hu1.out; omega
        · gi_wp2
          refine bodyPost_ret (results_none rfl _ _ _) rfl ?_
          exact ⟨⟨_, rfl⟩, .inr ⟨_, ⟨allI (r.extract u r.size), by rw [HA3.out]; simp⟩, hJx3⟩⟩
      · have hne0 : ((e0 : Int) != 0) = true := by
          have q : ¬ (e0 : Int) = 0 := by omega
          simpa using q
        have HA2 := HA.out
        rw [HBad.out he] at HA2
        have HA3 := Lib.hid HA2
        clear HBad HUse HOk HEnc HA2
        gi_wp2_with (refine ⟨trivial, ?_⟩; gi_at_call 86; refine (callsIn_wide.2 (HD.out _)).mono ?_; rintro e w2 ⟨rfl, x2⟩; have x3 := x2.alloc (.cells #[.int .u64 (q.n : Int), .string q.t] 111); have hb2 := HBl.out w2; have c2 := hb2.cell 0 _ rfl; have c3 := hb2.cell 1 _ rfl; have X3 := Lib.hid x3; obtain ⟨fn, tmps, assign, body, hy, hR⟩ := HY2.out _ (HJ.out _ _ _ none HJr.out (grown_of_ext x3) (fun r e => by cases e)); clear x2 x3 hb2)
        refine hR.mono ?_
        rintro e W3 (⟨rfl, hJ3, hk3⟩ | ⟨rfl, hJx3⟩)
        · gi_wp2
          refine bodyPost_ret (results_none rfl _ _ _) rfl ?_
          exact ⟨⟨_, rfl⟩, .inl ⟨_, HA3.out.symm, hJ3⟩⟩
        · gi_wp2
          refine bodyPost_ret (results_none rfl _ _ _) rfl ?_
          exact ⟨⟨_, rfl⟩, .inr ⟨_, ⟨[], by rw [HA3.out]; simp⟩, hJx3⟩⟩
end Go.Proofs.YtbekdcpdfmfopaaGreat
end
