/- Texts in a row among a law's arguments, opened: what its walk asks of them. Plain: which segments of a list are a log, in order. No function of the program is named here. Slices of segments; contract: the segment that a log begins with, by the program. Segments among a law's arguments, opened: what its walk asks of them. Contracts of the library's builder of strings, at this translation. Contract: a byte written to a builder of strings. Contracts: what each brick writes to a builder. Contract: the bytes of numbers in a row, by the program. Contract: a record's frame, by the program. Pieces of a head: a byte as a text, a number as bytes; where an operation of a drawn region is done. Contract: a head's bytes, by the program. Contract: the segment in front of bytes, by the program: its records. Plain: maps as lists of keys and elements, in the order in which they came; ranges over them. No function of the program is named here. Plain: maps as lists of keys and elements: an element that is stored whatever was there, a key that is deleted. Plain: what each block is to an object (a footprint); slices of elements of so many cells, nil or not; append to one, in place or not. append in a walk, to slices by footprints. Contract: where segments stand that go on in a generation, by the program: a map of slices that grow. Contract: the first that waits for a number is taken, by the program. Plain: slices of places that grow by append. Contract: which segments are a log, in order, by the program. Contract: whether two lists of places are the same, by the document. Contract: some answers that the document fixes. -/
import Derived.Test.YthnoegipadnmeaaTextsP
import Derived.SizedLaws
import Derived.SliceStrings
import Derived.ChangeSlices
import Derived.Carry
import Derived.Test.YthnoegipadnmeaaSegL
import Derived.Test.YthnoegipadnmeaaSegB
import Derived.Laws.Cells
import Derived.Deep.MidRow
import Derived.Deep.Slices
import Derived.Deep.QuietTactic
import Derived.BigQuiet
import Derived.Deep.DeepCutAuto
import Derived.Outline
import Derived.Deep.Fields
import Derived.ChangeArms
import Derived.Lib.SmallJoins
import Derived.Shelf.Strings.Builder1
import Derived.Shelf.Strings.BuilderF
import Derived.Test.YthnoegipadnmeaaProg
import Derived.Test.YthnoegipadnmeaaBlk
import Derived.Shelf.Strings.BuilderK
import Derived.Test.YthnoegipadnmeaaWireL
import Derived.Laws.BitsAllLaws
import Derived.IntWalk
import Derived.Test.YthnoegipadnmeaaValsL
import Derived.Test.YthnoegipadnmeaaTxt
import Derived.Test.YthnoegipadnmeaaHead
import Derived.Test.YthnoegipadnmeaaAnyInv
import Derived.Test.YthnoegipadnmeaaBuf
import Derived.Test.YthnoegipadnmeaaSegMay
import Derived.Deep.RegionWith
import Derived.Test.YthnoegipadnmeaaPParse
import Derived.Maps.RangeWalk
import Derived.Test.YthnoegipadnmeaaHeap
import Derived.Deep.AppendSrc
import Derived.Deep.Upon
import Derived.Test.YthnoegipadnmeaaMake
import Derived.WalkSpells
import Derived.Test.YthnoegipadnmeaaWz
import Derived.OwnWalkIn
import Derived.StillTailTactics
section
namespace Go.Proofs.Ythnoegipadnmeaa
open Go.ChangeShapes Go.WideShapes Go.ChangeAt Go.RowKit

theorem laidOut : laidOutB Try.prog = true := by kernel_rfl
theorem cells_string : Try.prog.cellsOf 9 = 1 := by kernel_rfl
theorem bytes_string : Try.prog.bytesOf 9 = 16 := by kernel_rfl
section
variable {H : Type} {enc : TypeId × Value → H} {W : World} {base : Nat} {v : Value} {d : DataW H} {p : List MemPlace}
theorem weights_strs (e : TypeId) (l : List ByteArray) (s : ByteArray) (hs : s ∈ l) : s.data.toList.length ∈ DataW.weightsAll Try.prog e (strs (H := H) l) := by
  induction l with
  | nil => cases hs
  | cons x r ih =>
    simp only [strs, List.map_cons, DataW.weightsAll, List.mem_append]
    rcases List.mem_cons.1 hs with rfl | h
    · left; simp [DataW.weights]
    · right; exact ih h
set_option maxRecDepth 100000 in
theorem open_texts_p (hval : Value.okWide Try.prog W .any base 23 v) (h : DataW.Trod enc Try.prog W 0 (fun _ => true) true 23 v d p) (hlt : ∀ x ∈ p, x.block < W.heap.size)
    {ts : List TypeId} {ds : List (DataW H)} {j : Nat} (hsz : (DataW.weightsEach Try.prog ts ds).all (· ≤ reachBytes) = true) (ht : ts[j]? = some 23) (hd : ds[j]? = some d) :
    ∃ (pa : Option Addr) (c : Nat) (l : List ByteArray), v = .slice pa (List.length l) c ∧ TextsP W pa l ∧ l.length ≤ 140737488355328 ∧ ∀ s, s ∈ l → s.size ≤ 140737488351232 := by
  obtain ⟨a0, len, cap, rfl⟩ := okWide_slice Try.underlying23 hval
  obtain ⟨fuel, hf⟩ := h
  rcases open_strings Try.underlying23 Try.underlying9 cells_string hf with ⟨hcs, hx⟩ | ⟨a, len', cap', ss, hcs, _, hl, hm, hz, hx, hcell, _⟩
  · exact ⟨none, 0, [], by simpa [Value.cells] using hcs, TextsP.none W, by simp, by simp⟩
  · simp [Value.cells] at hcs
    obtain ⟨rfl, rfl, rfl⟩ := hcs
    simp only [Prod.mk.injEq] at hx
    obtain ⟨rfl, rfl⟩ := hx
    simp only [if_true] at hz
    have hll : (ss.take len).length = len := by rw [List.length_take]; omega
    have hr := sized_slice hsz ht hd Try.underlying23
    rw [bytes_string] at hr
    simp only [strs, List.length_map, List.length_take, List.length_drop, reachBytes] at hr
    refine ⟨some a, cap, ss.take len, by rw [hll], fun i s hs => ⟨a, rfl, ?_⟩, by rw [hll]; omega, fun s hs => ?_⟩
    · have hi : i < len := by
        have := (List.getElem?_eq_some_iff.1 hs).1
        omega
      rw [List.getElem?_take, if_pos hi] at hs
      have hc := hcell i (by omega)
      have e : ss.getD i ByteArray.empty = s := by rw [List.getD_eq_getElem?_getD, hs]; rfl
      rw [e] at hc
      exact ⟨hlt (.cell a.block (a.off + i)) (MemPlace.mem_row.2 ⟨i, by omega, rfl⟩), hc⟩
    · have hw := DataW.weights_mem_each (P := Try.prog) ht hd s.data.toList.length (by
        simp only [DataW.weights, Try.underlying23, List.mem_cons, List.mem_append]
        exact .inr (.inl (weights_strs _ _ s hs)))
      have := List.all_eq_true.1 hsz _ hw
      simp only [decide_eq_true_eq, reachBytes, size_list] at this
      omega
end
end Go.Proofs.Ythnoegipadnmeaa
end

section
namespace Go.Proofs.Ythnoegipadnmeaa

/-- The segment with the greatest generation: place and generation. -/
def newStep : Option (Nat × Nat) → Nat → Seg → Option (Nat × Nat)
  | none, i, x => if x.k = 1 then some (i, x.g) else none
  | some (a, g), i, x => if x.k = 1 ∧ g < x.g then some (i, x.g) else some (a, g)
def newF (L : List Seg) : Nat → Option (Nat × Nat)
  | 0 => none
  | j + 1 => match L[j]? with
    | none => newF L j
    | some x => newStep (newF L j) j x
theorem newF_succ (L : List Seg) (j : Nat) (x : Seg) (h : L[j]? = some x) : newF L (j + 1) = newStep (newF L j) j x := by
  show (match L[j]? with | none => newF L j | some x => newStep (newF L j) j x) = _
  rw [h]
theorem newF_at (L : List Seg) : ∀ (j a g : Nat), newF L j = some (a, g) → a < j ∧ ∃ x, L[a]? = some x ∧ x.g = g ∧ x.k = 1
  | 0, a, g, h => by simp [newF] at h
  | j + 1, a, g, h => by
    cases hx : L[j]? with
    | none =>
      have e : newF L (j + 1) = newF L j := by
        show (match L[j]? with | none => newF L j | some x => newStep (newF L j) j x) = _
        rw [hx]
      rw [e] at h
      obtain ⟨h1, h2⟩ := newF_at L j a g h
      exact ⟨by omega, h2⟩
    | some x =>
      rw [newF_succ L j x hx] at h
      cases hn : newF L j with
      | none =>
        rw [hn] at h
        simp only [newStep] at h
        split at h
        · rename_i hk
          cases h
          exact ⟨by omega, x, hx, rfl, hk⟩
        · cases h
      | some ag =>
        obtain ⟨a', g'⟩ := ag
        rw [hn] at h
        simp only [newStep] at h
        split at h
        · rename_i hk
          cases h
          exact ⟨by omega, x, hx, rfl, hk.1⟩
        · cases h
          obtain ⟨h1, h2⟩ := newF_at L j a g hn
          exact ⟨by omega, h2⟩
/-- One that goes on in a generation from a number. -/
def isW (L : List Seg) (gen num i : Nat) : Bool := match L[i]? with
  | none => false
  | some x => x.k == 0 && x.g == gen && x.f == num
def waitJ (L : List Seg) (gen num j : Nat) : List Nat := (List.range j).filter (isW L gen num)
/-- Those that wait, where some were taken. -/
def waitF (L : List Seg) (gen : Nat) (T : List Nat) (num : Nat) : List Nat := (List.range L.length).filter fun i => isW L gen num i && !T.contains i
theorem waitJ_succ (L : List Seg) (gen num j : Nat) : waitJ L gen num (j + 1) = waitJ L gen num j ++ (if isW L gen num j = true then [j] else []) := by
  unfold waitJ
  rw [List.range_succ, List.filter_append]
  congr 1
  by_cases h : isW L gen num j = true
  · rw [if_pos h]; simp [h]
  · rw [if_neg h]; simp [h]
theorem waitF_none (L : List Seg) (gen num : Nat) : waitF L gen [] num = waitJ L gen num L.length := by
  unfold waitF waitJ
  congr 1
  funext i
  simp
theorem waitF_mem {L : List Seg} {gen num i : Nat} {T : List Nat} (h : i ∈ waitF L gen T num) : i < L.length ∧ isW L gen num i = true ∧ i ∉ T := by
  unfold waitF at h
  rw [List.mem_filter, List.mem_range] at h
  obtain ⟨h1, h2⟩ := h
  rw [Bool.and_eq_true] at h2
  exact ⟨h1, h2.1, by simpa using h2.2⟩
theorem waitF_take {L : List Seg} {gen num i : Nat} {T r : List Nat} (h : waitF L gen T num = i :: r) (m : Nat) : waitF L gen (i :: T) m = if m = num then r else waitF L gen T m := by
  have hi : i ∈ waitF L gen T num := by rw [h]; simp
  obtain ⟨h1, h2, h3⟩ := waitF_mem hi
  have hsplit : waitF L gen (i :: T) m = (waitF L gen T m).filter (fun x => !(x == i)) := by
    unfold waitF
    rw [List.filter_filter]
    congr 1
    funext x
    rw [List.contains_cons]
    cases isW L gen m x <;> cases T.contains x <;> cases hxi : (x == i) <;> simp
  rw [hsplit]
  by_cases hm : m = num
  · subst hm
    rw [if_pos rfl, h]
    have hnd : (i :: r).Nodup := by
      rw [← h]
      exact List.nodup_range.sublist List.filter_sublist
    have hn := (List.nodup_cons.1 hnd).1
    rw [List.filter_cons, if_neg (by simp)]
    exact List.filter_eq_self.2 (fun x hx => by
      have : x ≠ i := fun e => hn (e ▸ hx)
      simpa using this)
  · rw [if_neg hm]
    refine List.filter_eq_self.2 (fun x hx => ?_)
    have hx2 := (waitF_mem hx).2.1
    have : x ≠ i := fun e => by
      subst e
      unfold isW at h2 hx2
      cases hL : L[x]? with
      | none => rw [hL] at h2; cases h2
      | some y =>
        rw [hL] at h2 hx2
        simp at h2 hx2
        omega
    simpa using this
/-- The number of the record that would come behind. -/
def nextS (x : Seg) : Nat := (x.f + x.r.length) % 18446744073709551616
/-- The log's places behind the one at hand, where some were taken. -/
def rowG (L : List Seg) (gen : Nat) : Nat → Nat → List Nat → List Nat
  | 0, _, _ => []
  | f + 1, a, T => match L[a]? with
    | none => []
    | some x => if x.w = true then
        match waitF L gen T (nextS x) with
        | [] => []
        | i :: _ => i :: rowG L gen f i (i :: T)
      else []
def rowS (L : List Seg) : List Nat × Nat := match newF L L.length with
  | none => ([], 3)
  | some (a, g) => (a :: rowG L g (L.length + 1) a [], 0)
section
variable {L : List Seg} {gen f a : Nat} {T : List Nat} {x : Seg}
theorem rowG_torn (h : L[a]? = some x) (hw : x.w = false) : rowG L gen (f + 1) a T = [] := by
  rw [rowG, h]; simp [hw]
theorem rowG_end (h : L[a]? = some x) (hw : x.w = true) (hn : waitF L gen T (nextS x) = []) : rowG L gen (f + 1) a T = [] := by
  rw [rowG, h]; simp [hw, hn]
theorem rowG_more {i : Nat} {r : List Nat} (h : L[a]? = some x) (hw : x.w = true) (hn : waitF L gen T (nextS x) = i :: r) : rowG L gen (f + 1) a T = i :: rowG L gen f i (i :: T) := by
  rw [rowG, h]; simp [hw, hn]
end
/-- No more are taken than there are. -/
theorem taken_le {n : Nat} : ∀ (T : List Nat), T.Nodup → (∀ i ∈ T, i < n) → T.length ≤ n := by
  intro T hn hl
  have := List.Nodup.length_le_of_subset hn (l₂ := List.range n) (fun i hi => List.mem_range.2 (hl i hi))
  simpa using this
end Go.Proofs.Ythnoegipadnmeaa
end

section
namespace Go.Proofs.Ythnoegipadnmeaa
open Go.RowKit

/-- The cells from the address on, if there are any, are these segments; their records lie there, too. -/
def SegsP (w : World) (p : Option Addr) (L : List Seg) : Prop := ∀ (k : Nat) (x : Seg), L[k]? = some x → ∃ a q c, p = some a ∧ a.block < w.heap.size ∧ TextsP w q x.r ∧ ∀ (j : Nat) (v : Value), (segC x (.slice q x.r.length c))[j]? = some v → w.cell? (a.add (k * 7 + j)) = some v
theorem SegsP.ext {w w' : World} {p : Option Addr} {L : List Seg} (h : SegsP w p L) (hx : Ext w w') : SegsP w' p L := fun k x hk => by
  obtain ⟨a, q, c, h1, h2, h3, h4⟩ := h k x hk
  exact ⟨a, q, c, h1, Nat.lt_of_lt_of_le h2 hx.size, h3.ext hx, fun j v hv => by rw [hx.below.cell (p := a.add (k * 7 + j)) (by rw [add_block]; omega)]; exact h4 j v hv⟩
theorem SegsP.none (w : World) : SegsP w none [] := fun k x hk => by simp at hk
theorem seg_info : (Try.prog.info? 25).map (·.size) = some 7 := by kernel_rfl
theorem seven_at {w : World} {a : Addr} {j k : Nat} {v : Option Value} (h : w.cell? (a.add (j * 7 + (k + 1))) = v) : w.cell? ⟨(a.add (j * 7)).block, (a.add (j * 7)).off + (k + 1), none⟩ = v := by
  rw [← Deep.add_add] at h
  exact h
/-- What newest answers. -/
def newV (o : Option (Nat × Nat)) : Value := match o with
  | none => .tuple #[.int .i64 0, .bool false]
  | some (a, _) => .tuple #[.int .i64 (a : Int), .bool true]
set_option maxRecDepth 100000 in
set_option maxHeartbeats 4000000 in
theorem newest_any (w : World) (p : Option Addr) (c : Nat) (L : List Seg) (h : SegsP w p L) (hl : L.length ≤ 1000000) :
    Calls Try.prog 37 #[.slice p L.length c] w fun e w' => e = .returned (newV (newF L L.length)) ∧ Ext w w' := by
  have HH := Lib.hid (fun u (hu : Ext w u) => h.ext hu)
  have HAt := Lib.hid (newF_at L)
  have HSu := Lib.hid (newF_succ L)
  clear h
  go_enter Try.func37, Try.ntmps37
  go_wp2
  go_loopw [2, 3, 8] (fun pv bv i wr => ∃ (j a : Nat) (is : Bool), j ≤ L.length ∧ i = .int .i64 (j : Int) ∧ pv = .int .i64 (a : Int) ∧ bv = .bool is ∧ Hid (if is = true then ∃ g, newF L j = some (a, g) else (newF L j = none ∧ a = 0)) ∧ Hid (Ext w wr)) (fun _ _ i _ => L.length - (intOf i).toNat)
  case atStart => exact ⟨0, 0, false, Nat.zero_le _, rfl, rfl, rfl, Lib.hid (by simp [newF]), Lib.hid (Ext.refl _)⟩
  case round =>
    obtain ⟨j, a, is, hj, rfl, rfl, rfl, hn, hx⟩ := hrel
    by_cases hlt : j < L.length
    · obtain ⟨x, hxj⟩ : ∃ x, L[j]? = some x := ⟨_, List.getElem?_eq_getElem hlt⟩
      obtain ⟨ad, q, c2, rfl, ha, _, hc⟩ := HH.out _ hx.out j x hxj
      have HN1 := Lib.hid (HSu.out j x hxj)
      have k0 : wr.cell? (ad.add (j * 7)) = some (.int .u8 (x.k : Int)) := hc 0 _ rfl
      have k1 := seven_at (k := 0) (hc 1 _ rfl)
      have k2 := seven_at (k := 1) (hc 2 _ rfl)
      have k3 := seven_at (k := 2) (hc 3 _ rfl)
      have k4 := seven_at (k := 3) (hc 4 _ rfl)
      have k5 := seven_at (k := 4) (hc 5 _ rfl)
      have k6 := seven_at (k := 5) (hc 6 _ rfl)
      have hbx := Blk.new wr [.int .u8 (x.k : Int), .int .u64 (x.g : Int), .int .u64 (x.f : Int), .string x.t, .slice q x.r.length c2, .int .i64 x.u, .bool x.w] 25
      have b0 := hbx.cell 0 _ rfl
      have b1 := hbx.cell 1 _ rfl
      have HX1 := Lib.hid (hx.out.alloc (.cells #[.int .u8 (x.k : Int), .int .u64 (x.g : Int), .int .u64 (x.f : Int), .string x.t, .slice q x.r.length c2, .int .i64 x.u, .bool x.w] 25))
      clear hxj hc hbx ha
      by_cases hk : x.k = 1
      · have hki : ((x.k : Int) == 1) = true := by rw [beq_iff_eq]; omega
        cases is with
        | false =>
          have HS1 := Lib.hid (show newF L j = none from (by have := hn.out; simpa using this.1))
          have HK := Lib.hid hk
          clear hk hn
          go_upto_region 4 with (fail)
          go_quiet (fail)
          go_wp2
          go_roundw
          case rel => exact ⟨j + 1, j, true, hlt, by go_num, rfl, rfl, Lib.hid (by rw [HN1.out]; rw [HS1.out]; simp [newStep, HK.out]), Lib.hid (HX1.out.drewN _)⟩
          case measure => simp [intOf]; omega

        | true =>
          obtain ⟨g, hg⟩ := (by have := hn.out; simpa using this : ∃ g, newF L j = some (a, g))
          obtain ⟨haj, y, hy, hyg, _⟩ := HAt.out j a g hg
          obtain ⟨ad2, q2, c3, e2, _, _, hc2⟩ := HH.out _ HX1.out a y hy
          obtain rfl : ad = ad2 := by simpa using e2
          have m1 := seven_at (k := 0) (hc2 1 _ rfl)
          rw [hyg] at m1
          have haL : a < L.length := by omega
          have HS1 := Lib.hid hg
          have HK := Lib.hid hk
          clear hk hn hy hyg hc2 e2
          by_cases hgt : g < x.g
          · have hgi : (g : Int) < (x.g : Int) := by omega
            have HGt := Lib.hid hgt
            clear hgt
            go_upto_region 4 with (fail)
            go_quiet (fail)
            go_wp2
            go_roundw
            case rel => exact ⟨j + 1, j, true, hlt, by go_num, rfl, rfl, Lib.hid (by rw [HN1.out]; rw [HS1.out]; simp [newStep, HK.out, HGt.out]), Lib.hid (HX1.out.drewN _)⟩
            case measure => simp [intOf]; omega

          · have hgi : ¬ (g : Int) < (x.g : Int) := by omega
            have HGt := Lib.hid hgt
            clear hgt
            go_upto_region 4 with (fail)
            go_quiet (fail)
            go_wp2
            go_roundw
            case rel => exact ⟨j + 1, a, true, hlt, by go_num, rfl, rfl, Lib.hid (by rw [HN1.out]; rw [HS1.out]; simp [newStep, HK.out, HGt.out]), Lib.hid (HX1.out.drewN _)⟩
            case measure => simp [intOf]; omega

      · have hki : ((x.k : Int) == 1) = false := by rw [beq_eq_false_iff_ne]; omega
        have HK := Lib.hid hk
        have HN2 : Hid (if is = true then ∃ g, newF L (j + 1) = some (a, g) else (newF L (j + 1) = none ∧ a = 0)) := Lib.hid (by
          have h1 := hn.out
          rw [HN1.out]
          cases is with
          | false => simp at h1 ⊢; rw [h1.1]; simp [newStep, HK.out, h1.2]
          | true =>
            simp at h1 ⊢
            obtain ⟨g, hg⟩ := h1
            exact ⟨g, by rw [hg]; simp [newStep, HK.out]⟩)
        clear hk hn
        go_upto_region 4 with (fail)
        go_quiet (fail)
        go_wp2
        go_roundw
        case rel => exact ⟨j + 1, a, is, hlt, by go_num, rfl, rfl, HN2, Lib.hid (HX1.out.drewN _)⟩
        case measure => simp [intOf]; omega
    · obtain rfl : j = L.length := by omega
      have HR : Hid (newV (newF L L.length) = .tuple #[.int .i64 (a : Int), .bool is]) := Lib.hid (by
        have h1 := hn.out
        cases is with
        | false => simp at h1; rw [h1.1, h1.2]; rfl
        | true => simp at h1; obtain ⟨g, hg⟩ := h1; rw [hg]; rfl)
      clear hn
      go_wp2
      go_ret2
      exact ⟨by rw [HR.out] <;> rfl, hx.out⟩
end Go.Proofs.Ythnoegipadnmeaa
end

section
namespace Go.Proofs.Ythnoegipadnmeaa
open Go.ChangeShapes Go.WideShapes Go.ChangeAt Go.RowKit
theorem cells_seg : Try.prog.cellsOf 25 = 7 := by kernel_rfl
theorem cells_u8' : Try.prog.cellsOf 5 = 1 := by kernel_rfl
theorem cells_u64' : Try.prog.cellsOf 22 = 1 := by kernel_rfl
theorem cells_int' : Try.prog.cellsOf 3 = 1 := by kernel_rfl
theorem cells_bool' : Try.prog.cellsOf 4 = 1 := by kernel_rfl
theorem cells_strs' : Try.prog.cellsOf 23 = 1 := by kernel_rfl
theorem one_at {l : List Value} {j : Nat} {v : Value} (h : (l.drop j).take 1 = [v]) : l[j]? = some v := by
  have h2 : ((l.drop j).take 1)[0]? = some v := by rw [h]; rfl
  rw [List.getElem?_take, if_pos (by decide), List.getElem?_drop] at h2
  simpa using h2
/-- A list of what there is at each place. -/
theorem list_of_all {α : Type} {P : Nat → α → Prop} : ∀ n, (∀ k, k < n → ∃ x, P k x) → ∃ L : List α, L.length = n ∧ ∀ k x, L[k]? = some x → P k x
  | 0, _ => ⟨[], rfl, fun k x h => by simp at h⟩
  | n + 1, h => by
    obtain ⟨L, hl, hp⟩ := list_of_all n (fun k hk => h k (by omega))
    obtain ⟨x, hx⟩ := h n (by omega)
    refine ⟨L ++ [x], by simp [hl], fun k y hy => ?_⟩
    rcases Nat.lt_trichotomy k n with hk | rfl | hk
    · rw [List.getElem?_append_left (by omega)] at hy
      exact hp k y hy
    · rw [List.getElem?_append_right (by omega)] at hy
      simp [hl] at hy
      subst hy
      exact hx
    · rw [List.getElem?_eq_none (by simp; omega)] at hy
      cases hy
section
variable {H : Type} {enc : TypeId × Value → H} {W : World} {base : Nat} {v : Value} {d : DataW H} {p : List MemPlace}
theorem field_at {cs : List Value} {xs : List (DataW H × List MemPlace)} {n j : Nat} {t : TypeId} {k : IntKind} (hl : j < xs.length) (ht : Try.prog.underlying t = some (.int k)) (h : DataW.trod enc Try.prog W 0 (fun _ => true) true n t ((cs.drop j).take 1) = xs[j]?) : ∃ z, cs[j]? = some (.int k z) ∧ (Lit.int k z).wf = true := by
  rw [List.getElem?_eq_getElem hl] at h
  obtain ⟨z, hz, _, hw⟩ := DataW.trod_int ht h
  exact ⟨z, one_at hz, hw⟩
theorem field_str {cs : List Value} {xs : List (DataW H × List MemPlace)} {n j : Nat} {t : TypeId} (hl : j < xs.length) (ht : Try.prog.underlying t = some .string) (h : DataW.trod enc Try.prog W 0 (fun _ => true) true n t ((cs.drop j).take 1) = xs[j]?) : ∃ s : ByteArray, cs[j]? = some (.string s) ∧ (xs.map (·.1))[j]? = some (.lit (.string s.data.toList)) := by
  have h0 := h
  rw [List.getElem?_eq_getElem hl] at h
  obtain ⟨s, hz, hx, _⟩ := DataW.trod_string ht h
  refine ⟨s, one_at hz, ?_⟩
  rw [List.getElem?_map, List.getElem?_eq_getElem hl, hx]
  rfl
theorem weightsAll_mem {P : Program} {e : TypeId} {w : Nat} {x : DataW H} : ∀ {l : List (DataW H)}, x ∈ l → w ∈ x.weights P e → w ∈ DataW.weightsAll P e l
  | [], h, _ => by cases h
  | a :: r, h, hw => by
    simp only [DataW.weightsAll, List.mem_append]
    rcases List.mem_cons.1 h with rfl | h
    · exact .inl hw
    · exact .inr (weightsAll_mem h hw)
theorem open_texts_f {a0 : Option Addr} {len cap : Nat} {fuel : Nat} (hf : DataW.trod enc Try.prog W 0 (fun _ => true) true fuel 23 [.slice a0 len cap] = some (d, p)) (hlt : ∀ x ∈ p, x.block < W.heap.size)
    {ts : List TypeId} {ds : List (DataW H)} {j : Nat} (hsz : (DataW.weightsEach Try.prog ts ds).all (· ≤ reachBytes) = true) (ht : ts[j]? = some 23) (hd : ds[j]? = some d) :
    ∃ (pa : Option Addr) (c : Nat) (l : List ByteArray), (Value.slice a0 len cap) = .slice pa (List.length l) c ∧ TextsP W pa l ∧ (l.length ≤ 140737488355328 ∧ ∀ s, s ∈ l → s.size ≤ 140737488351232) ∧ l.length ≤ c ∧ (pa = none → c = 0) := by
  rcases open_strings Try.underlying23 Try.underlying9 cells_string hf with ⟨hcs, hx⟩ | ⟨a, len', cap', ss, hcs, _, hl, hm, hz, hx, hcell, _⟩
  · exact ⟨none, 0, [], by simpa [Value.cells] using hcs, TextsP.none W, by simp, by simp, by simp⟩
  · simp at hcs
    obtain ⟨rfl, rfl, rfl⟩ := hcs
    simp only [Prod.mk.injEq] at hx
    obtain ⟨rfl, rfl⟩ := hx
    simp only [if_true] at hz
    have hll : (ss.take len).length = len := by rw [List.length_take]; omega
    have hr := sized_slice hsz ht hd Try.underlying23
    rw [bytes_string] at hr
    simp only [strs, List.length_map, List.length_take, List.length_drop, reachBytes] at hr
    refine ⟨some a, cap, ss.take len, by rw [hll], fun i s hs => ⟨a, rfl, ?_⟩, ⟨by rw [hll]; omega, fun s hs => ?_⟩, by rw [hll]; exact hl, fun e => by cases e⟩
    · have hi : i < len := by
        have := (List.getElem?_eq_some_iff.1 hs).1
        omega
      rw [List.getElem?_take, if_pos hi] at hs
      have hc := hcell i (by omega)
      have e : ss.getD i ByteArray.empty = s := by rw [List.getD_eq_getElem?_getD, hs]; rfl
      rw [e] at hc
      exact ⟨hlt (.cell a.block (a.off + i)) (MemPlace.mem_row.2 ⟨i, by omega, rfl⟩), hc⟩
    · have hw := DataW.weights_mem_each (P := Try.prog) ht hd s.data.toList.length (by
        simp only [DataW.weights, Try.underlying23, List.mem_cons, List.mem_append]
        exact .inr (.inl (weights_strs _ _ s hs)))
      have := List.all_eq_true.1 hsz _ hw
      simp only [decide_eq_true_eq, reachBytes, size_list] at this
      omega
theorem field_bool {cs : List Value} {xs : List (DataW H × List MemPlace)} {n j : Nat} {t : TypeId} (hl : j < xs.length) (ht : Try.prog.underlying t = some .bool) (h : DataW.trod enc Try.prog W 0 (fun _ => true) true n t ((cs.drop j).take 1) = xs[j]?) : ∃ z, cs[j]? = some (.bool z) := by
  rw [List.getElem?_eq_getElem hl] at h
  obtain ⟨z, hz, _⟩ := DataW.trod_bool ht h
  exact ⟨z, one_at hz⟩
/-- The types of a segment's fields. -/
def segTs : List TypeId := [5, 22, 22, 9, 23, 3, 4]
theorem seven_list {cs : List Value} {v0 v1 v2 v3 v4 v5 v6 : Value} (hl : cs.length = 7) (e0 : cs[0]? = some v0) (e1 : cs[1]? = some v1) (e2 : cs[2]? = some v2) (e3 : cs[3]? = some v3) (e4 : cs[4]? = some v4) (e5 : cs[5]? = some v5) (e6 : cs[6]? = some v6) : cs = [v0, v1, v2, v3, v4, v5, v6] := by
  apply List.ext_getElem?
  intro i
  rcases (show i = 0 ∨ i = 1 ∨ i = 2 ∨ i = 3 ∨ i = 4 ∨ i = 5 ∨ i = 6 ∨ 7 ≤ i by omega) with rfl | rfl | rfl | rfl | rfl | rfl | rfl | h
  · exact e0
  · exact e1
  · exact e2
  · exact e3
  · exact e4
  · exact e5
  · exact e6
  · rw [List.getElem?_eq_none (by omega), List.getElem?_eq_none (by simpa using h)]
/-- A segment's cells, read. -/
theorem open_seg_cells {fuel : Nat} {cs : List Value} (htr : DataW.trod enc Try.prog W 0 (fun _ => true) true fuel 25 cs = some (d, p)) (hlt : ∀ x ∈ p, x.block < W.heap.size) (hw : ∀ w ∈ d.weights Try.prog 25, w ≤ reachBytes) :
    ∃ (q : Option Addr) (c : Nat) (x : Seg), cs = segC x (.slice q x.r.length c) ∧ TextsP W q x.r ∧ x.Ok ∧ x.r.length ≤ c ∧ (q = none → c = 0) := by
  obtain ⟨xs, n', _, hD, hcl, hlen, hfl⟩ := DataW.trod_struct Try.underlying25 htr
  have hlen7 : xs.length = 7 := hlen
  simp only [Prod.mk.injEq] at hD
  obtain ⟨rfl, rfl⟩ := hD
  rw [cells_seg] at hcl
  have g0 : DataW.trod enc Try.prog W 0 (fun _ => true) true n' 5 ((cs.drop 0).take (Try.prog.cellsOf 5)) = xs[0]? := hfl 0 _ rfl
  rw [cells_u8'] at g0
  have g1 : DataW.trod enc Try.prog W 0 (fun _ => true) true n' 22 ((cs.drop 1).take (Try.prog.cellsOf 22)) = xs[1]? := hfl 1 _ rfl
  rw [cells_u64'] at g1
  have g2 : DataW.trod enc Try.prog W 0 (fun _ => true) true n' 22 ((cs.drop 2).take (Try.prog.cellsOf 22)) = xs[2]? := hfl 2 _ rfl
  rw [cells_u64'] at g2
  have g3 : DataW.trod enc Try.prog W 0 (fun _ => true) true n' 9 ((cs.drop 3).take (Try.prog.cellsOf 9)) = xs[3]? := hfl 3 _ rfl
  rw [cells_string] at g3
  have g4 : DataW.trod enc Try.prog W 0 (fun _ => true) true n' 23 ((cs.drop 4).take (Try.prog.cellsOf 23)) = xs[4]? := hfl 4 _ rfl
  rw [cells_strs'] at g4
  have g5 : DataW.trod enc Try.prog W 0 (fun _ => true) true n' 3 ((cs.drop 5).take (Try.prog.cellsOf 3)) = xs[5]? := hfl 5 _ rfl
  rw [cells_int'] at g5
  have g6 : DataW.trod enc Try.prog W 0 (fun _ => true) true n' 4 ((cs.drop 6).take (Try.prog.cellsOf 4)) = xs[6]? := hfl 6 _ rfl
  rw [cells_bool'] at g6
  obtain ⟨d0, e0, w0⟩ := field_at (k := .u8) (by omega) Try.underlying5 g0
  obtain ⟨d1, e1, w1⟩ := field_at (k := .u64) (by omega) Try.underlying22 g1
  obtain ⟨d2, e2, w2⟩ := field_at (k := .u64) (by omega) Try.underlying22 g2
  obtain ⟨s3, e3, x3⟩ := field_str (by omega) Try.underlying9 g3
  obtain ⟨y4, hy4⟩ : ∃ y, xs[4]? = some y := ⟨_, List.getElem?_eq_getElem (by omega)⟩
  rw [hy4] at g4
  obtain ⟨a4, l4, c4, hc4⟩ := Go.Joins.slice_form Try.underlying23 g4
  have e4 := one_at hc4
  rw [hc4] at g4
  obtain ⟨d5, e5, w5⟩ := field_at (k := .i64) (by omega) Try.underlying3 g5
  obtain ⟨b6, e6⟩ := field_bool (by omega) Try.underlying4 g6
  simp [Lit.wf, IntKind.min, IntKind.max, IntKind.signed, IntKind.bits] at w0 w1 w2 w5
  have hwe : ∀ w ∈ DataW.weightsEach Try.prog segTs (xs.map (·.1)), w ≤ reachBytes := fun w hw1 => hw w (by
    simp only [DataW.weights, Try.underlying25]
    exact hw1)
  have hwb : (DataW.weightsEach Try.prog segTs (xs.map (·.1))).all (· ≤ reachBytes) = true := List.all_eq_true.2 (fun w hw1 => by simpa using hwe w hw1)
  have hs3 := hwe s3.data.toList.length (DataW.weights_mem_each (P := Try.prog) (j := 3) (t := 9) rfl x3 _ (by simp [DataW.weights]))
  simp only [reachBytes, size_list] at hs3
  obtain ⟨q, c, l, hv4, ht4, ⟨hl4, hz4⟩, hc8⟩ := open_texts_f g4 (fun x hx => hlt x (List.mem_flatMap.2 ⟨y4, List.mem_of_getElem? hy4, hx⟩)) hwb (j := 4) rfl (by rw [List.getElem?_map, hy4]; rfl)
  have n0 : ((d0.toNat : Nat) : Int) = d0 := Int.toNat_of_nonneg (by omega)
  have n1 : ((d1.toNat : Nat) : Int) = d1 := Int.toNat_of_nonneg (by omega)
  have n2 : ((d2.toNat : Nat) : Int) = d2 := Int.toNat_of_nonneg (by omega)
  refine ⟨q, c, ⟨d0.toNat, d1.toNat, d2.toNat, s3, l, d5, b6⟩, ?_, ht4, ⟨by show d0.toNat < _; omega, by show d1.toNat < _; omega, by show d2.toNat < _; omega, by show _ ∧ _; omega, by show s3.size ≤ _; omega, hl4, hz4⟩, hc8⟩
  unfold segC
  dsimp only
  rw [n0, n1, n2, ← hv4]
  exact seven_list hcl e0 e1 e2 e3 e4 e5 e6
set_option maxRecDepth 100000 in
theorem open_seg_c (hval : Value.okWide Try.prog W .any base 25 v) (h : DataW.Trod enc Try.prog W 0 (fun _ => true) true 25 v d p) (hlt : ∀ x ∈ p, x.block < W.heap.size)
    {ts : List TypeId} {ds : List (DataW H)} {j : Nat} (hsz : (DataW.weightsEach Try.prog ts ds).all (· ≤ reachBytes) = true) (ht : ts[j]? = some 25) (hd : ds[j]? = some d) :
    ∃ (q : Option Addr) (c : Nat) (x : Seg), v = segV x (.slice q x.r.length c) ∧ TextsP W q x.r ∧ x.Ok ∧ x.r.length ≤ c ∧ (q = none → c = 0) := by
  obtain ⟨cs, rfl, _⟩ := okWide_struct Try.underlying25 hval
  obtain ⟨fuel, hf⟩ := h
  obtain ⟨q, c, x, hcs, h1, h2⟩ := open_seg_cells hf hlt (fun w hw => by
    have := List.all_eq_true.1 hsz _ (DataW.weights_mem_each (P := Try.prog) ht hd w hw)
    simpa using this)
  refine ⟨q, c, x, ?_, h1, h2⟩
  have e : cs.toList = segC x (.slice q x.r.length c) := by simpa [Value.cells] using hcs
  rw [show cs = (segC x (.slice q x.r.length c)).toArray from by rw [← e]]
  rfl
set_option maxRecDepth 100000 in
theorem open_seg_p (hval : Value.okWide Try.prog W .any base 25 v) (h : DataW.Trod enc Try.prog W 0 (fun _ => true) true 25 v d p) (hlt : ∀ x ∈ p, x.block < W.heap.size)
    {ts : List TypeId} {ds : List (DataW H)} {j : Nat} (hsz : (DataW.weightsEach Try.prog ts ds).all (· ≤ reachBytes) = true) (ht : ts[j]? = some 25) (hd : ds[j]? = some d) :
    ∃ (q : Option Addr) (c : Nat) (x : Seg), v = segV x (.slice q x.r.length c) ∧ TextsP W q x.r ∧ x.Ok := by
  obtain ⟨q, c, x, h1, h2, h3, _⟩ := open_seg_c hval h hlt hsz ht hd
  exact ⟨q, c, x, h1, h2, h3⟩
end
end Go.Proofs.Ythnoegipadnmeaa
end

section
namespace Go.Proofs.Ythnoegipadnmeaa
open Go.RowKit

def renW : Go.Shelf.Ren := ⟨fun | 166 => 28 | 240 => 46 | 276 => 59 | n => n, fun | 0 => 0 | 3 => 3 | 4 => 4 | 5 => 5 | 9 => 9 | 20 => 20 | 37 => 55 | 70 => 64 | 72 => 66 | 75 => 68 | 80 => 71 | 164 => 118 | n => n, fun n => n⟩
theorem laysW : Go.Proofs.Lays.n166 Try.prog renW := {
  mixed := by kernel_rfl
  f166 := Try.func28.trans (congrArg some (by kernel_rfl))
  f240 := Try.func46.trans (congrArg some (by kernel_rfl))
  f276 := Try.func59.trans (congrArg some (by kernel_rfl))
  t0 := Try.underlying0
  a0 := Try.isAgg0
  z0 := Try.sizeOf0
  v0 := Try.zeroValue0
  t3 := Try.underlying3
  a3 := Try.isAgg3
  z3 := Try.sizeOf3
  v3 := Try.zeroValue3
  t4 := Try.underlying4
  a4 := Try.isAgg4
  z4 := Try.sizeOf4
  v4 := Try.zeroValue4
  t9 := Try.underlying9
  a9 := Try.isAgg9
  z9 := Try.sizeOf9
  v9 := Try.zeroValue9
  t20 := Try.underlying20
  a20 := Try.isAgg20
  z20 := Try.sizeOf20
  v20 := Try.zeroValue20
  t37 := Try.underlying55
  a37 := Try.isAgg55
  z37 := Try.sizeOf55
  v37 := Try.zeroValue55
  t70 := Try.underlying64
  a70 := Try.isAgg64
  z70 := Try.sizeOf64
  v70 := Try.zeroValue64
  t72 := Try.underlying66
  a72 := Try.isAgg66
  z72 := Try.sizeOf66
  v72 := Try.zeroValue66
  t75 := Try.underlying68
  a75 := Try.isAgg68
  z75 := Try.sizeOf68
  v75 := Try.zeroValue68
  t164 := Try.underlying118
  a164 := Try.isAgg118
  z164 := Try.sizeOf118
  v164 := Try.zeroValue118 }
def renS : Go.Shelf.Ren := ⟨fun | 169 => 29 | n => n, fun | 0 => 0 | 3 => 3 | 5 => 5 | 9 => 9 | 37 => 55 | 70 => 64 | 72 => 66 | 127 => 101 | n => n, fun n => n⟩
theorem laysS : Go.Proofs.Lays.n169 Try.prog renS := {
  mixed := by kernel_rfl
  f169 := Try.func29.trans (congrArg some (by kernel_rfl))
  t0 := Try.underlying0
  a0 := Try.isAgg0
  z0 := Try.sizeOf0
  v0 := Try.zeroValue0
  t3 := Try.underlying3
  a3 := Try.isAgg3
  z3 := Try.sizeOf3
  v3 := Try.zeroValue3
  t9 := Try.underlying9
  a9 := Try.isAgg9
  z9 := Try.sizeOf9
  v9 := Try.zeroValue9
  t37 := Try.underlying55
  a37 := Try.isAgg55
  z37 := Try.sizeOf55
  v37 := Try.zeroValue55
  t70 := Try.underlying64
  a70 := Try.isAgg64
  z70 := Try.sizeOf64
  v70 := Try.zeroValue64
  t72 := Try.underlying66
  a72 := Try.isAgg66
  z72 := Try.sizeOf66
  v72 := Try.zeroValue66
  t127 := Try.underlying101
  a127 := Try.isAgg101
  z127 := Try.sizeOf101
  v127 := Try.zeroValue101 }
theorem extraW : Builder.Extra Try.prog renW := {
  sizeBuilder := by kernel_rfl
  liesBuilder := by kernel_rfl
  t5 := Try.underlying5
  a5 := Try.isAgg5
  z5 := Try.sizeOf5
  v5 := Try.zeroValue5
  infoByte := by kernel_rfl
  cellsByte := by kernel_rfl
  sizeByte := by kernel_rfl
  neB5 := by decide }
theorem extraS : Builder.Extra Try.prog renS := {
  sizeBuilder := by kernel_rfl
  liesBuilder := by kernel_rfl
  t5 := Try.underlying5
  a5 := Try.isAgg5
  z5 := Try.sizeOf5
  v5 := Try.zeroValue5
  infoByte := by kernel_rfl
  cellsByte := by kernel_rfl
  sizeByte := by kernel_rfl
  neB5 := by decide }
/-- Block b is a builder that holds these bytes. -/
abbrev IsB (w : World) (B b : Nat) (l : List UInt8) : Prop := Lib.IsBuilderF 66 5 B b (Lib.byteCells l) w
theorem IsB.new (w : World) (B : Nat) (hB : B ≤ w.heap.size) : IsB (w.alloc (.cells #[.pointer none, .slice none 0 0] 66)) B w.heap.size [] :=
  .inl ⟨hB, _, heap_alloc_new w _, World.ownsRowF_of (World.ownsRow_nil _ _ _ _), by simp [Value.ownBlock]⟩
theorem IsB.ext {B b : Nat} {l : List UInt8} {w w' : World} (h : IsB w B b l) (hx : Ext w w') : IsB w' B b l := by
  have key : ∀ p, Lib.BuilderAtF 66 5 B b p (Lib.byteCells l) w → Lib.BuilderAtF 66 5 B b p (Lib.byteCells l) w' := by
    rintro p ⟨hB, v, hv, hown, hne⟩
    refine ⟨hB, v, (hx.below.block b (heap_lt hv)).trans hv, ⟨hown.1, ?_⟩, hne⟩
    rcases hown.2 with h0 | ⟨g, cap, cur, fz, e1, e2, e3, e4⟩
    · exact .inl h0
    · exact .inr ⟨g, cap, cur, fz, e1, e2, (hx.below.block g (heap_lt e3)).trans e3, e4⟩
  exact h.imp (key _) (key _)
theorem write_b (B b : Nat) (l m : List UInt8) (w : World) (h : IsB w B b l) (hlen : l.length + m.length ≤ 140737488355328) (hBw : B ≤ w.heap.size) :
    Calls Try.prog 28 #[.pointer (some ⟨b, 0, none⟩), .string ⟨m.toArray⟩] w fun e w' => e = .returned (.tuple #[.int .i64 (m.length : Int), .nilIface]) ∧ IsB w' B b (l ++ m) ∧ Below B w w' :=
  (Any.Builder_WriteString_f laysW extraW B b (Lib.byteCells l) ⟨m.toArray⟩ w h (by rw [Lib.byteCells_length]; simpa [ByteArray.size] using hlen) hBw).mono fun _ _ h => ⟨h.1, .inr (by rw [Lib.byteCells_append]; exact h.2.1), h.2.2⟩
theorem string_b (B b : Nat) (l : List UInt8) (w : World) (h : IsB w B b l) (hBw : B ≤ w.heap.size) :
    Calls Try.prog 29 #[.pointer (some ⟨b, 0, none⟩)] w fun e w' => e = .returned (.string ⟨l.toArray⟩) ∧ Below B w w' :=
  (Any.Builder_String_any_f laysS extraS B b l w h hBw).mono fun _ _ h => ⟨h.1, h.2.2⟩
end Go.Proofs.Ythnoegipadnmeaa
end

section
namespace Go.Proofs.Ythnoegipadnmeaa
open Go.RowKit

def renB : Go.Shelf.Ren := ⟨fun | 167 => 57 | 240 => 46 | 276 => 59 | n => n, fun | 0 => 0 | 4 => 4 | 5 => 5 | 9 => 9 | 20 => 20 | 37 => 55 | 70 => 64 | 72 => 66 | 75 => 68 | 164 => 118 | 80 => 71 | n => n, fun n => n⟩
theorem laysB : Go.Proofs.Lays.n167 Try.prog renB := {
  mixed := by kernel_rfl
  f167 := Try.func57.trans (congrArg some (by kernel_rfl))
  f240 := Try.func46.trans (congrArg some (by kernel_rfl))
  f276 := Try.func59.trans (congrArg some (by kernel_rfl))
  t0 := Try.underlying0
  a0 := Try.isAgg0
  z0 := Try.sizeOf0
  v0 := Try.zeroValue0
  t4 := Try.underlying4
  a4 := Try.isAgg4
  z4 := Try.sizeOf4
  v4 := Try.zeroValue4
  t5 := Try.underlying5
  a5 := Try.isAgg5
  z5 := Try.sizeOf5
  v5 := Try.zeroValue5
  t9 := Try.underlying9
  a9 := Try.isAgg9
  z9 := Try.sizeOf9
  v9 := Try.zeroValue9
  t20 := Try.underlying20
  a20 := Try.isAgg20
  z20 := Try.sizeOf20
  v20 := Try.zeroValue20
  t37 := Try.underlying55
  a37 := Try.isAgg55
  z37 := Try.sizeOf55
  v37 := Try.zeroValue55
  t70 := Try.underlying64
  a70 := Try.isAgg64
  z70 := Try.sizeOf64
  v70 := Try.zeroValue64
  t72 := Try.underlying66
  a72 := Try.isAgg66
  z72 := Try.sizeOf66
  v72 := Try.zeroValue66
  t75 := Try.underlying68
  a75 := Try.isAgg68
  z75 := Try.sizeOf68
  v75 := Try.zeroValue68
  t164 := Try.underlying118
  a164 := Try.isAgg118
  z164 := Try.sizeOf118
  v164 := Try.zeroValue118 }
theorem extraB : Builder.Extra Try.prog renB := {
  sizeBuilder := by kernel_rfl
  liesBuilder := by kernel_rfl
  t5 := Try.underlying5
  a5 := Try.isAgg5
  z5 := Try.sizeOf5
  v5 := Try.zeroValue5
  infoByte := by kernel_rfl
  cellsByte := by kernel_rfl
  sizeByte := by kernel_rfl
  neB5 := by decide }
theorem byteCells_one (x : Int) (b : UInt8) (hx : x = (b.toNat : Int)) : [Value.int .u8 x] = Lib.byteCells [b] := by subst hx; rfl
theorem byte_b (B b : Nat) (l : List UInt8) (x : Int) (c : UInt8) (hx : x = (c.toNat : Int)) (w : World) (h : IsB w B b l) (hlen : l.length + 1 ≤ 140737488355328) (hBw : B ≤ w.heap.size) :
    Calls Try.prog 57 #[.pointer (some ⟨b, 0, none⟩), .int .u8 x] w fun e w' => e = .returned .nilIface ∧ IsB w' B b (l ++ [c]) ∧ Below B w w' :=
  (Any.Builder_WriteByte_k laysB extraB B b (Lib.byteCells l) x w h (by rw [Lib.byteCells_length]; exact hlen) hBw).mono fun _ _ h => ⟨h.1, .inr (by rw [Lib.byteCells_append, ← byteCells_one x c hx]; exact h.2.1), h.2.2.1⟩
end Go.Proofs.Ythnoegipadnmeaa
end

section
namespace Go.Proofs.Ythnoegipadnmeaa
open Go.RowKit
attribute [local irreducible] wnF

theorem or_high (m : Nat) (h : m < 256) : m ||| 128 = m % 128 + 128 := by
  have e : m ||| 128 = m % 128 ||| 128 := by
    apply Nat.eq_of_testBit_eq
    intro i
    have e7 : ∀ i, Nat.testBit 128 i = decide (7 = i) := fun i => by rw [show 128 = 2 ^ 7 by rfl, Nat.testBit_two_pow]
    rw [Nat.testBit_or, Nat.testBit_or, e7, show m % 128 = m % 2 ^ 7 by rfl, Nat.testBit_mod_two_pow]
    by_cases h7 : 7 = i
    · simp [h7]
    · by_cases hi : i < 7
      · simp [hi]
      · have : m.testBit i = false := Nat.testBit_lt_two_pow (Nat.lt_of_lt_of_le h (by exact Nat.pow_le_pow_right (n := 2) (by decide) (show 8 ≤ i by omega)))
        simp [this]
  have e2 := Nat.shiftLeft_add_eq_or_of_lt (show m % 128 < 2 ^ 7 by omega) 1
  rw [e, Nat.or_comm]
  have e3 : (1 <<< 7 : Nat) = 128 := rfl
  rw [e3] at e2
  omega
theorem or_u8 (m : Nat) : bits BinOp.or IntKind.u8 ((m : Int) % 256) 128 = ((UInt8.ofNat (m % 128 + 128)).toNat : Int) := by
  rw [ofNat_toNat _ (by omega)]
  have e : (m : Int) % 256 = ((m % 256 : Nat) : Int) := by omega
  have h := u8_or_nat (m % 256) 128 (by omega) (by omega)
  rw [or_high _ (by omega)] at h
  rw [e]
  refine Eq.trans h ?_
  congr 1
  omega
set_option maxRecDepth 100000 in
set_option maxHeartbeats 1000000 in
theorem putUint_any (B b : Nat) (l : List UInt8) (n : Nat) (hn : n < 18446744073709551616) (w : World) (h : IsB w B b l) (hlen : l.length ≤ 1000000) (hBw : B ≤ w.heap.size) :
    Calls Try.prog 43 #[.pointer (some ⟨b, 0, none⟩), .int .u64 (n : Int)] w fun e w' => e = .returned (.tuple #[]) ∧ IsB w' B b (l ++ wn n) ∧ Below B w w' := by
  have HB := Lib.hid h; have HL := Lib.hid hlen; have HS := Lib.hid hBw; have HN := Lib.hid hn
  clear h hlen hn
  go_enter Try.func43, Try.ntmps43
  go_wp2
  go_loopw [1] (fun v wr => ∃ (k m : Nat) (z : List UInt8), v = .int .u64 (m : Int) ∧ Hid (z ++ wnF k m = wn n ∧ m < 2 * 128 ^ k ∧ m < 18446744073709551616 ∧ z.length ≤ 9 - k ∧ k ≤ 9) ∧ Hid (IsB wr B b (l ++ z)) ∧ Hid (Below B w wr)) (fun v _ => (intOf v).toNat)
  case atStart => exact ⟨9, n, [], rfl, Lib.hid ⟨rfl, by have := HN.out; omega, HN.out, by simp, by omega⟩, Lib.hid (by rw [List.append_nil]; exact HB.out), Lib.hid (Below.refl _ _)⟩
  case round =>
    obtain ⟨k, m, z, rfl, hk, hb, hx⟩ := hrel
    obtain ⟨hz, hm, hm64, hzl, hk9⟩ := hk.out
    clear hk
    by_cases h128 : m < 128
    · have h128i : (m : Int) < 128 := by omega
      rw [wnF_low _ _ h128] at hz
      have HZ := Lib.hid hz
      clear hz
      have hx1 : (m : Int) = ((UInt8.ofNat m).toNat : Int) := by rw [ofNat_toNat _ (by omega)]
      generalize UInt8.ofNat m = c at *
      have HX1 := Lib.hid hx1
      have hl1 : (l ++ z).length + 1 ≤ 140737488355328 := by have := HL.out; rw [List.length_append]; omega
      have HL1 := Lib.hid hl1
      clear hx1 hl1
      go_wp2_with (go_at_call 57; refine (byte_b B b (l ++ z) _ c HX1.out _ hb.out HL1.out (Nat.le_trans HS.out hx.out.size)).mono ?_; rintro e w2 ⟨rfl, hb2, x2⟩; have HB2 := Lib.hid hb2; have X2 := Lib.hid x2; clear hb2 x2)
      go_end0
      exact ⟨rfl, by rw [← HZ.out, ← List.append_assoc]; exact HB2.out, hx.out.trans X2.out⟩
    · obtain ⟨k', rfl⟩ : ∃ k', k = k' + 1 := by
        cases k with
        | zero => simp at hm; omega
        | succ k' => exact ⟨k', rfl⟩
      rw [wnF_high _ _ h128] at hz
      have h128i : ¬ (m : Int) < 128 := by omega
      have HZ := Lib.hid hz
      have hor : bits BinOp.or IntKind.u8 ((m : Int) % 256) 128 = ((UInt8.ofNat (m % 128 + 128)).toNat : Int) := by
        exact or_u8 m
      have HO := Lib.hid hor
      clear hz hor
      generalize UInt8.ofNat (m % 128 + 128) = c at *
      have hl1 : (l ++ z).length + 1 ≤ 140737488355328 := by have := HL.out; rw [List.length_append]; omega
      have HL1 := Lib.hid hl1
      clear hl1
      go_wp2_with (go_at_call 57; refine (byte_b B b (l ++ z) _ c HO.out _ hb.out HL1.out (Nat.le_trans HS.out hx.out.size)).mono ?_; rintro e w2 ⟨rfl, hb2, x2⟩; have HB2 := Lib.hid hb2; have X2 := Lib.hid x2; clear hb2 x2)
      go_roundw
      case rel =>
        refine ⟨k', m / 128, z ++ [c], by go_num, Lib.hid ⟨?_, ?_, by omega, ?_, by omega⟩, Lib.hid ?_, Lib.hid (hx.out.trans X2.out)⟩
        · rw [← HZ.out, List.append_assoc, List.singleton_append]
        · rw [pow_step] at hm; omega
        · rw [List.length_append, List.length_singleton]; omega
        · rw [← List.append_assoc]; exact HB2.out
      case measure => simp [intOf]; omega
end Go.Proofs.Ythnoegipadnmeaa
end

section
namespace Go.Proofs.Ythnoegipadnmeaa
open Go.RowKit
attribute [local irreducible] wnF

theorem flat_take {α : Type} (f : α → List UInt8) (l : List α) (j : Nat) (x : α) (h : l[j]? = some x) : (l.take (j + 1)).flatMap f = (l.take j).flatMap f ++ f x := by
  rw [List.take_add_one, h]
  simp
theorem flat_take_le {α : Type} (f : α → List UInt8) : ∀ (l : List α) (j : Nat), ((l.take j).flatMap f).length ≤ (l.flatMap f).length
  | [], j => by simp
  | x :: r, 0 => by simp
  | x :: r, j + 1 => by
    have := flat_take_le f r j
    rw [List.take_succ_cons, List.flatMap_cons, List.flatMap_cons, List.length_append, List.length_append]
    omega

set_option maxRecDepth 100000 in
set_option maxHeartbeats 1000000 in
theorem bytesU_any (w : World) (p : Option Addr) (c n : Nat) (l : List Nat) (hn : l.length = n) (h : ValsP w p (vU l)) (hx : ∀ x ∈ l, x < 18446744073709551616) (hlen : (l.flatMap wn).length ≤ 1000000) (hn6 : n ≤ 1000000) :
    Calls Try.prog 42 #[.slice p n c, .func (.func 43) #[] #[]] w fun e w' => e = .returned (.string ⟨(l.flatMap wn).toArray⟩) ∧ Ext w w' := by
  have HH := Lib.hid (fun u (hu : Ext w u) => h.ext hu)
  have HT := Lib.hid (fun j => Nat.le_trans (flat_take_le wn l j) hlen)
  have HX := Lib.hid hx
  have HN := Lib.hid hn
  have HP : Hid (∀ (x : Nat), x ∈ l → ∀ u z, IsB u w.heap.size w.heap.size z → z.length ≤ 1000000 → w.heap.size ≤ u.heap.size → Calls Try.prog 43 #[.pointer (some ⟨w.heap.size, 0, none⟩), .int .u64 (x : Int)] u fun e w' => e = .returned (.tuple #[]) ∧ IsB w' w.heap.size w.heap.size (z ++ wn x) ∧ Below w.heap.size u w') := Lib.hid (fun x hxl u z hB hL hS => by
    have hx := HX.out x hxl
    exact putUint_any w.heap.size w.heap.size _ x hx _ hB hL hS)
  have HI := Lib.hid (IsB.new w w.heap.size (Nat.le_refl _))
  have HX0 := Lib.hid ((Ext.refl w).alloc (.cells #[.pointer none, .slice none 0 0] 66))
  clear h hx hlen hn
  go_enter Try.func42, Try.ntmps42
  go_wp2
  go_loopw [10] (fun i wr => ∃ j : Nat, j ≤ n ∧ i = .int .i64 (j : Int) ∧ Hid (IsB wr w.heap.size w.heap.size ((l.take j).flatMap wn)) ∧ Hid (Ext w wr)) (fun i _ => n - (intOf i).toNat)
  case atStart => exact ⟨0, Nat.zero_le _, rfl, Lib.hid HI.out, HX0⟩
  case round =>
    obtain ⟨j, hj, rfl, hb, hext⟩ := hrel
    by_cases hlt : j < n
    · obtain ⟨x, hs⟩ : ∃ x, l[j]? = some x := ⟨_, List.getElem?_eq_getElem (by have := HN.out; omega)⟩
      obtain ⟨a, rfl, _, hc1⟩ := HH.out _ hext.out j _ (vU_get hs)
      have HF := Lib.hid (flat_take wn l j x hs)
      have HPx := Lib.hid (HP.out x (List.mem_of_getElem? hs) wr _ hb.out (HT.out j) hext.out.size)
      clear hs
      go_wp2_with (go_at_call 43; refine (HPx.out).mono ?_; rintro e w2 ⟨rfl, hb2, x2⟩; have HB2 := Lib.hid hb2; have X2 := Lib.hid x2; clear hb2 x2)
      go_roundw
      case rel => exact ⟨j + 1, hlt, by go_num, Lib.hid (by rw [HF.out]; exact HB2.out), Lib.hid (hext.out.trans3 X2.out)⟩
      case measure => simp [intOf]; omega
    · obtain rfl : j = n := by omega
      have hb3 := hb.out
      rw [List.take_of_length_le (by have := HN.out; omega)] at hb3
      have HS := Lib.hid (string_b w.heap.size w.heap.size _ wr hb3 hext.out.size)
      clear hb3
      go_wp2_with (go_at_call 29; refine (HS.out).mono ?_; rintro e w2 ⟨rfl, x2⟩; have X2 := Lib.hid x2; clear x2)
      go_ret
      exact ⟨rfl, hext.out.trans3 X2.out⟩
theorem Uints_any (w : World) (p : Option Addr) (c n : Nat) (l : List Nat) (hn : l.length = n) (h : ValsP w p (vU l)) (hx : ∀ x ∈ l, x < 18446744073709551616) (hlen : (l.flatMap wn).length ≤ 1000000) (hn6 : n ≤ 1000000) :
    Calls Try.prog 24 #[.slice p n c] w fun e w' => e = .returned (.string ⟨(l.flatMap wn).toArray⟩) ∧ Ext w w' := by
  have HH := Lib.hid (bytesU_any w p c n l hn h hx hlen hn6)
  clear h hx hlen hn
  go_enter Try.func24, Try.ntmps24
  go_wp2_with (go_at_call 42; refine (HH.out).mono ?_; rintro e w2 ⟨rfl, x2⟩; have X2 := Lib.hid x2; clear x2)
  go_ret
  exact ⟨rfl, X2.out⟩

end Go.Proofs.Ythnoegipadnmeaa
end

section
namespace Go.Proofs.Ythnoegipadnmeaa
open Go.RowKit

theorem frame_text2P (r : Rec) : (⟨(headS r.t.size r.n r.t.data.toList).toArray⟩ : ByteArray) ++ r.t = frameT r := by
  unfold frameT frameL
  rw [← str_append]
set_option maxRecDepth 100000 in
set_option maxHeartbeats 2000000 in
theorem Encode_any (r : Rec) (hr : r.n < 18446744073709551616) (hs : r.t.size ≤ 1000000) (w : World) :
    Calls Try.prog 23 #[recV r] w fun e w' => e = .returned (.tuple #[.string (encF r).1, .int .i64 ((encF r).2 : Int)]) ∧ Ext w w' := by
  have HHd := Lib.hid (fun u => headOf_any r hr (Nat.le_trans hs (by decide)) u)
  obtain ⟨n, t⟩ := r
  dsimp only at hr hs HHd ⊢
  unfold recV at HHd ⊢
  dsimp only at HHd ⊢
  have hb : Blk (w.alloc (.cells #[.int .u64 (n : Int), .string t] 60)) w.heap.size 60 [.int .u64 (n : Int), .string t] := Blk.new w _ _
  have hx : Ext w (w.alloc (.cells #[.int .u64 (n : Int), .string t] 60)) := (Ext.refl w).alloc _
  have c0 := hb.cell 0 _ rfl
  have c1 := hb.cell 1 _ rfl
  by_cases h : 65536 < t.size
  · have he : encF ⟨n, t⟩ = (⟨#[]⟩, 5) := by unfold encF; rw [if_pos h]
    rw [he]
    clear hb HHd
    go_enter Try.func23, Try.ntmps23
    go_wp2
    go_ret2
    exact ⟨rfl, hx⟩
  · have he : encF ⟨n, t⟩ = (frameT ⟨n, t⟩, 0) := by unfold encF; rw [if_neg h]
    rw [he]
    have hz := zero_runF zeroH
    have HX := Lib.hid hx; have HB := Lib.hid hb
    have hl16 := headS_length t.size n t.data.toList
    have hT4 := frame_text2P ⟨n, t⟩
    dsimp only at hT4
    obtain ⟨F, hF⟩ : ∃ F, F = frameT ⟨n, t⟩ := ⟨_, rfl⟩
    rw [← hF] at hT4 ⊢
    have ht1 : ¬ 9223372036854775807 < (⟨(headS t.size n t.data.toList).toArray⟩ : ByteArray).size + t.size := by rw [txt_size, hl16]; omega
    have HZ3 : Hid ((⟨(headS t.size n t.data.toList).toArray⟩ : ByteArray) = ⟨(headS t.size n t.data.toList).toArray⟩) := Lib.hid rfl
    unfold headV at HHd
    generalize headS t.size n t.data.toList = l at *
    clear hb hx he hF
    go_enter Try.func23, Try.ntmps23
    go_wp2_with (first
      | (go_at_call 41; (with_reducible refine (HHd.out _).mono ?_); rintro e w1 ⟨rfl, x1⟩; have X1 := Lib.hid (HX.out.trans x1); have hb1 := HB.out.ext x1; have HB1 := Lib.hid hb1; clear c0 c1 x1 hb1)
      | (refine wpList_store_row rfl 94 (.tmp 4) (.tmp 10) rfl w1.heap.size _ rfl rfl 94 _ (Row.zH w1 94) (sizedH hl16) (by simp [hl16]) (cells8_one _) ?_))
    have hr0 : Row ((w1.alloc (.cells zH 94)).setRow w1.heap.size (l.map cellOf).toArray) w1.heap.size 94 l := setRow_heap _ _ _ _ _ _ (Row.zH w1 94)
    have HB2 : Hid (Blk ((w1.alloc (.cells zH 94)).setRow w1.heap.size (l.map cellOf).toArray) w.heap.size 60 [.int .u64 (n : Int), .string t]) := Lib.hid (HB1.out.ext (((Ext.refl w1).alloc _).setRow (Nat.le_refl _) _))
    have HX2 := Lib.hid ((X1.out.alloc (.cells zH 94)).setRow (g := w1.heap.size) X1.out.size (l.map cellOf).toArray)
    generalize ((w1.alloc (.cells zH 94)).setRow w1.heap.size (l.map cellOf).toArray) = W2 at *
    have ht := fun q => (hr0.drewN q).text_to 16 16 (by omega)
    rw [List.take_of_length_le (by omega)] at ht
    have c1 := HB2.out.cell 1 _ rfl
    have HRw := Lib.hid hr0
    clear hr0 HHd HZ3
    generalize (⟨l.toArray⟩ : ByteArray) = T at *
    simp only [Act.put]
    go_quiet (fail)
    go_wp2
    go_ret2
    exact ⟨rfl, HX2.out.drewN _⟩
end Go.Proofs.Ythnoegipadnmeaa
end

section
namespace Go.Proofs.Ythnoegipadnmeaa
open Go.RowKit
theorem wbit_of {L : Array Bool} {j : Nat} (h : L.getD j false = true) : L.getD j true = true := by
  by_cases hj : j < L.size
  · simpa [Array.getD, hj] using h
  · simp [Array.getD, hj] at h
theorem results_two {fn : Func} {u v : Tmp} (h : fn.results = #[.tmp u, .tmp v]) (tmps : Array Value) (w : World) :
    (results fn tmps).run Try.prog w = .ok (.tuple #[tmps.getD u undef, tmps.getD v undef]) w := by
  simp [results, h]
theorem headT_parts (k g : Nat) (t : ByteArray) : (⟨#[UInt8.ofNat k]⟩ : ByteArray) ++ (⟨(wn g).toArray⟩ : ByteArray) ++ t = headT k g t := by
  apply ByteArray.ext
  rw [ByteArray.data_append, ByteArray.data_append]
  simp [headT]
theorem one_byte_text (w : World) (q k : Nat) (hk : k < 256) (h : Blk w q 5 [.int .u8 (k : Int)]) : (convert 55 9 (.slice (some ⟨q, 0, none⟩) 1 1)).run Try.prog w = .ok (.string ⟨#[UInt8.ofNat k]⟩) w := by
  have hb : Row w q 5 [UInt8.ofNat k] := by
    have e : ((UInt8.ofNat k).toNat : Int) = (k : Int) := by simp; omega
    unfold Row
    simp only [List.map_cons, List.map_nil, cellOf, e]
    exact h
  exact hb.text (P := Try.prog) 55 5 9 Try.underlying55 Try.underlying5 Try.underlying9 1 1 (by simp)
end Go.Proofs.Ythnoegipadnmeaa
end

section
namespace Go.Proofs.Ythnoegipadnmeaa
open Go.RowKit
theorem one_number (w : World) (q g : Nat) (hg : g < 18446744073709551616) (h : Blk w q 22 [.int .u64 (g : Int)]) :
    Calls Try.prog 24 #[.slice (some ⟨q, 0, none⟩) 1 1] w fun e w' => e = .returned (.string ⟨(wn g).toArray⟩) ∧ Ext w w' := by
  have := Uints_any w _ 1 1 [g] rfl (Blk.vals (l := vU [g]) h) (by simpa using hg) (by have := (wn_length g).2; simp; omega) (by decide)
  simpa using this
/-- What each operation of the region leaves in its slot. -/
def PHdF (k g f : Nat) (K G t E : ByteArray) (j : Nat) (v : Value) (w : World) : Prop :=
  match j with
  | 0 => v = .int .u64 (f : Int)
  | 1 => v = .int .u8 (k : Int)
  | 2 => ∃ q, v = .slice (some ⟨q, 0, none⟩) 1 1 ∧ Blk w q 5 [.int .u8 (k : Int)]
  | 3 => v = .string K
  | 4 => v = .int .u64 (g : Int)
  | 5 => ∃ q, v = .slice (some ⟨q, 0, none⟩) 1 1 ∧ Blk w q 22 [.int .u64 (g : Int)]
  | 6 => v = .string G
  | 7 => v = .string (K ++ G)
  | 8 => v = .string t
  | 9 => v = .string (K ++ G ++ t)
  | 10 => v = .agg #[.int .u64 (f : Int), .string (K ++ G ++ t)]
  | 11 => v = .tuple #[.string E, .int .i64 0]
  | 12 => v = .string E
  | 13 => v = .int .i64 0
  | 14 => v = .string E
  | 15 => v = .int .i64 0
  | _ => True
theorem PHdF_ext (k g f : Nat) (K G t E : ByteArray) (j : Nat) (v : Value) (w w' : World) (hx : Ext w w') (h : PHdF k g f K G t E j v w) : PHdF k g f K G t E j v w' := by
  unfold PHdF at h ⊢
  split at h
  all_goals first
    | exact h
    | (obtain ⟨g, h1, h2⟩ := h; exact ⟨g, h1, h2.ext hx⟩)
def pHdSlots : List Nat := [17, 18, 19, 20, 21, 22, 23, 24, 25, 26, 27, 28, 29, 30, 8, 9]
abbrev PHdWay (k g f : Nat) (K G t E : ByteArray) (w0 : World) : Array Bool → Act → World → Prop := Way 16 31 pHdSlots [(0, .int .u8 (k : Int)), (1, .int .u64 (g : Int)), (2, .int .u64 (f : Int)), (3, .string t)] (PHdF k g f K G t E) w0
theorem pHdSlots_ok : ∀ t, t ∈ pHdSlots → t < 31 ∧ 0 ≠ t ∧ 1 ≠ t ∧ 2 ≠ t ∧ 3 ≠ t := by decide
theorem PHdWay.go {k g f : Nat} {K G t E : ByteArray} {w0 w w' : World} {L : Array Bool} {a : Act} (h : PHdWay k g f K G t E w0 L a w) (i sl : Nat) (hsl : pHdSlots[i]? = some sl) (v : Value) (hx : Ext w w') (hv : PHdF k g f K G t E i v w') : PHdWay k g f K G t E w0 (L.setIfInBounds i true) (a.put (some sl) v) w' :=
  h.put (PHdF_ext k g f K G t E) (by decide) (fun t ht => ⟨(pHdSlots_ok t ht).1, fun p hp => by
    obtain ⟨_, h0, h1, h2, h3⟩ := pHdSlots_ok t ht
    simp only [List.mem_cons, List.not_mem_nil, or_false] at hp
    rcases hp with rfl | rfl | rfl | rfl
    · exact h0
    · exact h1
    · exact h2
    · exact h3⟩) hsl v hx hv
theorem PHdWay.at {k g f : Nat} {K G t E : ByteArray} {w0 w : World} {L : Array Bool} {a : Act} (h : PHdWay k g f K G t E w0 L a w) (j sl : Nat) (hsl : pHdSlots[j]? = some sl) (hj : L.getD j false = true) : PHdF k g f K G t E j (a.tmps[sl]?.getD undef) w := by
  have := h.facts j sl hsl (wbit_of hj)
  rwa [Array.getD_eq_getD_getElem?] at this
theorem PHdWay.ahead {k g f : Nat} {K G t E : ByteArray} {w0 w : World} {L : Array Bool} {a : Act} (h : PHdWay k g f K G t E w0 L a w) (p : Nat × Value) (hp : p ∈ [(0, .int .u8 (k : Int)), (1, .int .u64 (g : Int)), (2, .int .u64 (f : Int)), (3, .string t)]) : a.tmps[p.1]?.getD undef = p.2 := by
  have := h.base p hp
  rwa [Array.getD_eq_getD_getElem?] at this
set_option maxRecDepth 100000 in
set_option maxHeartbeats 4000000 in
theorem Head_any (k g f : Nat) (t : ByteArray) (hk : k < 256) (hg : g < 18446744073709551616) (hf : f < 18446744073709551616) (ht : t.size ≤ 8192) (w : World) :
    Calls Try.prog 9 #[.int .u8 (k : Int), .int .u64 (g : Int), .int .u64 (f : Int), .string t] w fun e w' => e = .returned (.tuple #[.string (headF k g f t).1, .int .i64 ((headF k g f t).2 : Int)]) ∧ Ext w w' := by
  have HM := Lib.hid (fun u => mayBe_any ⟨k, g, f, t, [], 0, false⟩ none 0 0 u)
  unfold segV at HM
  dsimp only at HM
  rcases headF_or k g f t with ⟨h, he⟩ | ⟨h, he⟩
  · rw [he]
    dsimp only
    rw [decide_eq_true h] at HM
    have HE := Lib.hid (fun u => Encode_any (headR k g f t) hf (by have := headT_le k g t; show (headT k g t).size ≤ _; omega) u)
    rw [enc_head k g f t ht] at HE
    obtain ⟨E, hE⟩ : ∃ E, E = frameT (headR k g f t) := ⟨_, rfl⟩
    rw [← hE] at HE ⊢
    have eT := headT_parts k g t
    unfold recV headR at HE
    dsimp only at HE
    rw [← eT, show ((0 : Nat) : Int) = 0 from rfl] at HE
    have HU := Lib.hid (fun (u : World) (q : Nat) (hq : Blk u q 22 [.int .u64 (g : Int)]) => one_number u q g hg hq)
    have HK := Lib.hid (fun (u : World) (q : Nat) (hq : Blk u q 5 [.int .u8 (k : Int)]) => one_byte_text u q k hk hq)
    have hl1 : ¬ 9223372036854775807 < (⟨#[UInt8.ofNat k]⟩ : ByteArray).size + (⟨(wn g).toArray⟩ : ByteArray).size := by
      have := (wn_length g).2
      show ¬ 9223372036854775807 < 1 + (wn g).length; omega
    have hl2 : ¬ 9223372036854775807 < ((⟨#[UInt8.ofNat k]⟩ : ByteArray) ++ (⟨(wn g).toArray⟩ : ByteArray)).size + t.size := by
      have := (wn_length g).2
      rw [ByteArray.size_append]
      show ¬ 9223372036854775807 < 1 + (wn g).length + t.size; omega
    have hl3 : ¬ 9223372036854775807 < (⟨#[UInt8.ofNat k]⟩ : ByteArray).size + (⟨(wn g).toArray⟩ : ByteArray).size + t.size := by
      rwa [ByteArray.size_append] at hl2
    clear h he eT hk hg hf ht hE
    generalize (⟨#[UInt8.ofNat k]⟩ : ByteArray) = K at *
    generalize (⟨(wn g).toArray⟩ : ByteArray) = G at *
    go_enter Try.func9, Try.ntmps9
    go_upto_region 3 with (go_at_call 22; refine (HM.out _).mono ?_; rintro e w1 ⟨rfl, x1⟩; have HX := Lib.hid x1; clear x1)
    refine wp_region_any (by kernel_rfl) ?_
    refine wpAny_inv (PHdWay k g f K G t E _) ?hsize ?step ?last _ _ _ _ (by decide) ⟨rfl, rfl, rfl, ?base, (Ext.refl _).drew, fun j sl hsl hj => ?none⟩
    case hsize => exact fun L a w h => h.size
    case base =>
      intro p hp
      simp only [List.mem_cons, List.not_mem_nil, or_false] at hp
      rcases hp with rfl | rfl | rfl | rfl <;> rfl
    case none =>
      exfalso
      have hj2 : j < 16 := (List.getElem?_eq_some_iff.1 hsl).1
      have h0 : (Array.replicate 16 false).getD j true = false := by simp [Array.getD, hj2]
      have h1 : (Array.replicate 16 false).getD j true = true := hj
      rw [h0] at h1
      cases h1
    case step =>
      intro L a w' i h hi
      have hlt : i < 16 := (ready_spec hi).1
      obtain ⟨X, D⟩ := a
      obtain rfl : D = [] := h.defers
      have b0 : X[0]?.getD undef = .int .u8 (k : Int) := h.ahead (0, _) (by simp)
      have b1 : X[1]?.getD undef = .int .u64 (g : Int) := h.ahead (1, _) (by simp)
      have b2 : X[2]?.getD undef = .int .u64 (f : Int) := h.ahead (2, _) (by simp)
      have b3 : X[3]?.getD undef = .string t := h.ahead (3, _) (by simp)
      rcases (show i = 0 ∨ i = 1 ∨ i = 2 ∨ i = 3 ∨ i = 4 ∨ i = 5 ∨ i = 6 ∨ i = 7 ∨ i = 8 ∨ i = 9 ∨ i = 10 ∨ i = 11 ∨ i = 12 ∨ i = 13 ∨ i = 14 ∨ i = 15 by omega) with rfl | rfl | rfl | rfl | rfl | rfl | rfl | rfl | rfl | rfl | rfl | rfl | rfl | rfl | rfl | rfl
      · refine wpOp_step rfl (fun K hK => ?_)
        go_simp
        exact hK _ _ (h.go 0 17 rfl _ (Ext.refl _) rfl)
      · refine wpOp_step rfl (fun K hK => ?_)
        go_simp
        exact hK _ _ (h.go 1 18 rfl _ (Ext.refl _) rfl)
      · have d1 := ready_after hi _ rfl 0 _ rfl rfl
        have f1 : X[18]?.getD undef = .int .u8 (k : Int) := h.at 1 18 rfl d1
        refine wpOp_step rfl (fun K hK => ?_)
        go_simp
        exact hK _ _ (h.go 2 19 rfl _ ((Ext.refl _).alloc _) ⟨_, rfl, Blk.new _ _ _⟩)
      · have d2 := ready_after hi _ rfl 0 _ rfl rfl
        obtain ⟨q2, f2, r2⟩ : ∃ q, X[19]?.getD undef = .slice (some ⟨q, 0, none⟩) 1 1 ∧ Blk w' q 5 [.int .u8 (k : Int)] := h.at 2 19 rfl d2
        have ht := HK.out w' q2 r2
        refine wpOp_step rfl (fun K hK => ?_)
        go_simp
        exact hK _ _ (h.go 3 20 rfl _ (Ext.refl _) rfl)
      · refine wpOp_step rfl (fun K hK => ?_)
        go_simp
        exact hK _ _ (h.go 4 21 rfl _ (Ext.refl _) rfl)
      · have d4 := ready_after hi _ rfl 0 _ rfl rfl
        have f4 : X[21]?.getD undef = .int .u64 (g : Int) := h.at 4 21 rfl d4
        refine wpOp_step rfl (fun K hK => ?_)
        go_simp
        exact hK _ _ (h.go 5 22 rfl _ ((Ext.refl _).alloc _) ⟨_, rfl, Blk.new _ _ _⟩)
      · have d5 := ready_after hi _ rfl 0 _ rfl rfl
        obtain ⟨q5, f5, r5⟩ : ∃ q, X[22]?.getD undef = .slice (some ⟨q, 0, none⟩) 1 1 ∧ Blk w' q 22 [.int .u64 (g : Int)] := h.at 5 22 rfl d5
        refine wpOp_step rfl (fun K hK => ?_)
        go_simp
        go_at_call 24
        refine (HU.out _ _ r5).mono ?_
        rintro e w5 ⟨rfl, h5⟩
        exact hK _ _ (h.go 6 23 rfl _ h5 rfl)
      · have d3 := ready_after hi _ rfl 0 _ rfl rfl
        have f3 : X[20]?.getD undef = .string K := h.at 3 20 rfl d3
        have d6 := ready_after hi _ rfl 1 _ rfl rfl
        have f6 : X[23]?.getD undef = .string G := h.at 6 23 rfl d6
        refine wpOp_step rfl (fun K hK => ?_)
        go_simp
        exact hK _ _ (h.go 7 24 rfl _ (Ext.refl _) rfl)
      · refine wpOp_step rfl (fun K hK => ?_)
        go_simp
        exact hK _ _ (h.go 8 25 rfl _ (Ext.refl _) rfl)
      · have d7 := ready_after hi _ rfl 0 _ rfl rfl
        have f7 : X[24]?.getD undef = .string (K ++ G) := h.at 7 24 rfl d7
        have d8 := ready_after hi _ rfl 1 _ rfl rfl
        have f8 : X[25]?.getD undef = .string t := h.at 8 25 rfl d8
        refine wpOp_step rfl (fun K hK => ?_)
        go_simp
        exact hK _ _ (h.go 9 26 rfl _ (Ext.refl _) rfl)
      · have d0 := ready_after hi _ rfl 0 _ rfl rfl
        have f0 : X[17]?.getD undef = .int .u64 (f : Int) := h.at 0 17 rfl d0
        have d9 := ready_after hi _ rfl 1 _ rfl rfl
        have f9 : X[26]?.getD undef = .string (K ++ G ++ t) := h.at 9 26 rfl d9
        refine wpOp_step rfl (fun K hK => ?_)
        go_simp
        exact hK _ _ (h.go 10 27 rfl _ (Ext.refl _) rfl)
      · have d10 := ready_after hi _ rfl 0 _ rfl rfl
        have f10 : X[27]?.getD undef = .agg #[.int .u64 (f : Int), .string (K ++ G ++ t)] := h.at 10 27 rfl d10
        refine wpOp_step rfl (fun K hK => ?_)
        go_simp
        go_at_call 23
        refine (HE.out _).mono ?_
        rintro e w5 ⟨rfl, h5⟩
        exact hK _ _ (h.go 11 28 rfl _ h5 rfl)
      · have d11 := ready_after hi _ rfl 0 _ rfl rfl
        have f11 : X[28]?.getD undef = .tuple #[.string E, .int .i64 0] := h.at 11 28 rfl d11
        refine wpOp_step rfl (fun K hK => ?_)
        go_simp
        exact hK _ _ (h.go 12 29 rfl _ (Ext.refl _) rfl)
      · have d11 := ready_after hi _ rfl 0 _ rfl rfl
        have f11 : X[28]?.getD undef = .tuple #[.string E, .int .i64 0] := h.at 11 28 rfl d11
        refine wpOp_step rfl (fun K hK => ?_)
        go_simp
        exact hK _ _ (h.go 13 30 rfl _ (Ext.refl _) rfl)
      · have d12 := ready_after hi _ rfl 0 _ rfl rfl
        have f12 : X[29]?.getD undef = .string E := h.at 12 29 rfl d12
        refine wpOp_step rfl (fun K hK => ?_)
        go_simp
        exact hK _ _ (h.go 14 8 rfl _ (Ext.refl _) rfl)
      · have d13 := ready_after hi _ rfl 0 _ rfl rfl
        have f13 : X[30]?.getD undef = .int .i64 0 := h.at 13 30 rfl d13
        refine wpOp_step rfl (fun K hK => ?_)
        go_simp
        exact hK _ _ (h.go 15 9 rfl _ (Ext.refl _) rfl)
    case last =>
      intro L a w' h hr
      have hA := h.facts 14 8 rfl (all_done_b h.size (by kernel_rfl) hr 14 (by decide))
      have hB := h.facts 15 9 rfl (all_done_b h.size (by kernel_rfl) hr 15 (by decide))
      have hx := h.ext
      obtain ⟨X, D⟩ := a
      obtain rfl : D = [] := h.defers
      have hA' : X.getD 8 undef = .string E := hA
      have hB' : X.getD 9 undef = .int .i64 0 := hB
      go_wp2
      refine bodyPost_ret (results_two rfl _ _) rfl ⟨?_, HX.out.trans hx⟩
      rw [hA', hB'] <;> rfl
  · rw [he]
    rw [decide_eq_false h] at HM
    clear h he
    go_enter Try.func9, Try.ntmps9
    go_wp2_with (go_at_call 22; refine (HM.out _).mono ?_; rintro e w1 ⟨rfl, x1⟩)
    go_ret2
    exact ⟨rfl, x1⟩
end Go.Proofs.Ythnoegipadnmeaa
end

section
namespace Go.Proofs.Ythnoegipadnmeaa
open Go.RowKit

set_option maxRecDepth 100000 in
set_option maxHeartbeats 8000000 in
theorem Parse_ok (s : ByteArray) (hs : s.size ≤ 1000000) (r0 : Rec) (u0 : Nat) (hd : decF s = (r0, u0, 0)) (k g : Nat) (t : ByteArray) (hb0 : begF r0 = some (k, g, t)) (w : World) :
    Calls Try.prog 13 #[.string s] w fun e w' => ∃ p c, e = .returned (.tuple #[segV (segP s r0.n u0 k g t) (.slice p (segP s r0.n u0 k g t).r.length c), .int .i64 0]) ∧ Ext w w' ∧ TextsP w' p (segP s r0.n u0 k g t).r := by
  have HD := Lib.hid (fun u => Decode_any s hs u)
  have hsz := (decF_itm s).1
  have hn64 := (decF_itm s).2.1
  have hus := (decF_used s (by rw [hd])).2.1
  rw [hd] at HD hsz hn64 hus
  dsimp only at HD hsz hn64 hus
  unfold recV at HD
  rw [show ((0 : Nat) : Int) = 0 from rfl] at HD
  have HG := Lib.hid (fun u => begun_any r0.n r0.t (by omega) u)
  rw [show (⟨r0.n, r0.t⟩ : Rec) = r0 from rfl, hb0] at HG
  unfold begV segV at HG
  dsimp only at HG
  have hcut := fun u => cut_from s u0 hus u
  have HSc := Lib.hid (fun u => Scan_any u (s.extract u0 s.size) (by rw [ByteArray.size_extract]; omega) r0.n hn64)
  have hLl : (scanF (s.extract u0 s.size) r0.n).1.length ≤ 1000000 := Nat.le_trans (scanF_length _ _) (by rw [ByteArray.size_extract]; omega)
  have HLs := Lib.hid (scanF_size (s.extract u0 s.size) r0.n)
  have HLn := Lib.hid (scanF_num (s.extract u0 s.size) r0.n)
  obtain ⟨X, hX⟩ : ∃ X, X = segP s r0.n u0 k g t := ⟨_, rfl⟩
  rw [← hX]
  have HX := Lib.hid hX
  clear hX hb0 hd
  have hb : Blk (w.alloc (.cells zero7.toArray 25)) w.heap.size 25 zero7 := Blk.new w _ _
  have HB := Lib.hid hb
  have HE := Lib.hid ((Ext.refl w).alloc (.cells zero7.toArray 25))
  clear hb
  unfold zero7 at HB HE
  go_enter Try.func13, Try.ntmps13
  go_wp2_with (first
    | (go_at_call 30; refine (HD.out _).mono ?_; rintro e w1 ⟨rfl, x1⟩; have HB1 := Lib.hid ((HB.out.ext x1).alloc (.cells #[.int .u64 (r0.n : Int), .string r0.t] 60)); have X1 := Lib.hid (HE.out.trans x1); have hr1 := Blk.new w1 [.int .u64 (r0.n : Int), .string r0.t] 60; have q0 := hr1.cell 0 _ rfl; have q1 := hr1.cell 1 _ rfl; clear x1 hr1)
    | (go_at_call 31; refine (HG.out _).mono ?_; rintro e w2 ⟨rfl, x2⟩; have HXB := Lib.hid (Nat.lt_of_lt_of_le HB1.out.lt x2.size); have HB2 := Lib.hid ((HB1.out.ext x2).alloc (.cells #[.int .u8 (k : Int), .int .u64 (g : Int), .int .u64 (r0.n : Int), .string t, .slice none 0 0, .int .i64 (u0 : Int), .bool false] 25)); have X2 := Lib.hid (((X1.out.alloc (.cells #[.int .u64 (r0.n : Int), .string r0.t] 60)).trans x2).alloc (.cells #[.int .u8 (k : Int), .int .u64 (g : Int), .int .u64 (r0.n : Int), .string t, .slice none 0 0, .int .i64 (u0 : Int), .bool false] 25)); have HZ2 := Lib.hid (Blk.new w2 [.int .u8 (k : Int), .int .u64 (g : Int), .int .u64 (r0.n : Int), .string t, .slice none 0 0, .int .i64 (u0 : Int), .bool false] 25); clear x2))
  have HXS : Hid (w2.heap.size < (w2.alloc (.cells #[.int .u8 (k : Int), .int .u64 (g : Int), .int .u64 (r0.n : Int), .string t, .slice none 0 0, .int .i64 (u0 : Int), .bool false] 25)).heap.size) := Lib.hid (by simp)
  generalize (w2.alloc (.cells #[.int .u8 (k : Int), .int .u64 (g : Int), .int .u64 (r0.n : Int), .string t, .slice none 0 0, .int .i64 (u0 : Int), .bool false] 25)) = W3 at *
  generalize w2.heap.size = XB at *
  have x0 : Ext W3 W3.drew := (Ext.refl W3).drew
  have q2 := HZ2.out.cell 2 _ rfl
  have hS : W3.drew.cell? ⟨XB, 2, none⟩ = some (.int .u64 (r0.n : Int)) ∧ Ext W3 W3.drew := ⟨q2, x0⟩
  obtain ⟨R, hR⟩ : ∃ R, R = (scanF (s.extract u0 s.size) r0.n) := ⟨_, rfl⟩
  rw [← hR] at HSc hLl HLs HLn
  have HR := Lib.hid hR
  clear hR q0 q1
  obtain ⟨L, ra, rb⟩ := R
  dsimp only at HSc hLl HLs HLn
  clear HB1 X1
  go_region_held3 (fun u => u.cell? ⟨XB, 2, none⟩ = some (.int .u64 (r0.n : Int)) ∧ Ext W3 u) (first | exact hS | exact hS4 | assumption | go_keep) (first
    | (go_at_call 32; refine (HSc.out _).mono ?_; rintro e w4 ⟨v, rfl, x4, hv4⟩; obtain ⟨p, c, rfl, hp4, hpB⟩ := hv4.recs; have y4 := Ext.trans (a := W3) (by assumption) x4; have hS4 := (⟨(HZ2.out.ext y4).cell 2 _ rfl, y4⟩ : w4.cell? ⟨XB, 2, none⟩ = some (.int .u64 (r0.n : Int)) ∧ Ext W3 w4)))
  have HPB : Hid (∀ q, p = some q → XB < q.block) := Lib.hid (fun q hq => Nat.lt_of_lt_of_le HXS.out (hpB q hq))
  clear hpB
  have HP4 := Lib.hid hp4; have X4 := Lib.hid (X2.out.trans y4); have HB4 := Lib.hid (HB2.out.ext y4); have HZ4 := Lib.hid (HZ2.out.ext y4)
  have HS4 := Lib.hid (Nat.lt_of_lt_of_le HXS.out y4.size)
  clear hS hS4 hp4 hv4 x4 x0 q2 y4 HB2 HZ2 X2 HXS
  go_wp2
  have HB0 : Hid (XB < w4.heap.size) := HS4
  obtain ⟨B, hBd⟩ : ∃ B, B = w4.heap.size := ⟨_, rfl⟩
  have HBd := Lib.hid hBd
  rw [← hBd] at HB0 HS4
  clear hBd
  go_loopw [46] (fun i wr => ∃ (j uj : Nat) (q : Option Addr) (c' : Nat), j ≤ L.length ∧ i = .int .i64 (j : Int) ∧ Hid (∀ i r, i < j → L[i]? = some r → r.n ≤ 281474976710656) ∧ Hid (uj = u0 + lenRs (L.take j)) ∧
    Hid (Blk wr XB 25 [.int .u8 (k : Int), .int .u64 (g : Int), .int .u64 (r0.n : Int), .string t, .slice q j c', .int .i64 (uj : Int), .bool false]) ∧ Hid (BufS wr B (.slice q j c') (txtR (L.take j))) ∧
    Hid (Blk wr w.heap.size 25 zero7) ∧ Hid (Ext w wr) ∧ Hid (∀ g, XB < g → g < B → wr.heap[g]? = w4.heap[g]?) ∧ Hid (B ≤ wr.heap.size)) (fun i _ => L.length - (intOf i).toNat)
  case atStart => exact ⟨0, u0, none, 0, Nat.zero_le _, rfl, Lib.hid (fun i r hi => by omega), Lib.hid (by simp [lenRs]), HZ4, Lib.hid (BufS.nil _ _), HB4, X4, Lib.hid (fun _ _ _ => rfl), Lib.hid (Nat.le_of_eq HBd.out)⟩
  case round =>
    obtain ⟨j, uj, q, c', hj, rfl, hlo, huj, hz, hs', hb, hx, hmid, hBw⟩ := hrel
    by_cases hlt : j < L.length
    · obtain ⟨r, hr⟩ : ∃ r, L[j]? = some r := ⟨_, List.getElem?_eq_getElem hlt⟩
      obtain ⟨pq, rfl, hq4, e0, e1⟩ := HP4.out j r hr
      have hqX := HPB.out _ rfl
      have hqm := hmid.out pq hqX (by rw [HBd.out]; exact hq4)
      have m0 := (World.cell?_of_block (a := ⟨pq, j * 2, none⟩) hqm).trans e0
      have m1 := (World.cell?_of_block (a := ⟨pq, j * 2 + 1, none⟩) hqm).trans e1
      have HSnoc := Lib.hid (take_snoc' L j r hr)
      have hrs := HLs.out r (List.mem_of_getElem? hr)
      have HRr := Lib.hid hr
      have hbx := Blk.new wr [.int .u64 (r.n : Int), .string r.t] 60
      have HOwn : Hid (∀ b, (Value.slice q j c').ownBlock = some b → b < wr.heap.size) := Lib.hid (fun b hb' => (World.ownsRow.lt hs'.out b hb').2)
      have HZ1 := Lib.hid (hz.out.alloc (.cells #[.int .u64 (r.n : Int), .string r.t] 60))
      have HS1 := Lib.hid (hs'.out.ext ((Ext.refl wr).alloc (.cells #[.int .u64 (r.n : Int), .string r.t] 60)))
      have HB1 := Lib.hid (hb.out.alloc (.cells #[.int .u64 (r.n : Int), .string r.t] 60))
      have HX1 := Lib.hid (hx.out.alloc (.cells #[.int .u64 (r.n : Int), .string r.t] 60))
      have HM1 : Hid (∀ g, XB < g → g < B → (wr.alloc (.cells #[.int .u64 (r.n : Int), .string r.t] 60)).heap[g]? = w4.heap[g]?) := Lib.hid (fun g h1 h2 => (Below.heap_alloc wr _ g (Nat.lt_of_lt_of_le h2 hBw.out)).trans (hmid.out g h1 h2))
      have HW1 : Hid (B ≤ (wr.alloc (.cells #[.int .u64 (r.n : Int), .string r.t] 60)).heap.size) := Lib.hid (by have := hBw.out; simp; omega)
      have HBX := Lib.hid hbx
      have HBB := Lib.hid hBw.out
      have k0 := hbx.cell 0 _ rfl
      clear hr hqX hqm e0 e1 hbx
      go_upto_region 12 with (fail)
      clear m0 m1 hz hs' hb hx hmid hBw hq4
      generalize (wr.alloc (.cells #[.int .u64 (r.n : Int), .string r.t] 60)) = W1 at *
      generalize wr.heap.size = BX at *
      by_cases hbig : r.n ≤ 281474976710656
      · have hbi : ¬ (281474976710656 : Int) < (r.n : Int) := by omega
        have hlj : (txtR (L.take j)).length = j := by rw [txtR_length, List.length_take, Nat.min_eq_left hj]
        have HLJ := Lib.hid hlj
        have HSz := Lib.hid (fun u => Size_any r.t (by omega) u)
        have k1 := HBX.out.cell 1 _ rfl
        have c4 := HZ1.out.cell 4 _ rfl
        obtain ⟨uj2, huj2⟩ : ∃ u, u = uj + (16 + r.t.size) := ⟨_, rfl⟩
        have hul := lenRs_le (L.take j) (fun x hx => HLs.out x (List.mem_of_mem_take hx))
        have hujo := huj.out
        have hLj : (L.take j).length ≤ 1000000 := by rw [List.length_take]; omega
        have hws : IntKind.i64.wrap ((uj : Int) + (16 + (r.t.size : Int))) = (uj2 : Int) := by
          rw [IntWalk.i64_in _ ⟨by omega, by omega⟩]; omega
        have HU2 : Hid (uj2 = u0 + lenRs (L.take (j + 1))) := Lib.hid (by rw [HSnoc.out, lenRs_snoc]; omega)
        have HLo2 : Hid (∀ i r, i < j + 1 → L[i]? = some r → r.n ≤ 281474976710656) := Lib.hid (fun i x hi hx => by
          by_cases hij : i = j
          · rw [hij, HRr.out] at hx; cases hx; exact hbig
          · exact hlo.out i x (by omega) hx)
        have HZ2 := Lib.hid (HZ1.out.alloc (.cells #[.string r.t] 9))
        have hj6 : j ≤ 1000000 := by omega
        clear hul hujo hLj huj2 hlj hlo huj hbig
        go_wp2_with (refine append_textG rfl (.tmp 54) (.tmp 57) rfl B (.slice q j c') (txtR (L.take j)) rfl (HS1.out.ext ((Ext.refl W1).alloc (.cells #[.string r.t] 9))) W1.heap.size r.t rfl (Blk.cell (Blk.new W1 [.string r.t] 9) 0 _ rfl) (by rw [HLJ.out]; exact hj6) (by have := HW1.out; simp; omega) ?_; intro p2 c2 w5 hb5 ht5 hx5 hg5; rw [HLJ.out] at hb5 ⊢; have hz5 := HZ2.out.below hx5 HB0.out; have f4 := hz5.frozen 4; have l4 := hz5.cell 4 _ rfl; have hz6 := hz5.set_ 4 (.slice p2 (j + 1) c2); have n5 := hz6.cell 5 _ rfl; have nf5 := hz6.frozen 5; have hb6 : Blk w5 BX 60 [.int .u64 (r.n : Int), .string r.t] := (hg5.block BX (by have := HBX.out.lt; simp; omega) (fun e => by have := HOwn.out BX e.symm; omega)).trans (HBX.out.alloc _); have hb7 := hb6.other (g := XB) (by have h1 := HBB.out; have h2 := HB0.out; omega) 4 (.slice p2 (j + 1) c2); have n1 := hb7.cell 1 _ rfl; have HB5 := Lib.hid hb5; have HX5 := Lib.hid hx5; have HZ6 := Lib.hid hz6; clear hb5 ht5 hx5 hz5 hz6 hg5 hb6 hb7 k0 k1 c4)
        have HS6 : Hid (BufS (w5.setCell ⟨XB, 4, none⟩ (.slice p2 (j + 1) c2)) B (.slice p2 (j + 1) c2) (txtR (L.take j) ++ [r.t])) := Lib.hid (BufS.low HB5.out HB0.out 4 _)
        have HB6 : Hid (Blk (w5.setCell ⟨XB, 4, none⟩ (.slice p2 (j + 1) c2)) w.heap.size 25 zero7) := Lib.hid (((HB1.out.alloc _).below HX5.out (Nat.lt_trans HXB.out HB0.out)).other (Nat.ne_of_lt HXB.out) 4 _)
        have HX6 : Hid (Ext w (w5.setCell ⟨XB, 4, none⟩ (.slice p2 (j + 1) c2))) := Lib.hid (((HX1.out.alloc _).trans3 (Below.mono HX5.out (Nat.le_of_lt (Nat.lt_trans HXB.out HB0.out)))).setCell (p := ⟨XB, 4, none⟩) (Nat.le_of_lt HXB.out) _)
        have HM6 : Hid (∀ g, XB < g → g < B → (w5.setCell ⟨XB, 4, none⟩ (.slice p2 (j + 1) c2)).heap[g]? = w4.heap[g]?) := Lib.hid (fun g h1 h2 =>
          (Below.heap_setCell _ ⟨XB, 4, none⟩ _ g (by show g ≠ XB; omega)).trans ((HX5.out.block g h2).trans ((Below.heap_alloc W1 _ g (Nat.lt_of_lt_of_le h2 HW1.out)).trans (HM1.out g h1 h2))))
        have HW6 : Hid (B ≤ (w5.setCell ⟨XB, 4, none⟩ (.slice p2 (j + 1) c2)).heap.size) := Lib.hid (by
          have h1 := HX5.out.size
          have h2 := HW1.out
          simp [World.setCell] at h1 ⊢
          omega)
        clear l4 f4
        generalize (w5.setCell ⟨XB, 4, none⟩ (.slice p2 (j + 1) c2)) = W6 at *
        go_still_tail 7, (by kernel_rfl)
        still_call ((HSz.out _).mono (fun e w' h => ⟨h.1, h.2.symm⟩))
        repeat still_step
        refine wpStill_nil ?_
        change wpList _ _ _ _ _ W6.drew
        go_wp2
        go_roundw
        case rel =>
          refine ⟨j + 1, uj2, p2, c2, hlt, by go_num, HLo2, HU2, Lib.hid ((HZ6.out.set_ 5 _).drew), Lib.hid ?_, Lib.hid ?_, Lib.hid ?_, Lib.hid ?_, Lib.hid ?_⟩
          · rw [HSnoc.out, txtR_snoc]
            exact BufS.low (w := W6) HS6.out HB0.out 5 _
          · exact (HB6.out.other (Nat.ne_of_lt HXB.out) 5 _).drew
          · exact (HX6.out.setCell (p := ⟨XB, 5, none⟩) (Nat.le_of_lt HXB.out) _).drew
          · exact fun g h1 h2 => (Below.heap_setCell _ ⟨XB, 5, none⟩ _ g (by show g ≠ XB; omega)).trans (HM6.out g h1 h2)
          · have h1 := HW6.out
            simp [World.setCell]
            omega
        case measure => simp [intOf]; omega
      · have hbi : (281474976710656 : Int) < (r.n : Int) := by omega
        have HLow := Lib.hid (lowR_take L j hlo.out (.inr ⟨r, HRr.out, hbig⟩))
        clear hbig
        have hZ6 : Blk (W1.setCell ⟨XB, 6, none⟩ (.bool (decide (uj = s.size)))) XB 25 [.int .u8 (k : Int), .int .u64 (g : Int), .int .u64 (r0.n : Int), .string t, .slice q j c', .int .i64 (uj : Int), .bool (decide (uj = s.size))] := HZ1.out.set_ 6 _
        have hB6 := HB1.out.other (g := XB) (by have := HXB.out; omega) 6 (.bool (decide (uj = s.size)))
        have HXX : Hid (X = ⟨k, g, r0.n, t, txtR (L.take j), (uj : Int), decide (uj = s.size)⟩) := Lib.hid (by
          rw [HX.out]
          unfold segP
          rw [← HR.out]
          dsimp only
          rw [HLow.out, huj.out])
        have hbe : ((uj : Int) == (s.size : Int)) = decide (uj = s.size) := by rw [Bool.eq_iff_iff, beq_iff_eq, decide_eq_true_iff]; omega
        have a5 := HZ1.out.cell 5 _ rfl
        have a6 := HZ1.out.frozen 6
        have a6c := HZ1.out.cell 6 _ rfl
        have z0 := hZ6.cell 0 _ rfl
        have z1 := hZ6.cell 1 _ rfl
        have z2 := hZ6.cell 2 _ rfl
        have z3 := hZ6.cell 3 _ rfl
        have z4 := hZ6.cell 4 _ rfl
        have z5 := hZ6.cell 5 _ rfl
        have z6 := hZ6.cell 6 _ rfl
        have t0 := hB6.cell 0 _ rfl
        have t1 := hB6.cell 1 _ rfl
        have t2 := hB6.cell 2 _ rfl
        have t3 := hB6.cell 3 _ rfl
        have t4 := hB6.cell 4 _ rfl
        have t5 := hB6.cell 5 _ rfl
        have t6 := hB6.cell 6 _ rfl
        have g0 := hB6.frozen 0
        have g1 := hB6.frozen 1
        have g2 := hB6.frozen 2
        have g3 := hB6.frozen 3
        have g4 := hB6.frozen 4
        have g5 := hB6.frozen 5
        have g6 := hB6.frozen 6
        have HB6 := Lib.hid hB6
        clear hB6 hZ6
        generalize decide (uj = s.size) = be at *
        go_wp2
        refine bodyPost_ret (results_seg rfl _ _ w.heap.size 25 _ _ _ _ _ _ _ (0, 0) rfl (Blk.set7 HB6.out _ _ _ _ _ _ _)) rfl ⟨q, c', ?_, Ext.set7 (HX1.out.setCell (p := ⟨XB, 6, none⟩) (Nat.le_of_lt HXB.out) _) (Nat.le_refl _) _ _ _ _ _ _ _, ?_⟩
        · rw [HXX.out]
          unfold segV
          dsimp only
          rw [txtR_length, List.length_take, Nat.min_eq_left hj]
          rfl
        · rw [HXX.out]
          obtain ⟨q2, c2, e2, ht2, hq2, _⟩ := BufS.texts HS1.out
          obtain ⟨rfl, _, _⟩ := Value.slice.inj e2
          exact texts_kept ht2 (fun a ha => (hq2 a ha).1) XB w.heap.size HB0.out HXB.out _ _ _ _ _ _ _ _
    · have HJL := Lib.hid (show j = L.length by omega)
      have hlti : ¬ (j : Int) < (L.length : Int) := by omega
      have HLow := Lib.hid (lowR_take L j hlo.out (.inl HJL.out))
      have hZ6 : Blk (wr.setCell ⟨XB, 6, none⟩ (.bool (decide (uj = s.size)))) XB 25 [.int .u8 (k : Int), .int .u64 (g : Int), .int .u64 (r0.n : Int), .string t, .slice q j c', .int .i64 (uj : Int), .bool (decide (uj = s.size))] := hz.out.set_ 6 _
      have hB6 := hb.out.other (g := XB) (by have := HXB.out; omega) 6 (.bool (decide (uj = s.size)))
      have HXX : Hid (X = ⟨k, g, r0.n, t, txtR (L.take j), (uj : Int), decide (uj = s.size)⟩) := Lib.hid (by
        rw [HX.out]
        unfold segP
        rw [← HR.out]
        dsimp only
        rw [HLow.out, huj.out])
      have hbe : ((uj : Int) == (s.size : Int)) = decide (uj = s.size) := by rw [Bool.eq_iff_iff, beq_iff_eq, decide_eq_true_iff]; omega
      have a5 := hz.out.cell 5 _ rfl
      have a6 := hz.out.frozen 6
      have a6c := hz.out.cell 6 _ rfl
      have z0 := hZ6.cell 0 _ rfl
      have z1 := hZ6.cell 1 _ rfl
      have z2 := hZ6.cell 2 _ rfl
      have z3 := hZ6.cell 3 _ rfl
      have z4 := hZ6.cell 4 _ rfl
      have z5 := hZ6.cell 5 _ rfl
      have z6 := hZ6.cell 6 _ rfl
      have t0 := hB6.cell 0 _ rfl
      have t1 := hB6.cell 1 _ rfl
      have t2 := hB6.cell 2 _ rfl
      have t3 := hB6.cell 3 _ rfl
      have t4 := hB6.cell 4 _ rfl
      have t5 := hB6.cell 5 _ rfl
      have t6 := hB6.cell 6 _ rfl
      have g0 := hB6.frozen 0
      have g1 := hB6.frozen 1
      have g2 := hB6.frozen 2
      have g3 := hB6.frozen 3
      have g4 := hB6.frozen 4
      have g5 := hB6.frozen 5
      have g6 := hB6.frozen 6
      have HB6 := Lib.hid hB6
      clear hB6 hZ6
      generalize decide (uj = s.size) = be at *
      go_wp2
      refine bodyPost_ret (results_seg rfl _ _ w.heap.size 25 _ _ _ _ _ _ _ (0, 0) rfl (Blk.set7 HB6.out _ _ _ _ _ _ _)) rfl ⟨q, ⟨c', ?_⟩, Ext.set7 (hx.out.setCell (p := ⟨XB, 6, none⟩) (Nat.le_of_lt HXB.out) _) (Nat.le_refl _) _ _ _ _ _ _ _, ?_⟩
      · rw [HXX.out]
        unfold segV
        dsimp only
        rw [txtR_length, List.length_take, Nat.min_eq_left hj]
        rfl
      · rw [HXX.out]
        obtain ⟨q2, c2, e2, ht2, hq2, _⟩ := BufS.texts hs'.out
        obtain ⟨rfl, _, _⟩ := Value.slice.inj e2
        exact texts_kept ht2 (fun a ha => (hq2 a ha).1) XB w.heap.size HB0.out HXB.out _ _ _ _ _ _ _ _
theorem Parse_any (s : ByteArray) (hs : s.size ≤ 1000000) (w : World) :
    Calls Try.prog 13 #[.string s] w fun e w' => ∃ p c, e = .returned (.tuple #[segV (parseF s).1 (.slice p (parseF s).1.r.length c), .int .i64 ((parseF s).2 : Int)]) ∧ Ext w w' ∧ TextsP w' p (parseF s).1.r := by
  obtain ⟨r0, u0, e0, hd⟩ : ∃ r0 u0 e0, decF s = (r0, u0, e0) := ⟨_, _, _, rfl⟩
  by_cases he : e0 = 0
  · subst he
    cases hb : begF r0 with
    | none =>
      rw [parseF_form (by rw [hd]) (by rw [hd]; exact hb)]
      refine (Parse_form s hs r0 u0 hd hb w).mono ?_
      rintro e w' ⟨rfl, hx⟩
      exact ⟨none, 0, rfl, hx, TextsP.none _⟩
    | some o =>
      obtain ⟨k, g, t⟩ := o
      rw [parseF_ok (k := k) (g := g) (t := t) (by rw [hd]) (by rw [hd]; exact hb), hd]
      exact Parse_ok s hs r0 u0 hd k g t hb w
  · rw [parseF_bad (by rw [hd]; exact he), hd]
    refine (Parse_bad s hs e0 he r0 u0 hd w).mono ?_
    rintro e w' ⟨rfl, hx⟩
    exact ⟨none, 0, rfl, hx, TextsP.none _⟩
end Go.Proofs.Ythnoegipadnmeaa
end

section
namespace Go.Proofs.Ythnoegipadnmeaa
open Go.RowKit Go.ChangeMaps Go.MapKept
open Go.Maps (Keyed)

/-- An entry's key and element. -/
def kv (e : MapEntry) : Value × Value := (e.key, e.val)
/-- Block b is a map of just these keys and elements. -/
def MapL (w : World) (P : Program) (k : TypeId) (b : Nat) (l : List (Value × Value)) : Prop :=
  ∃ es clock, w.heap[b]? = some (.map es clock) ∧ Stamped es clock ∧ es.toList.map kv = l ∧ ∀ p ∈ l, ∃ kl, keyOf P k p.1 = some kl
section
variable {w w' : World} {P : Program} {k : TypeId} {b : Nat} {l : List (Value × Value)}
theorem MapL.lt (h : MapL w P k b l) : b < w.heap.size := by
  obtain ⟨_, _, hb, _⟩ := h
  exact heap_lt hb
theorem MapL.same (h : MapL w P k b l) (e : w'.heap[b]? = w.heap[b]?) : MapL w' P k b l := by
  obtain ⟨es, c, hb, r⟩ := h
  exact ⟨es, c, e.trans hb, r⟩
theorem MapL.ext (h : MapL w P k b l) (hx : Ext w w') : MapL w' P k b l := h.same (hx.below.block b h.lt)
theorem MapL.alloc (h : MapL w P k b l) (o : Obj) : MapL (w.alloc o) P k b l := h.same (Below.heap_alloc w o b h.lt)
theorem MapL.drew (h : MapL w P k b l) : MapL w.drew P k b l := h
theorem MapL.grown {row : Option Nat} (h : MapL w P k b l) (hg : w.grownBy w' row) (hr : some b ≠ row) : MapL w' P k b l := h.same (hg.block b h.lt hr)
theorem MapL.made (w : World) (P : Program) (k : TypeId) : MapL (w.alloc (.map #[] 0)) P k w.heap.size [] :=
  ⟨#[], 0, heap_alloc_new w _, stamped_empty 0, rfl, by simp⟩
theorem MapL.is (h : MapL w P k b l) : ∃ es clock, w.heap[b]? = some (.map es clock) := by
  obtain ⟨es, c, hb, _⟩ := h
  exact ⟨es, c, hb⟩
theorem key_unique {es : Array MapEntry} {clock : Nat} (h : Stamped es clock) {x y : MapEntry} (hx : x ∈ es.toList) (hy : y ∈ es.toList) (hk : x.key = y.key) : x = y :=
  entry_eq_of_key ((stamped_iff es clock).1 h).2.2 hx hy hk
theorem keys_of {es : Array MapEntry} (hk : ∀ p ∈ es.toList.map kv, ∃ kl, keyOf P k p.1 = some kl) : ∀ e ∈ es.toList, ∃ l, keyOf P k e.key = some l :=
  fun e he => hk (kv e) (List.mem_map.2 ⟨e, he, rfl⟩)
/-- m[k], v, ok := m[k]: of what is there. -/
theorem MapL.look {t e : TypeId} (h : MapL w P k b l) (K : Keyed P k) (ht : P.underlying t = some (.map k e)) (c : Bool) {key v : Value} {kl : Lit} (hkey : keyOf P k key = some kl) (hm : (key, v) ∈ l) :
    (Instr.lookup t (.map (some b)) key c).run P w = .ok (if c then .tuple #[v, .bool true] else v) w := by
  obtain ⟨es, clock, hb, hs, rfl, hk⟩ := h
  obtain ⟨x, hx, hxk⟩ := List.mem_map.1 hm
  simp only [kv, Prod.mk.injEq] at hxk
  rcases K.find w hkey es.toList (keys_of hk) with ⟨h1, h2⟩ | ⟨j, e0, h1, h2, h3⟩
  · exact absurd hxk.1 (h2 x hx)
  · have e1 := key_unique hs (List.mem_of_getElem? h2) hx (h3.trans hxk.1.symm)
    rw [← hxk.2, ← e1]
    simp [Instr.lookup, run_underlying ht, MapKept.run_getObj_map hb, K.check w _ hkey, h1, Result.andThen]
/-- .. of what is not. -/
theorem MapL.look_none {t e : TypeId} (h : MapL w P k b l) (K : Keyed P k) (ht : P.underlying t = some (.map k e)) (c : Bool) {z : Value} (hz : (zeroValue e).run P w = .ok z w) {key : Value} {kl : Lit} (hkey : keyOf P k key = some kl)
    (hm : ∀ p ∈ l, p.1 ≠ key) : (Instr.lookup t (.map (some b)) key c).run P w = .ok (if c then .tuple #[z, .bool false] else z) w := by
  obtain ⟨es, clock, hb, hs, rfl, hk⟩ := h
  rcases K.find w hkey es.toList (keys_of hk) with ⟨h1, h2⟩ | ⟨j, e0, h1, h2, h3⟩
  · simp [Instr.lookup, run_underlying ht, MapKept.run_getObj_map hb, K.check w _ hkey, h1, hz, Result.andThen]
  · exact absurd h3 (hm (kv e0) (List.mem_map.2 ⟨e0, List.mem_of_getElem? h2, rfl⟩))
/-- m[k] = v, where k is not there. -/
theorem MapL.put {t e : TypeId} (h : MapL w P k b l) (K : Keyed P k) (ht : P.underlying t = some (.map k e)) {key val : Value} {kl : Lit} (hkey : keyOf P k key = some kl) (hm : ∀ p ∈ l, p.1 ≠ key) :
    ∃ w', (Instr.mapUpdate t (.map (some b)) key val).run P w = .ok () w' ∧ MapL w' P k b (l ++ [(key, val)]) ∧ w.mapTurned w' b := by
  obtain ⟨es, clock, hb, hs, rfl, hk⟩ := h
  rcases K.find w hkey es.toList (keys_of hk) with ⟨h1, h2⟩ | ⟨j, e0, h1, h2, h3⟩
  · refine ⟨setBlock w b (.map (es.push ⟨key, val, clock⟩) (clock + 1)), ?_, ⟨_, _, heap_setBlock_same hb _, stamped_push hs h2, by simp [kv], ?_⟩, ⟨es, clock, _, _, hb, rfl⟩⟩
    · simp [Instr.mapUpdate, run_underlying ht, MapKept.run_getObj_map hb, K.check w false hkey, h1, MapKept.run_setObj_map _ hb, Result.andThen, setBlock]
    · intro p hp
      rcases List.mem_append.1 hp with hp | hp
      · exact hk p hp
      · rw [List.mem_singleton] at hp
        subst hp
        exact ⟨kl, hkey⟩
  · exact absurd h3 (hm (kv e0) (List.mem_map.2 ⟨e0, List.mem_of_getElem? h2, rfl⟩))
theorem MapL.len {t e : TypeId} (h : MapL w P k b l) (ht : P.underlying t = some (.map k e)) (ty : TypeId) : (Builtin.len_ #[t] ty #[.map (some b)]).run P w = .ok (.int .i64 (l.length : Int)) w := by
  obtain ⟨es, clock, hb, hs, rfl, hk⟩ := h
  simp [Builtin.len_, run_underlying ht, MapKept.run_getObj_map hb, goInt, Result.andThen]
theorem MapL.clear {t e : TypeId} (h : MapL w P k b l) (ht : P.underlying t = some (.map k e)) :
    ∃ w', (∀ ty : TypeId, (Builtin.clear_ #[t] ty #[.map (some b)]).run P w = .ok (.tuple #[]) w') ∧ MapL w' P k b [] ∧ w.mapTurned w' b := by
  obtain ⟨es, clock, hb, hs, rfl, hk⟩ := h
  refine ⟨setBlock w b (.map #[] clock), fun ty => ?_, ⟨#[], clock, heap_setBlock_same hb _, stamped_empty _, rfl, by simp⟩, ⟨es, clock, _, _, hb, rfl⟩⟩
  simp [Builtin.clear_, run_underlying ht, MapKept.run_getObj_map hb, MapKept.run_setObj_map _ hb, Result.andThen, setBlock]
end

/-! ### Ranges -/
/-- Block r is a range over the map in block b; these are still to come. -/
def RangeL (w : World) (P : Program) (k : TypeId) (b r : Nat) (l left : List (Value × Value)) : Prop :=
  ∃ es clock since seen c0, w.heap[b]? = some (.map es clock) ∧ Stamped es clock ∧ es.toList.map kv = l ∧ (∀ p ∈ l, ∃ kl, keyOf P k p.1 = some kl) ∧ w.heap[r]? = some (.mapIter (some b) since seen c0) ∧
    (∀ x ∈ es.toList, x.born < since) ∧ since ≤ c0 ∧ since ≤ clock ∧ (leftOf es seen).toList.map kv = left
section
variable {w w' : World} {P : Program} {k : TypeId} {b r : Nat} {l left : List (Value × Value)}
theorem RangeL.map (h : RangeL w P k b r l left) : MapL w P k b l := by
  obtain ⟨es, clock, since, seen, c0, hb, hs, hl, hk, _⟩ := h
  exact ⟨es, clock, hb, hs, hl, hk⟩
theorem RangeL.lt (h : RangeL w P k b r l left) : r < w.heap.size := by
  obtain ⟨es, clock, since, seen, c0, hb, hs, hl, hk, hr, _⟩ := h
  exact heap_lt hr
theorem RangeL.ne (h : RangeL w P k b r l left) : r ≠ b := by
  obtain ⟨es, clock, since, seen, c0, hb, hs, hl, hk, hr, _⟩ := h
  intro e
  rw [e, hb] at hr
  cases hr
theorem RangeL.same (h : RangeL w P k b r l left) (e1 : w'.heap[b]? = w.heap[b]?) (e2 : w'.heap[r]? = w.heap[r]?) : RangeL w' P k b r l left := by
  obtain ⟨es, clock, since, seen, c0, hb, hs, hl, hk, hr, rest⟩ := h
  exact ⟨es, clock, since, seen, c0, e1.trans hb, hs, hl, hk, e2.trans hr, rest⟩
theorem RangeL.ext (h : RangeL w P k b r l left) (hx : Ext w w') : RangeL w' P k b r l left := h.same (hx.below.block b h.map.lt) (hx.below.block r h.lt)
theorem RangeL.alloc (h : RangeL w P k b r l left) (o : Obj) : RangeL (w.alloc o) P k b r l left := h.same (Below.heap_alloc w o b h.map.lt) (Below.heap_alloc w o r h.lt)
theorem RangeL.drew (h : RangeL w P k b r l left) : RangeL w.drew P k b r l left := h
theorem RangeL.setCell (h : RangeL w P k b r l left) {g : Nat} (hb : b ≠ g) (hr : r ≠ g) (o : Nat) (u : Value) : RangeL (w.setCell ⟨g, o, none⟩ u) P k b r l left := h.same (Below.heap_setCell _ _ _ _ hb) (Below.heap_setCell _ _ _ _ hr)
theorem RangeL.left_eq (h : RangeL w P k b r l left) : w.rangeLeft b r = left.length := by
  obtain ⟨es, clock, since, seen, c0, hb, hs, hl, hk, hr, _, _, _, rfl⟩ := h
  simp [World.rangeLeft, hb, hr]
theorem filter_filter_born (l : List MapEntry) (seen : Array Nat) (n : Nat) : l.filter (fun x => !(seen.push n).contains x.born) = (l.filter fun x => !seen.contains x.born).filter (fun x => x.born != n) := by
  rw [List.filter_filter]
  congr 1
  funext x
  rw [contains_push]
  cases seen.contains x.born <;> cases h : (x.born == n) <;> simp [bne, h]
theorem perm_born : ∀ {l : List MapEntry}, (l.map (·.born)).Nodup → ∀ {e : MapEntry}, e ∈ l → l.Perm (e :: l.filter (fun x => x.born != e.born))
  | [], _, _, he => by simp at he
  | a :: r, hn, e, he => by
    have hn' : a.born ∉ r.map (·.born) ∧ (r.map (·.born)).Nodup := List.nodup_cons.1 hn
    rcases List.mem_cons.1 he with rfl | he
    · have e1 : r.filter (fun x => x.born != e.born) = r := List.filter_eq_self.2 fun x hx => by
        have : x.born ≠ e.born := fun q => hn'.1 (q ▸ List.mem_map.2 ⟨x, hx, rfl⟩)
        simpa using this
      rw [List.filter_cons, if_neg (by simp), e1]
    · have e1 : (a.born != e.born) = true := by
        have : a.born ≠ e.born := fun q => hn'.1 (q ▸ List.mem_map.2 ⟨e, he, rfl⟩)
        simpa using this
      rw [List.filter_cons, if_pos e1]
      exact ((perm_born hn'.2 he).cons a).trans (List.Perm.swap _ _ _)
/-- The step. -/
theorem RangeL.next (h : RangeL w P k b r l left) (ty : TypeId) :
    (left = [] ∧ (Instr.next (.pointer (some ⟨r, 0, none⟩)) false ty).run P w = .ok (.tuple #[.bool false]) w) ∨
    ∃ p left' w', left.Perm (p :: left') ∧ (Instr.next (.pointer (some ⟨r, 0, none⟩)) false ty).run P w = .ok (.tuple #[.bool true, p.1, p.2]) w' ∧ RangeL w' P k b r l left' ∧ w.grownBy w' (some r) ∧ w'.heap.size = w.heap.size ∧
      (Instr.entry (.pointer (some ⟨r, 0, none⟩))).run P w' = .ok (.tuple #[p.1, p.2]) w' := by
  have hne := h.ne
  obtain ⟨es, clock, since, seen, c0, hb, hs, rfl, hk, hr, hold, hsc, hsk, rfl⟩ := h
  have hst := (stamped_iff es clock).1 hs
  rcases run_next_at (P := P) w ty r b since c0 seen es clock hr hb hold hsc with ⟨h0, hrun⟩ | ⟨e, he, w1, hal, hrun⟩
  · have : leftOf es seen = #[] := Array.eq_empty_of_size_eq_zero h0
    exact .inl ⟨by rw [this]; rfl, hrun⟩
  · obtain ⟨hem, hes⟩ := mem_left he
    have hr1 : w1.heap[r]? = some (.mapIter (some b) since seen c0) := by rcases hal with rfl | rfl <;> exact hr
    have hb1 : w1.heap[b]? = some (.map es clock) := by rcases hal with rfl | rfl <;> exact hb
    have hset := heap_set (o' := .mapIter (some b) since (seen.push e.born) clock) hr1
    have hb' : (setBlock w1 r (.mapIter (some b) since (seen.push e.born) clock)).heap[b]? = some (.map es clock) := (hset.2 b (fun e1 => hne e1.symm)).trans hb1
    have hl1 : (leftOf es seen).toList = es.toList.filter fun x => !seen.contains x.born := by unfold leftOf; rw [Array.toList_filter]
    have hl2 : (leftOf es (seen.push e.born)).toList = (leftOf es seen).toList.filter (fun x => x.born != e.born) := by
      rw [hl1, ← filter_filter_born]; unfold leftOf; rw [Array.toList_filter]
    have hnd : ((leftOf es seen).toList.map (·.born)).Nodup := by
      rw [hl1]
      exact hst.2.1.sublist (List.filter_sublist.map _)
    refine .inr ⟨kv e, (leftOf es (seen.push e.born)).toList.map kv, setBlock w1 r (.mapIter (some b) since (seen.push e.born) clock), ?_, hrun,
      ⟨es, clock, since, seen.push e.born, clock, hb', hs, rfl, hk, hset.1, hold, hsk, hsk, rfl⟩, ?_, ?_, run_entry_at _ r b since seen es clock e hset.1 hb' hem hst.2.1⟩
    · rw [hl2]
      exact (perm_born hnd he).map kv
    · rcases hal with rfl | rfl <;> exact ⟨rfl, rfl, rfl, by simp [setBlock], fun i _ hi => hset.2 i (fun e1 => hi (by rw [e1]))⟩
    · rcases hal with rfl | rfl <;> simp [setBlock]
end
/-- for k, v := range m: ahead of the loop. -/
theorem MapL.range {w : World} {P : Program} {k : TypeId} {b : Nat} {l : List (Value × Value)} (h : MapL w P k b l) {t e : TypeId} (ht : P.underlying t = some (.map k e)) :
    ∃ w', (Instr.range t (.map (some b))).run P w = .ok (.pointer (some ⟨w.heap.size, 0, none⟩)) w' ∧ RangeL w' P k b w.heap.size l l ∧ Ext w w' ∧ w'.heap.size = w.heap.size + 1 := by
  have hlt := h.lt
  obtain ⟨es, clock, hb, hs, rfl, hk⟩ := h
  refine ⟨_, run_range_map w t k e b es clock ht hb, ⟨es, clock, clock, #[], clock, (Below.heap_alloc w _ b hlt).trans hb, hs, rfl, hk, heap_alloc_new w _, ((stamped_iff es clock).1 hs).1, Nat.le_refl _, Nat.le_refl _, ?_⟩, (Ext.refl w).alloc _, by simp⟩
  unfold leftOf
  rw [Array.toList_filter]
  congr 1
  exact List.filter_eq_self.2 fun x _ => by simp
section
variable {P : Program} (w : World) {ops : Array Oper} {rest : List Oper} {o : Oper} {a : Act} {Q : Exit → Act → World → Prop}
theorem wpList_range_L (hg : o.guard = none) (m : Operand) (t : TypeId) (hop : o.op = Op.range t m) (k e : TypeId) (ht : P.underlying t = some (.map k e)) (b : Nat) (l : List (Value × Value))
    (hm : a.eval m = .map (some b)) (h : MapL w P k b l)
    (hK : ∀ w', RangeL w' P k b w.heap.size l l → Ext w w' → w'.heap.size = w.heap.size + 1 → wpList P ops Q rest (a.put o.dst (.pointer (some ⟨w.heap.size, 0, none⟩))) w') :
    wpList P ops Q (o :: rest) a w := by
  refine wpList_plain hg fun K' hK' => ?_
  obtain ⟨w', hrun, r1, r2, r3⟩ := h.range ht
  unfold Oper.wp
  simp [execOp, hop, hm, hrun, Result.andThen]
  exact hK' _ _ (hK w' r1 r2 r3)
/-- The step, at entries of a shape. -/
theorem wpList_next_L {α : Type} (hg : o.guard = none) (it : Operand) (hop : o.op = Op.next it false) (k : TypeId) (f : α → Value × Value) (b r : Nat) (l left : List (Value × Value)) (inv : ∀ p ∈ left, ∃ x, p = f x)
    (hit : a.eval it = .pointer (some ⟨r, 0, none⟩)) (h : RangeL w P k b r l left)
    (hDone : left = [] → wpList P ops Q rest (a.put o.dst (.tuple #[.bool false])) w)
    (hMore : ∀ (x : α) (left' : List (Value × Value)) (w' : World), left.Perm (f x :: left') → RangeL w' P k b r l left' → w.grownBy w' (some r) → w'.heap.size = w.heap.size →
      (Instr.entry (.pointer (some ⟨r, 0, none⟩))).run P w' = .ok (.tuple #[(f x).1, (f x).2]) w' → wpList P ops Q rest (a.put o.dst (.tuple #[.bool true, (f x).1, (f x).2])) w') :
    wpList P ops Q (o :: rest) a w := by
  refine wpList_plain hg fun K' hK' => ?_
  unfold Oper.wp
  rcases h.next o.type with ⟨h0, hrun⟩ | ⟨p, left', w', hp, hrun, hrg, hgr, hsz, hen⟩
  · simp [execOp, hop, hit, hrun, Result.andThen]
    exact hK' _ _ (hDone h0)
  · obtain ⟨x, rfl⟩ := inv p (hp.mem_iff.2 (by simp))
    simp [execOp, hop, hit, hrun, Result.andThen]
    exact hK' _ _ (hMore x left' w' hp hrg hgr hsz hen)
end
/-- m[k] = v, where k is not there, as a step of a region that draws its order. -/
theorem step_put_L {P : Program} {w : World} {ops : Array Oper} {o : Oper} {a : Act} {K : Act → World → Prop} {Q : Exit → Act → World → Prop} {E : Prop} (hg : o.guard = none) (m x v : Operand) (t : TypeId) (ho : o.op = Op.mapUpdate t m x v)
    (k e : TypeId) (KK : Keyed P k) (ht : P.underlying t = some (.map k e)) (b : Nat) (l : List (Value × Value)) (hm : a.eval m = .map (some b)) (h : MapL w P k b l) (key val : Value) (kl : Lit) (hx : a.eval x = key) (hv : a.eval v = val)
    (hkey : keyOf P k key = some kl) (hn : ∀ p ∈ l, p.1 ≠ key) (hK : ∀ w', MapL w' P k b (l ++ [(key, val)]) → w.mapTurned w' b → K (a.put o.dst undef) w') : if Region.wanted o (yielded ops a.tmps) = true then Oper.wp P o a w K Q else E := by
  have hw : Region.wanted o (yielded ops a.tmps) = true := by simp [Region.wanted, hg]
  rw [if_pos hw]
  obtain ⟨w', hrun, r1, r2⟩ := h.put (val := val) KK ht hkey hn
  unfold Oper.wp
  simp [execOp, ho, hm, hx, hv, hrun, Result.andThen]
  exact hK w' r1 r2
theorem Ext.grown {a b c : World} {row : Option Nat} (h : Ext a b) (hg : b.grownBy c row) (hr : ∀ k, row = some k → a.heap.size ≤ k) : Ext a c := Below.grown h hg h.size hr
end Go.Proofs.Ythnoegipadnmeaa
end

section
namespace Go.Proofs.Ythnoegipadnmeaa
open Go.RowKit Go.ChangeMaps Go.MapKept
open Go.Maps (Keyed)

theorem keys_apart {es : Array MapEntry} {clock : Nat} (h : Stamped es clock) {i j : Nat} {x y : MapEntry} (hx : es.toList[i]? = some x) (hy : es.toList[j]? = some y) (hij : i ≠ j) : x.key ≠ y.key := by
  have hp := ((stamped_iff es clock).1 h).2.2
  rw [List.pairwise_iff_getElem] at hp
  obtain ⟨h1, rfl⟩ := List.getElem?_eq_some_iff.1 hx
  obtain ⟨h2, rfl⟩ := List.getElem?_eq_some_iff.1 hy
  rcases Nat.lt_or_gt_of_ne hij with h | h
  · exact hp i j h1 h2 h
  · exact fun e => hp j i h2 h1 h e.symm
section
variable {w w' : World} {P : Program} {k : TypeId} {b : Nat} {l : List (Value × Value)}
/-- m[k] = v. -/
theorem MapL.store {t e : TypeId} (h : MapL w P k b l) (K : Keyed P k) (ht : P.underlying t = some (.map k e)) {key val : Value} {kl : Lit} (hkey : keyOf P k key = some kl) :
    ∃ w' l', (Instr.mapUpdate t (.map (some b)) key val).run P w = .ok () w' ∧ MapL w' P k b l' ∧ (∀ p, p ∈ l' ↔ (p ∈ l ∧ p.1 ≠ key) ∨ p = (key, val)) ∧ w.mapTurned w' b := by
  obtain ⟨es, clock, hb, hs, rfl, hk⟩ := h
  rcases K.find w hkey es.toList (keys_of hk) with ⟨h1, h2⟩ | ⟨j, e0, h1, h2, h3⟩
  · refine ⟨setBlock w b (.map (es.push ⟨key, val, clock⟩) (clock + 1)), es.toList.map kv ++ [(key, val)], ?_, ⟨_, _, heap_setBlock_same hb _, stamped_push hs h2, by simp [kv], ?_⟩, ?_, ⟨es, clock, _, _, hb, rfl⟩⟩
    · simp [Instr.mapUpdate, run_underlying ht, MapKept.run_getObj_map hb, K.check w false hkey, h1, MapKept.run_setObj_map _ hb, Result.andThen, setBlock]
    · intro p hp
      rcases List.mem_append.1 hp with hp | hp
      · exact hk p hp
      · rw [List.mem_singleton] at hp
        subst hp
        exact ⟨kl, hkey⟩
    · intro p
      rw [List.mem_append, List.mem_singleton]
      refine or_congr ⟨fun hp => ⟨hp, ?_⟩, fun hp => hp.1⟩ Iff.rfl
      obtain ⟨x, hx, rfl⟩ := List.mem_map.1 hp
      exact h2 x hx
  · have hj : es[j]? = some e0 := by simpa using h2
    have hjl : j < es.toList.length := (List.getElem?_eq_some_iff.1 h2).1
    have hkeyf : ∀ e', es[j]? = some e' → ({ e' with key := key, val := val } : MapEntry).key = e'.key := fun e' he' => by rw [hj] at he'; cases he'; exact h3.symm
    have hlist : (es.modify j (fun e' => { e' with key := key, val := val })).toList = es.toList.set j { e0 with key := key, val := val } := by
      apply List.ext_getElem?
      intro i
      rw [Array.getElem?_toList, Array.getElem?_modify, List.getElem?_set]
      by_cases hij : j = i
      · subst hij
        rw [if_pos rfl, if_pos rfl, hj, if_pos hjl]
        rfl
      · rw [if_neg hij, if_neg hij, Array.getElem?_toList]
    have hmem : ∀ p, p ∈ (es.toList.set j { e0 with key := key, val := val }).map kv ↔ (p ∈ es.toList.map kv ∧ p.1 ≠ key) ∨ p = (key, val) := by
      intro p
      constructor
      · intro hp
        obtain ⟨x, hx, rfl⟩ := List.mem_map.1 hp
        obtain ⟨i, hi⟩ := List.getElem?_of_mem hx
        rw [List.getElem?_set] at hi
        split at hi
        · cases hi; right; rfl
        · rename_i hne
          left
          exact ⟨List.mem_map.2 ⟨x, List.mem_of_getElem? hi, rfl⟩, fun e => keys_apart hs hi h2 (fun q => hne q.symm) (e.trans h3.symm)⟩
      · rintro (⟨hp, hn⟩ | rfl)
        · obtain ⟨x, hx, rfl⟩ := List.mem_map.1 hp
          obtain ⟨i, hi⟩ := List.getElem?_of_mem hx
          have hij : ¬ j = i := fun e => by
            subst e
            rw [h2] at hi
            cases hi
            exact hn h3
          exact List.mem_map.2 ⟨x, List.mem_of_getElem? (i := i) (by rw [List.getElem?_set, if_neg hij]; exact hi), rfl⟩
        · exact List.mem_map.2 ⟨{ e0 with key := key, val := val }, List.mem_of_getElem? (i := j) (by rw [List.getElem?_set, if_pos rfl, if_pos hjl]), rfl⟩
    refine ⟨setBlock w b (.map (es.modify j (fun e' => { e' with key := key, val := val })) clock), (es.toList.set j { e0 with key := key, val := val }).map kv, ?_, ⟨_, _, heap_setBlock_same hb _, stamped_modify hs _ _ (fun _ _ => rfl) (fun e' _ he' => hkeyf e' he'), by rw [hlist], ?_⟩, hmem, ⟨es, clock, _, _, hb, rfl⟩⟩
    · simp [Instr.mapUpdate, run_underlying ht, MapKept.run_getObj_map hb, K.check w false hkey, h1, hj, h3, K.stays w hkey, MapKept.run_setObj_map _ hb, Result.andThen, setBlock]
    · intro p hp
      rcases (hmem p).1 hp with hp | rfl
      · exact hk p hp.1
      · exact ⟨kl, hkey⟩
/-- delete(m, k). -/
theorem MapL.drop {t e : TypeId} (h : MapL w P k b l) (K : Keyed P k) (ht : P.underlying t = some (.map k e)) {key : Value} {kl : Lit} (hkey : keyOf P k key = some kl) :
    ∃ w' l', (∀ ty, (Builtin.delete_ #[t, k] ty #[.map (some b), key]).run P w = .ok (.tuple #[]) w') ∧ MapL w' P k b l' ∧ (∀ p, p ∈ l' ↔ p ∈ l ∧ p.1 ≠ key) ∧ w.mapTurned w' b := by
  obtain ⟨es, clock, hb, hs, rfl, hk⟩ := h
  rcases K.find w hkey es.toList (keys_of hk) with ⟨h1, h2⟩ | ⟨j, e0, h1, h2, h3⟩
  · refine ⟨setBlock w b (.map es clock), es.toList.map kv, fun ty => ?_, ⟨_, _, heap_setBlock_same hb _, hs, rfl, hk⟩, fun p => ⟨fun hp => ⟨hp, ?_⟩, fun hp => hp.1⟩, ⟨es, clock, _, _, hb, rfl⟩⟩
    · simp [Builtin.delete_, run_underlying ht, MapKept.run_getObj_map hb, K.check w _ hkey, h1, MapKept.run_setObj_map _ hb, Result.andThen, setBlock]
    · obtain ⟨x, hx, rfl⟩ := List.mem_map.1 hp
      exact h2 x hx
  · have hjl : j < es.toList.length := (List.getElem?_eq_some_iff.1 h2).1
    have hjs : j < es.size := by simpa using hjl
    have hsub : (es.eraseIdxIfInBounds j).toList = es.toList.eraseIdx j := by
      unfold Array.eraseIdxIfInBounds
      rw [dif_pos hjs, Array.toList_eraseIdx]
    have hmem : ∀ p, p ∈ (es.toList.eraseIdx j).map kv ↔ p ∈ es.toList.map kv ∧ p.1 ≠ key := by
      intro p
      constructor
      · intro hp
        obtain ⟨x, hx, rfl⟩ := List.mem_map.1 hp
        obtain ⟨i, hne, hi⟩ := List.mem_eraseIdx_iff_getElem?.1 hx
        exact ⟨List.mem_map.2 ⟨x, List.mem_of_getElem? hi, rfl⟩, fun e => keys_apart hs hi h2 hne (e.trans h3.symm)⟩
      · rintro ⟨hp, hn⟩
        obtain ⟨x, hx, rfl⟩ := List.mem_map.1 hp
        obtain ⟨i, hi⟩ := List.getElem?_of_mem hx
        have hij : i ≠ j := fun e => by
          subst e
          rw [h2] at hi
          cases hi
          exact hn h3
        exact List.mem_map.2 ⟨x, List.mem_eraseIdx_iff_getElem?.2 ⟨i, hij, hi⟩, rfl⟩
    refine ⟨setBlock w b (.map (es.eraseIdxIfInBounds j) clock), (es.toList.eraseIdx j).map kv, fun ty => ?_, ⟨_, _, heap_setBlock_same hb _, stamped_erase hs j, by rw [hsub], fun p hp => hk p ((hmem p).1 hp).1⟩, hmem, ⟨es, clock, _, _, hb, rfl⟩⟩
    simp [Builtin.delete_, run_underlying ht, MapKept.run_getObj_map hb, K.check w _ hkey, h1, MapKept.run_setObj_map _ hb, Result.andThen, setBlock]
end
end Go.Proofs.Ythnoegipadnmeaa
end

section
namespace Go.Proofs.Ythnoegipadnmeaa
open Go.RowKit

/-- What each block is to an object: 0: nothing; 1: nobody writes it any more; another number: which part of it. -/
abbrev Foot := Nat → Nat
/-- From w to w' only blocks of the kinds P were written; new ones may be of any kind. -/
structure Fr (κ : Foot) (P : Nat → Prop) (w w' : World) (κ' : Foot) : Prop where
  os : w'.os = w.os
  tape : w'.tape = w.tape
  output : w'.output = w.output
  size : w.heap.size ≤ w'.heap.size
  other : ∀ g, g < w.heap.size → ¬ P (κ g) → w'.heap[g]? = w.heap[g]?
  foot : ∀ g, g < w.heap.size → κ' g = κ g
  ins : (∀ g, κ g ≠ 0 → g < w.heap.size) → ∀ g, κ' g ≠ 0 → g < w'.heap.size
section
variable {κ κ' κ'' : Foot} {P P' : Nat → Prop} {w w' w'' : World}
theorem Fr.refl (κ : Foot) (P : Nat → Prop) (w : World) : Fr κ P w w κ := ⟨rfl, rfl, rfl, Nat.le_refl _, fun _ _ _ => rfl, fun _ _ => rfl, fun h => h⟩
theorem Fr.trans (h : Fr κ P w w' κ') (k : Fr κ' P w' w'' κ'') : Fr κ P w w'' κ'' :=
  ⟨k.os.trans h.os, k.tape.trans h.tape, k.output.trans h.output, Nat.le_trans h.size k.size,
    fun g hg hp => (k.other g (Nat.lt_of_lt_of_le hg h.size) (by rw [h.foot g hg]; exact hp)).trans (h.other g hg hp),
    fun g hg => (k.foot g (Nat.lt_of_lt_of_le hg h.size)).trans (h.foot g hg), fun i => k.ins (h.ins i)⟩
theorem Fr.mono (h : Fr κ P w w' κ') (hp : ∀ k, P k → P' k) : Fr κ P' w w' κ' := ⟨h.os, h.tape, h.output, h.size, fun g hg hn => h.other g hg fun x => hn (hp _ x), h.foot, h.ins⟩
theorem Ext.fr (h : Ext w w') (κ : Foot) (P : Nat → Prop) : Fr κ P w w' κ := ⟨h.os, h.tape, h.output, h.size, fun g hg _ => h.block g hg, fun _ _ => rfl, fun i g hg => Nat.lt_of_lt_of_le (i g hg) h.size⟩
theorem Fr.ext (h : Fr κ P w w' κ') (k : Ext w' w'') : Fr κ P w w'' κ' := h.trans (k.fr κ' P)
theorem Fr.alloc (h : Fr κ P w w' κ') (o : Obj) : Fr κ P w (w'.alloc o) κ' := h.ext ((Ext.refl _).alloc o)
theorem Fr.drew (h : Fr κ P w w' κ') : Fr κ P w w'.drew κ' := ⟨h.os, h.tape, h.output, h.size, h.other, h.foot, h.ins⟩
theorem Fr.drewN (h : Fr κ P w w' κ') (n : Nat) : Fr κ P w (w'.drewN n) κ' := ⟨h.os, h.tape, h.output, h.size, h.other, h.foot, h.ins⟩
theorem setCell_fr (w : World) (κ : Foot) (P : Nat → Prop) (p : Addr) (hp : P (κ p.block)) (u : Value) : Fr κ P w (w.setCell p u) κ :=
  ⟨rfl, rfl, rfl, by simp [World.setCell], fun g _ hn => Below.heap_setCell _ _ _ _ (fun e => hn (by rw [e]; exact hp)), fun _ _ => rfl, fun i g hg => by have := i g hg; simpa [World.setCell] using this⟩
theorem Fr.setCell (h : Fr κ P w w' κ') {p : Addr} (hp : P (κ' p.block)) (u : Value) : Fr κ P w (w'.setCell p u) κ' := h.trans (setCell_fr _ _ _ p hp u)
theorem setCells_fr {κ : Foot} {P : Nat → Prop} {b : Nat} (hp : P (κ b)) : ∀ (vs : List Value) (o : Nat) (w : World), Fr κ P w (w.setCells b o vs) κ
  | [], _, w => Fr.refl _ _ w
  | v :: r, o, w => (setCell_fr w κ P ⟨b, o, none⟩ hp v).trans (setCells_fr hp r (o + 1) _)
/-- What lies below all blocks of the object is as it was. -/
theorem Fr.below (h : Fr κ P w w' κ') {B : Nat} (hP : ¬ P 0) (hB : ∀ g, g < B → κ g = 0) (hw : B ≤ w.heap.size) : Below B w w' :=
  ⟨h.os, h.tape, h.output, h.size, fun g hg => h.other g (by omega) (by rw [hB g hg]; exact hP)⟩
/-- What is none of the object's is as it was. -/
theorem Fr.blk (h : Fr κ P w w' κ') {b : Nat} {T : TypeId} {cs : List Value} (hb : Blk w b T cs) (hp : ¬ P (κ b)) : Blk w' b T cs := (h.other b hb.lt hp).trans hb
/-- A new block of kind k. -/
def setK (κ : Foot) (g k : Nat) : Foot := fun x => if x = g then k else κ x
theorem setK_same (κ : Foot) (g k : Nat) : setK κ g k g = k := by simp [setK]
theorem setK_other (κ : Foot) {g x : Nat} (k : Nat) (h : x ≠ g) : setK κ g k x = κ x := by simp [setK, h]
theorem new_fr (κ : Foot) (P : Nat → Prop) (w : World) (o : Obj) (k : Nat) : Fr κ P w (w.alloc o) (setK κ w.heap.size k) :=
  ⟨rfl, rfl, rfl, by simp, fun g hg _ => Below.heap_alloc _ _ _ hg, fun g hg => setK_other _ _ (by omega), fun i g hg => by
    simp only [World.alloc, Array.size_push]
    by_cases e : g = w.heap.size
    · omega
    · rw [setK_other _ _ e] at hg; have := i g hg; omega⟩
theorem Fr.new (h : Fr κ P w w' κ') (o : Obj) (k : Nat) : Fr κ P w (w'.alloc o) (setK κ' w'.heap.size k) := h.trans (new_fr _ _ _ _ _)
end

/-- A slice, nil or from the head of a block on, of n elements of z cells, with room for c: these cells. What has room lies in a block of kind k. -/
def Sl (w : World) (κ : Foot) (k z : Nat) (T : TypeId) (p : Option Addr) (n c : Nat) (vs : List Value) : Prop :=
  vs.length = n * z ∧ n ≤ c ∧ (p = none ∨ ∃ g, p = some ⟨g, 0, none⟩) ∧
  (0 < c → ∃ g cur, p = some ⟨g, 0, none⟩ ∧ κ g = k ∧ w.heap[g]? = some (.cells cur T (0, 0)) ∧ c * z ≤ cur.size ∧ ∀ (j : Nat) (u : Value), vs[j]? = some u → cur[j]? = some u)
/-- What is written behind n elements of p hurts none of the n0 of q: they lie apart, or there is no room behind, or no more of them. -/
def Al (p : Option Addr) (n c : Nat) (q : Option Addr) (n0 : Nat) : Prop := ∀ g, p = some ⟨g, 0, none⟩ → q = some ⟨g, 0, none⟩ → c = n ∨ n0 ≤ n
theorem Al.same (p : Option Addr) (n c : Nat) (q : Option Addr) : Al p n c q n := fun _ _ _ => .inr (Nat.le_refl _)
section
variable {w w' : World} {κ κ' : Foot} {P : Nat → Prop} {k z : Nat} {T : TypeId} {p : Option Addr} {n c : Nat} {vs : List Value}
theorem Sl.nil (w : World) (κ : Foot) (k z : Nat) (T : TypeId) : Sl w κ k z T none 0 0 [] := ⟨by simp, Nat.le_refl _, .inl rfl, fun h => by omega⟩
theorem Sl.empty (w : World) (κ : Foot) (k z : Nat) (T : TypeId) (g : Nat) : Sl w κ k z T (some ⟨g, 0, none⟩) 0 0 [] := ⟨by simp, Nat.le_refl _, .inr ⟨g, rfl⟩, fun h => by omega⟩
theorem Sl.same (h : Sl w κ k z T p n c vs) (hb : ∀ g, g < w.heap.size → κ g = k → w'.heap[g]? = w.heap[g]?) (hκ : ∀ g, g < w.heap.size → κ g = k → κ' g = k) : Sl w' κ' k z T p n c vs := by
  refine ⟨h.1, h.2.1, h.2.2.1, fun hc => ?_⟩
  obtain ⟨g, cur, h1, h2, h3, h4⟩ := h.2.2.2 hc
  exact ⟨g, cur, h1, hκ g (heap_lt h3) h2, (hb g (heap_lt h3) h2).trans h3, h4⟩
theorem Sl.fr (h : Sl w κ k z T p n c vs) (f : Fr κ P w w' κ') (hk : ¬ P k) : Sl w' κ' k z T p n c vs :=
  h.same (fun g hg e => f.other g hg (by rw [e]; exact hk)) (fun g hg e => (f.foot g hg).trans e)
theorem Sl.ext (h : Sl w κ k z T p n c vs) (f : Ext w w') : Sl w' κ k z T p n c vs := h.same (fun g hg _ => f.block g hg) (fun _ _ e => e)
/-- The cells of a slice. -/
theorem Sl.cell (h : Sl w κ k z T p n c vs) {j : Nat} {u : Value} (hj : vs[j]? = some u) : ∃ g, p = some ⟨g, 0, none⟩ ∧ g < w.heap.size ∧ κ g = k ∧ w.cell? ⟨g, j, none⟩ = some u ∧ w.frozen? ⟨g, j, none⟩ = false := by
  have hl : j < vs.length := (List.getElem?_eq_some_iff.1 hj).1
  have hn : 0 < n := by
    rcases Nat.eq_zero_or_pos n with e | e
    · rw [h.1, e] at hl; omega
    · exact e
  obtain ⟨g, cur, h1, h2, h3, _, h5⟩ := h.2.2.2 (Nat.lt_of_lt_of_le hn h.2.1)
  exact ⟨g, h1, heap_lt h3, h2, by rw [cell_of_row w g j cur T (0, 0) h3]; exact h5 j u hj, by simp [World.frozen?, h3]⟩
theorem Sl.src {P : Program} (h : Sl w κ k z T p n c vs) {tx e' : TypeId} (hk : P.underlying tx = some (.slice e')) (h1 : ∀ u ∈ vs, u.oneCell' = true) : Src P z tx (.slice p n c) n vs w := by
  rcases h.2.2.1 with hp | ⟨g, hp⟩
  · subst hp
    have hc : c = 0 := by
      rcases Nat.eq_zero_or_pos c with e | e
      · exact e
      · obtain ⟨g, _, e', _⟩ := h.2.2.2 e; cases e'
    have hn : n = 0 := by have := h.2.1; omega
    subst hn
    obtain rfl : vs = [] := List.length_eq_zero_iff.1 (by simpa using h.1)
    exact Src.ofNil w hk c
  · subst hp
    refine Src.ofSlice w hk ⟨g, 0, none⟩ n c vs h.1 (fun j u hj => ?_) h1
    obtain ⟨g', e, _, _, hc, _⟩ := h.cell hj
    cases e
    rw [Addr.add_mid, Nat.zero_add]
    exact hc
end
/-- A slice's cells are not those of a block of another type. -/
theorem Sl.parted {w w' : World} {κ : Foot} {k z : Nat} {T T' : TypeId} {p : Option Addr} {n c : Nat} {vs cs : List Value} {b : Nat} (h : Sl w κ k z T p n c vs) (hb : Blk w b T' cs) (hT : T' ≠ T) (ho : ∀ g, g ≠ b → w'.heap[g]? = w.heap[g]?) : Sl w' κ k z T p n c vs := by
  refine ⟨h.1, h.2.1, h.2.2.1, fun hc => ?_⟩
  obtain ⟨g, cur, h1, h2, h3, h4⟩ := h.2.2.2 hc
  have hg : g ≠ b := fun e => by
    subst e
    unfold Blk at hb
    rw [hb] at h3
    cases h3
    exact hT rfl
  exact ⟨g, cur, h1, h2, (ho g hg).trans h3, h4⟩
theorem Fr.own {κ κ' : Foot} {P : Nat → Prop} {w w' : World} (h : Fr κ P w w' κ') {p : Addr} (hp : w.heap.size ≤ p.block) (u : Value) : Fr κ P w (w'.setCell p u) κ' :=
  ⟨h.os, h.tape, h.output, by simpa [World.setCell] using h.size, fun g hg hn => (Below.heap_setCell _ _ _ _ (by omega)).trans (h.other g hg hn), h.foot, fun i g hg => by have := h.ins i g hg; simpa [World.setCell] using this⟩
theorem Fr.ownRow {κ κ' : Foot} {P : Nat → Prop} {w w' : World} (h : Fr κ P w w' κ') {b : Nat} (hp : w.heap.size ≤ b) (cs : Array Value) : Fr κ P w (w'.setRow b cs) κ' :=
  ⟨h.os, h.tape, h.output, by simpa using h.size, fun g hg hn => (setRow_other _ _ _ _ (by omega)).trans (h.other g hg hn), h.foot, fun i g hg => by have := h.ins i g hg; simpa using this⟩
theorem setCells_block (b : Nat) : ∀ (vs : List Value) (o : Nat) (w : World) (cur : Array Value) (T : TypeId), w.heap[b]? = some (.cells cur T (0, 0)) →
    ∃ cur', (w.setCells b o vs).heap[b]? = some (.cells cur' T (0, 0)) ∧ cur'.size = cur.size ∧ (∀ j, j < o → cur'[j]? = cur[j]?) ∧ (∀ j u, vs[j]? = some u → o + j < cur.size → cur'[o + j]? = some u)
  | [], o, w, cur, T, h => ⟨cur, h, rfl, fun _ _ => rfl, fun j u hj => by simp at hj⟩
  | v :: r, o, w, cur, T, h => by
    have h1 : (w.setCell ⟨b, o, none⟩ v).heap[b]? = some (.cells (cur.setIfInBounds o v) T (0, 0)) := by
      simp [World.setCell, Array.getElem?_modify, h]
    obtain ⟨cur', h2, h3, h4, h5⟩ := setCells_block b r (o + 1) _ _ T h1
    refine ⟨cur', h2, by rw [h3]; simp, fun j hj => ?_, fun j u hj hlt => ?_⟩
    · rw [h4 j (by omega), Array.getElem?_setIfInBounds]
      simp [show ¬ o = j by omega]
    · cases j with
      | zero =>
        simp at hj
        subst hj
        rw [Nat.add_zero, h4 o (by omega), Array.getElem?_setIfInBounds]
        simp; omega
      | succ j =>
        rw [show o + (j + 1) = o + 1 + j by omega]
        exact h5 j u (by simpa using hj) (by simp; omega)
theorem setCells_other (b : Nat) {g : Nat} (hg : g ≠ b) : ∀ (vs : List Value) (o : Nat) (w : World), (w.setCells b o vs).heap[g]? = w.heap[g]?
  | [], _, _ => rfl
  | v :: r, o, w => (setCells_other b hg r (o + 1) _).trans (Below.heap_setCell w ⟨b, o, none⟩ v g hg)
theorem setCells_drew (b : Nat) : ∀ (vs : List Value) (o : Nat) (w : World), (w.setCells b o vs).heap.size = w.heap.size
  | [], _, _ => rfl
  | v :: r, o, w => by rw [World.setCells, setCells_drew b r (o + 1)]; simp [World.setCell]
/-- append to a slice, of whatever source. -/
theorem run_append_sl {P : Program} {w : World} {κ : Foot} {k z : Nat} {T : TypeId} {p : Option Addr} {n c : Nat} {vs : List Value} (h : Sl w κ k z T p n c vs) (t tx ty : TypeId) (zv : Value) (bytes : Nat) (ht : P.underlying t = some (.slice T))
    (hinfo : (P.info? T).map (fun i => (i.zero, i.size, i.bytes)) = some (some zv, z, bytes)) (hzs : zv.cells.size = z) (x : Value) (m : Nat) (news : List Value) (hs : Src P z tx x m news w) (hone : ∀ u ∈ vs, u.oneCell' = true)
    (h63 : n + m ≤ 1000000000) (hb : bytes ≤ 128) :
    ∃ p' c' w' κ', (Builtin.append_ #[t, tx] ty #[.slice p n c, x]).run P w = .ok (.slice p' (n + m) c') w' ∧ Sl w' κ' k z T p' (n + m) c' (vs ++ news) ∧ Fr κ (fun j => j = k) w w' κ' ∧ (p' = p ∨ p' = some ⟨w.heap.size, 0, none⟩) ∧
      (c = 0 → Ext w w') ∧ (∀ q n0 c0 vs0, Sl w κ k z T q n0 c0 vs0 → Al p n c q n0 → Sl w' κ' k z T q n0 c0 vs0 ∧ Al p' (n + m) c' q n0) := by
  obtain ⟨i, hi, hz0, hz1, hz2⟩ := info_parts hinfo
  subst hz1
  have hfit : (n + m) * bytes ≤ 140737488355328 := Nat.le_trans (Nat.mul_le_mul h63 hb) (by decide)
  by_cases hroom : n + m ≤ c
  · by_cases hc0 : 0 < c
    · obtain ⟨g, cur, rfl, hk, hg, hsz, hcells⟩ := h.2.2.2 hc0
      have hnl := hs.newsLen
      have hin : ∀ j, j < news.length → n * i.size + j < cur.size := fun j hj => by
        have : (n + m) * i.size ≤ c * i.size := Nat.mul_le_mul_right _ hroom
        rw [Nat.add_mul] at this
        omega
      have hr := run_append_room_src (P := P) w t tx ty T i ht hi g 0 n c x m news hs hroom (fun j hj => by
        rw [Nat.zero_add, cell_of_row w g _ cur T (0, 0) hg, Array.getElem?_eq_getElem (hin j hj)]; rfl) (fun j hj => by simp [World.frozen?, hg])
      rw [Nat.zero_add] at hr
      obtain ⟨cur', e1, e2, e3, e4⟩ := setCells_block g news (n * i.size) w cur T hg
      have hfr : Fr κ (fun j => j = k) w (w.setCells g (n * i.size) news) κ := setCells_fr (κ := κ) (P := fun j => j = k) hk news _ w
      refine ⟨_, c, _, κ, hr, ⟨by rw [List.length_append, h.1, hnl, Nat.add_mul], hroom, .inr ⟨g, rfl⟩, fun _ => ⟨g, cur', rfl, hk, e1, by rw [e2]; exact hsz, fun j u hj => ?_⟩⟩, hfr, .inl rfl, fun e => by omega, fun q n0 c0 vs0 hq hal => ⟨⟨hq.1, hq.2.1, hq.2.2.1, fun hc => ?_⟩, fun g' e hq' => ?_⟩⟩
      · rcases Nat.lt_or_ge j vs.length with hj2 | hj2
        · rw [List.getElem?_append_left hj2] at hj
          rw [e3 j (by rw [← h.1]; exact hj2)]
          exact hcells j u hj
        · rw [List.getElem?_append_right hj2] at hj
          have hl : j - vs.length < news.length := (List.getElem?_eq_some_iff.1 hj).1
          have := e4 (j - vs.length) u hj (hin _ hl)
          rw [h.1] at this hj2
          rwa [show n * i.size + (j - n * i.size) = j by omega] at this
      · obtain ⟨g2, cur2, q1, q2, q3, q4, q5⟩ := hq.2.2.2 hc
        by_cases hgg : g2 = g
        · subst hgg
          rw [hg] at q3
          cases q3
          refine ⟨g2, cur', q1, q2, e1, by rw [e2]; exact q4, fun j u hj => ?_⟩
          rcases hal g2 rfl q1 with hcn | hle
          · have hm : m = 0 := by omega
            subst hm
            have : news = [] := List.length_eq_zero_iff.1 (by simpa using hnl)
            subst this
            rw [World.setCells] at e1
            rw [hg] at e1
            cases e1
            exact q5 j u hj
          · have hl : j < vs0.length := (List.getElem?_eq_some_iff.1 hj).1
            rw [e3 j (by rw [hq.1] at hl; exact Nat.lt_of_lt_of_le hl (Nat.mul_le_mul_right _ hle))]
            exact q5 j u hj
        · exact ⟨g2, cur2, q1, q2, (setCells_other g hgg news _ w).trans q3, q4, q5⟩
      · rcases hal g' e hq' with hcn | hle
        · left; omega
        · right; omega
    · have hm : m = 0 := by omega
      have hn : n = 0 := by omega
      have hc : c = 0 := by omega
      subst hm hn hc
      have hnews : news = [] := List.length_eq_zero_iff.1 (by simpa using hs.newsLen)
      subst hnews
      refine ⟨p, 0, w, κ, run_append_nothing w t tx ty T i ht hi p 0 0 (Nat.le_refl _) x hs, by simpa using h, Fr.refl _ _ _, .inl rfl, fun _ => Ext.refl _, fun q n0 c0 vs0 hq hal => ⟨hq, hal⟩⟩
  · have hold : (Builtin.firstCells i.size n (.slice p n c)).run P w.drew = .ok vs.toArray w.drew := by
      rcases h.2.2.1 with hp | ⟨g, hp⟩
      · subst hp
        have hc : c = 0 := by
          rcases Nat.eq_zero_or_pos c with e | e
          · exact e
          · obtain ⟨g, _, e', _⟩ := h.2.2.2 e; cases e'
        have hn : n = 0 := by have := h.2.1; omega
        subst hn
        obtain rfl : vs = [] := List.length_eq_zero_iff.1 (by simpa using h.1)
        exact run_firstCells_none w.drew i.size 0 0 c
      · subst hp
        exact run_firstCells_some w.drew i.size n ⟨g, 0, none⟩ n c vs h.1 (fun j u hj => by
          obtain ⟨g', e, _, _, hc, _⟩ := h.cell hj
          cases e
          rw [Addr.add_mid, Nat.zero_add]
          exact hc)
    have hr := run_append_grow_src (P := P) w t tx ty T i zv ht hi hz0 p n c vs hold x m news hs (by omega) (by omega) (growslice_fits (by omega) (by rw [hz2]; exact hfit))
    have hge := grownCap_ge w (n + m) c T
    have hnl := hs.newsLen
    refine ⟨_, _, _, setK κ w.heap.size k, hr, ⟨by rw [List.length_append, h.1, hnl, Nat.add_mul], hge, .inr ⟨_, rfl⟩, fun _ => ⟨w.heap.size, _, rfl, setK_same _ _ _, heap_alloc_new w.drew _, ?_, fun j u hj => ?_⟩⟩, ?_, .inr rfl, fun _ => ((Ext.refl w).drew).alloc _, fun q n0 c0 vs0 hq hal => ⟨hq.same (fun g hg _ => Below.heap_alloc w.drew _ g hg) (fun g hg e => by rw [setK_other _ _ (by omega)]; exact e), fun g e hq' => ?_⟩⟩
    · simp only [Array.size_append, List.size_toArray, List.length_append, size_zeroCells, hzs, h.1, hnl, ← Nat.add_mul]
      exact Nat.le_of_eq (by congr 1; omega)
    · have hl : j < (vs ++ news).length := (List.getElem?_eq_some_iff.1 hj).1
      rw [Array.getElem?_append_left (by simpa using hl)]
      simpa using hj
    · exact ((Fr.refl κ _ w).drew).new _ k
    · right
      cases e
      rcases Nat.eq_zero_or_pos c0 with e0 | e0
      · have := hq.2.1; omega
      · obtain ⟨g2, cur2, q1, q2, q3, _⟩ := hq.2.2.2 e0
        rw [hq'] at q1
        cases q1
        have := heap_lt q3
        omega
end Go.Proofs.Ythnoegipadnmeaa
end

section
namespace Go.Proofs.Ythnoegipadnmeaa
open Go.RowKit

theorem Fr.toExt {κ κ' : Foot} {w w' : World} (h : Fr κ (fun _ => False) w w' κ') : Ext w w' := ⟨h.os, h.tape, h.output, h.size, fun g hg => h.other g hg (fun x => x)⟩
/-- append(s, x...), in a plain region. -/
theorem wpList_append_sl {w : World} {ops : Array Oper} {rest : List Oper} {o : Oper} {a : Act} {Q : Exit → Act → World → Prop} (hgd : o.guard = none) (s x : Operand) (t tx : TypeId)
    (ho : o.op = .call { callee := .builtin .append, args := #[s, x], argTypes := #[t, tx] }) {T : TypeId} {zv : Value} {z bytes : Nat} (ht : Try.prog.underlying t = some (.slice T))
    (hinfo : (Try.prog.info? T).map (fun i => (i.zero, i.size, i.bytes)) = some (some zv, z, bytes)) (hzs : zv.cells.size = z) (hb : bytes ≤ 128)
    {κ : Foot} {k : Nat} {p : Option Addr} {n c : Nat} {vs : List Value} (hs : a.eval s = .slice p n c) (h : Sl w κ k z T p n c vs) (hone : ∀ u ∈ vs, u.oneCell' = true)
    (xv : Value) (hx : a.eval x = xv) (m : Nat) (news : List Value) (hsrc : Src Try.prog z tx xv m news w) (h63 : n + m ≤ 1000000000)
    (hQ : ∀ p' c' w' κ', Sl w' κ' k z T p' (n + m) c' (vs ++ news) → Fr κ (fun j => j = k) w w' κ' → (p' = p ∨ p' = some ⟨w.heap.size, 0, .none⟩) → (c = 0 → Ext w w') → (∀ q n0 c0 vs0, Sl w κ k z T q n0 c0 vs0 → Al p n c q n0 → Sl w' κ' k z T q n0 c0 vs0 ∧ Al p' (n + m) c' q n0) →
      wpList Try.prog ops Q rest (a.put o.dst (.slice p' (n + m) c')) w') : wpList Try.prog ops Q (o :: rest) a w := by
  obtain ⟨p', c', w', κ', hr, h1, h2, h3, h4, h5⟩ := run_append_sl h t tx o.type zv bytes ht hinfo hzs xv m news hsrc hone h63 hb
  refine wpList_plain hgd fun K hK => ?_
  unfold Oper.wp execOp
  simp only [ho, resolve, invoke, builtin, Sem.run_bind, Sem.run_pure, Result.andThen_ok, List.map_toArray, List.map_cons, List.map_nil, hs, hx, hr]
  exact hK _ _ (hQ p' c' w' κ' h1 h2 h3 h4 h5)
/-- The same, as a step of a region that draws its order. -/
theorem step_append_sl {w : World} {ops : Array Oper} {o : Oper} {a : Act} {K : Act → World → Prop} {Q : Exit → Act → World → Prop} {E : Prop} (hgd : o.guard = none) (s x : Operand) (t tx : TypeId)
    (ho : o.op = .call { callee := .builtin .append, args := #[s, x], argTypes := #[t, tx] }) {T : TypeId} {zv : Value} {z bytes : Nat} (ht : Try.prog.underlying t = some (.slice T))
    (hinfo : (Try.prog.info? T).map (fun i => (i.zero, i.size, i.bytes)) = some (some zv, z, bytes)) (hzs : zv.cells.size = z) (hb : bytes ≤ 128)
    {κ : Foot} {k : Nat} {p : Option Addr} {n c : Nat} {vs : List Value} (hs : a.eval s = .slice p n c) (h : Sl w κ k z T p n c vs) (hone : ∀ u ∈ vs, u.oneCell' = true)
    (xv : Value) (hx : a.eval x = xv) (m : Nat) (news : List Value) (hsrc : Src Try.prog z tx xv m news w) (h63 : n + m ≤ 1000000000)
    (hQ : ∀ p' c' w' κ', Sl w' κ' k z T p' (n + m) c' (vs ++ news) → Fr κ (fun j => j = k) w w' κ' → (p' = p ∨ p' = some ⟨w.heap.size, 0, .none⟩) → (c = 0 → Ext w w') → (∀ q n0 c0 vs0, Sl w κ k z T q n0 c0 vs0 → Al p n c q n0 → Sl w' κ' k z T q n0 c0 vs0 ∧ Al p' (n + m) c' q n0) →
      K (a.put o.dst (.slice p' (n + m) c')) w') : if Region.wanted o (yielded ops a.tmps) = true then Oper.wp Try.prog o a w K Q else E := by
  have hw : Region.wanted o (yielded ops a.tmps) = true := by simp [Region.wanted, hgd]
  rw [if_pos hw]
  obtain ⟨p', c', w', κ', hr, h1, h2, h3, h4, h5⟩ := run_append_sl h t tx o.type zv bytes ht hinfo hzs xv m news hsrc hone h63 hb
  unfold Oper.wp execOp
  simp only [ho, resolve, invoke, builtin, Sem.run_bind, Sem.run_pure, Result.andThen_ok, List.map_toArray, List.map_cons, List.map_nil, hs, hx, hr]
  exact hQ p' c' w' κ' h1 h2 h3 h4 h5
end Go.Proofs.Ythnoegipadnmeaa
end

section
namespace Go.Proofs.Ythnoegipadnmeaa
open Go.RowKit
open Go.Maps (Keyed keyOf_int_mk int_keyed)

theorem infoInt : (Try.prog.info? 3).map (fun i => (i.zero, i.size, i.bytes)) = some (some (.int .i64 0), 1, 8) := by kernel_rfl
theorem keyU : Keyed Try.prog 22 := int_keyed Try.underlying22
theorem keyU_at (n : Nat) (h : n < 18446744073709551616) : keyOf Try.prog 22 (.int .u64 (n : Int)) = some (.int .u64 (n : Int)) := keyOf_int_mk Try.underlying22 (by simp [Lit.wf, IntKind.min, IntKind.max, IntKind.signed, IntKind.bits]; omega)
/-- Places as values. -/
def vN (l : List Nat) : List Value := l.map fun (i : Nat) => Value.int .i64 (i : Int)
theorem vN_one (l : List Nat) : ∀ u ∈ vN l, u.oneCell' = true := by
  intro u hu
  obtain ⟨n, _, rfl⟩ := List.mem_map.1 hu
  rfl
theorem vN_length (l : List Nat) : (vN l).length = l.length := by simp [vN]
theorem vN_snoc (l : List Nat) (j : Nat) : vN (l ++ [j]) = vN l ++ [.int .i64 (j : Int)] := by simp [vN]
theorem zero_ints (w : World) : (zeroValue 43).run Try.prog w = .ok (.slice none 0 0) w := Try.zeroValue43 w
/-- The map's elements, each in blocks of its own. -/
def LatM (w : World) (b : Nat) (κ : Foot) (G : Nat → List Nat) : Prop := ∃ l, MapL w Try.prog 22 b l ∧
  ∀ m, m < 18446744073709551616 → (G m = [] ∧ ∀ p ∈ l, p.1 ≠ .int .u64 (m : Int)) ∨ (G m ≠ [] ∧ ∃ q c, (.int .u64 (m : Int), .slice q (G m).length c) ∈ l ∧ Sl w κ (m + 1) 1 3 q (G m).length c (vN (G m)))
/-- Places that wait, by numbers: a map. -/
def WaitM (w : World) (b : Nat) (G : Nat → List Nat) : Prop := ∃ l, MapL w Try.prog 22 b l ∧
  ∀ m, m < 18446744073709551616 → (G m = [] ∧ ∀ p ∈ l, p.1 ≠ .int .u64 (m : Int)) ∨ (G m ≠ [] ∧ ∃ q c, (.int .u64 (m : Int), .slice q (G m).length c) ∈ l ∧ (G m).length ≤ c ∧ ValsP w q (vN (G m)))
theorem LatM.wait {w : World} {b : Nat} {κ : Foot} {G : Nat → List Nat} (h : LatM w b κ G) : WaitM w b G := by
  obtain ⟨l, hm, hl⟩ := h
  refine ⟨l, hm, fun m hm64 => ?_⟩
  rcases hl m hm64 with h | ⟨h1, q, c, h2, h3⟩
  · exact .inl h
  · refine .inr ⟨h1, q, c, h2, h3.2.1, fun i v hv => ?_⟩
    obtain ⟨g, h4, h5, _, h6, _⟩ := h3.cell hv
    exact ⟨⟨g, 0, none⟩, h4, h5, by rw [add_zero_off]; exact h6⟩
/-- What is known behind the append, and behind the store, of the region that appends a place. -/
def MidL (W1 : World) (κ : Foot) (num n : Nat) (vs : List Value) (v : Value) (u : World) : Prop := ∃ p2 c2 κ5, v = .slice p2 n c2 ∧ Sl u κ5 (num + 1) 1 3 p2 n c2 vs ∧ Fr κ (fun j => j = num + 1) W1 u κ5
def FinL (W1 : World) (κ : Foot) (b num n : Nat) (lm : List (Value × Value)) (vs : List Value) (v : Value) (u : World) : Prop := ∃ p2 c2 κ5 u0 l6, v = .slice p2 n c2 ∧ Sl u0 κ5 (num + 1) 1 3 p2 n c2 vs ∧ Fr κ (fun j => j = num + 1) W1 u0 κ5 ∧
  MapL u Try.prog 22 b l6 ∧ (∀ p, p ∈ l6 ↔ (p ∈ lm ∧ p.1 ≠ .int .u64 (num : Int)) ∨ p = (.int .u64 (num : Int), .slice p2 n c2)) ∧ u0.mapTurned u b
/-- What each operation of that region leaves in its slot. -/
def LtF (b X num j n : Nat) (q : Option Addr) (c g0 : Nat) (i : Nat) (v : Value) : Prop := match i with
  | 0 => v = .map (some b)
  | 1 => v = .pointer (some ⟨X, 2, none⟩)
  | 2 => v = .int .u64 (num : Int)
  | 3 => v = .map (some b)
  | 4 => v = .pointer (some ⟨X, 2, none⟩)
  | 5 => v = .int .u64 (num : Int)
  | 6 => v = .slice q n c
  | 7 => v = .int .i64 (j : Int)
  | 8 => v = .slice (some ⟨g0, 0, none⟩) 1 1
  | _ => True
theorem ext_grown' {w a b : World} (h : Ext w a) {i : Nat} (hg : a.grownBy b (some i)) (hi : w.heap.size ≤ i) : Ext w b :=
  ⟨hg.os.trans h.os, hg.tape.trans h.tape, hg.output.trans h.output, Nat.le_trans h.size hg.size, fun k hk => (hg.block k (Nat.lt_of_lt_of_le hk h.size) (by intro e; cases e; omega)).trans (h.block k hk)⟩
set_option maxRecDepth 100000 in
set_option maxHeartbeats 8000000 in
theorem later_any (w : World) (p : Option Addr) (c0 : Nat) (L : List Seg) (h : SegsP w p L) (hl : L.length ≤ 1000000) (hok : ∀ x ∈ L, x.f < 18446744073709551616) (gen : Nat) :
    Calls Try.prog 38 #[.slice p L.length c0, .int .u64 (gen : Int)] w fun e w' => ∃ b, e = .returned (.map (some b)) ∧ w.heap.size ≤ b ∧ WaitM w' b (fun m => waitF L gen [] m) ∧ Ext w w' := by
  have HH := Lib.hid (fun u (hu : Ext w u) => h.ext hu)
  have HOk := Lib.hid hok
  have hmm := @run_makeMap Try.prog
  clear h hok
  go_enter Try.func38, Try.ntmps38
  go_wp2
  obtain ⟨b, hbd⟩ : ∃ b, b = w.heap.size := ⟨_, rfl⟩
  have HBd := Lib.hid hbd
  rw [← hbd]
  clear hbd
  go_loopw [11] (fun i wr => ∃ (j : Nat) (κ : Foot), j ≤ L.length ∧ i = .int .i64 (j : Int) ∧ Hid (LatM wr b κ (fun m => waitJ L gen m j)) ∧ Hid ((κ b = 0 ∧ ∀ g, g < w.heap.size → κ g = 0) ∧ ∀ g, κ g ≠ 0 → g < wr.heap.size) ∧ Hid (Ext w wr)) (fun i _ => L.length - (intOf i).toNat)
  case atStart => exact ⟨0, fun _ => 0, Nat.zero_le _, rfl, Lib.hid ⟨[], by rw [HBd.out]; exact MapL.made w _ _, fun m _ => .inl ⟨rfl, by simp⟩⟩, Lib.hid ⟨⟨rfl, fun _ _ => rfl⟩, fun g hg => absurd rfl hg⟩, Lib.hid ((Ext.refl w).alloc _)⟩
  case round =>
    obtain ⟨j, κ, hj, rfl, hm, hκ, hx⟩ := hrel
    by_cases hlt : j < L.length
    · obtain ⟨x, hxj⟩ : ∃ x, L[j]? = some x := ⟨_, List.getElem?_eq_getElem hlt⟩
      obtain ⟨ad, q0, c2, rfl, ha, _, hc⟩ := HH.out _ hx.out j x hxj
      have k0 : wr.cell? (ad.add (j * 7)) = some (.int .u8 (x.k : Int)) := hc 0 _ rfl
      have k1 := seven_at (k := 0) (hc 1 _ rfl)
      have k2 := seven_at (k := 1) (hc 2 _ rfl)
      have k3 := seven_at (k := 2) (hc 3 _ rfl)
      have k4 := seven_at (k := 3) (hc 4 _ rfl)
      have k5 := seven_at (k := 4) (hc 5 _ rfl)
      have k6 := seven_at (k := 5) (hc 6 _ rfl)
      have hbx := Blk.new wr [.int .u8 (x.k : Int), .int .u64 (x.g : Int), .int .u64 (x.f : Int), .string x.t, .slice q0 x.r.length c2, .int .i64 x.u, .bool x.w] 25
      have b0 := hbx.cell 0 _ rfl
      have b1 := hbx.cell 1 _ rfl
      have HBx := Lib.hid hbx
      have HW := Lib.hid (fun m => waitJ_succ L gen m j)
      have HIs := Lib.hid (show ∀ m, isW L gen m j = (x.k == 0 && x.g == gen && x.f == m) from fun m => by unfold isW; rw [hxj])
      have hf64 := HOk.out x (List.mem_of_getElem? hxj)
      have HX1 := Lib.hid (hx.out.alloc (.cells #[.int .u8 (x.k : Int), .int .u64 (x.g : Int), .int .u64 (x.f : Int), .string x.t, .slice q0 x.r.length c2, .int .i64 x.u, .bool x.w] 25))
      have HE1 := Lib.hid ((Ext.refl wr).alloc (.cells #[.int .u8 (x.k : Int), .int .u64 (x.g : Int), .int .u64 (x.f : Int), .string x.t, .slice q0 x.r.length c2, .int .i64 x.u, .bool x.w] 25))
      clear hxj hc hbx ha
      by_cases hyes : x.k = 0 ∧ x.g = gen
      · have hki : ((x.k : Int) == 0) = true := by rw [beq_iff_eq]; omega
        have hgi : ((x.g : Int) == (gen : Int)) = true := by rw [beq_iff_eq]; omega
        have HIs2 : Hid (∀ m, waitJ L gen m (j + 1) = if m = x.f then waitJ L gen m j ++ [j] else waitJ L gen m j) := Lib.hid (fun m => by
          rw [HW.out m, HIs.out m]
          by_cases hmf : m = x.f
          · rw [if_pos hmf, if_pos (by simp [hyes.1, hyes.2, hmf])]
          · rw [if_neg hmf, if_neg (by simp [hyes.1, hyes.2]; omega), List.append_nil])
        clear hyes
        go_upto_region 6 with (fail)
        clear k0 k1 k2 k3 k4 k5 k6 hki hgi
        generalize hWd : (wr.alloc (.cells #[.int .u8 (x.k : Int), .int .u64 (x.g : Int), .int .u64 (x.f : Int), .string x.t, .slice q0 x.r.length c2, .int .i64 x.u, .bool x.w] 25)) = Wb at *
        clear hWd
        obtain ⟨lm, hml, hel⟩ := hm.out
        generalize x.f = num at *
        obtain ⟨q, c, hq⟩ : ∃ q c, Sl wr κ (num + 1) 1 3 q (waitJ L gen num j).length c (vN (waitJ L gen num j)) ∧ ∀ u, MapL u Try.prog 22 b lm → (Instr.lookup 88 (.map (some b)) (.int .u64 (num : Int)) false).run Try.prog u = .ok (.slice q (waitJ L gen num j).length c) u := by
          rcases hel num hf64 with ⟨h1, h2⟩ | ⟨h1, q, c, h2, h3⟩
          · refine ⟨none, 0, ?_, fun u hu => ?_⟩
            · show Sl wr κ (num + 1) 1 3 none (waitJ L gen num j).length 0 (vN (waitJ L gen num j))
              rw [show waitJ L gen num j = [] from h1]
              exact Sl.nil _ _ _ _ _
            · have := hu.look_none keyU Try.underlying88 false (zero_ints u) (keyU_at num hf64) h2
              rw [show (waitJ L gen num j).length = 0 from by rw [show waitJ L gen num j = [] from h1]; rfl]
              simpa using this
          · refine ⟨q, c, h3, fun u hu => ?_⟩
            have := hu.look keyU Try.underlying88 false (keyU_at num hf64) h2
            simpa using this
        have hnl : (waitJ L gen num j).length ≤ j := by
          unfold waitJ
          have := List.length_filter_le (isW L gen num) (List.range j)
          simpa using this
        have hvone := vN_one (waitJ L gen num j)
        generalize hvs : vN (waitJ L gen num j) = vs at *
        generalize hnn : (waitJ L gen num j).length = n at *
        have HN6 := Lib.hid (show n ≤ 1000000 by omega)
        have HN64 := Lib.hid hf64
        have HE := Lib.hid (show Ext wr (Wb.drew.alloc (.cells #[.int .i64 (j : Int)] 3)) from (HE1.out.drew).alloc _)
        have HSl := Lib.hid (hq.1.ext HE.out)
        have HM0 := Lib.hid (hml.ext HE1.out)
        have HM1 := Lib.hid (hml.ext HE.out)
        have HEl := Lib.hid hel
        have HLk := Lib.hid hq.2
        have HBb := Lib.hid (HBx.out)
        have HK0 : Hid (κ b = 0) := Lib.hid hκ.out.1.1
        have HKX : Hid (κ wr.heap.size = 0) := Lib.hid (by
          rcases Nat.eq_zero_or_pos (κ wr.heap.size) with e | e
          · exact e
          · have := hκ.out.2 wr.heap.size (by omega); omega)
        have HSrc : Hid (Src Try.prog 1 43 (.slice (some ⟨Wb.heap.size, 0, none⟩) 1 1) 1 [.int .i64 (j : Int)] (Wb.drew.alloc (.cells #[.int .i64 (j : Int)] 3))) := Lib.hid (Src.ofSlice _ Try.underlying43 ⟨Wb.heap.size, 0, none⟩ 1 1 [.int .i64 (j : Int)] rfl (fun i u hi => by
          rw [Addr.add_mid, Nat.zero_add]
          exact Blk.cell (Blk.new Wb.drew [.int .i64 (j : Int)] 3) i u hi) (fun u hu => by simp at hu; subst hu; rfl))
        have HCell : Hid (∀ (b7 b8 : Bool) (v : Value) (u : World), MkI Wb.drew (.cells #[.int .i64 (j : Int)] 3) (MidL (Wb.drew.alloc (.cells #[.int .i64 (j : Int)] 3)) κ num (n + 1) (vs ++ [.int .i64 (j : Int)])) (FinL (Wb.drew.alloc (.cells #[.int .i64 (j : Int)] 3)) κ b num (n + 1) lm (vs ++ [.int .i64 (j : Int)])) b7 b8 false v u →
            u.cell? ⟨wr.heap.size, 2, none⟩ = some (.int .u64 (num : Int)) ∧ (Instr.lookup 88 (.map (some b)) (.int .u64 (num : Int)) false).run Try.prog u = .ok (.slice q n c) u) := Lib.hid (fun b7 b8 v u h => by
          refine h.cell (C := fun u => u.cell? ⟨wr.heap.size, 2, none⟩ = some (.int .u64 (num : Int)) ∧ (Instr.lookup 88 (.map (some b)) (.int .u64 (num : Int)) false).run Try.prog u = .ok (.slice q n c) u) ⟨HBx.out.drew.cell 2 _ rfl, HLk.out _ HM0.out.drew⟩ ⟨(HBx.out.drew.alloc _).cell 2 _ rfl, HLk.out _ HM1.out⟩ ?_
          rintro v u ⟨p2, c2, κ5, _, _, hf5⟩
          exact ⟨Blk.cell (hf5.blk (HBx.out.drew.alloc _) (by rw [HKX.out]; omega)) 2 _ rfl, HLk.out _ (HM1.out.same (hf5.other b HM1.out.lt (by rw [HK0.out]; omega)))⟩)
        clear hq hml hel b0 b1 hm
        have hbase : ∀ q : Nat × Value, q ∈ [(5, .map (some b)), (6, .int .i64 (j : Int)), (7, .pointer (some ⟨wr.heap.size, 0, none⟩))] → q.1 < 25 := by
          intro q hq
          simp only [List.mem_cons, List.not_mem_nil, or_false] at hq
          rcases hq with rfl | rfl | rfl <;> simp
        refine wp_region_any (by kernel_rfl) ?_
        refine wpAny_inv (Wz _ 11 37 25 8 9 [(5, .map (some b)), (6, .int .i64 (j : Int)), (7, .pointer (some ⟨wr.heap.size, 0, none⟩))] (LtF b wr.heap.size num j n q c Wb.heap.size) (MkI Wb.drew (.cells #[.int .i64 (j : Int)] 3) (MidL (Wb.drew.alloc (.cells #[.int .i64 (j : Int)] 3)) κ num (n + 1) (vs ++ [.int .i64 (j : Int)])) (FinL (Wb.drew.alloc (.cells #[.int .i64 (j : Int)] 3)) κ b num (n + 1) lm (vs ++ [.int .i64 (j : Int)])))) ?hsize ?step ?last _ _ _ _ (by decide) (Wz.start rfl ?size ?base (by decide) (by decide) (fun v => rfl))
        case hsize => exact fun L a w h => h.size
        case size => rfl
        case base =>
          intro q hq
          simp only [List.mem_cons, List.not_mem_nil, or_false] at hq
          rcases hq with rfl | rfl | rfl
          · rfl
          · rfl
          · rfl
        case step =>
          intro L' a' w' i h hi
          have hlt' : i < 11 := (ready_spec hi).1
          obtain ⟨Y, D⟩ := a'
          obtain rfl : D = [] := h.defers
          have b5 : Y[5]?.getD undef = .map (some b) := h.ahead (5, _) (by simp)
          have b6 : Y[6]?.getD undef = .int .i64 (j : Int) := h.ahead (6, _) (by simp)
          have b7 : Y[7]?.getD undef = .pointer (some ⟨wr.heap.size, 0, none⟩) := h.ahead (7, _) (by simp)
          have hinv := Lib.hid h.inv
          rcases (show i = 0 ∨ i = 1 ∨ i = 2 ∨ i = 3 ∨ i = 4 ∨ i = 5 ∨ i = 6 ∨ i = 7 ∨ i = 8 ∨ i = 9 ∨ i = 10 by omega) with rfl | rfl | rfl | rfl | rfl | rfl | rfl | rfl | rfl | rfl | rfl
          · refine wpOp_step rfl (fun K hK => ?_)
            go_simp
            exact hK _ _ (h.put (by decide) hbase 0 25 (by decide) (by decide) (by decide) rfl (ready_spec hi).2.1 _ rfl)
          · refine wpOp_step rfl (fun K hK => ?_)
            go_simp
            exact hK _ _ (h.put (by decide) hbase 1 26 (by decide) (by decide) (by decide) rfl (ready_spec hi).2.1 _ rfl)
          · have d1 := ready_after hi _ rfl 0 _ rfl rfl
            have f1 : Y[26]?.getD undef = .pointer (some ⟨wr.heap.size, 2, none⟩) := h.at 1 26 (by decide) (by decide) rfl d1
            have hnb := h.not (i := 2) (by decide) (ready_spec hi).2.1
            have hci := hinv.out
            rw [hnb] at hci
            have cb := (HCell.out _ _ _ _ hci).1
            refine wpOp_step rfl (fun K hK => ?_)
            go_simp
            exact hK _ _ (h.put (by decide) hbase 2 27 (by decide) (by decide) (by decide) rfl (ready_spec hi).2.1 _ rfl)
          · refine wpOp_step rfl (fun K hK => ?_)
            go_simp
            exact hK _ _ (h.put (by decide) hbase 3 28 (by decide) (by decide) (by decide) rfl (ready_spec hi).2.1 _ rfl)
          · refine wpOp_step rfl (fun K hK => ?_)
            go_simp
            exact hK _ _ (h.put (by decide) hbase 4 29 (by decide) (by decide) (by decide) rfl (ready_spec hi).2.1 _ rfl)
          · have d4 := ready_after hi _ rfl 0 _ rfl rfl
            have f4 : Y[29]?.getD undef = .pointer (some ⟨wr.heap.size, 2, none⟩) := h.at 4 29 (by decide) (by decide) rfl d4
            have hnb := h.not (i := 5) (by decide) (ready_spec hi).2.1
            have hci := hinv.out
            rw [hnb] at hci
            have cb := (HCell.out _ _ _ _ hci).1
            refine wpOp_step rfl (fun K hK => ?_)
            go_simp
            exact hK _ _ (h.put (by decide) hbase 5 30 (by decide) (by decide) (by decide) rfl (ready_spec hi).2.1 _ rfl)
          · have d3 := ready_after hi _ rfl 0 _ rfl rfl
            have f3 : Y[28]?.getD undef = .map (some b) := h.at 3 28 (by decide) (by decide) rfl d3
            have d5 := ready_after hi _ rfl 1 _ rfl rfl
            have f5 : Y[30]?.getD undef = .int .u64 (num : Int) := h.at 5 30 (by decide) (by decide) rfl d5
            have hnb := h.not (i := 6) (by decide) (ready_spec hi).2.1
            have hci := hinv.out
            rw [hnb] at hci
            have clk := (HCell.out _ _ _ _ hci).2
            refine wpOp_step rfl (fun K hK => ?_)
            go_simp
            exact hK _ _ (h.put (by decide) hbase 6 31 (by decide) (by decide) (by decide) rfl (ready_spec hi).2.1 _ rfl)
          · refine wpOp_step rfl (fun K hK => ?_)
            go_simp
            exact hK _ _ (h.put (by decide) hbase 7 32 (by decide) (by decide) (by decide) rfl (ready_spec hi).2.1 _ rfl)
          · have d7 := ready_after hi _ rfl 0 _ rfl rfl
            have f7 : Y[32]?.getD undef = .int .i64 (j : Int) := h.at 7 32 (by decide) (by decide) rfl d7
            have hx8 : L'.getD 8 true = false := (ready_spec hi).2.1
            have hnb := h.not (i := 8) (by decide) hx8
            have h1 := hinv.out
            rw [hx8, hnb] at h1
            rcases hb9 : L'.getD 9 true with _ | _
            · rw [hb9] at h1
              obtain rfl : w' = Wb.drew := h1
              refine wpOp_step rfl (fun K hK => ?_)
              go_simp
              exact hK _ _ (h.make (by decide) hbase 33 (by decide) (by decide) rfl hx8 _ rfl (by rw [hb9]; exact rfl))
            · rw [hb9] at h1
              exact absurd h1 (fun x => x)
          · have d6 := ready_after hi _ rfl 0 _ rfl rfl
            have f6 : Y[31]?.getD undef = .slice q n c := h.at 6 31 (by decide) (by decide) rfl d6
            have d8 := ready_after hi _ rfl 1 _ rfl rfl
            have f8 : Y[33]?.getD undef = .slice (some ⟨Wb.heap.size, 0, none⟩) 1 1 := h.at 8 33 (by decide) (by decide) rfl d8
            have q8 : L'.getD 8 true = true := bit_of d8
            have hx9 : L'.getD 9 true = false := (ready_spec hi).2.1
            have hnb := h.not (i := 9) (by decide) hx9
            have h1 := hinv.out
            rw [q8, hx9, hnb] at h1
            obtain rfl : w' = Wb.drew.alloc (.cells #[.int .i64 (j : Int)] 3) := h1
            refine wpOp_step rfl (fun K hK => ?_)
            refine step_append_sl rfl (.tmp 31) (.tmp 33) 43 43 rfl Try.underlying43 infoInt rfl (by decide) (by simpa [Act.eval] using f6) HSl.out hvone _ (by simpa [Act.eval] using f8) 1 [.int .i64 (j : Int)] HSrc.out (by have := HN6.out; omega) ?_
            intro p2 c2 w5 κ5 hs5 hf5 _ _ _
            exact hK _ _ (h.law (by decide) hbase 34 (by decide) (by decide) rfl hx9 _ (by rw [q8]; exact ⟨p2, c2, κ5, rfl, hs5, hf5⟩))
          · have d0 := ready_after hi _ rfl 0 _ rfl rfl
            have f0 : Y[25]?.getD undef = .map (some b) := h.at 0 25 (by decide) (by decide) rfl d0
            have d2 := ready_after hi _ rfl 1 _ rfl rfl
            have f2 : Y[27]?.getD undef = .int .u64 (num : Int) := h.at 2 27 (by decide) (by decide) rfl d2
            have d9 := ready_after hi _ rfl 2 _ rfl rfl
            have q9 : L'.getD 9 true = true := bit_of d9
            have hall := ready_all hi _ rfl 10 (by kernel_rfl)
            have q8 := hall 8 (by decide)
            have hx10 : L'.getD (11 - 1) true = false := (ready_spec hi).2.1
            have h1 := hinv.out
            rw [q8, q9, hx10] at h1
            obtain ⟨p2, c2, κ5, hv9, hs5, hf5⟩ := h1
            have hm5 : MapL w' Try.prog 22 b lm := HM1.out.same (hf5.other b HM1.out.lt (by rw [HK0.out]; omega))
            obtain ⟨w6, l6, hrun, hm6, hmem, hturn⟩ := hm5.store (val := .slice p2 (n + 1) c2) keyU Try.underlying88 (keyU_at num HN64.out)
            have f9 : Y[34]?.getD undef = .slice p2 (n + 1) c2 := by rw [← Array.getD_eq_getD_getElem?]; exact hv9
            have HS5 := Lib.hid hs5; have HF5 := Lib.hid hf5; have HM6 := Lib.hid hm6; have HMem := Lib.hid hmem; have HTu := Lib.hid hturn; have HV9 := Lib.hid hv9
            clear hs5 hf5 hm5 hm6 hmem hturn hv9
            refine wpOp_step rfl (fun K hK => ?_)
            go_simp
            exact hK _ _ (h.store (by decide) (by decide) hall ⟨p2, c2, κ5, w', l6, HV9.out, HS5.out, HF5.out, HM6.out, HMem.out, HTu.out⟩ undef)
        case last =>
          intro L' a' w6 h hr'
          have q10 : L'.getD (11 - 1) true = true := all_done h.size (by kernel_rfl) hr' 10 (by decide)
          have q9 : L'.getD 9 true = true := all_done h.size (by kernel_rfl) hr' 9 (by decide)
          have q8 : L'.getD 8 true = true := all_done h.size (by kernel_rfl) hr' 8 (by decide)
          have hv := h.inv
          rw [q10, q9, q8] at hv
          obtain ⟨p2, c2, κ5, u0, l6, hv9, hs5, hf5, hm6, hmem, hturn⟩ := hv
          obtain ⟨Z, D⟩ := a'
          obtain rfl : D = [] := h.defers
          have hfr := h.frame (by rfl) (by decide) (by decide) [.map (some b), .pointer (some ⟨wr.heap.size, 2, none⟩), .int .u64 (num : Int), .map (some b), .pointer (some ⟨wr.heap.size, 2, none⟩), .int .u64 (num : Int), .slice q n c, .int .i64 (j : Int), .slice (some ⟨Wb.heap.size, 0, none⟩) 1 1, .slice p2 (n + 1) c2] rfl (by
            intro t v ht
            have ht10 : t < 10 := (List.getElem?_eq_some_iff.1 ht).1
            rcases (show t = 0 ∨ t = 1 ∨ t = 2 ∨ t = 3 ∨ t = 4 ∨ t = 5 ∨ t = 6 ∨ t = 7 ∨ t = 8 ∨ t = 9 by omega) with rfl | rfl | rfl | rfl | rfl | rfl | rfl | rfl | rfl | rfl
            · cases ht; exact h.facts 0 (by decide) (by decide) (all_done h.size (by kernel_rfl) hr' 0 (by decide))
            · cases ht; exact h.facts 1 (by decide) (by decide) (all_done h.size (by kernel_rfl) hr' 1 (by decide))
            · cases ht; exact h.facts 2 (by decide) (by decide) (all_done h.size (by kernel_rfl) hr' 2 (by decide))
            · cases ht; exact h.facts 3 (by decide) (by decide) (all_done h.size (by kernel_rfl) hr' 3 (by decide))
            · cases ht; exact h.facts 4 (by decide) (by decide) (all_done h.size (by kernel_rfl) hr' 4 (by decide))
            · cases ht; exact h.facts 5 (by decide) (by decide) (all_done h.size (by kernel_rfl) hr' 5 (by decide))
            · cases ht; exact h.facts 6 (by decide) (by decide) (all_done h.size (by kernel_rfl) hr' 6 (by decide))
            · cases ht; exact h.facts 7 (by decide) (by decide) (all_done h.size (by kernel_rfl) hr' 7 (by decide))
            · cases ht; exact h.facts 8 (by decide) (by decide) (all_done h.size (by kernel_rfl) hr' 8 (by decide))
            · cases ht; exact hv9)
          clear h hr'
          rw [hfr]
          clear hfr q10 q9 q8 hv9 hbase
          have hgr := hturn.grown
          have hkb : κ5 b = 0 := (hf5.foot b HM1.out.lt).trans HK0.out
          have hsz6 : u0.heap.size ≤ w6.heap.size := hgr.size
          have HF : Hid (LatM w6 b κ5 (fun m => waitJ L gen m (j + 1))) := Lib.hid (by
            refine ⟨l6, hm6, fun m hm64 => ?_⟩
            have hsame : ∀ {q' : Option Addr} {n' c' m' : Nat} {vs' : List Value}, Sl u0 κ5 (m' + 1) 1 3 q' n' c' vs' → Sl w6 κ5 (m' + 1) 1 3 q' n' c' vs' := fun h => h.same (fun g hg e => hgr.block g hg (by intro e2; cases e2; rw [hkb] at e; omega)) (fun _ _ e => e)
            show (waitJ L gen m (j + 1) = [] ∧ ∀ p ∈ l6, p.1 ≠ .int .u64 (m : Int)) ∨ (waitJ L gen m (j + 1) ≠ [] ∧ ∃ q c, (.int .u64 (m : Int), .slice q (waitJ L gen m (j + 1)).length c) ∈ l6 ∧ Sl w6 κ5 (m + 1) 1 3 q (waitJ L gen m (j + 1)).length c (vN (waitJ L gen m (j + 1))))
            by_cases hmn : m = num
            · right
              rw [HIs2.out m, if_pos hmn, hmn]
              refine ⟨by simp, p2, c2, ?_, ?_⟩
              · rw [List.length_append, hnn]
                exact (hmem _).2 (.inr rfl)
              · rw [List.length_append, hnn, vN_snoc, hvs]
                exact hsame hs5
            · have hkey : (Value.int .u64 (m : Int)) ≠ .int .u64 (num : Int) := fun e => by injection e with _ e2; exact hmn (by omega)
              rw [HIs2.out m, if_neg hmn]
              rcases HEl.out m hm64 with ⟨h1, h2⟩ | ⟨h1, q', c', h2, h3⟩
              · left
                refine ⟨h1, fun p hp => ?_⟩
                rcases (hmem p).1 hp with hp | rfl
                · exact h2 p hp.1
                · exact fun e => hkey e.symm
              · right
                exact ⟨h1, q', c', (hmem _).2 (.inl ⟨h2, hkey⟩), hsame ((h3.ext HE.out).fr hf5 (by omega))⟩)
          have HK5 : Hid ((κ5 b = 0 ∧ ∀ g, g < w.heap.size → κ5 g = 0) ∧ ∀ g, κ5 g ≠ 0 → g < w6.heap.size) := Lib.hid ⟨⟨hkb, fun g hg => (hf5.foot g (Nat.lt_of_lt_of_le hg ((hx.out.trans HE.out).size))).trans (hκ.out.1.2 g hg)⟩,
            fun g hg => Nat.lt_of_lt_of_le (hf5.ins (fun g hg => Nat.lt_of_lt_of_le (hκ.out.2 g hg) HE.out.size) g hg) hsz6⟩
          have HX6 : Hid (Ext w w6) := Lib.hid (ext_grown' ((hx.out.trans HE.out).trans3 (hf5.below (by omega) hκ.out.1.2 (hx.out.trans HE.out).size)) hgr (by rw [HBd.out]; exact Nat.le_refl _))
          clear hs5 hf5 hm6 hmem hturn hgr hkb hsz6
          simp only [putAll]
          go_wp2
          go_roundw
          case rel => exact ⟨j + 1, κ5, hlt, by go_num, HF, HK5, HX6⟩
          case measure => simp [intOf]; omega
      · have HIs2 : Hid (∀ m, waitJ L gen m (j + 1) = waitJ L gen m j) := Lib.hid (fun m => by
          rw [HW.out m, HIs.out m, if_neg (by
            intro e
            simp at e
            exact hyes ⟨e.1.1, e.1.2⟩), List.append_nil])
        have HF : Hid (LatM (wr.alloc (.cells #[.int .u8 (x.k : Int), .int .u64 (x.g : Int), .int .u64 (x.f : Int), .string x.t, .slice q0 x.r.length c2, .int .i64 x.u, .bool x.w] 25)) b κ (fun m => waitJ L gen m (j + 1))) := Lib.hid (by
          obtain ⟨lm, hml, hel⟩ := hm.out
          refine ⟨lm, hml.ext HE1.out, fun m hm64 => ?_⟩
          show (waitJ L gen m (j + 1) = [] ∧ ∀ p ∈ lm, p.1 ≠ .int .u64 (m : Int)) ∨ (waitJ L gen m (j + 1) ≠ [] ∧ ∃ q c, (.int .u64 (m : Int), .slice q (waitJ L gen m (j + 1)).length c) ∈ lm ∧ Sl _ κ (m + 1) 1 3 q (waitJ L gen m (j + 1)).length c (vN (waitJ L gen m (j + 1))))
          rw [HIs2.out m]
          rcases hel m hm64 with h | ⟨h1, q', c', h2, h3⟩
          · exact .inl h
          · exact .inr ⟨h1, q', c', h2, h3.ext HE1.out⟩)
        have HK5 := Lib.hid (show (κ b = 0 ∧ ∀ g, g < w.heap.size → κ g = 0) ∧ ∀ g, κ g ≠ 0 → g < (wr.alloc (.cells #[.int .u8 (x.k : Int), .int .u64 (x.g : Int), .int .u64 (x.f : Int), .string x.t, .slice q0 x.r.length c2, .int .i64 x.u, .bool x.w] 25)).heap.size from ⟨hκ.out.1, fun g hg => Nat.lt_of_lt_of_le (hκ.out.2 g hg) HE1.out.size⟩)
        clear hm hκ
        by_cases h0 : x.k = 0
        · have hki : ((x.k : Int) == 0) = true := by rw [beq_iff_eq]; omega
          have hgi : ((x.g : Int) == (gen : Int)) = false := by rw [beq_eq_false_iff_ne]; intro e; exact hyes ⟨h0, by omega⟩
          clear hyes h0
          go_wp2
          go_roundw
          case rel => exact ⟨j + 1, κ, hlt, by go_num, HF, HK5, HX1⟩
          case measure => simp [intOf]; omega
        · have hki : ((x.k : Int) == 0) = false := by rw [beq_eq_false_iff_ne]; omega
          clear hyes h0
          go_wp2
          go_roundw
          case rel => exact ⟨j + 1, κ, hlt, by go_num, HF, HK5, HX1⟩
          case measure => simp [intOf]; omega
    · obtain rfl : j = L.length := by omega
      have HWt : Hid (WaitM wr b (fun m => waitF L gen [] m)) := Lib.hid (by
        have := hm.out.wait
        have e : (fun m => waitF L gen [] m) = (fun m => waitJ L gen m L.length) := by funext m; exact waitF_none L gen m
        rw [e]; exact this)
      clear hm
      go_wp2
      go_ret
      exact ⟨b, rfl, by rw [HBd.out]; exact Nat.le_refl _, HWt.out, hx.out⟩
end Go.Proofs.Ythnoegipadnmeaa
end

section
namespace Go.Proofs.Ythnoegipadnmeaa
open Go.RowKit
open Go.Maps (Keyed)

/-- Places that wait, all of them below a bound. -/
def WaitB (w : World) (b B : Nat) (G : Nat → List Nat) : Prop := ∃ l, MapL w Try.prog 22 b l ∧
  ∀ m, m < 18446744073709551616 → (G m = [] ∧ ∀ p ∈ l, p.1 ≠ .int .u64 (m : Int)) ∨ (G m ≠ [] ∧ ∃ q c, (.int .u64 (m : Int), .slice q (G m).length c) ∈ l ∧ (G m).length ≤ c ∧ ValsP w q (vN (G m)) ∧ ∀ a, q = some a → a.block < B)
theorem WaitM.bound {w : World} {b : Nat} {G : Nat → List Nat} (h : WaitM w b G) : WaitB w b w.heap.size G := by
  obtain ⟨l, hm, hl⟩ := h
  refine ⟨l, hm, fun m hm64 => ?_⟩
  rcases hl m hm64 with h | ⟨h1, q, c, h2, h3, h4⟩
  · exact .inl h
  · refine .inr ⟨h1, q, c, h2, h3, h4, fun a ha => ?_⟩
    subst ha
    cases hg : G m with
    | nil => exact absurd hg h1
    | cons i r =>
      rw [hg] at h4
      obtain ⟨a2, e, h5, _⟩ := h4 0 _ rfl
      cases e
      exact h5
theorem WaitB.below {w w' : World} {b B : Nat} {G : Nat → List Nat} (h : WaitB w b B G) (hb : b < B) (hx : Below B w w') : WaitB w' b B G := by
  obtain ⟨l, hm, hl⟩ := h
  refine ⟨l, hm.same (hx.block b hb), fun m hm64 => ?_⟩
  rcases hl m hm64 with h | ⟨h1, q, c, h2, h3, h4, h5⟩
  · exact .inl h
  · exact .inr ⟨h1, q, c, h2, h3, h4.below hx h5, h5⟩
theorem WaitB.ext {w w' : World} {b B : Nat} {G : Nat → List Nat} (h : WaitB w b B G) (hx : Ext w w') : WaitB w' b B G := by
  obtain ⟨l, hm, hl⟩ := h
  refine ⟨l, hm.ext hx, fun m hm64 => ?_⟩
  rcases hl m hm64 with h | ⟨h1, q, c, h2, h3, h4, h5⟩
  · exact .inl h
  · exact .inr ⟨h1, q, c, h2, h3, h4.ext hx, h5⟩
theorem WaitB.lt {w : World} {b B : Nat} {G : Nat → List Nat} (h : WaitB w b B G) : b < w.heap.size := by
  obtain ⟨l, hm, _⟩ := h
  exact hm.lt
/-- Where the map alone has turned. -/
theorem ValsP.turned {w w' : World} {b : Nat} {p : Option Addr} {l : List Value} (h : ValsP w p l) (hg : w.grownBy w' (some b)) (hm : ∃ es clock, w.heap[b]? = some (.map es clock)) : ValsP w' p l := fun i v hv => by
  obtain ⟨a, h1, h2, h3⟩ := h i v hv
  have hne : a.block ≠ b := fun e => by
    obtain ⟨es, clock, hb⟩ := hm
    have hb2 : w.heap[(a.add i).block]? = some (.map es clock) := by rw [add_block, e]; exact hb
    have hc := h3
    simp [World.cell?, hb2] at hc
  have e : w'.heap[(a.add i).block]? = w.heap[(a.add i).block]? := hg.block _ (by rw [add_block]; exact h2) (by rw [add_block]; simpa using hne)
  exact ⟨a, h1, Nat.lt_of_lt_of_le h2 hg.size, by rw [World.cell?_of_block e]; exact h3⟩
theorem u64_inj {m n : Nat} (h : (Value.int .u64 (m : Int)) = .int .u64 (n : Int)) : m = n := by injection h with _ e; omega
theorem slice_tail (a : Addr) (n c : Nat) (hc : n + 2 ≤ c) (u : World) : (Instr.slice 43 (.slice (some a) (n + 2) c) (some (.int .i64 1)) none none).run Try.prog u = .ok (.slice (some (a.add 1)) (n + 1) (c - 1)) u := by
  have h1 : (1 : Int) ≤ (n : Int) + 2 := by omega
  have hc1 : ¬ c = 1 := by omega
  obtain ⟨i0, hi, _, hs, _⟩ := info_parts infoInt
  simp [Instr.slice, Instr.sliceBounds, Instr.sliceBound, asIntOf, run_underlying Try.underlying43, sizeOf, typeInfo, h1, hc1, hi, hs, Result.andThen]
set_option maxRecDepth 100000 in
set_option maxHeartbeats 4000000 in
theorem take_none (w : World) (b B : Nat) (G : Nat → List Nat) (h : WaitB w b B G) (num : Nat) (hn : num < 18446744073709551616) (h0 : G num = []) :
    Calls Try.prog 39 #[.map (some b), .int .u64 (num : Int)] w fun e w' => e = .returned (.tuple #[.int .i64 0, .bool false]) ∧ w = w' := by
  obtain ⟨l, hm, hl⟩ := h
  rcases hl num hn with ⟨_, h2⟩ | ⟨h1, _⟩
  · have hlk := hm.look_none keyU Try.underlying88 false (zero_ints w) (keyU_at num hn) h2
    simp only [Bool.false_eq_true, if_false] at hlk
    clear hm hl h2
    go_enter Try.func39, Try.ntmps39
    go_wp2
    go_ret2
    exact ⟨rfl, rfl⟩
  · exact absurd h0 h1
set_option maxRecDepth 100000 in
set_option maxHeartbeats 4000000 in
theorem take_some (w : World) (b B : Nat) (G : Nat → List Nat) (h : WaitB w b B G) (num : Nat) (hn : num < 18446744073709551616) (i : Nat) (r : List Nat) (h0 : G num = i :: r) (hr : r.length ≤ 1000000) :
    Calls Try.prog 39 #[.map (some b), .int .u64 (num : Int)] w fun e w' => e = .returned (.tuple #[.int .i64 (i : Int), .bool true]) ∧ WaitB w' b B (fun m => if m = num then r else G m) ∧ w.grownBy w' (some b) := by
  obtain ⟨l, hm, hl⟩ := h
  rcases hl num hn with ⟨h1, _⟩ | ⟨h1, q, c, h2, h3, h4, hbB⟩
  · rw [h0] at h1; cases h1
  · rw [h0] at h2 h3 h4
    have hlk := hm.look keyU Try.underlying88 false (keyU_at num hn) h2
    simp only [Bool.false_eq_true, if_false] at hlk
    obtain ⟨a, rfl, ha, hc0⟩ := h4 0 _ rfl
    have hba : a.block < B := hbB a rfl
    have hc : w.cell? a = some (.int .i64 (i : Int)) := by
      have e : a.add 0 = a := by simp [Addr.add]
      rwa [e] at hc0
    have hmis := hm.is
    have HFin : ∀ (l6 : List (Value × Value)) (w6 : World), MapL w6 Try.prog 22 b l6 → w.grownBy w6 (some b) → (∀ m, m ≠ num → ∀ v, (Value.int .u64 (m : Int), v) ∈ l6 ↔ (Value.int .u64 (m : Int), v) ∈ l) →
        (r = [] ∧ (∀ p ∈ l6, p.1 ≠ .int .u64 (num : Int)) ∨ r ≠ [] ∧ ∃ q c, (.int .u64 (num : Int), .slice q r.length c) ∈ l6 ∧ r.length ≤ c ∧ ValsP w6 q (vN r) ∧ ∀ a, q = some a → a.block < B) → (∀ p ∈ l6, ∃ v', p = p ∧ (p.1, v') = (p.1, p.2)) → WaitB w6 b B (fun m => if m = num then r else G m) := by
      intro l6 w6 hm6 hg6 hoth hnum _
      refine ⟨l6, hm6, fun m hm64 => ?_⟩
      by_cases hmn : m = num
      · subst hmn
        simp only [if_true]
        exact hnum
      · simp only [if_neg hmn]
        rcases hl m hm64 with ⟨g1, g2⟩ | ⟨g1, q', c', g2, g3, g4, g5⟩
        · refine .inl ⟨g1, fun p hp e => ?_⟩
          obtain ⟨p1, p2⟩ := p
          simp only at e
          subst e
          exact g2 _ ((hoth m hmn p2).1 hp) rfl
        · exact .inr ⟨g1, q', c', (hoth m hmn _).2 g2, g3, g4.turned hg6 hmis, g5⟩
    by_cases hr0 : r = []
    · subst hr0
      obtain ⟨w6, l6, hrun, hm6, hmem, hturn⟩ := hm.drop keyU Try.underlying88 (keyU_at num hn)
      have hg := hturn.grown
      have hc6 : w6.cell? a = some (.int .i64 (i : Int)) := by
        have := (ValsP.turned (l := [.int .i64 (i : Int)]) (fun k v hv => by
          cases k with
          | zero => simp at hv; subst hv; exact ⟨a, rfl, ha, hc0⟩
          | succ k => simp at hv) hg hmis) 0 _ rfl
        obtain ⟨a2, e2, _, h5⟩ := this
        cases e2
        have e : a.add 0 = a := by simp [Addr.add]
        rwa [e] at h5
      have HW : Hid (WaitB w6 b B (fun m => if m = num then [] else G m)) := Lib.hid (HFin l6 w6 hm6 hg (fun m hmn v => by
        rw [hmem]; exact ⟨fun h => h.1, fun h => ⟨h, fun e => hmn (u64_inj e)⟩⟩) (.inl ⟨rfl, fun p hp => ((hmem p).1 hp).2⟩) (fun p _ => ⟨p.2, rfl, rfl⟩))
      have HG := Lib.hid hg
      simp only [List.length_singleton] at hlk
      clear HFin hm hl h2 h3 h4 hm6 hmem hturn hg hmis hc0 ha hba hbB
      go_enter Try.func39, Try.ntmps39
      go_wp2
      go_ret2
      exact ⟨rfl, HW.out, HG.out⟩
    · obtain ⟨n, hn1⟩ : ∃ n, r.length = n + 1 := ⟨r.length - 1, by have := List.length_pos_iff.2 hr0; omega⟩
      have hlen : (i :: r).length = n + 2 := by rw [List.length_cons, hn1]
      rw [hlen] at hlk h2 h3
      obtain ⟨w6, l6, hrun, hm6, hmem, hturn⟩ := hm.store (val := .slice (some { block := a.block, off := a.off + 1 }) (n + 1) (c - 1)) keyU Try.underlying88 (keyU_at num hn)
      have hg := hturn.grown
      have hv6 := ValsP.turned h4 hg hmis
      have hc6 : w6.cell? a = some (.int .i64 (i : Int)) := by
        obtain ⟨a2, e2, _, h5⟩ := hv6 0 _ rfl
        cases e2
        have e : a.add 0 = a := by simp [Addr.add]
        rwa [e] at h5
      have hvr : ValsP w6 (some { block := a.block, off := a.off + 1 }) (vN r) := fun k v hv => by
        obtain ⟨a2, e2, h6, h5⟩ := hv6 (k + 1) v (by simpa [vN] using hv)
        cases e2
        refine ⟨a.add 1, rfl, by rw [add_block]; exact h6, ?_⟩
        show w6.cell? ((a.add 1).add k) = some v
        rw [Deep.add_add, Nat.add_comm 1 k]
        exact h5
      have HW : Hid (WaitB w6 b B (fun m => if m = num then r else G m)) := Lib.hid (HFin l6 w6 hm6 hg (fun m hmn v => by
        rw [hmem]
        constructor
        · rintro (h | h)
          · exact h.1
          · injection h with e _; exact absurd (u64_inj e) hmn
        · exact fun h => .inl ⟨h, fun e => hmn (u64_inj e)⟩) (.inr ⟨hr0, some { block := a.block, off := a.off + 1 }, c - 1, (hmem _).2 (.inr (by rw [hn1])), by omega, hvr, fun a2 ha2 => by cases ha2; exact hba⟩) (fun p _ => ⟨p.2, rfl, rfl⟩))
      have HG := Lib.hid hg
      have hn6 : n ≤ 1000000 := by omega
      have hl0 : (((n + 2 : Nat) : Int) == 0) = false := by rw [beq_eq_false_iff_ne]; omega
      have hl1 : (((n + 2 : Nat) : Int) == 1) = false := by rw [beq_eq_false_iff_ne]; omega
      have hsl : ∀ u : World, (Instr.slice 43 (.slice (some a) (n + 2) c) (some (.int .i64 1)) none none).run Try.prog u = .ok (.slice (some (a.add 1)) (n + 1) (c - 1)) u := fun u => slice_tail a n c h3 u
      clear HFin hm hl h2 h3 h4 hm6 hmem hturn hg hmis hc0 ha hba hbB hlen hn1 hv6 hvr
      go_enter Try.func39, Try.ntmps39
      go_wp2
      go_ret2
      exact ⟨rfl, HW.out, HG.out⟩
end Go.Proofs.Ythnoegipadnmeaa
end

section
namespace Go.Proofs.Ythnoegipadnmeaa
open Go.RowKit

/-- A slice of places that grew by append. -/
def BufI (w : World) (B : Nat) (v : Value) (L : List Nat) : Prop := w.ownsRow B 3 1 v L.length (vN L)
section
variable {w w' : World} {B : Nat} {v : Value} {L : List Nat} {p : Option Addr}
theorem BufI.ext (h : BufI w B v L) (hx : Ext w w') : BufI w' B v L := by
  refine ⟨h.1, ?_⟩
  rcases h.2 with h0 | ⟨g, cap, cur, e1, e2, e3, e4⟩
  · exact .inl h0
  · exact .inr ⟨g, cap, cur, e1, e2, (hx.below.block g (heap_lt e3)).trans e3, e4⟩
theorem BufI.nil (w : World) (B : Nat) : BufI w B (.slice none 0 0) [] := World.ownsRow_nil _ _ _ _
theorem BufI.one (w : World) (i : Nat) (hB : B ≤ w.heap.size) : BufI (w.alloc (.cells #[.int .i64 (i : Int)] 3)) B (.slice (some ⟨w.heap.size, 0, none⟩) 1 1) [i] := by
  refine ⟨by simp [vN], .inr ⟨w.heap.size, 1, #[.int .i64 (i : Int)], rfl, hB, heap_alloc_new w _, ?_, ?_, ?_, ?_⟩⟩ <;> simp [vN, maxLen]
/-- What another block's turn leaves. -/
theorem BufI.grown {b : Nat} (h : BufI w B v L) (hg : w.grownBy w' (some b)) (hb : b < B) : BufI w' B v L := by
  refine ⟨h.1, ?_⟩
  rcases h.2 with h0 | ⟨g, cap, cur, e1, e2, e3, e4⟩
  · exact .inl h0
  · exact .inr ⟨g, cap, cur, e1, e2, (hg.block g (heap_lt e3) (by intro e; cases e; omega)).trans e3, e4⟩
/-- The slice, its cells. -/
theorem BufI.vals (h : BufI w B v L) : ∃ p c, v = .slice p L.length c ∧ L.length ≤ c ∧ ValsP w p (vN L) := by
  unfold BufI at h
  rcases h.2 with ⟨hv, h0⟩ | ⟨g, cap, cur, hv, hB, hg, hle, _, hsz, ht⟩
  · have : L = [] := List.length_eq_zero_iff.1 h0
    subst this
    exact ⟨none, 0, hv, Nat.le_refl _, ValsP.none w⟩
  · refine ⟨some ⟨g, 0, none⟩, cap, hv, hle, fun i x hx => ⟨⟨g, 0, none⟩, rfl, heap_lt hg, ?_⟩⟩
    have hi : i < L.length := by have := (List.getElem?_eq_some_iff.1 hx).1; rwa [vN_length] at this
    rw [add_zero_off, cell_of_row w g i cur _ (0, 0) hg]
    have e : cur.toList[i]? = (vN L)[i]? := by
      rw [← ht, List.getElem?_take, if_pos (by omega)]
    rw [← Array.getElem?_toList, e, hx]
end
/-- append(l, i) of one place in a new block. -/
theorem append_int {w : World} {ops : Array Oper} {rest : List Oper} {o : Oper} {a : Act} {Q : Exit → Act → World → Prop} (hgd : o.guard = none) (s x : Operand)
    (ho : o.op = .call { callee := .builtin .append, args := #[s, x], argTypes := #[43, 43] })
    (B : Nat) (v : Value) (L : List Nat) (hs : a.eval s = v) (hbuf : BufI w B v L) (g : Nat) (i : Nat) (hx : a.eval x = .slice (some ⟨g, 0, none⟩) 1 1) (hrow : Blk w g 3 [.int .i64 (i : Int)])
    (hlen : L.length ≤ 1000000) (hB : B ≤ w.heap.size)
    (h : ∀ v' w', BufI w' B v' (L ++ [i]) → Below B w w' → wpList Try.prog ops Q rest (a.put o.dst v') w') : wpList Try.prog ops Q (o :: rest) a w := by
  obtain ⟨i0, hi, hz0, hz1, hz2⟩ := info_parts infoInt
  refine wpList_append_own w hgd s x 43 ho B 3 i0 (.int .i64 0) 1 8 Try.underlying43 hi hz0 hz1 hz2 rfl (by decide) v L.length (vN L) hs hbuf ⟨g, 0, none⟩ 1 1 [.int .i64 (i : Int)] hx rfl (fun j u hj => by rw [add_zero_off]; exact hrow.cell j u hj) (fun u hu => by simp at hu; subst hu; rfl) (by unfold maxLen; omega) (by omega) hB ?_
  intro v' w' h1 h2 _
  refine h v' w' ?_ (Below.grown (Below.refl _ _) h2 hB fun k hk => (World.ownsRow.lt hbuf k hk).1)
  unfold BufI
  rw [vN_snoc]
  simpa using h1
end Go.Proofs.Ythnoegipadnmeaa
end

section
namespace Go.Proofs.Ythnoegipadnmeaa
open Go.RowKit

theorem Ext.turned {w a b : World} {i : Nat} (h : Ext w a) (hg : a.grownBy b (some i)) (hi : w.heap.size ≤ i) : Ext w b := ext_grown' h hg hi
/-- How long a slice is. -/
def lenOfV : Value → Nat
  | .slice _ n _ => n
  | _ => 0
set_option maxRecDepth 100000 in
set_option maxHeartbeats 8000000 in
theorem row_any (w : World) (p : Option Addr) (c0 : Nat) (L : List Seg) (h : SegsP w p L) (hl : L.length ≤ 1000000) (hok : ∀ x ∈ L, x.f < 18446744073709551616 ∧ x.r.length ≤ 140737488355328) :
    Calls Try.prog 18 #[.slice p L.length c0] w fun e w' => ∃ q c, e = .returned (.tuple #[.slice q (rowS L).1.length c, .int .i64 ((rowS L).2 : Int)]) ∧ ValsP w' q (vN (rowS L).1) ∧ Ext w w' := by
  have HH := Lib.hid (fun u (hu : Ext w u) => h.ext hu)
  have HNew := Lib.hid (fun u (hu : Ext w u) => newest_any u p c0 L (h.ext hu) hl)
  have HLat := Lib.hid (fun g u (hu : Ext w u) => later_any u p c0 L (h.ext hu) hl (fun x hx => (hok x hx).1) g)
  have HOk := Lib.hid hok
  have HAt := Lib.hid (newF_at L L.length)
  have hrs : rowS L = match newF L L.length with | none => ([], 3) | some (a, g) => (a :: rowG L g (L.length + 1) a [], 0) := rfl
  clear h hok
  rcases hnf : newF L L.length with _ | ⟨a0, g0⟩
  · rw [hnf] at hrs HNew
    rw [hrs]
    simp only [newV] at HNew
    clear hrs hnf
    go_enter Try.func18, Try.ntmps18
    go_wp2_with (go_at_call 37; refine (HNew.out _ (Ext.refl _)).mono ?_; rintro e w1 ⟨rfl, x1⟩; have X1 := Lib.hid x1; clear x1)
    go_ret2
    exact ⟨none, 0, rfl, ValsP.none _, X1.out⟩
  · rw [hnf] at hrs HNew
    rw [hrs]
    simp only [newV] at HNew
    obtain ⟨ha0, x0, hx0, hg0, _⟩ := HAt.out a0 g0 hnf
    have HX0 := Lib.hid hx0
    have HG0 := Lib.hid hg0
    clear hrs hnf hx0 hg0
    dsimp only
    rw [show ((0 : Nat) : Int) = 0 from rfl]
    obtain ⟨R, hR⟩ : ∃ R, R = a0 :: rowG L g0 (L.length + 1) a0 [] := ⟨_, rfl⟩
    have HR := Lib.hid hR
    rw [← hR]
    clear hR
    go_enter Try.func18, Try.ntmps18
    go_wp2_with (first
      | (go_at_call 37; refine (HNew.out _ (Ext.refl _)).mono ?_; rintro e w1 ⟨rfl, x1⟩; have X1 := Lib.hid x1; obtain ⟨ad, q0, c2, rfl, ha, _, hc⟩ := HH.out _ x1 a0 x0 HX0.out; have k1 := seven_at (k := 0) (hc 1 _ rfl); rw [HG0.out] at k1; clear x1 ha hc)
      | (go_at_call 38; refine (HLat.out _ _ X1.out).mono ?_; rintro e w2 ⟨b, rfl, hbw, hwt, x2⟩; have HWT := Lib.hid hwt.bound; have X2 := Lib.hid (X1.out.trans x2); have HBw := Lib.hid (show w.heap.size ≤ b from by have := X1.out.size; omega); have HBI := Lib.hid (BufI.one w2 a0 (Nat.le_refl _)); have HBl := Lib.hid hwt.bound.lt; clear hbw hwt x2 k1))
    have HE3 := Lib.hid ((Ext.refl w2).alloc (.cells #[.int .i64 (a0 : Int)] 3))
    have HX3 := Lib.hid (X2.out.trans HE3.out)
    have HW3 := Lib.hid (HWT.out.ext HE3.out)
    have HS3 := Lib.hid (show w2.heap.size ≤ (w2.alloc (.cells #[.int .i64 (a0 : Int)] 3)).heap.size from HE3.out.size)
    clear HNew HLat HWT HE3
    have HBX := Lib.hid (show w.heap.size ≤ w2.heap.size from X2.out.size)
    generalize hB : w2.heap.size = B at *
    go_loopw [4, 5, 7] (fun pv bv rv wr => ∃ (a : Nat) (T S : List Nat), pv = .int .i64 (a : Int) ∧ bv = .bool true ∧ lenOfV rv = S.length ∧ Hid (BufI wr B rv S) ∧ a < L.length ∧ Hid (WaitB wr b B (fun m => waitF L g0 T m)) ∧ Hid (Ext w wr) ∧ Hid (B ≤ wr.heap.size) ∧ Hid (T.Nodup ∧ (∀ i ∈ T, i < L.length) ∧ S.length = T.length + 1 ∧ R = S ++ rowG L g0 (L.length + 1 - T.length) a T)) (fun _ _ rv _ => L.length + 1 - lenOfV rv)
    case atStart => exact ⟨a0, [], [a0], rfl, rfl, rfl, HBI.out, ha0, HW3, HX3, HS3, Lib.hid ⟨List.nodup_nil, by simp, rfl, by rw [HR.out]; rfl⟩⟩
    case round =>
      obtain ⟨a, T, S, rfl, rfl, hlv, hbi, haL, hwt, hx, hbs, hT⟩ := hrel
      obtain ⟨q, cc, rfl, _, _⟩ := hbi.out.vals
      obtain ⟨x, hxa⟩ : ∃ x, L[a]? = some x := ⟨_, List.getElem?_eq_getElem haL⟩
      obtain ⟨ad2, q0, c3, e2, ha2, _, hc⟩ := HH.out _ hx.out a x hxa
      obtain rfl : ad = ad2 := by simpa using e2
      have k0 : wr.cell? (ad.add (a * 7)) = some (.int .u8 (x.k : Int)) := hc 0 _ rfl
      have k1 := seven_at (k := 0) (hc 1 _ rfl)
      have k2 := seven_at (k := 1) (hc 2 _ rfl)
      have k3 := seven_at (k := 2) (hc 3 _ rfl)
      have k4 := seven_at (k := 3) (hc 4 _ rfl)
      have k5 := seven_at (k := 4) (hc 5 _ rfl)
      have k6 := seven_at (k := 5) (hc 6 _ rfl)
      obtain ⟨hTn, hTl, hST, hRS⟩ := hT.out
      have hTle := taken_le T hTn hTl
      obtain ⟨f, hf⟩ : ∃ f, L.length + 1 - T.length = f + 1 := ⟨L.length - T.length, by omega⟩
      rw [hf] at hRS
      have hS6 : S.length ≤ 1000000 + 1 := by omega
      have HOkx := HOk.out x (List.mem_of_getElem? hxa)
      cases hw : x.w with
      | false =>
        rw [rowG_torn hxa hw, List.append_nil] at hRS
        rw [hw] at k6
        subst hRS
        have HBi := hbi.out.vals
        obtain ⟨q2, cc2, e3, _, hvl⟩ := HBi
        injection e3 with e4 _ e5
        subst e4 e5
        have HV := Lib.hid hvl
        clear hvl hc hxa e2 ha2 hT hf hTn hTl hST HOkx k0 k1 k2 k3 k4 k5 hTle hS6
        go_wp2
        go_ret2
        exact ⟨_, ⟨_, rfl⟩, HV.out, hx.out⟩
      | true =>
        rw [hw] at k6
        have HNx := Lib.hid (fun u => Next_any x q0 c3 HOkx.2 u)
        simp only [segV, hw] at HNx
        have hnn : nextN x = nextS x := rfl
        have hn64 : nextN x < 18446744073709551616 := Nat.mod_lt _ (by decide)
        have HX7 := Lib.hid (hx.out)
        have HSz := Lib.hid hbs.out
        rcases hwn : waitF L g0 T (nextS x) with _ | ⟨i, r⟩
        · rw [rowG_end hxa hw hwn, List.append_nil] at hRS
          subst hRS
          obtain ⟨q2, cc2, e3, _, hvl⟩ := hbi.out.vals
          injection e3 with e4 _ e5
          subst e4 e5
          rw [← hnn] at hwn
          have HNo := Lib.hid (fun u (hu : WaitB u b B fun m => waitF L g0 T m) => take_none u b B _ hu (nextN x) hn64 hwn)
          have HVl := Lib.hid (fun u (hu : Ext wr u) => ValsP.ext hvl hu)
          clear hvl hc hxa e2 ha2 hT hf hTn hTl hST HOkx hTle hS6 hnn hn64 hwn
          generalize nextN x = nx at *
          go_wp2_with (first
            | (go_at_call 16; refine (HNx.out _).mono ?_; rintro e w4 ⟨rfl, x4⟩; have X4 := Lib.hid x4; have HW4 := Lib.hid (hwt.out.ext x4); clear x4)
            | (go_at_call 39; refine (HNo.out _ HW4.out).mono ?_; rintro e w5 ⟨rfl, rfl⟩))
          go_ret2
          exact ⟨_, _, rfl, HVl.out _ X4.out, hx.out.trans X4.out⟩
        · rw [rowG_more hxa hw hwn] at hRS
          have hwm : i ∈ waitF L g0 T (nextS x) := by rw [hwn]; simp
          obtain ⟨hiL, _, hiT⟩ := waitF_mem hwm
          have hWt := waitF_take hwn
          have hrl : r.length ≤ 1000000 := by
            have h1 : (waitF L g0 T (nextS x)).length ≤ L.length := by
              unfold waitF
              have := List.length_filter_le (fun i => isW L g0 (nextS x) i && !T.contains i) (List.range L.length)
              simpa using this
            rw [hwn, List.length_cons] at h1
            omega
          have hT2 : Hid ((i :: T).Nodup ∧ (∀ j ∈ i :: T, j < L.length) ∧ (S ++ [i]).length = (i :: T).length + 1 ∧ R = (S ++ [i]) ++ rowG L g0 (L.length + 1 - (i :: T).length) i (i :: T)) := Lib.hid (by
            refine ⟨List.nodup_cons.2 ⟨hiT, hTn⟩, ?_, by simp [hST], ?_⟩
            · intro j hj
              rcases List.mem_cons.1 hj with rfl | hj
              · exact hiL
              · exact hTl j hj
            · rw [hRS, List.append_assoc, show L.length + 1 - (i :: T).length = f from by rw [List.length_cons]; omega]
              rfl)
          rw [← hnn] at hwn hWt
          have HYes := Lib.hid (fun u (hu : WaitB u b B fun m => waitF L g0 T m) => take_some u b B _ hu (nextN x) hn64 i r hwn hrl)
          have HWt : Hid (∀ u, WaitB u b B (fun m => if m = nextN x then r else waitF L g0 T m) → WaitB u b B (fun m => waitF L g0 (i :: T) m)) := Lib.hid (fun u hu => by
            rw [show (fun m => waitF L g0 (i :: T) m) = (fun m => if m = nextN x then r else waitF L g0 T m) from funext hWt]
            exact hu)
          have HMe := Lib.hid (show S.length ≤ L.length from by have := taken_le (i :: T) hT2.out.1 hT2.out.2.1; rw [List.length_cons] at this; omega)
          clear hc hxa e2 ha2 hT hf hTn hTl HOkx hTle hnn hn64 hwn hrl hwm hWt hRS hST
          generalize nextN x = nx at *
          go_wp2_with (first
            | (go_at_call 16; refine (HNx.out _).mono ?_; rintro e w4 ⟨rfl, x4⟩; have X4 := Lib.hid x4; have HW4 := Lib.hid (hwt.out.ext x4); have HB4 := Lib.hid (hbi.out.ext x4); clear x4)
            | (go_at_call 39; refine (HYes.out _ HW4.out).mono ?_; rintro e w5 ⟨rfl, hw5, hg5⟩; have HW5 := Lib.hid (HWt.out _ hw5); have HB5 := Lib.hid (HB4.out.grown hg5 HBl.out); have HX5 := Lib.hid (Ext.turned (hx.out.trans X4.out) hg5 HBw.out); have HS5 := Lib.hid (show B ≤ w5.heap.size from Nat.le_trans (Nat.le_trans hbs.out X4.out.size) hg5.size); clear hw5 hg5 k0 k1 k2 k3 k4 k5 k6)
            | (refine append_int rfl (.tmp 41) (.tmp 43) rfl B _ S rfl (HB5.out.ext ((Ext.refl w5).alloc _)) w5.heap.size i rfl (Blk.new w5 _ _) (by have := HMe.out; omega) (by have := HS5.out; simp; omega) ?_; intro v6 w6 hb6 hx6; have HB6 := Lib.hid hb6; have HX6 := Lib.hid hx6; obtain ⟨q6, c6, rfl, _, _⟩ := hb6.vals; clear hb6 hx6))
          go_roundw
          case rel => exact ⟨i, i :: T, S ++ [i], rfl, rfl, by simp [lenOfV], Lib.hid (by have := HB6.out; rwa [show (S ++ [i]).length = S.length + 1 by simp] at this), hiL, Lib.hid ((HW5.out.ext ((Ext.refl w5).alloc _)).below HBl.out HX6.out), Lib.hid (((HX5.out.alloc _)).trans3 (Below.mono HX6.out HBX.out)), Lib.hid (by have h1 := HS5.out; have h2 := HX6.out.size; simp at h2; omega), hT2⟩
          case measure => have := HMe.out; simp [lenOfV]; omega
end Go.Proofs.Ythnoegipadnmeaa
end

section
namespace Go.Proofs.Ythnoegipadnmeaa
open Go.RowKit

theorem vN_get {l : List Nat} {j n : Nat} (h : l[j]? = some n) : (vN l)[j]? = some (.int .i64 (n : Int)) := by simp [vN, h]
theorem places_eq {l m : List Nat} (hlm : l.length = m.length) (h : ∀ i, i < l.length → l[i]? = m[i]?) : l = m := by
  apply List.ext_getElem?
  intro i
  by_cases hi : i < l.length
  · exact h i hi
  · rw [List.getElem?_eq_none (by omega), List.getElem?_eq_none (by omega)]
set_option maxRecDepth 100000 in
set_option maxHeartbeats 2000000 in
theorem places_is (w : World) (p q : Option Addr) (c d n k : Nat) (l m : List Nat) (hn : l.length = n) (hk : m.length = k) (hl : ValsP w p (vN l)) (hm : ValsP w q (vN m)) (hn6 : n ≤ 1000000) (hk6 : k ≤ 1000000) (b : Bool) (hb : b = true ↔ l = m) :
    Calls Try.prog 20 #[.slice p n c, .slice q k d] w fun e w' => e = .returned (.bool b) ∧ Ext w w' := by
  have HL := Lib.hid (fun u (hu : Ext w u) => hl.ext hu)
  have HM := Lib.hid (fun u (hu : Ext w u) => hm.ext hu)
  have HB := Lib.hid hb
  by_cases hnk : n = k
  · subst hnk
    have HE := Lib.hid (fun h => places_eq (l := l) (m := m) (by omega) h)
    have HN := Lib.hid hn; have HK := Lib.hid hk
    clear hl hm hb hn hk
    go_enter Try.func20, Try.ntmps20
    go_wp2
    go_loopw [5] (fun i wr => ∃ j : Nat, j ≤ n ∧ i = .int .i64 (j : Int) ∧ Hid (∀ i, i < j → l[i]? = m[i]?) ∧ Hid (Ext w wr)) (fun i _ => n - (intOf i).toNat)
    case atStart => exact ⟨0, Nat.zero_le _, rfl, Lib.hid (fun i hi => by omega), Lib.hid (Ext.refl _)⟩
    case round =>
      obtain ⟨j, hj, rfl, hs, hx⟩ := hrel
      by_cases hlt : j < n
      · obtain ⟨x, hxj⟩ : ∃ x, l[j]? = some x := ⟨_, List.getElem?_eq_getElem (by have := HN.out; omega)⟩
        obtain ⟨y, hyj⟩ : ∃ y, m[j]? = some y := ⟨_, List.getElem?_eq_getElem (by have := HK.out; omega)⟩
        obtain ⟨a, rfl, _, hc1⟩ := HL.out _ hx.out j _ (vN_get hxj)
        obtain ⟨a2, rfl, _, hc2⟩ := HM.out _ hx.out j _ (vN_get hyj)
        have HX := Lib.hid hxj; have HY := Lib.hid hyj
        clear hxj hyj
        by_cases hxy : x = y
        · subst hxy
          go_wp2
          go_quiet (fail)
          go_wp2
          go_roundw
          case rel => 
            refine ⟨j + 1, hlt, by go_num, Lib.hid fun i hi => ?_, Lib.hid (hx.out.drewN _)⟩
            by_cases hij : i = j
            · rw [hij, HX.out, HY.out]
            · exact hs.out i (by omega)
          case measure => simp [intOf]; omega
        · have hne : ((x : Int) != (y : Int)) = true := by rw [bne_iff_ne]; omega
          have hbf : b = false := by
            cases b with
            | false => rfl
            | true =>
              have := HB.out.1 rfl
              subst this
              have h1 := HX.out
              rw [HY.out] at h1
              exact absurd (Option.some.inj h1).symm hxy
          subst hbf
          go_wp2
          go_quiet (fail)
          go_wp2
          go_ret
          exact ⟨rfl, hx.out.drewN _⟩
      · obtain rfl : j = n := by omega
        have hbt : b = true := HB.out.2 (HE.out (by have := HN.out; intro i hi; exact hs.out i (by omega)))
        subst hbt
        go_wp2
        go_ret
        exact ⟨rfl, hx.out⟩
  · have hbf : b = false := by
      cases b with
      | false => rfl
      | true => exact absurd (congrArg List.length (hb.1 rfl)) (by omega)
    subst hbf
    have hnk2 : ((n : Int) != (k : Int)) = true := by rw [bne_iff_ne]; omega
    clear hl hm hb hn hk
    go_enter Try.func20, Try.ntmps20
    go_wp2
    go_ret
    exact ⟨rfl, Ext.refl _⟩
theorem places_dec (w : World) (p q : Option Addr) (c d : Nat) (l m : List Nat) (hl : ValsP w p (vN l)) (hm : ValsP w q (vN m)) (hn6 : l.length ≤ 1000000) (hk6 : m.length ≤ 1000000) :
    Calls Try.prog 20 #[.slice p l.length c, .slice q m.length d] w fun e w' => e = .returned (.bool (decide (l = m))) ∧ Ext w w' :=
  places_is w p q c d _ _ l m rfl rfl hl hm hn6 hk6 _ (by simp)
end Go.Proofs.Ythnoegipadnmeaa
end

section
namespace Go.Proofs.Ythnoegipadnmeaa
open Go.RowKit

def abcT : ByteArray := ⟨#[97, 98, 99]⟩
def sA : Seg := ⟨1, 1, 1, abcT, [], 0, false⟩
def sB : Seg := ⟨1, 1, 1, abcT, [], 21, true⟩
def LA : List Seg := [⟨0, 1, 3, ⟨#[]⟩, [⟨#[99]⟩], 0, true⟩, ⟨1, 1, 1, ⟨#[]⟩, [⟨#[97]⟩, ⟨#[98]⟩], 0, true⟩, ⟨0, 1, 4, ⟨#[]⟩, [], 0, false⟩]
theorem rowA : rowS LA = ([1, 0, 2], 0) := by decide
theorem row0 : rowS [] = ([], 3) := by decide
theorem lightA : sA.Light := ⟨by decide, by decide, by simp [sA]⟩
theorem mayA : MayB 1 1 1 abcT := by decide
theorem sizeA : (frameT (headR 1 1 1 abcT)).size = 21 := by rw [frameT_size]; decide
theorem bytesA : bytesT sA = frameT (headR 1 1 1 abcT) := by
  rw [bytesT_head]
  apply ByteArray.ext
  rw [ByteArray.data_append]
  simp [sA, recsF, rowF]
theorem parseA : parseF (frameT (headR 1 1 1 abcT)) = (sB, 0) := by
  have h := parse_back (x := sA) lightA mayA (by decide)
  rw [bytesA, sizeA] at h
  exact h
theorem headA1 (w : World) : Calls Try.prog 9 #[.int .u8 1, .int .u64 1, .int .u64 1, .string ⟨#[97, 98, 99]⟩] w fun e w' => e = .returned (.tuple #[.string (frameT (headR 1 1 1 abcT)), .int .i64 0]) ∧ Ext w w' := by
  have h := Head_any 1 1 1 abcT (by decide) (by decide) (by decide) (by decide) w
  rw [show headF 1 1 1 abcT = (frameT (headR 1 1 1 abcT), 0) from if_pos mayA] at h
  exact h
theorem headA0 (w : World) : Calls Try.prog 9 #[.int .u8 0, .int .u64 1, .int .u64 1, .string ⟨#[97, 98, 99]⟩] w fun e w' => e = .returned (.tuple #[.string ⟨#[]⟩, .int .i64 2]) ∧ Ext w w' := by
  have h := Head_any 0 1 1 abcT (by decide) (by decide) (by decide) (by decide) w
  rw [show headF 0 1 1 abcT = (⟨#[]⟩, 2) from if_neg (by decide)] at h
  exact h
theorem parseA1 (w : World) : Calls Try.prog 13 #[.string (frameT (headR 1 1 1 abcT))] w fun e w' => ∃ p c, e = .returned (.tuple #[.agg #[.int .u8 1, .int .u64 1, .int .u64 1, .string ⟨#[97, 98, 99]⟩, .slice p 0 c, .int .i64 21, .bool true], .int .i64 0]) ∧ Ext w w' := by
  have h := Parse_any (frameT (headR 1 1 1 abcT)) (by rw [sizeA]; decide) w
  rw [parseA] at h
  refine h.mono ?_
  rintro e w' ⟨p, c, rfl, hx, _⟩
  exact ⟨p, c, rfl, hx⟩
theorem rowNil (w : World) : Calls Try.prog 18 #[.slice none 0 0] w fun e w' => ∃ q c, e = .returned (.tuple #[.slice q 0 c, .int .i64 3]) ∧ Ext w w' := by
  have h := row_any w none 0 [] (SegsP.none w) (by decide) (by simp)
  rw [row0] at h
  refine h.mono ?_
  rintro e w' ⟨q, c, rfl, _, hx⟩
  exact ⟨q, c, rfl, hx⟩
theorem nextA (p : Option Addr) (c : Nat) (w : World) : Calls Try.prog 16 #[.agg #[.int .u8 1, .int .u64 1, .int .u64 1, .string ⟨#[97, 98, 99]⟩, .slice p 0 c, .int .i64 21, .bool true]] w fun e w' => e = .returned (.int .u64 1) ∧ Ext w w' := by
  have h := Next_any sB p c (by decide) w
  exact h
set_option maxRecDepth 100000 in
theorem segsA (u : World) : SegsP (((u.alloc (.cells #[.string ⟨#[99]⟩] 9)).alloc (.cells #[.string ⟨#[97]⟩, .string ⟨#[98]⟩] 9)).alloc (.cells #[.int .u8 0, .int .u64 1, .int .u64 3, .string ⟨#[]⟩, .slice (some ⟨u.heap.size, 0, none⟩) 1 1, .int .i64 0, .bool true, .int .u8 1, .int .u64 1, .int .u64 1, .string ⟨#[]⟩, .slice (some ⟨u.heap.size + 1, 0, none⟩) 2 2, .int .i64 0, .bool true, .int .u8 0, .int .u64 1, .int .u64 4, .string ⟨#[]⟩, .slice none 0 0, .int .i64 0, .bool false] 25)) (some ⟨u.heap.size + 1 + 1, 0, none⟩) LA := by
  have h0 : Blk (((u.alloc (.cells #[.string ⟨#[99]⟩] 9)).alloc (.cells #[.string ⟨#[97]⟩, .string ⟨#[98]⟩] 9)).alloc (.cells #[.int .u8 0, .int .u64 1, .int .u64 3, .string ⟨#[]⟩, .slice (some ⟨u.heap.size, 0, none⟩) 1 1, .int .i64 0, .bool true, .int .u8 1, .int .u64 1, .int .u64 1, .string ⟨#[]⟩, .slice (some ⟨u.heap.size + 1, 0, none⟩) 2 2, .int .i64 0, .bool true, .int .u8 0, .int .u64 1, .int .u64 4, .string ⟨#[]⟩, .slice none 0 0, .int .i64 0, .bool false] 25)) u.heap.size 9 [.string ⟨#[99]⟩] := ((Blk.new u _ _).alloc _).alloc _
  have h1 : Blk (((u.alloc (.cells #[.string ⟨#[99]⟩] 9)).alloc (.cells #[.string ⟨#[97]⟩, .string ⟨#[98]⟩] 9)).alloc (.cells #[.int .u8 0, .int .u64 1, .int .u64 3, .string ⟨#[]⟩, .slice (some ⟨u.heap.size, 0, none⟩) 1 1, .int .i64 0, .bool true, .int .u8 1, .int .u64 1, .int .u64 1, .string ⟨#[]⟩, .slice (some ⟨u.heap.size + 1, 0, none⟩) 2 2, .int .i64 0, .bool true, .int .u8 0, .int .u64 1, .int .u64 4, .string ⟨#[]⟩, .slice none 0 0, .int .i64 0, .bool false] 25)) (u.heap.size + 1) 9 [.string ⟨#[97]⟩, .string ⟨#[98]⟩] := by
    have := (Blk.new (u.alloc (.cells #[.string ⟨#[99]⟩] 9)) [.string ⟨#[97]⟩, .string ⟨#[98]⟩] 9).alloc (.cells #[.int .u8 0, .int .u64 1, .int .u64 3, .string ⟨#[]⟩, .slice (some ⟨u.heap.size, 0, none⟩) 1 1, .int .i64 0, .bool true, .int .u8 1, .int .u64 1, .int .u64 1, .string ⟨#[]⟩, .slice (some ⟨u.heap.size + 1, 0, none⟩) 2 2, .int .i64 0, .bool true, .int .u8 0, .int .u64 1, .int .u64 4, .string ⟨#[]⟩, .slice none 0 0, .int .i64 0, .bool false] 25)
    rw [show (u.alloc (.cells #[.string ⟨#[99]⟩] 9)).heap.size = u.heap.size + 1 from by simp] at this
    exact this
  have h2 : Blk (((u.alloc (.cells #[.string ⟨#[99]⟩] 9)).alloc (.cells #[.string ⟨#[97]⟩, .string ⟨#[98]⟩] 9)).alloc (.cells #[.int .u8 0, .int .u64 1, .int .u64 3, .string ⟨#[]⟩, .slice (some ⟨u.heap.size, 0, none⟩) 1 1, .int .i64 0, .bool true, .int .u8 1, .int .u64 1, .int .u64 1, .string ⟨#[]⟩, .slice (some ⟨u.heap.size + 1, 0, none⟩) 2 2, .int .i64 0, .bool true, .int .u8 0, .int .u64 1, .int .u64 4, .string ⟨#[]⟩, .slice none 0 0, .int .i64 0, .bool false] 25)) (u.heap.size + 1 + 1) 25 [.int .u8 0, .int .u64 1, .int .u64 3, .string ⟨#[]⟩, .slice (some ⟨u.heap.size, 0, none⟩) 1 1, .int .i64 0, .bool true, .int .u8 1, .int .u64 1, .int .u64 1, .string ⟨#[]⟩, .slice (some ⟨u.heap.size + 1, 0, none⟩) 2 2, .int .i64 0, .bool true, .int .u8 0, .int .u64 1, .int .u64 4, .string ⟨#[]⟩, .slice none 0 0, .int .i64 0, .bool false] := by
    have := Blk.new ((u.alloc (.cells #[.string ⟨#[99]⟩] 9)).alloc (.cells #[.string ⟨#[97]⟩, .string ⟨#[98]⟩] 9)) [.int .u8 0, .int .u64 1, .int .u64 3, .string ⟨#[]⟩, .slice (some ⟨u.heap.size, 0, none⟩) 1 1, .int .i64 0, .bool true, .int .u8 1, .int .u64 1, .int .u64 1, .string ⟨#[]⟩, .slice (some ⟨u.heap.size + 1, 0, none⟩) 2 2, .int .i64 0, .bool true, .int .u8 0, .int .u64 1, .int .u64 4, .string ⟨#[]⟩, .slice none 0 0, .int .i64 0, .bool false] 25
    rw [show ((u.alloc (.cells #[.string ⟨#[99]⟩] 9)).alloc (.cells #[.string ⟨#[97]⟩, .string ⟨#[98]⟩] 9)).heap.size = u.heap.size + 1 + 1 from by simp] at this
    exact this
  have hlt := h2.lt
  have key : ∀ (k : Nat) (C : List Value) (j : Nat) (v : Value), C.length = 7 → C[j]? = some v → (∀ j, j < 7 → ([.int .u8 0, .int .u64 1, .int .u64 3, .string ⟨#[]⟩, .slice (some ⟨u.heap.size, 0, none⟩) 1 1, .int .i64 0, .bool true, .int .u8 1, .int .u64 1, .int .u64 1, .string ⟨#[]⟩, .slice (some ⟨u.heap.size + 1, 0, none⟩) 2 2, .int .i64 0, .bool true, .int .u8 0, .int .u64 1, .int .u64 4, .string ⟨#[]⟩, .slice none 0 0, .int .i64 0, .bool false] : List Value)[k * 7 + j]? = C[j]?) → (((u.alloc (.cells #[.string ⟨#[99]⟩] 9)).alloc (.cells #[.string ⟨#[97]⟩, .string ⟨#[98]⟩] 9)).alloc (.cells #[.int .u8 0, .int .u64 1, .int .u64 3, .string ⟨#[]⟩, .slice (some ⟨u.heap.size, 0, none⟩) 1 1, .int .i64 0, .bool true, .int .u8 1, .int .u64 1, .int .u64 1, .string ⟨#[]⟩, .slice (some ⟨u.heap.size + 1, 0, none⟩) 2 2, .int .i64 0, .bool true, .int .u8 0, .int .u64 1, .int .u64 4, .string ⟨#[]⟩, .slice none 0 0, .int .i64 0, .bool false] 25)).cell? ((⟨u.heap.size + 1 + 1, 0, none⟩ : Addr).add (k * 7 + j)) = some v := by
    intro k C j v hC hj hall
    have h7 : j < 7 := by have := (List.getElem?_eq_some_iff.1 hj).1; omega
    rw [add_zero_off]
    exact h2.cell _ v ((hall j h7).trans hj)
  have sev : ∀ {P : Nat → Prop}, P 0 → P 1 → P 2 → P 3 → P 4 → P 5 → P 6 → ∀ j, j < 7 → P j := by
    intro P p0 p1 p2 p3 p4 p5 p6 j hj
    rcases (show j = 0 ∨ j = 1 ∨ j = 2 ∨ j = 3 ∨ j = 4 ∨ j = 5 ∨ j = 6 by omega) with rfl | rfl | rfl | rfl | rfl | rfl | rfl <;> assumption
  intro k x hk
  rcases (show k = 0 ∨ k = 1 ∨ k = 2 ∨ 3 ≤ k by omega) with rfl | rfl | rfl | h3
  · cases hk
    exact ⟨_, some ⟨u.heap.size, 0, none⟩, 1, rfl, hlt, (h0.vals).texts (l := [⟨#[99]⟩]), fun j v hv => key 0 _ j v rfl hv (sev rfl rfl rfl rfl rfl rfl rfl)⟩
  · cases hk
    exact ⟨_, some ⟨u.heap.size + 1, 0, none⟩, 2, rfl, hlt, (h1.vals).texts (l := [⟨#[97]⟩, ⟨#[98]⟩]), fun j v hv => key 1 _ j v rfl hv (sev rfl rfl rfl rfl rfl rfl rfl)⟩
  · cases hk
    exact ⟨_, none, 0, rfl, hlt, TextsP.none _, fun j v hv => key 2 _ j v rfl hv (sev rfl rfl rfl rfl rfl rfl rfl)⟩
  · rw [List.getElem?_eq_none (by show 3 ≤ k; exact h3)] at hk
    cases hk
theorem rowA3 (u : World) : Calls Try.prog 18 #[.slice (some ⟨u.heap.size + 1 + 1, 0, none⟩) 3 3] (((u.alloc (.cells #[.string ⟨#[99]⟩] 9)).alloc (.cells #[.string ⟨#[97]⟩, .string ⟨#[98]⟩] 9)).alloc (.cells #[.int .u8 0, .int .u64 1, .int .u64 3, .string ⟨#[]⟩, .slice (some ⟨u.heap.size, 0, none⟩) 1 1, .int .i64 0, .bool true, .int .u8 1, .int .u64 1, .int .u64 1, .string ⟨#[]⟩, .slice (some ⟨u.heap.size + 1, 0, none⟩) 2 2, .int .i64 0, .bool true, .int .u8 0, .int .u64 1, .int .u64 4, .string ⟨#[]⟩, .slice none 0 0, .int .i64 0, .bool false] 25)) fun e w' => ∃ q c, e = .returned (.tuple #[.slice q 3 c, .int .i64 0]) ∧ ValsP w' q (vN [1, 0, 2]) ∧ Ext u w' := by
  have h := row_any _ _ 3 LA (segsA u) (by decide) (by simp [LA])
  rw [rowA] at h
  refine h.mono ?_
  rintro e w' ⟨q, c, rfl, hv, hx⟩
  exact ⟨q, c, rfl, hv, ((((Ext.refl u).alloc _).alloc _).alloc _).trans hx⟩
theorem place3 (w : World) (q : Option Addr) (c : Nat) (h : ValsP w q (vN [1, 0, 2])) : Calls Try.prog 20 #[.slice q 3 c, .slice (some ⟨w.heap.size, 0, none⟩) 3 3] (w.alloc (.cells #[.int .i64 1, .int .i64 0, .int .i64 2] 3)) fun e w' => e = .returned (.bool true) ∧ Ext w w' := by
  have h2 := places_dec (w.alloc (.cells #[.int .i64 1, .int .i64 0, .int .i64 2] 3)) q (some ⟨w.heap.size, 0, none⟩) c 3 [1, 0, 2] [1, 0, 2] (h.ext ((Ext.refl w).alloc _)) (Blk.new w (vN [1, 0, 2]) 3).vals (by decide) (by decide)
  refine h2.mono ?_
  rintro e w' ⟨rfl, hx⟩
  exact ⟨rfl, ((Ext.refl w).alloc _).trans hx⟩
set_option maxRecDepth 100000 in
set_option maxHeartbeats 4000000 in
theorem alive_any (w : World) : Calls Try.prog 8 #[] w fun e w' => e = .returned (.bool true) ∧ Ext w w' := by
  have HE := Lib.hid headA1; have HF := Lib.hid headA0; have HP := Lib.hid parseA1; have HN := Lib.hid rowNil; have HX := Lib.hid nextA; have HR := Lib.hid rowA3; have HPl := Lib.hid place3
  have hsz := sizeA
  generalize frameT (headR 1 1 1 abcT) = S at *
  go_enter Try.func8, Try.ntmps8
  go_wp2_with (first
    | (go_at_call 9; (with_reducible refine (HE.out _).mono ?_); rintro e w1 ⟨rfl, x1⟩; have X1 := Lib.hid x1; clear x1)
    | (go_at_call 13; refine (HP.out _).mono ?_; rintro e w2 ⟨p, c, rfl, x2⟩; have X2 := Lib.hid ((X1.out.trans x2).alloc (.cells #[.int .u8 1, .int .u64 1, .int .u64 1, .string ⟨#[97, 98, 99]⟩, .slice p 0 c, .int .i64 21, .bool true] 25)); have hb := Blk.new w2 [.int .u8 1, .int .u64 1, .int .u64 1, .string ⟨#[97, 98, 99]⟩, .slice p 0 c, .int .i64 21, .bool true] 25; have HB := Lib.hid hb; clear x2 hb)
    | (go_at_call 9; (with_reducible refine (HF.out _).mono ?_); rintro e w3 ⟨rfl, x3⟩; have X3 := Lib.hid (X2.out.trans x3); have HB3 := Lib.hid (HB.out.ext x3); clear x3)
    | (go_at_call 18; (with_reducible refine (HR.out _).mono ?_); rintro e w4 ⟨q, c4, rfl, hv4, x4⟩; have HV4 := Lib.hid hv4; have X4 := Lib.hid (X3.out.trans x4); have HB4 := Lib.hid (HB3.out.ext x4); clear x4 hv4)
    | (go_at_call 18; (with_reducible refine (HN.out _).mono ?_); rintro e w5 ⟨q5, c5, rfl, x5⟩; have HV5 := Lib.hid (HV4.out.ext x5); have X5 := Lib.hid (X4.out.trans x5); have hb5 := HB4.out.ext x5; have HB5 := Lib.hid hb5; have d0 := hb5.cell 0 _ rfl; have d1 := hb5.cell 1 _ rfl; have d2 := hb5.cell 2 _ rfl; have d3 := hb5.cell 3 _ rfl; have d4 := hb5.cell 4 _ rfl; have d5 := hb5.cell 5 _ rfl; have d6 := hb5.cell 6 _ rfl; clear x5 hb5)
    | (go_at_call 20; refine (HPl.out _ _ _ HV5.out).mono ?_; rintro e w6 ⟨rfl, x6⟩; have X6 := Lib.hid (X5.out.trans x6); have hb6 := HB5.out.ext x6; have e0 := hb6.cell 0 _ rfl; have e1 := hb6.cell 1 _ rfl; have e2 := hb6.cell 2 _ rfl; have e3 := hb6.cell 3 _ rfl; have e4 := hb6.cell 4 _ rfl; have e5 := hb6.cell 5 _ rfl; have e6 := hb6.cell 6 _ rfl; clear x6 hb6 d0 d1 d2 d3 d4 d5 d6)
    | (go_at_call 16; refine (HX.out _ _ _).mono ?_; rintro e w7 ⟨rfl, x7⟩; have X7 := Lib.hid (X6.out.trans x7); clear x7))
  go_ret
  exact ⟨rfl, X7.out⟩
end Go.Proofs.Ythnoegipadnmeaa
end
