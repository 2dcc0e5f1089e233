/- Plain: which segments of a list are a log, in order. No function of the program is named here. Plain: what the law's own log has, step by step. Plain: a block of a segment's cells that is stored to whole; a segment that is loaded, and answered. Slices of segments; contract: the segment that a log begins with, by the program. -/
import Derived.Test.YtbekdcpdfmfopaaGreatM05
import Derived.Test.YtbekdcpdfmfopaaGreatM00
import Derived.Test.YtbekdcpdfmfopaaGreatProg
import Derived.Outline
import Derived.Test.YtbekdcpdfmfopaaGreatM01
import Derived.Laws.Cells
import Derived.Deep.MidRow
import Derived.Deep.Slices
import Derived.Deep.QuietTactic
import Derived.BigQuiet
import Derived.Deep.DeepCutAuto
section
namespace Go.Proofs.YtbekdcpdfmfopaaGreat

/-- The segment with the greatest generation: place and generation. -/
def newStep : Option (Nat × Nat) → Nat → Seg → Option (Nat × Nat)
  | none, i, x => if x.k = 1 then some (i, x.g) else none
  | some (a, g), i, x => if x.k = 1 ∧ g < x.g then some (i, x.g) else some (a, g)
def newF (L : List Seg) : Nat → Option (Nat × Nat)
  | 0 => none
  | j + 1 => match L[j]? with
    | none => newF L j
    | some x => newStep (newF L j) j x
theorem newF_succ (L : List Seg) (j : Nat) (x : Seg) (h : L[j]? = some x) : newF L (j + 1) = newStep (newF L j) j x := by
  show (match L[j]? with | none => newF L j | some x => newStep (newF L j) j x) = _
  rw [h]
theorem newF_at (L : List Seg) : ∀ (j a g : Nat), newF L j = some (a, g) → a < j ∧ ∃ x, L[a]? = some x ∧ x.g = g ∧ x.k = 1
  | 0, a, g, h => by simp [newF] at h
  | j + 1, a, g, h => by
    cases hx : L[j]? with
    | none =>
      have e : newF L (j + 1) = newF L j := by
        show (match L[j]? with | none => newF L j | some x => newStep (newF L j) j x) = _
        rw [hx]
      rw [e] at h
      obtain ⟨h1, h2⟩ := newF_at L j a g h
      exact ⟨by omega, h2⟩
    | some x =>
      rw [newF_succ L j x hx] at h
      cases hn : newF L j with
      | none =>
        rw [hn] at h
        simp only [newStep] at h
        split at h
        · rename_i hk
          cases h
          exact ⟨by omega, x, hx, rfl, hk⟩
        · cases h
      | some ag =>
        obtain ⟨a', g'⟩ := ag
        rw [hn] at h
        simp only [newStep] at h
        split at h
        · rename_i hk
          cases h
          exact ⟨by omega, x, hx, rfl, hk.1⟩
        · cases h
          obtain ⟨h1, h2⟩ := newF_at L j a g hn
          exact ⟨by omega, h2⟩
/-- One that goes on in a generation from a number. -/
def isW (L : List Seg) (gen num i : Nat) : Bool := match L[i]? with
  | none => false
  | some x => x.k == 0 && x.g == gen && x.f == num
def waitJ (L : List Seg) (gen num j : Nat) : List Nat := (List.range j).filter (isW L gen num)
/-- Those that wait, where some were taken. -/
def waitF (L : List Seg) (gen : Nat) (T : List Nat) (num : Nat) : List Nat := (List.range L.length).filter fun i => isW L gen num i && !T.contains i
theorem waitJ_succ (L : List Seg) (gen num j : Nat) : waitJ L gen num (j + 1) = waitJ L gen num j ++ (if isW L gen num j = true then [j] else []) := by
  unfold waitJ
  rw [List.range_succ, List.filter_append]
  congr 1
  by_cases h : isW L gen num j = true
  · rw [if_pos h]; simp [h]
  · rw [if_neg h]; simp [h]
theorem waitF_none (L : List Seg) (gen num : Nat) : waitF L gen [] num = waitJ L gen num L.length := by
  unfold waitF waitJ
  congr 1
  funext i
  simp
theorem waitF_mem {L : List Seg} {gen num i : Nat} {T : List Nat} (h : i ∈ waitF L gen T num) : i < L.length ∧ isW L gen num i = true ∧ i ∉ T := by
  unfold waitF at h
  rw [List.mem_filter, List.mem_range] at h
  obtain ⟨h1, h2⟩ := h
  rw [Bool.and_eq_true] at h2
  exact ⟨h1, h2.1, by simpa using h2.2⟩
theorem waitF_take {L : List Seg} {gen num i : Nat} {T r : List Nat} (h : waitF L gen T num = i :: r) (m : Nat) : waitF L gen (i :: T) m = if m = num then r else waitF L gen T m := by
  have hi : i ∈ waitF L gen T num := by rw [h]; simp
  obtain ⟨h1, h2, h3⟩ := waitF_mem hi
  have hsplit : waitF L gen (i :: T) m = (waitF L gen T m).filter (fun x => !(x == i)) := by
    unfold waitF
    rw [List.filter_filter]
    congr 1
    funext x
    rw [List.contains_cons]
    cases isW L gen m x <;> cases T.contains x <;> cases hxi : (x == i) <;> simp
  rw [hsplit]
  by_cases hm : m = num
  · subst hm
    rw [if_pos rfl, h]
    have hnd : (i :: r).Nodup := by
      rw [← h]
      exact List.nodup_range.sublist List.filter_sublist
    have hn := (List.nodup_cons.1 hnd).1
    rw [List.filter_cons, if_neg (by simp)]
    exact List.filter_eq_self.2 (fun x hx => by
      have : x ≠ i := fun e => hn (e ▸ hx)
      simpa using this)
  · rw [if_neg hm]
    refine List.filter_eq_self.2 (fun x hx => ?_)
    have hx2 := (waitF_mem hx).2.1
    have : x ≠ i := fun e => by
      subst e
      unfold isW at h2 hx2
      cases hL : L[x]? with
      | none => rw [hL] at h2; cases h2
      | some y =>
        rw [hL] at h2 hx2
        simp at h2 hx2
        omega
    simpa using this
/-- The number of the record that would come behind. -/
def nextS (x : Seg) : Nat := (x.f + x.r.length) % 18446744073709551616
/-- The log's places behind the one at hand, where some were taken. -/
def rowG (L : List Seg) (gen : Nat) : Nat → Nat → List Nat → List Nat
  | 0, _, _ => []
  | f + 1, a, T => match L[a]? with
    | none => []
    | some x => if x.w = true then
        match waitF L gen T (nextS x) with
        | [] => []
        | i :: _ => i :: rowG L gen f i (i :: T)
      else []
def rowS (L : List Seg) : List Nat × Nat := match newF L L.length with
  | none => ([], 3)
  | some (a, g) => (a :: rowG L g (L.length + 1) a [], 0)
section
variable {L : List Seg} {gen f a : Nat} {T : List Nat} {x : Seg}
theorem rowG_torn (h : L[a]? = some x) (hw : x.w = false) : rowG L gen (f + 1) a T = [] := by
  rw [rowG, h]; simp [hw]
theorem rowG_end (h : L[a]? = some x) (hw : x.w = true) (hn : waitF L gen T (nextS x) = []) : rowG L gen (f + 1) a T = [] := by
  rw [rowG, h]; simp [hw, hn]
theorem rowG_more {i : Nat} {r : List Nat} (h : L[a]? = some x) (hw : x.w = true) (hn : waitF L gen T (nextS x) = i :: r) : rowG L gen (f + 1) a T = i :: rowG L gen f i (i :: T) := by
  rw [rowG, h]; simp [hw, hn]
end
/-- No more are taken than there are. -/
theorem taken_le {n : Nat} : ∀ (T : List Nat), T.Nodup → (∀ i ∈ T, i < n) → T.length ≤ n := by
  intro T hn hl
  have := List.Nodup.length_le_of_subset hn (l₂ := List.range n) (fun i hi => List.mem_range.2 (hl i hi))
  simpa using this
end Go.Proofs.YtbekdcpdfmfopaaGreat
end

section
namespace Go.Proofs.YtbekdcpdfmfopaaGreat

def ta : ByteArray := ⟨#[97]⟩
def tb : ByteArray := ⟨#[98]⟩
def tc : ByteArray := ⟨#[99]⟩
def td : ByteArray := ⟨#[100]⟩
def te : ByteArray := ⟨#[101]⟩
def tf : ByteArray := ⟨#[102]⟩
/-- The first log's segment, with its three records; the second one's. -/
def sg1 : Seg := ⟨1, 1, 1, ta, [tb, tc, td], 0, true⟩
def sg2 : Seg := ⟨1, 2, 3, te, [tf], 0, true⟩
theorem sg1_size : (bytesT sg1).size = 70 := by rw [bytesT_size]; rfl
theorem sg2_size : (bytesT sg2).size = 36 := by rw [bytesT_size]; rfl
theorem light1 : sg1.Light := ⟨by decide, by decide, by decide⟩
/-- What is found behind the crash: two records, and a torn one. -/
theorem parse_torn : parseF ((bytesT sg1).extract 0 56) = (⟨1, 1, 1, ta, [tb, tc], 53, false⟩, 0) := by
  rw [parse_cut light1 (by decide) (by decide) 56 (by rw [sg1_size]; decide)]
  rfl
theorem light2 : sg2.Light := ⟨by decide, by decide, by decide⟩
theorem parse_new : parseF (bytesT sg2) = (⟨1, 2, 3, te, [tf], 36, true⟩, 0) := by
  rw [parse_back light2 (by decide) (by decide), sg2_size]
  rfl
theorem parse_none : (parseF ⟨#[]⟩).2 ≠ 0 := by
  have h := parse_cut light1 (by decide) (by decide) 0 (Nat.zero_le _)
  have e : (bytesT sg1).extract 0 0 = ⟨#[]⟩ := by simp [ByteArray.ext_iff]
  rw [e] at h
  rw [h]
  decide
theorem row_torn : rowS [⟨1, 1, 1, ta, [tb, tc], 53, false⟩] = ([0], 0) := by decide +kernel
theorem row_new : rowS [⟨1, 2, 3, te, [tf], 36, true⟩] = ([0], 0) := by decide +kernel
theorem head_a : headF 1 1 1 ta = (frameT (headR 1 1 1 ta), 0) := by decide +kernel
theorem head_e : headF 1 2 3 te = (frameT (headR 1 2 3 te), 0) := by decide +kernel
/-- The bytes of the first log's file, call by call. -/
theorem file_a : frameT (headR 1 1 1 ta) ++ frameT ⟨1, tb⟩ ++ frameT ⟨2, tc⟩ ++ frameT ⟨3, td⟩ = bytesT sg1 := by decide +kernel
theorem file_e : frameT (headR 1 2 3 te) ++ frameT ⟨3, tf⟩ = bytesT sg2 := by decide +kernel
end Go.Proofs.YtbekdcpdfmfopaaGreat
end

section
namespace Go.Proofs.YtbekdcpdfmfopaaGreat
open Go.RowKit

/-- A segment stored whole. -/
theorem Blk.set7 {w : World} {b : Nat} {T : TypeId} {c0 c1 c2 c3 c4 c5 c6 : Value} (h : Blk w b T [c0, c1, c2, c3, c4, c5, c6]) (a0 a1 a2 a3 a4 a5 a6 : Value) : Blk (((((((w.setCell ⟨b, 0, none⟩ a0).setCell ⟨b, 1, none⟩ a1).setCell ⟨b, 2, none⟩ a2).setCell ⟨b, 3, none⟩ a3).setCell ⟨b, 4, none⟩ a4).setCell ⟨b, 5, none⟩ a5).setCell ⟨b, 6, none⟩ a6) b T [a0, a1, a2, a3, a4, a5, a6] :=
  ((((((h.set_ 0 a0).set_ 1 a1).set_ 2 a2).set_ 3 a3).set_ 4 a4).set_ 5 a5).set_ 6 a6
theorem Blk.other7 {w : World} {b g : Nat} {T : TypeId} {cs : List Value} (h : Blk w g T cs) (hg : g ≠ b) (a0 a1 a2 a3 a4 a5 a6 : Value) : Blk (((((((w.setCell ⟨b, 0, none⟩ a0).setCell ⟨b, 1, none⟩ a1).setCell ⟨b, 2, none⟩ a2).setCell ⟨b, 3, none⟩ a3).setCell ⟨b, 4, none⟩ a4).setCell ⟨b, 5, none⟩ a5).setCell ⟨b, 6, none⟩ a6) g T cs :=
  ((((((h.other hg 0 a0).other hg 1 a1).other hg 2 a2).other hg 3 a3).other hg 4 a4).other hg 5 a5).other hg 6 a6
theorem Ext.set7 {w0 w : World} (h : Ext w0 w) {b : Nat} (hb : w0.heap.size ≤ b) (a0 a1 a2 a3 a4 a5 a6 : Value) : Ext w0 (((((((w.setCell ⟨b, 0, none⟩ a0).setCell ⟨b, 1, none⟩ a1).setCell ⟨b, 2, none⟩ a2).setCell ⟨b, 3, none⟩ a3).setCell ⟨b, 4, none⟩ a4).setCell ⟨b, 5, none⟩ a5).setCell ⟨b, 6, none⟩ a6) :=
  ((((((h.setCell (p := ⟨b, 0, none⟩) hb a0).setCell (p := ⟨b, 1, none⟩) hb a1).setCell (p := ⟨b, 2, none⟩) hb a2).setCell (p := ⟨b, 3, none⟩) hb a3).setCell (p := ⟨b, 4, none⟩) hb a4).setCell (p := ⟨b, 5, none⟩) hb a5).setCell (p := ⟨b, 6, none⟩) hb a6
theorem Below.set7 {B : Nat} {w0 w : World} (h : Below B w0 w) {b : Nat} (hb : B ≤ b) (a0 a1 a2 a3 a4 a5 a6 : Value) : Below B w0 (((((((w.setCell ⟨b, 0, none⟩ a0).setCell ⟨b, 1, none⟩ a1).setCell ⟨b, 2, none⟩ a2).setCell ⟨b, 3, none⟩ a3).setCell ⟨b, 4, none⟩ a4).setCell ⟨b, 5, none⟩ a5).setCell ⟨b, 6, none⟩ a6) :=
  ((((((h.setCell (p := ⟨b, 0, none⟩) hb a0).setCell (p := ⟨b, 1, none⟩) hb a1).setCell (p := ⟨b, 2, none⟩) hb a2).setCell (p := ⟨b, 3, none⟩) hb a3).setCell (p := ⟨b, 4, none⟩) hb a4).setCell (p := ⟨b, 5, none⟩) hb a5).setCell (p := ⟨b, 6, none⟩) hb a6

theorem sizeS : (Tryz.prog.info? 119).map (·.size) = some 7 := by kernel_rfl
theorem load_seg (w : World) (g : Nat) (t : TypeId) (a b c d e f h : Value) (fr : Nat × Nat) (hg : w.heap[g]? = some (.cells #[a, b, c, d, e, f, h] t fr)) : (loadVar 119 ⟨g, 0, none⟩).run Tryz.prog w = .ok (.agg #[a, b, c, d, e, f, h]) w :=
  run_loadVar_row w g t 119 #[a, b, c, d, e, f, h] fr _ hg Tryz.underlying119 rfl sizeS
theorem results_seg {fn : Func} {p u : Tmp} (h : fn.results = #[.cell p 119, .tmp u]) (tmps : Array Value) (w : World) (g : Nat) (t : TypeId) (a b c d e f k : Value) (fr : Nat × Nat)
    (hp : tmps.getD p undef = .pointer (some ⟨g, 0, none⟩)) (hg : w.heap[g]? = some (.cells #[a, b, c, d, e, f, k] t fr)) :
    (results fn tmps).run Tryz.prog w = .ok (.tuple #[.agg #[a, b, c, d, e, f, k], tmps.getD u undef]) w := by
  have hp' : tmps[p]?.getD undef = .pointer (some ⟨g, 0, none⟩) := by simpa using hp
  simp [results, h, hp', asAddr, load_seg w g t a b c d e f k fr hg]
def zero7 : List Value := [.int .u8 0, .int .u64 0, .int .u64 0, .string ⟨#[]⟩, .slice none 0 0, .int .i64 0, .bool false]
end Go.Proofs.YtbekdcpdfmfopaaGreat
end

section
namespace Go.Proofs.YtbekdcpdfmfopaaGreat
open Go.RowKit

/-- The cells from the address on, if there are any, are these segments; their records lie there, too. -/
def SegsP (w : World) (p : Option Addr) (L : List Seg) : Prop := ∀ (k : Nat) (x : Seg), L[k]? = some x → ∃ a q c, p = some a ∧ a.block < w.heap.size ∧ TextsP w q x.r ∧ ∀ (j : Nat) (v : Value), (segC x (.slice q x.r.length c))[j]? = some v → w.cell? (a.add (k * 7 + j)) = some v
theorem SegsP.ext {w w' : World} {p : Option Addr} {L : List Seg} (h : SegsP w p L) (hx : Ext w w') : SegsP w' p L := fun k x hk => by
  obtain ⟨a, q, c, h1, h2, h3, h4⟩ := h k x hk
  exact ⟨a, q, c, h1, Nat.lt_of_lt_of_le h2 hx.size, h3.ext hx, fun j v hv => by rw [hx.below.cell (p := a.add (k * 7 + j)) (by rw [add_block]; omega)]; exact h4 j v hv⟩
theorem SegsP.none (w : World) : SegsP w none [] := fun k x hk => by simp at hk
theorem seg_info : (Tryz.prog.info? 119).map (·.size) = some 7 := by kernel_rfl
theorem seven_at {w : World} {a : Addr} {j k : Nat} {v : Option Value} (h : w.cell? (a.add (j * 7 + (k + 1))) = v) : w.cell? ⟨(a.add (j * 7)).block, (a.add (j * 7)).off + (k + 1), none⟩ = v := by
  rw [← Deep.add_add] at h
  exact h
/-- What newest answers. -/
def newV (o : Option (Nat × Nat)) : Value := match o with
  | none => .tuple #[.int .i64 0, .bool false]
  | some (a, _) => .tuple #[.int .i64 (a : Int), .bool true]
set_option maxRecDepth 100000 in
set_option maxHeartbeats 4000000 in
theorem newest_any (w : World) (p : Option Addr) (c : Nat) (L : List Seg) (h : SegsP w p L) (hl : L.length ≤ 1000000) :
    Calls Tryz.prog 89 #[.slice p L.length c] w fun e w' => e = .returned (newV (newF L L.length)) ∧ Ext w w' := by
  have HH := Lib.hid (fun u (hu : Ext w u) => h.ext hu)
  have HAt := Lib.hid (newF_at L)
  have HSu := Lib.hid (newF_succ L)
  clear h
  go_enter Tryz.func89, Tryz.ntmps89
  go_wp2
  go_loopw [2, 3, 8] (fun pv bv i wr => ∃ (j a : Nat) (is : Bool), j ≤ L.length ∧ i = .int .i64 (j : Int) ∧ pv = .int .i64 (a : Int) ∧ bv = .bool is ∧ Hid (if is = true then ∃ g, newF L j = some (a, g) else (newF L j = none ∧ a = 0)) ∧ Hid (Ext w wr)) (fun _ _ i _ => L.length - (intOf i).toNat)
  case atStart => exact ⟨0, 0, false, Nat.zero_le _, rfl, rfl, rfl, Lib.hid (by simp [newF]), Lib.hid (Ext.refl _)⟩
  case round =>
    obtain ⟨j, a, is, hj, rfl, rfl, rfl, hn, hx⟩ := hrel
    by_cases hlt : j < L.length
    · obtain ⟨x, hxj⟩ : ∃ x, L[j]? = some x := ⟨_, List.getElem?_eq_getElem hlt⟩
      obtain ⟨ad, q, c2, rfl, ha, _, hc⟩ := HH.out _ hx.out j x hxj
      have HN1 := Lib.hid (HSu.out j x hxj)
      have k0 : wr.cell? (ad.add (j * 7)) = some (.int .u8 (x.k : Int)) := hc 0 _ rfl
      have k1 := seven_at (k := 0) (hc 1 _ rfl)
      have k2 := seven_at (k := 1) (hc 2 _ rfl)
      have k3 := seven_at (k := 2) (hc 3 _ rfl)
      have k4 := seven_at (k := 3) (hc 4 _ rfl)
      have k5 := seven_at (k := 4) (hc 5 _ rfl)
      have k6 := seven_at (k := 5) (hc 6 _ rfl)
      have hbx := Blk.new wr [.int .u8 (x.k : Int), .int .u64 (x.g : Int), .int .u64 (x.f : Int), .string x.t, .slice q x.r.length c2, .int .i64 x.u, .bool x.w] 119
      have b0 := hbx.cell 0 _ rfl
      have b1 := hbx.cell 1 _ rfl
      have HX1 := Lib.hid (hx.out.alloc (.cells #[.int .u8 (x.k : Int), .int .u64 (x.g : Int), .int .u64 (x.f : Int), .string x.t, .slice q x.r.length c2, .int .i64 x.u, .bool x.w] 119))
      clear hxj hc hbx ha
      by_cases hk : x.k = 1
      · have hki : ((x.k : Int) == 1) = true := by rw [beq_iff_eq]; omega
        cases is with
        | false =>
          have HS1 := Lib.hid (show newF L j = none from (by have := hn.out; simpa using this.1))
          have HK := Lib.hid hk
          clear hk hn
          go_upto_region 4 with (fail)
          go_quiet (fail)
          go_wp2
          go_roundw
          case rel => exact ⟨j + 1, j, true, hlt, by go_num, rfl, rfl, Lib.hid (by rw [HN1.out]; rw [HS1.out]; simp [newStep, HK.out]), Lib.hid (HX1.out.drewN _)⟩
          case measure => simp [intOf]; omega

        | true =>
          obtain ⟨g, hg⟩ := (by have := hn.out; simpa using this : ∃ g, newF L j = some (a, g))
          obtain ⟨haj, y, hy, hyg, _⟩ := HAt.out j a g hg
          obtain ⟨ad2, q2, c3, e2, _, _, hc2⟩ := HH.out _ HX1.out a y hy
          obtain rfl : ad = ad2 := by simpa using e2
          have m1 := seven_at (k := 0) (hc2 1 _ rfl)
          rw [hyg] at m1
          have haL : a < L.length := by omega
          have HS1 := Lib.hid hg
          have HK := Lib.hid hk
          clear hk hn hy hyg hc2 e2
          by_cases hgt : g < x.g
          · have hgi : (g : Int) < (x.g : Int) := by omega
            have HGt := Lib.hid hgt
            clear hgt
            go_upto_region 4 with (fail)
            go_quiet (fail)
            go_wp2
            go_roundw
            case rel => exact ⟨j + 1, j, true, hlt, by go_num, rfl, rfl, Lib.hid (by rw [HN1.out]; rw [HS1.out]; simp [newStep, HK.out, HGt.out]), Lib.hid (HX1.out.drewN _)⟩
            case measure => simp [intOf]; omega

          · have hgi : ¬ (g : Int) < (x.g : Int) := by omega
            have HGt := Lib.hid hgt
            clear hgt
            go_upto_region 4 with (fail)
            go_quiet (fail)
            go_wp2
            go_roundw
            case rel => exact ⟨j + 1, a, true, hlt, by go_num, rfl, rfl, Lib.hid (by rw [HN1.out]; rw [HS1.out]; simp [newStep, HK.out, HGt.out]), Lib.hid (HX1.out.drewN _)⟩
            case measure => simp [intOf]; omega

      · have hki : ((x.k : Int) == 1) = false := by rw [beq_eq_false_iff_ne]; omega
        have HK := Lib.hid hk
        have HN2 : Hid (if is = true then ∃ g, newF L (j + 1) = some (a, g) else (newF L (j + 1) = none ∧ a = 0)) := Lib.hid (by
          have h1 := hn.out
          rw [HN1.out]
          cases is with
          | false => simp at h1 ⊢; rw [h1.1]; simp [newStep, HK.out, h1.2]
          | true =>
            simp at h1 ⊢
            obtain ⟨g, hg⟩ := h1
            exact ⟨g, by rw [hg]; simp [newStep, HK.out]⟩)
        clear hk hn
        go_upto_region 4 with (fail)
        go_quiet (fail)
        go_wp2
        go_roundw
        case rel => exact ⟨j + 1, a, is, hlt, by go_num, rfl, rfl, HN2, Lib.hid (HX1.out.drewN _)⟩
        case measure => simp [intOf]; omega
    · obtain rfl : j = L.length := by omega
      have HR : Hid (newV (newF L L.length) = .tuple #[.int .i64 (a : Int), .bool is]) := Lib.hid (by
        have h1 := hn.out
        cases is with
        | false => simp at h1; rw [h1.1, h1.2]; rfl
        | true => simp at h1; obtain ⟨g, hg⟩ := h1; rw [hg]; rfl)
      clear hn
      go_wp2
      go_ret2
      exact ⟨by rw [HR.out] <;> rfl, hx.out⟩
end Go.Proofs.YtbekdcpdfmfopaaGreat
end
