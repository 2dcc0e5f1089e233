/- Plain: what a barrier's header is made of. Shares that came, as the program keeps them; contracts: whether it is one, what a share's bytes say, by the program. Contracts: how many shares are there; all dropped: by the program. Contracts: a text's copy; what a share's bytes say, by the program. Contracts: a share that comes, by the program. Two bytes as a text. -/
import Derived.Test.YtobhbppogeghnaaGreatDoorM23
import Derived.Test.YtobhbppogeghnaaGreatDoorM05
import Derived.Test.YtobhbppogeghnaaGreatDoorM03
import Derived.Test.YtobhbppogeghnaaGreatDoorM02
import Derived.Test.YtobhbppogeghnaaGreatDoorM07
import Derived.Lib.UnsafeStr
import Derived.WalkSpells
import Derived.Lib.Buffer
import Derived.Lib.Strings
import Derived.Lib.Walk
import Derived.Deep.RegionLaw
import Derived.Outline
import Derived.StillTailTactics
section
namespace Go.Proofs.YtobhbppogeghnaaGreatDoor
open Go.RowKit

/-- The path of a header's ring. -/
def pathB : ByteArray := ⟨#[98, 97, 114, 114, 105, 101, 114]⟩
/-- A number of shares ahead of an envelope. -/
def hdT (n : Nat) (E : ByteArray) : ByteArray := ⟨(UInt8.ofNat n :: E.data.toList).toArray⟩
theorem hdT_size (n : Nat) (E : ByteArray) : (hdT n E).size = E.size + 1 := by unfold hdT; rw [txt_size, List.length_cons, size_list]
theorem hdT_first (n : Nat) (E : ByteArray) : (hdT n E).data.toList[0]? = some (UInt8.ofNat n) := by unfold hdT; rfl
theorem hdT_rest (n : Nat) (E : ByteArray) : (hdT n E).extract 1 (hdT n E).size = E := by
  rw [hdT_size]
  apply ByteArray.ext
  simp [hdT]
  rw [List.take_of_length_le (by rw [size_list]; exact Nat.le_refl _)]
theorem hdT_cat (n : Nat) (E : ByteArray) : (⟨#[UInt8.ofNat n]⟩ : ByteArray) ++ E = hdT n E := by
  have := text_add [UInt8.ofNat n] E
  unfold hdT
  exact this
/-- Any text but none has a first byte. -/
theorem hdT_of (s : ByteArray) (h : 0 < s.size) : ∃ (n : Nat) (E : ByteArray), n < 256 ∧ s = hdT n E ∧ E.size + 1 = s.size := by
  have hl := size_list s
  cases hq : s.data.toList with
  | nil => rw [hq] at hl; simp at hl; omega
  | cons x r =>
    refine ⟨x.toNat, ⟨r.toArray⟩, x.toNat_lt, ?_, ?_⟩
    · unfold hdT
      rw [show (⟨r.toArray⟩ : ByteArray).data.toList = r from rfl, UInt8.ofNat_toNat, ← hq]
    · rw [txt_size, ← hl, hq, List.length_cons]
theorem hdT_index (n : Nat) (E : ByteArray) (hn : n < 256) (w : World) : (Instr.index 9 (.string (hdT n E)) (.int .i64 0)).run Tryz.prog w = .ok (.int .u8 (n : Int)) w := by
  have h := index_text (hdT n E) 0 (UInt8.ofNat n) (hdT_first n E) w
  rw [UInt8.toNat_ofNat', Nat.mod_eq_of_lt hn] at h
  exact h
theorem hdT_from (n : Nat) (E : ByteArray) (w : World) : (Instr.slice 9 (.string (hdT n E)) (some (.int .i64 1)) none none).run Tryz.prog w = .ok (.string E) w := by
  have h := slice_rest (hdT n E) 1 (by rw [hdT_size]; omega) w
  rw [hdT_rest] at h
  exact h
theorem hdT_some (n : Nat) (E : ByteArray) : (hdT n E).toList.isEmpty = false := by
  rw [ByteArray.toList_eq]
  unfold hdT
  rfl
/-- A ring's bytes. -/
def ringB (K : List (Nat × ByteArray)) : ByteArray := ⟨(ringL K).toArray⟩
theorem ringB_size {K : List (Nat × ByteArray)} (h : GoodK K) : (ringB K).size = 1 + K.length * 36 := by
  unfold ringB
  rw [txt_size, ringL, List.length_cons, rowsL_length fun x hx => (h.each x hx).2.2]
  omega
theorem ringB_le {K : List (Nat × ByteArray)} (h : GoodK K) : (ringB K).size ≤ 2305 := by rw [ringB_size h]; have := h.few; omega
/-- The header of a ring, closed by a root that has n shares. -/
def envOf (root : ByteArray) (n : Nat) (nonce : ByteArray) (K : List (Nat × ByteArray)) : ByteArray := sealT root 1 pathB n nonce (ringB K)
def hdOf (root : ByteArray) (n : Nat) (nonce : ByteArray) (K : List (Nat × ByteArray)) : ByteArray := hdT n (envOf root n nonce K)
theorem envOf_size {K : List (Nat × ByteArray)} (h : GoodK K) (root : ByteArray) (n : Nat) (nonce : ByteArray) (hn : nonce.size = 12) : (envOf root n nonce K).size = K.length * 36 + 50 := by
  unfold envOf
  rw [sealT_size _ _ _ _ _ _ hn, ringB_size h]
  omega
theorem top_one1 (s : ByteArray) : top (eps [(1, s)]) = 1 := by simp [eps, top]
end Go.Proofs.YtobhbppogeghnaaGreatDoor
end

section
namespace Go.Proofs.YtobhbppogeghnaaGreatDoor
open Go.RowKit
open Go.Maps (Keyed keyOf_int_mk int_keyed)

/-- A share that came, as the map holds it. -/
def shKV (n : Nat) (x : Nat × ByteArray) : Value × Value := (.int .i64 (x.1 : Int), .agg #[.int .i64 (n : Int), .string x.2])
/-- Shares that are alike: of one n, of one length, no place twice. -/
structure Alike (n m : Nat) (L : List (Nat × ByteArray)) : Prop where
  each : ∀ x ∈ L, 1 ≤ x.1 ∧ x.1 ≤ n ∧ x.2.size = m
  once : L.Pairwise (fun x y => x.1 ≠ y.1)
  n1 : 1 ≤ n
  n16 : n ≤ 16
  m1 : 1 ≤ m
  m64 : m ≤ 64
/-- Block g is a Gather over the map in block b, to which these came. -/
structure IsG (w : World) (g b n m : Nat) (L : List (Nat × ByteArray)) : Prop where
  blk : Blk w g 97 [.map (some b)]
  map : MapL w Tryz.prog 3 b (L.map (shKV n))
  alike : Alike n m L
section
variable {w w' : World} {g b n m : Nat} {L : List (Nat × ByteArray)}
theorem IsG.ext (h : IsG w g b n m L) (hx : Ext w w') : IsG w' g b n m L := ⟨h.blk.ext hx, h.map.ext hx, h.alike⟩
theorem IsG.alloc (h : IsG w g b n m L) (o : Obj) : IsG (w.alloc o) g b n m L := ⟨h.blk.alloc o, h.map.alloc o, h.alike⟩
theorem IsG.drew (h : IsG w g b n m L) : IsG w.drew g b n m L := ⟨h.blk, h.map, h.alike⟩
theorem IsG.cell (h : IsG w g b n m L) : w.cell? ⟨g, 0, none⟩ = some (.map (some b)) := h.blk.cell 0 _ rfl
theorem IsG.ne (h : IsG w g b n m L) : g ≠ b := by
  obtain ⟨es, c, hb⟩ := h.map.is
  intro e
  have := h.blk
  unfold Blk at this
  rw [e, hb] at this
  cases this
/-- Another Gather than that whose map turned. -/
theorem IsG.other {b' : Nat} (h : IsG w g b n m L) (hg : w.grownBy w' (some b')) (h1 : g ≠ b') (h2 : b ≠ b') : IsG w' g b n m L :=
  ⟨(hg.block g h.blk.lt (by simpa using h1)).trans h.blk, h.map.grown hg (by simpa using h2), h.alike⟩
theorem Alike.nil {n' m' : Nat} (a : 1 ≤ n') (b : n' ≤ 16) (c : 1 ≤ m') (d : m' ≤ 64) : Alike n' m' [] := ⟨by simp, .nil, a, b, c, d⟩
theorem IsG.turn {n' m' : Nat} (h : IsG w g b n m []) (a : 1 ≤ n') (b' : n' ≤ 16) (c : 1 ≤ m') (d : m' ≤ 64) : IsG w g b n' m' [] := ⟨h.blk, h.map, Alike.nil a b' c d⟩
theorem Alike.snoc (h : Alike n m L) {i : Nat} {s : ByteArray} (h1 : 1 ≤ i) (h2 : i ≤ n) (h3 : s.size = m) (h4 : ∀ x ∈ L, x.1 ≠ i) : Alike n m (L ++ [(i, s)]) := by
  refine ⟨fun x hx => ?_, ?_, h.n1, h.n16, h.m1, h.m64⟩
  · rcases List.mem_append.1 hx with hx | hx
    · exact h.each x hx
    · rw [List.mem_singleton] at hx; subst hx; exact ⟨h1, h2, h3⟩
  · rw [List.pairwise_append]
    exact ⟨h.once, List.pairwise_singleton _ _, fun x hx y hy => by rw [List.mem_singleton] at hy; subst hy; exact h4 x hx⟩
end
theorem keyI : Keyed Tryz.prog 3 := int_keyed Tryz.underlying3
theorem key_at (i : Nat) (h : i ≤ 1000000) : keyOf Tryz.prog 3 (.int .i64 (i : Int)) = some (.int .i64 (i : Int)) := keyOf_int_mk Tryz.underlying3 (WalkArith.wf_i64 (by omega))

theorem gthere_yes (w : World) (g b : Nat) (h : w.cell? ⟨g, 0, none⟩ = some (.map (some b))) :
    Calls Tryz.prog 91 #[.pointer (some ⟨g, 0, none⟩)] w fun e w' => e = .returned (.bool true) ∧ w = w' := by
  have hnn := run_neq_map_nil (P := Tryz.prog) w 95 3 129 (some b) Tryz.underlying95
  simp only [Option.isNone_some, Bool.not_false] at hnn
  go_enter Tryz.func91, Tryz.ntmps91
  go_wp2
  go_ret
  exact ⟨rfl, rfl⟩
theorem gNew_any (w : World) :
    Calls Tryz.prog 26 #[] w fun e w' => e = .returned (.pointer (some ⟨w.heap.size + 1, 0, none⟩)) ∧ IsG w' (w.heap.size + 1) w.heap.size 1 1 [] ∧ Ext w w' ∧ w'.heap.size = w.heap.size + 2 := by
  have hmm := @run_makeMap Tryz.prog
  go_enter Tryz.func26, Tryz.ntmps26
  go_wp2
  go_ret
  refine ⟨?_, ?_, ((Ext.refl w).alloc _).alloc _, by simp⟩
  · simp
  · have hb : Blk ((w.alloc (.map #[] 0)).alloc (.cells #[.map (some w.heap.size)] 97)) (w.heap.size + 1) 97 [.map (some w.heap.size)] := by
      have := Blk.new (w.alloc (.map #[] 0)) [.map (some w.heap.size)] 97
      simpa using this
    exact ⟨hb, (MapL.made w _ _).alloc _, ⟨by simp, .nil, by decide, by decide, by decide, by decide⟩⟩
/-- Whether both have one n, and one length. -/
def likeB (n m : Nat) (s t : ByteArray) : Bool := decide (n = m ∧ s.size = t.size)
theorem like_yes (n : Nat) (s t : ByteArray) (w : World) (h : s.size = t.size) :
    Calls Tryz.prog 124 #[.agg #[.int .i64 (n : Int), .string s], .agg #[.int .i64 (n : Int), .string t]] w fun e w' => e = .returned (.bool true) ∧ Ext w w' := by
  have h1 : ((s.size : Int) == (t.size : Int)) = true := by rw [h]; simp
  clear h
  go_enter Tryz.func124, Tryz.ntmps124
  go_wp2
  go_ret
  exact ⟨rfl, ((Ext.refl w).alloc _).alloc _⟩
end Go.Proofs.YtobhbppogeghnaaGreatDoor
end

section
namespace Go.Proofs.YtobhbppogeghnaaGreatDoor
open Go.RowKit

/-- These are some of the shares. -/
def Some_ (n : Nat) (L : List (Nat × ByteArray)) (left : List (Value × Value)) : Prop := ∀ p ∈ left, p ∈ L.map (shKV n)
/-- The step of a range over shares. -/
theorem wpList_next_share {n : Nat} {w : World} {ops : Array Oper} {rest : List Oper} {o : Oper} {a : Act} {Q : Exit → Act → World → Prop} (hg : o.guard = none) (it : Operand) (hop : o.op = Op.next it false) (b r : Nat) (L : List (Nat × ByteArray)) (left : List (Value × Value))
    (hsub : Some_ n L left) (hit : a.eval it = .pointer (some ⟨r, 0, none⟩)) (h : RangeL w Tryz.prog 3 b r (L.map (shKV n)) left)
    (hDone : left = [] → wpList Tryz.prog ops Q rest (a.put o.dst (.tuple #[.bool false])) w)
    (hMore : ∀ (i : Nat) (s : ByteArray) (left' : List (Value × Value)) (w' : World), (i, s) ∈ L → left.length = left'.length + 1 → Some_ n L left' → RangeL w' Tryz.prog 3 b r (L.map (shKV n)) left' → w.grownBy w' (some r) → w'.heap.size = w.heap.size →
      (Instr.entry (.pointer (some ⟨r, 0, none⟩))).run Tryz.prog w' = .ok (.tuple #[.int .i64 (i : Int), .agg #[.int .i64 (n : Int), .string s]]) w' → wpList Tryz.prog ops Q rest (a.put o.dst (.tuple #[.bool true, .int .i64 (i : Int), .agg #[.int .i64 (n : Int), .string s]])) w') :
    wpList Tryz.prog ops Q (o :: rest) a w :=
  wpList_next_L (α := {x : Nat × ByteArray // x ∈ L}) w hg it hop 3 (fun x => shKV n x.1) b r _ left (fun p hp => by obtain ⟨x, hx, e⟩ := List.mem_map.1 (hsub p hp); exact ⟨⟨x, hx⟩, e.symm⟩) hit h hDone
    (fun x left' w' hp hrg hgr hsz hen => hMore x.1.1 x.1.2 left' w' x.2 (by simpa using hp.length_eq) (fun p hq => hsub p (hp.mem_iff.2 (by simp [hq]))) hrg hgr hsz hen)

/-- How many there are of the secret, as far as is known. -/
def haveN (n : Nat) : List (Nat × ByteArray) → Nat | [] => 0 | _ :: _ => n
theorem haveN_some {n : Nat} {L : List (Nat × ByteArray)} (h : L ≠ []) : haveN n L = n := by
  cases L with
  | nil => exact absurd rfl h
  | cons a r => rfl
/-- What the loop has found so far. -/
def Had (n : Nat) (L : List (Nat × ByteArray)) (left : List (Value × Value)) (q : Int) : Prop := (left = L.map (shKV n) ∧ q = 0) ∨ (q = (n : Int) ∧ L ≠ [])
set_option maxRecDepth 100000 in
set_option maxHeartbeats 2000000 in
theorem have_any (w : World) (g b n m : Nat) (L : List (Nat × ByteArray)) (h : IsG w g b n m L) :
    Calls Tryz.prog 55 #[.pointer (some ⟨g, 0, none⟩)] w fun e w' => e = .returned (.tuple #[.int .i64 (L.length : Int), .int .i64 (haveN n L : Int)]) ∧ Ext w w' := by
  have hc := h.cell
  have hm := h.map
  have HB := Lib.hid h.blk
  have HM := Lib.hid hm
  clear h
  go_enter Tryz.func55, Tryz.ntmps55
  go_wp2_with (first
    | (go_at_call 91; refine (gthere_yes _ g b hc).mono ?_; rintro e w1 ⟨rfl, rfl⟩)
    | (at_range; refine wpList_range_L _ rfl _ 95 rfl 3 129 Tryz.underlying95 b (L.map (shKV n)) rfl HM.out ?_; intro w0 hrg hx0 hs0))
  go_frame
  go_loopw [3] (fun nv wr => ∃ left, RangeL wr Tryz.prog 3 b w.heap.size (L.map (shKV n)) left ∧ Some_ n L left ∧ (∃ q : Int, nv = .int .i64 q ∧ Had n L left q) ∧ Ext w wr) (fun _ wr => wr.rangeLeft b w.heap.size)
  case atStart => exact ⟨_, hrg, fun _ hp => hp, ⟨0, rfl, .inl ⟨rfl, rfl⟩⟩, hx0⟩
  case round =>
    obtain ⟨left, hrl, hsub, ⟨q, rfl, hnv⟩, hext⟩ := hrel
    have HR := Lib.hid hrl; have HS := Lib.hid hsub; have HE := Lib.hid hext; have HV := Lib.hid hnv
    have hc1 : wr.cell? ⟨g, 0, none⟩ = some (.map (some b)) := (HB.out.ext hext).cell 0 _ rfl
    have hln := fun ty => hrl.map.len Tryz.underlying95 ty
    rw [List.length_map] at hln
    clear hrl hsub hext hnv hm hrg hx0 hs0 hc
    go_wp2_with (at_next; refine wpList_next_share rfl _ rfl b w.heap.size L _ HS.out rfl HR.out ?_ ?_)
    · intro h0
      have hl0 : q = (haveN n L : Int) := by
        rcases HV.out with ⟨h1, h2⟩ | ⟨h1, h2⟩
        · rw [h0] at h1
          have : L = [] := by
            cases L with
            | nil => rfl
            | cons a r => cases h1
          rw [h2, this]; rfl
        · rw [h1, haveN_some h2]
      obtain rfl := hl0
      clear h0
      go_wp2
      go_ret2
      exact ⟨rfl, HE.out⟩
    · intro i s left' w1 hmem hlen hsub' hrg1 hg1 hs1 hen
      have HR1 := Lib.hid hrg1; have HS1 := Lib.hid hsub'; have HG1 := Lib.hid hg1; have HM1 := Lib.hid hmem; have HL1 := Lib.hid hlen
      clear hmem hlen hsub' hrg1 hg1 hs1
      go_wp2
      go_roundw
      case rel => exact ⟨_, HR1.out.alloc _, HS1.out, ⟨_, rfl, .inr ⟨rfl, fun e => by have := HM1.out; rw [e] at this; cases this⟩⟩, (HE.out.grown HG1.out (fun k hk => by cases hk; exact Nat.le_refl _)).alloc _⟩
      case measure => rw [(HR1.out.alloc _).left_eq, HR.out.left_eq, HL1.out]; omega
theorem drop_any (w : World) (g b n m : Nat) (L : List (Nat × ByteArray)) (h : IsG w g b n m L) :
    Calls Tryz.prog 52 #[.pointer (some ⟨g, 0, none⟩)] w fun e w' => e = .returned (.tuple #[]) ∧ IsG w' g b n m [] ∧ w.grownBy w' (some b) := by
  have hc := h.cell
  obtain ⟨w2, hrun, h2, ht⟩ := h.map.clear Tryz.underlying95
  have HG := Lib.hid h; have H2 := Lib.hid h2; have HT := Lib.hid ht
  clear h h2 ht
  go_enter Tryz.func52, Tryz.ntmps52
  go_wp2_with (go_at_call 91; refine (gthere_yes _ g b hc).mono ?_; rintro e w1 ⟨rfl, rfl⟩)
  go_end0
  have hg := HT.out.grown
  refine ⟨rfl, ⟨(hg.block g HG.out.blk.lt (by simpa using HG.out.ne)).trans HG.out.blk, H2.out, ⟨by simp, .nil, HG.out.alike.n1, HG.out.alike.n16, HG.out.alike.m1, HG.out.alike.m64⟩⟩, hg⟩
end Go.Proofs.YtobhbppogeghnaaGreatDoor
end

section
namespace Go.Proofs.YtobhbppogeghnaaGreatDoor
open Go.RowKit
theorem cells_uint8 : Tryz.prog.cellsOf 5 = 1 := by kernel_rfl
theorem clone_any (s : ByteArray) (h0 : 1 ≤ s.size) (h1 : s.size ≤ 1048576) (w : World) :
    Calls Tryz.prog 86 #[.string s] w fun e w' => e = .returned (.string s) ∧ Ext w w' := by
  have hmk := make_bytes s.size (by omega)
  obtain ⟨C, hC⟩ : ∃ C, madeCells #[Value.int .u8 0] s.size = C := ⟨_, rfl⟩
  rw [hC] at hmk
  have hr0 := Row.made w 5 s.size
  rw [hC] at hr0
  have hcp := fun ty => copy_all (w.alloc (.cells C 5)) ty w.heap.size s.size s _ 5 hr0 (by simp) rfl
  obtain ⟨Y, hY⟩ : ∃ Y, Y = (s.data.toList.map cellOf).toArray := ⟨_, rfl⟩
  rw [← hY] at hcp
  have hYs : Y.size = s.size := by rw [hY, List.size_toArray, List.length_map, size_list]
  have hgY : ((w.alloc (.cells C 5)).setRow w.heap.size Y).heap[w.heap.size]? = some (.cells Y 5 (0, 0)) := setRow_heap _ _ _ _ 5 (0, 0) hr0
  have hne : s.data.toList ≠ [] := fun e => by have := size_list s; rw [e] at this; simp at this; omega
  have hUS := Lib.run_unsafeString_row (P := Tryz.prog) ((w.alloc (.cells C 5)).setRow w.heap.size Y) 168 3 9 5 Tryz.underlying168 cells_uint8 w.heap.size Y.size (by unfold World.shape?; rw [hgY]) s.data.toList hne (by rw [size_list]; omega) (by rw [size_list]; omega)
      (fun j x hx => Lib.cells_of_row hgY Y.size j _ (by rw [List.take_of_length_le (by rw [Array.length_toList]; exact Nat.le_refl _), hY]; simp [hx, cellOf]))
  rw [size_list] at hUS
  have hx : Ext w ((w.alloc (.cells C 5)).setRow w.heap.size Y) := ((Ext.refl w).alloc _).setRow (Nat.le_refl _) _
  have hz : (s.size : Int) ≠ 0 := by omega
  have hz2 : ((s.size : Int) == 0) = false := by rw [beq_eq_false_iff_ne]; omega
  clear hY hr0 hgY hne hC
  go_enter Tryz.func86, Tryz.ntmps86
  go_wp2
  go_ret
  exact ⟨rfl, Lib.below_freeze hx (p := ⟨w.heap.size, 0, none⟩) (Nat.le_refl _) _⟩
theorem Clone_any (s : ByteArray) (h0 : 1 ≤ s.size) (h1 : s.size ≤ 1048576) (w : World) :
    Calls Tryz.prog 48 #[.string s] w fun e w' => e = .returned (.string s) ∧ Ext w w' := by
  go_enter Tryz.func48, Tryz.ntmps48
  go_wp2_with (go_at_call 86; refine (clone_any s h0 h1 _).mono ?_; rintro e w1 ⟨rfl, x1⟩)
  go_ret
  exact ⟨rfl, x1⟩
set_option maxRecDepth 100000 in
set_option maxHeartbeats 2000000 in
theorem share_yes (s : ByteArray) (i n : Nat) (h : ShareOf s i n) (w : World) :
    Calls Tryz.prog 89 #[.string s] w fun e w' => e = .returned (.tuple #[.int .i64 (i : Int), .int .i64 (n : Int), .string (s.extract 2 s.size), .int .i64 0]) ∧ Ext w w' := by
  obtain ⟨h3, h66, n1, n16, i1, hin, x, y, hx, hy, ex, ey⟩ := h
  have d1 := slice_two s (by omega)
  have a0 : ∀ u, (Instr.index 9 (.string s) (.int .i64 0)).run Tryz.prog u = .ok (.int .u8 (x.toNat : Int)) u := fun u => index_text s 0 x hx u
  have a1 : ∀ u, (Instr.index 9 (.string s) (.int .i64 1)).run Tryz.prog u = .ok (.int .u8 (y.toNat : Int)) u := fun u => index_text s 1 y hy u
  rw [ex] at a0
  rw [ey] at a1
  have hS : (s.extract 2 s.size).size = s.size - 2 := by simp
  have HC := Lib.hid (fun u => Clone_any (s.extract 2 s.size) (by omega) (by omega) u)
  generalize s.extract 2 s.size = S2 at *
  clear hx hy hS
  go_enter Tryz.func89, Tryz.ntmps89
  go_wp2
  go_quiet (fail)
  go_wp2_with (go_at_call 48; refine (HC.out _).mono ?_; rintro e w1 ⟨rfl, x1⟩)
  exact bodyPost_ret (v := .tuple #[.int .i64 (i : Int), .int .i64 (n : Int), .string S2, .int .i64 0]) (by simp [results, Tryz.results89, go_sem]) rfl ⟨rfl, ((Ext.refl w).drewN _).trans x1⟩
set_option maxRecDepth 100000 in
set_option maxHeartbeats 4000000 in
theorem share_no (s : ByteArray) (h : NoShare s) (w : World) :
    Calls Tryz.prog 89 #[.string s] w fun e w' => e = .returned (.tuple #[.int .i64 0, .int .i64 0, .string ⟨#[]⟩, .int .i64 7]) ∧ Ext w w' := by
  go_enter Tryz.func89, Tryz.ntmps89
  by_cases h3 : s.size < 3
  · have h3i : (s.size : Int) < 3 := by omega
    go_wp2
    exact bodyPost_ret (v := .tuple #[.int .i64 0, .int .i64 0, .string ⟨#[]⟩, .int .i64 7]) (by simp [results, Tryz.results89, go_sem]) rfl ⟨rfl, Ext.refl w⟩
  · by_cases h66 : 66 < s.size
    · have h66i : (66 : Int) < (s.size : Int) := by omega
      go_wp2
      exact bodyPost_ret (v := .tuple #[.int .i64 0, .int .i64 0, .string ⟨#[]⟩, .int .i64 7]) (by simp [results, Tryz.results89, go_sem]) rfl ⟨rfl, Ext.refl w⟩
    · have hl : 2 < s.data.toList.length := by rw [size_list]; omega
      obtain ⟨x, hx⟩ : ∃ x, s.data.toList[0]? = some x := ⟨_, List.getElem?_eq_getElem (by omega)⟩
      obtain ⟨y, hy⟩ : ∃ y, s.data.toList[1]? = some y := ⟨_, List.getElem?_eq_getElem (by omega)⟩
      have hno : ¬ (1 ≤ y.toNat ∧ y.toNat ≤ 16 ∧ 1 ≤ x.toNat ∧ x.toNat ≤ y.toNat) := fun q => h x.toNat y.toNat ⟨by omega, by omega, q.1, q.2.1, q.2.2.1, q.2.2.2, x, y, hx, hy, rfl, rfl⟩
      have a0 : ∀ u, (Instr.index 9 (.string s) (.int .i64 0)).run Tryz.prog u = .ok (.int .u8 (x.toNat : Int)) u := fun u => index_text s 0 x hx u
      have a1 : ∀ u, (Instr.index 9 (.string s) (.int .i64 1)).run Tryz.prog u = .ok (.int .u8 (y.toNat : Int)) u := fun u => index_text s 1 y hy u
      have hi256 := x.toNat_lt
      have hn256 := y.toNat_lt
      generalize x.toNat = i at *
      generalize y.toNat = n at *
      clear hx hy hl h
      go_wp2
      go_quiet (fail)
      have hcase : (n : Int) < 1 ∨ (¬ (n : Int) < 1 ∧ (16 : Int) < (n : Int)) ∨ (¬ (n : Int) < 1 ∧ ¬ (16 : Int) < (n : Int) ∧ (i : Int) < 1) ∨ (¬ (n : Int) < 1 ∧ ¬ (16 : Int) < (n : Int) ∧ ¬ (i : Int) < 1 ∧ (n : Int) < (i : Int)) := by omega
      clear hno
      rcases hcase with q1 | ⟨q1, q2⟩ | ⟨q1, q2, q3⟩ | ⟨q1, q2, q3, q4⟩
      all_goals
        go_wp2
        exact bodyPost_ret (v := .tuple #[.int .i64 0, .int .i64 0, .string ⟨#[]⟩, .int .i64 7]) (by simp [results, Tryz.results89, go_sem]) rfl ⟨rfl, (Ext.refl w).drewN _⟩
end Go.Proofs.YtobhbppogeghnaaGreatDoor
end

section
namespace Go.Proofs.YtobhbppogeghnaaGreatDoor
open Go.RowKit
open Go.Maps (Keyed)

theorem zero_share (w : World) : (zeroValue 129).run Tryz.prog w = .ok (.agg #[.int .i64 0, .string ⟨#[]⟩]) w := by kernel_rfl
/-- The Gather's cell behind a block more. -/
theorem cell_more {w w1 : World} {g b : Nat} (h : Blk w g 97 [.map (some b)]) (hx : Ext w w1) (o : Obj) : (w1.alloc o).cell? ⟨g, 0, none⟩ = some (.map (some b)) := ((h.ext hx).alloc o).cell 0 _ rfl
theorem extG_grown {a b' c : World} {row : Option Nat} (h : Ext a b') (k : b'.grownBy c row) : a.grownBy c row :=
  ⟨k.os.trans h.os, k.tape.trans h.tape, k.output.trans h.output, Nat.le_trans h.size k.size, fun i hi hne => (k.block i (Nat.lt_of_lt_of_le hi h.size) hne).trans (h.block i hi)⟩
set_option maxRecDepth 100000 in
set_option maxHeartbeats 4000000 in
theorem add_have (w : World) (g b n m : Nat) (L : List (Nat × ByteArray)) (s : ByteArray) (i : Nat) (h : IsG w g b n m L) (hs : ShareOf s i n) (hm : s.size - 2 = m) (t0 : ByteArray) (hin : (i, t0) ∈ L) :
    Calls Tryz.prog 90 #[.pointer (some ⟨g, 0, none⟩), .string s] w fun e w' => e = .returned (.int .i64 8) ∧ Ext w w' := by
  have hc := h.cell
  have HB := Lib.hid h.blk; have HM := Lib.hid h.map
  have HR := Lib.hid (fun u => share_yes s i n hs u)
  have hS : (s.extract 2 s.size).size = s.size - 2 := by simp
  have HLk := Lib.hid (fun (j : Nat) (t : ByteArray) (hx : (j, t) ∈ L) u => like_yes n (s.extract 2 s.size) t u (by have := (h.alike.each _ hx).2.2; simp only at this; omega))
  have hi16 : i ≤ 16 := by obtain ⟨_, _, _, q1, _, q2, _⟩ := hs; omega
  have HI := Lib.hid hin
  clear hin
  clear h hs hm hS
  generalize s.extract 2 s.size = S2 at *
  go_enter Tryz.func90, Tryz.ntmps90
  go_wp2_with (first
    | (go_at_call 91; refine (gthere_yes _ g b hc).mono ?_; rintro e w1 ⟨rfl, rfl⟩)
    | (go_at_call 89; refine (HR.out _).mono ?_; rintro e w1 ⟨rfl, x1⟩; have hc1 := cell_more HB.out x1 (.cells #[.int .i64 (n : Int), .string S2] 129))
    | (at_range; refine wpList_range_L _ rfl _ 95 rfl 3 129 Tryz.underlying95 b (L.map (shKV n)) rfl ((HM.out.ext x1).alloc _) ?_; intro w0 hrg hx0 hs0))
  go_frame
  have HX0 := Lib.hid ((x1.alloc (.cells #[.int .i64 (n : Int), .string S2] 129)).trans hx0)
  have HC0 := Lib.hid ((Blk.new w1 [.int .i64 (n : Int), .string S2] 129).ext hx0)
  have hC : w.heap.size ≤ w1.heap.size := x1.size
  have hCr : w1.heap.size < (w1.alloc (.cells #[.int .i64 (n : Int), .string S2] 129)).heap.size := by simp
  clear hx0 hs0 hc1 hc x1
  generalize (w1.alloc (.cells #[.int .i64 (n : Int), .string S2] 129)).heap.size = r at *
  generalize w1.heap.size = C at *
  go_loopw [36] (fun _ wr => ∃ left, RangeL wr Tryz.prog 3 b r (L.map (shKV n)) left ∧ Some_ n L left ∧ Blk wr C 129 [.int .i64 (n : Int), .string S2] ∧ Ext w wr) (fun _ wr => wr.rangeLeft b r)
  case atStart => exact ⟨_, hrg, fun _ hp => hp, HC0.out, HX0.out⟩
  case round =>
    obtain ⟨left, hrl, hsub, hbc, hext⟩ := hrel
    have HRl := Lib.hid hrl; have HS := Lib.hid hsub; have HE := Lib.hid hext; have HBC := Lib.hid hbc
    have hcg := (HB.out.ext hext).cell 0 _ rfl
    have hcg2 := fun o => ((HB.out.ext hext).alloc o).cell 0 _ rfl
    have hlk := hrl.map.look keyI Tryz.underlying95 true (v := .agg #[.int .i64 (n : Int), .string t0]) (key_at i (by omega)) (List.mem_map.2 ⟨_, HI.out, rfl⟩)
    simp only [if_true] at hlk
    clear hrl hsub hext hbc hrg
    go_wp2_with (at_next; refine wpList_next_share rfl _ rfl b r L _ HS.out rfl HRl.out ?_ ?_)
    · intro h0
      clear h0
      go_wp2
      go_ret
      exact ⟨rfl, HE.out.alloc _⟩
    · intro j t left' w2 hmem hlen hsub' hrg1 hg1 hs1 hen
      have HK := Lib.hid (fun u => HLk.out j t hmem u)
      have HB2 : Hid (Blk w2 C 129 [.int .i64 (n : Int), .string S2]) := Lib.hid ((hg1.block C HBC.out.lt (by simp; omega)).trans HBC.out)
      have k0 := HB2.out.cell 0 _ rfl
      have k1 := HB2.out.cell 1 _ rfl
      have k2 := (HB2.out.alloc (.cells #[.int .i64 (n : Int), .string t] 129)).cell 0 _ rfl
      have k3 := (HB2.out.alloc (.cells #[.int .i64 (n : Int), .string t] 129)).cell 1 _ rfl
      have HX2 := Lib.hid ((HE.out.grown hg1 (fun k hk => by cases hk; omega)).alloc (.cells #[.int .i64 (n : Int), .string t] 129))
      have HR1 := Lib.hid hrg1; have HS1 := Lib.hid hsub'; have HL1 := Lib.hid hlen
      clear hmem hlen hsub' hrg1 hg1 hs1 hcg hcg2 hlk
      go_wp2_with (go_at_call 124; refine (HK.out _).mono ?_; rintro e w3 ⟨rfl, x3⟩)
      go_roundw
      case rel => exact ⟨_, (HR1.out.alloc _).ext x3, HS1.out, (HB2.out.alloc _).ext x3, HX2.out.trans x3⟩
      case measure => rw [((HR1.out.alloc _).ext x3).left_eq, HRl.out.left_eq, HL1.out]; omega
set_option maxRecDepth 100000 in
set_option maxHeartbeats 4000000 in
theorem add_ok (w : World) (g b n m : Nat) (L : List (Nat × ByteArray)) (s : ByteArray) (i : Nat) (h : IsG w g b n m L) (hs : ShareOf s i n) (hm : s.size - 2 = m) (hnin : ∀ x ∈ L, x.1 ≠ i) :
    Calls Tryz.prog 90 #[.pointer (some ⟨g, 0, none⟩), .string s] w fun e w' => e = .returned (.int .i64 0) ∧ IsG w' g b n m (L ++ [(i, s.extract 2 s.size)]) ∧ w.grownBy w' (some b) := by
  have hc := h.cell
  have HB := Lib.hid h.blk; have HM := Lib.hid h.map
  have HR := Lib.hid (fun u => share_yes s i n hs u)
  have hS : (s.extract 2 s.size).size = s.size - 2 := by simp
  have HLk := Lib.hid (fun (j : Nat) (t : ByteArray) (hx : (j, t) ∈ L) u => like_yes n (s.extract 2 s.size) t u (by have := (h.alike.each _ hx).2.2; simp only at this; omega))
  have hi16 : i ≤ 16 := by obtain ⟨_, _, _, q1, _, q2, _⟩ := hs; omega
  have HNK : Hid (∀ p ∈ L.map (shKV n), p.1 ≠ .int .i64 (i : Int)) := Lib.hid (fun p hp => by
    obtain ⟨x, hx, rfl⟩ := List.mem_map.1 hp
    intro e
    have e2 : (x.1 : Int) = (i : Int) := by injection e
    exact hnin x hx (by omega))
  have HA : Hid (Alike n m (L ++ [(i, s.extract 2 s.size)])) := Lib.hid (by
    obtain ⟨_, _, _, _, q1, q2, _⟩ := hs
    exact h.alike.snoc q1 q2 (by omega) hnin)
  have HNE := Lib.hid h.ne
  clear hnin
  clear h hs hm hS
  generalize s.extract 2 s.size = S2 at *
  go_enter Tryz.func90, Tryz.ntmps90
  go_wp2_with (first
    | (go_at_call 91; refine (gthere_yes _ g b hc).mono ?_; rintro e w1 ⟨rfl, rfl⟩)
    | (go_at_call 89; refine (HR.out _).mono ?_; rintro e w1 ⟨rfl, x1⟩; have hc1 := cell_more HB.out x1 (.cells #[.int .i64 (n : Int), .string S2] 129))
    | (at_range; refine wpList_range_L _ rfl _ 95 rfl 3 129 Tryz.underlying95 b (L.map (shKV n)) rfl ((HM.out.ext x1).alloc _) ?_; intro w0 hrg hx0 hs0))
  go_frame
  have HX0 := Lib.hid ((x1.alloc (.cells #[.int .i64 (n : Int), .string S2] 129)).trans hx0)
  have HC0 := Lib.hid ((Blk.new w1 [.int .i64 (n : Int), .string S2] 129).ext hx0)
  have hC : w.heap.size ≤ w1.heap.size := x1.size
  have hCr : w1.heap.size < (w1.alloc (.cells #[.int .i64 (n : Int), .string S2] 129)).heap.size := by simp
  clear hx0 hs0 hc1 hc x1
  generalize (w1.alloc (.cells #[.int .i64 (n : Int), .string S2] 129)).heap.size = r at *
  generalize w1.heap.size = C at *
  go_loopw [36] (fun _ wr => ∃ left, RangeL wr Tryz.prog 3 b r (L.map (shKV n)) left ∧ Some_ n L left ∧ Blk wr C 129 [.int .i64 (n : Int), .string S2] ∧ Ext w wr) (fun _ wr => wr.rangeLeft b r)
  case atStart => exact ⟨_, hrg, fun _ hp => hp, HC0.out, HX0.out⟩
  case round =>
    obtain ⟨left, hrl, hsub, hbc, hext⟩ := hrel
    have HRl := Lib.hid hrl; have HS := Lib.hid hsub; have HE := Lib.hid hext; have HBC := Lib.hid hbc
    have hcg := (HB.out.ext hext).cell 0 _ rfl
    have hcg2 := fun o => ((HB.out.ext hext).alloc o).cell 0 _ rfl
    have hlk := hrl.map.look_none keyI Tryz.underlying95 true (zero_share _) (key_at i (by omega)) HNK.out
    simp only [if_true] at hlk
    have k0 := (hbc.alloc (.cells #[.int .i64 0, .string ⟨#[]⟩] 129)).cell 0 _ rfl
    have k1 := (hbc.alloc (.cells #[.int .i64 0, .string ⟨#[]⟩] 129)).cell 1 _ rfl
    clear hrl hsub hext hbc hrg
    go_wp2_with (at_next; refine wpList_next_share rfl _ rfl b r L _ HS.out rfl HRl.out ?_ ?_)
    · intro h0
      clear h0
      have HMr : Hid (MapL (wr.alloc (.cells #[.int .i64 0, .string ⟨#[]⟩] 129)).drew Tryz.prog 3 b (L.map (shKV n))) := Lib.hid (HRl.out.map.alloc _).drew
      have HXr : Hid (Ext w (wr.alloc (.cells #[.int .i64 0, .string ⟨#[]⟩] 129)).drew) := Lib.hid (HE.out.alloc _).drew
      obtain ⟨w4, hrun, hm4, ht4⟩ := HMr.out.put (val := .agg #[.int .i64 (n : Int), .string S2]) keyI Tryz.underlying95 (key_at i (by omega)) HNK.out
      have HM4 := Lib.hid hm4; have HT4 := Lib.hid ht4
      clear hm4 ht4
      go_wp2
      go_region
      all_goals
        go_wp2
        go_ret
        have hg4 := HT4.out.grown
        have hlt := HB.out.lt
        have hbw : Blk w4 g 97 [.map (some b)] := (hg4.block g (Nat.lt_of_lt_of_le hlt HXr.out.size) (by simpa using HNE.out)).trans (HB.out.ext HXr.out)
        exact ⟨rfl, ⟨hbw, by rw [List.map_append]; exact HM4.out, HA.out⟩, extG_grown HXr.out hg4⟩
    · intro j t left' w2 hmem hlen hsub' hrg1 hg1 hs1 hen
      have HK := Lib.hid (fun u => HLk.out j t hmem u)
      have HB2 : Hid (Blk w2 C 129 [.int .i64 (n : Int), .string S2]) := Lib.hid ((hg1.block C HBC.out.lt (by simp; omega)).trans HBC.out)
      have k0 := HB2.out.cell 0 _ rfl
      have k1 := HB2.out.cell 1 _ rfl
      have k2 := (HB2.out.alloc (.cells #[.int .i64 (n : Int), .string t] 129)).cell 0 _ rfl
      have k3 := (HB2.out.alloc (.cells #[.int .i64 (n : Int), .string t] 129)).cell 1 _ rfl
      have HX2 := Lib.hid ((HE.out.grown hg1 (fun k hk => by cases hk; omega)).alloc (.cells #[.int .i64 (n : Int), .string t] 129))
      have HR1 := Lib.hid hrg1; have HS1 := Lib.hid hsub'; have HL1 := Lib.hid hlen
      clear hmem hlen hsub' hrg1 hg1 hs1 hcg hcg2 hlk k0 k1
      go_wp2_with (go_at_call 124; refine (HK.out _).mono ?_; rintro e w3 ⟨rfl, x3⟩)
      go_roundw
      case rel => exact ⟨_, (HR1.out.alloc _).ext x3, HS1.out, (HB2.out.alloc _).ext x3, HX2.out.trans x3⟩
      case measure => rw [((HR1.out.alloc _).ext x3).left_eq, HRl.out.left_eq, HL1.out]; omega
end Go.Proofs.YtobhbppogeghnaaGreatDoor
end

section
namespace Go.Proofs.YtobhbppogeghnaaGreatDoor
open Go.RowKit

theorem two_text (x y : Int) (a b : UInt8) (hx : x = (a.toNat : Int)) (hy : y = (b.toNat : Int)) (t : TypeId) (u : World) : (convert 43 9 (.slice (some ⟨u.heap.size, 0, none⟩) 2 2)).run Tryz.prog (u.alloc (.cells #[.int .u8 x, .int .u8 y] t)) = .ok (.string ⟨#[a, b]⟩) (u.alloc (.cells #[.int .u8 x, .int .u8 y] t)) := by
  subst hx hy
  have hr : Row (u.alloc (.cells #[.int .u8 (a.toNat : Int), .int .u8 (b.toNat : Int)] t)) u.heap.size t [a, b] := heap_alloc_new u _
  exact hr.text (P := Tryz.prog) 43 5 9 Tryz.underlying43 Tryz.underlying5 Tryz.underlying9 2 2 rfl
theorem two_textD (x y : Int) (a b : UInt8) (hx : x = (a.toNat : Int)) (hy : y = (b.toNat : Int)) (t : TypeId) (u : World) : (convert 43 9 (.slice (some ⟨u.heap.size, 0, none⟩) 2 2)).run Tryz.prog (u.alloc (.cells #[.int .u8 x, .int .u8 y] t)).drew = .ok (.string ⟨#[a, b]⟩) (u.alloc (.cells #[.int .u8 x, .int .u8 y] t)).drew := by
  subst hx hy
  have hr : Row (u.alloc (.cells #[.int .u8 (a.toNat : Int), .int .u8 (b.toNat : Int)] t)) u.heap.size t [a, b] := heap_alloc_new u _
  exact hr.drew.text (P := Tryz.prog) 43 5 9 Tryz.underlying43 Tryz.underlying5 Tryz.underlying9 2 2 rfl
end Go.Proofs.YtobhbppogeghnaaGreatDoor
end
