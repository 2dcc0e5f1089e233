/- Contracts: how many shares are there; all dropped: by the program. -/
import Derived.Test.YtadincbeimfakaaGather
namespace Go.Proofs.Ytadincbeimfakaa
open Go.RowKit

/-- These are some of the shares. -/
def Some_ (n : Nat) (L : List (Nat × ByteArray)) (left : List (Value × Value)) : Prop := ∀ p ∈ left, p ∈ L.map (shKV n)
/-- The step of a range over shares. -/
theorem wpList_next_share {n : Nat} {w : World} {ops : Array Oper} {rest : List Oper} {o : Oper} {a : Act} {Q : Exit → Act → World → Prop} (hg : o.guard = none) (it : Operand) (hop : o.op = Op.next it false) (b r : Nat) (L : List (Nat × ByteArray)) (left : List (Value × Value))
    (hsub : Some_ n L left) (hit : a.eval it = .pointer (some ⟨r, 0, none⟩)) (h : RangeL w Try.prog 3 b r (L.map (shKV n)) left)
    (hDone : left = [] → wpList Try.prog ops Q rest (a.put o.dst (.tuple #[.bool false])) w)
    (hMore : ∀ (i : Nat) (s : ByteArray) (left' : List (Value × Value)) (w' : World), (i, s) ∈ L → left.length = left'.length + 1 → Some_ n L left' → RangeL w' Try.prog 3 b r (L.map (shKV n)) left' → w.grownBy w' (some r) → w'.heap.size = w.heap.size →
      (Instr.entry (.pointer (some ⟨r, 0, none⟩))).run Try.prog w' = .ok (.tuple #[.int .i64 (i : Int), .agg #[.int .i64 (n : Int), .string s]]) w' → wpList Try.prog ops Q rest (a.put o.dst (.tuple #[.bool true, .int .i64 (i : Int), .agg #[.int .i64 (n : Int), .string s]])) w') :
    wpList Try.prog ops Q (o :: rest) a w :=
  wpList_next_L (α := {x : Nat × ByteArray // x ∈ L}) w hg it hop 3 (fun x => shKV n x.1) b r _ left (fun p hp => by obtain ⟨x, hx, e⟩ := List.mem_map.1 (hsub p hp); exact ⟨⟨x, hx⟩, e.symm⟩) hit h hDone
    (fun x left' w' hp hrg hgr hsz hen => hMore x.1.1 x.1.2 left' w' x.2 (by simpa using hp.length_eq) (fun p hq => hsub p (hp.mem_iff.2 (by simp [hq]))) hrg hgr hsz hen)

/-- How many there are of the secret, as far as is known. -/
def haveN (n : Nat) : List (Nat × ByteArray) → Nat | [] => 0 | _ :: _ => n
theorem haveN_some {n : Nat} {L : List (Nat × ByteArray)} (h : L ≠ []) : haveN n L = n := by
  cases L with
  | nil => exact absurd rfl h
  | cons a r => rfl
/-- What the loop has found so far. -/
def Had (n : Nat) (L : List (Nat × ByteArray)) (left : List (Value × Value)) (q : Int) : Prop := (left = L.map (shKV n) ∧ q = 0) ∨ (q = (n : Int) ∧ L ≠ [])
theorem have_nil (w : World) :
    Calls Try.prog 17 #[.pointer none] w fun e w' => e = .returned (.tuple #[.int .i64 0, .int .i64 0]) ∧ w = w' := by
  go_enter Try.func17, Try.ntmps17
  go_wp2_with (go_at_call 25; refine (there_no _).mono ?_; rintro e w1 ⟨rfl, rfl⟩)
  go_ret2
  exact ⟨rfl, rfl⟩
set_option maxRecDepth 100000 in
set_option maxHeartbeats 2000000 in
theorem have_any (w : World) (g b n m : Nat) (L : List (Nat × ByteArray)) (h : IsG w g b n m L) :
    Calls Try.prog 17 #[.pointer (some ⟨g, 0, none⟩)] w fun e w' => e = .returned (.tuple #[.int .i64 (L.length : Int), .int .i64 (haveN n L : Int)]) ∧ Ext w w' := by
  have hc := h.cell
  have hm := h.map
  have HB := Lib.hid h.blk
  have HM := Lib.hid hm
  clear h
  go_enter Try.func17, Try.ntmps17
  go_wp2_with (first
    | (go_at_call 25; refine (there_yes _ g b hc).mono ?_; rintro e w1 ⟨rfl, rfl⟩)
    | (at_range; refine wpList_range_L _ rfl _ 58 rfl 3 62 Try.underlying58 b (L.map (shKV n)) rfl HM.out ?_; intro w0 hrg hx0 hs0))
  go_frame
  go_loopw [3] (fun nv wr => ∃ left, RangeL wr Try.prog 3 b w.heap.size (L.map (shKV n)) left ∧ Some_ n L left ∧ (∃ q : Int, nv = .int .i64 q ∧ Had n L left q) ∧ Ext w wr) (fun _ wr => wr.rangeLeft b w.heap.size)
  case atStart => exact ⟨_, hrg, fun _ hp => hp, ⟨0, rfl, .inl ⟨rfl, rfl⟩⟩, hx0⟩
  case round =>
    obtain ⟨left, hrl, hsub, ⟨q, rfl, hnv⟩, hext⟩ := hrel
    have HR := Lib.hid hrl; have HS := Lib.hid hsub; have HE := Lib.hid hext; have HV := Lib.hid hnv
    have hc1 : wr.cell? ⟨g, 0, none⟩ = some (.map (some b)) := (HB.out.ext hext).cell 0 _ rfl
    have hln := fun ty => hrl.map.len Try.underlying58 ty
    rw [List.length_map] at hln
    clear hrl hsub hext hnv hm hrg hx0 hs0 hc
    go_wp2_with (at_next; refine wpList_next_share rfl _ rfl b w.heap.size L _ HS.out rfl HR.out ?_ ?_)
    · intro h0
      have hl0 : q = (haveN n L : Int) := by
        rcases HV.out with ⟨h1, h2⟩ | ⟨h1, h2⟩
        · rw [h0] at h1
          have : L = [] := by
            cases L with
            | nil => rfl
            | cons a r => cases h1
          rw [h2, this]; rfl
        · rw [h1, haveN_some h2]
      obtain rfl := hl0
      clear h0
      go_wp2
      go_ret2
      exact ⟨rfl, HE.out⟩
    · intro i s left' w1 hmem hlen hsub' hrg1 hg1 hs1 hen
      have HR1 := Lib.hid hrg1; have HS1 := Lib.hid hsub'; have HG1 := Lib.hid hg1; have HM1 := Lib.hid hmem; have HL1 := Lib.hid hlen
      clear hmem hlen hsub' hrg1 hg1 hs1
      go_wp2
      go_roundw
      case rel => exact ⟨_, HR1.out.alloc _, HS1.out, ⟨_, rfl, .inr ⟨rfl, fun e => by have := HM1.out; rw [e] at this; cases this⟩⟩, (HE.out.grown HG1.out (fun k hk => by cases hk; exact Nat.le_refl _)).alloc _⟩
      case measure => rw [(HR1.out.alloc _).left_eq, HR.out.left_eq, HL1.out]; omega
theorem drop_nil (w : World) :
    Calls Try.prog 20 #[.pointer none] w fun e w' => e = .returned (.tuple #[]) ∧ w = w' := by
  go_enter Try.func20, Try.ntmps20
  go_wp2_with (go_at_call 25; refine (there_no _).mono ?_; rintro e w1 ⟨rfl, rfl⟩)
  go_end0
  exact ⟨rfl, rfl⟩
theorem drop_any (w : World) (g b n m : Nat) (L : List (Nat × ByteArray)) (h : IsG w g b n m L) :
    Calls Try.prog 20 #[.pointer (some ⟨g, 0, none⟩)] w fun e w' => e = .returned (.tuple #[]) ∧ IsG w' g b n m [] ∧ w.grownBy w' (some b) := by
  have hc := h.cell
  obtain ⟨w2, hrun, h2, ht⟩ := h.map.clear Try.underlying58
  have HG := Lib.hid h; have H2 := Lib.hid h2; have HT := Lib.hid ht
  clear h h2 ht
  go_enter Try.func20, Try.ntmps20
  go_wp2_with (go_at_call 25; refine (there_yes _ g b hc).mono ?_; rintro e w1 ⟨rfl, rfl⟩)
  go_end0
  have hg := HT.out.grown
  refine ⟨rfl, ⟨(hg.block g HG.out.blk.lt (by simpa using HG.out.ne)).trans HG.out.blk, H2.out, ⟨by simp, .nil, HG.out.alike.n1, HG.out.alike.n16, HG.out.alike.m1, HG.out.alike.m64⟩⟩, hg⟩
end Go.Proofs.Ytadincbeimfakaa
