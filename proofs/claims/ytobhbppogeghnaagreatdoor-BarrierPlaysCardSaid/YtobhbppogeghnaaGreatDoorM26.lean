/- Contracts: a barrier, by the program: what it is; in which state. Contracts: keys by epochs: Read of any rows: a ring where epochs rise from 1 on, else nothing: by the program. Contracts: keys by epochs: Read of any bytes: by the program. Contracts: a barrier's header, by the program: made, told from other bytes, opened. Contracts: the shares of a secret, by the program. -/
import Derived.Test.YtobhbppogeghnaaGreatDoorM24
import Derived.Test.YtobhbppogeghnaaGreatDoorM25
import Derived.Test.YtobhbppogeghnaaGreatDoorM04
import Derived.Deep.DeepCutAuto
import Derived.Outline
import Derived.Test.YtobhbppogeghnaaGreatDoorM05
import Derived.Test.YtobhbppogeghnaaGreatDoorM22
section
namespace Go.Proofs.YtobhbppogeghnaaGreatDoor
open Go.RowKit

/-- Neither a barrier nor a map. -/
def NotB (o : Obj) : Prop := (∀ cur fr, o ≠ .cells cur 73 fr) ∧ (∀ es c, o ≠ .map es c)
/-- Only barriers and maps were written, none below B. -/
structure TurnP (B : Nat) (w w' : World) : Prop where
  below : Below B w w'
  size : w.heap.size ≤ w'.heap.size
  keep : ∀ (g : Nat) (o : Obj), w.heap[g]? = some o → NotB o → w'.heap[g]? = some o
section
variable {B : Nat} {v w w' w'' : World}
theorem TurnP.trans (h : TurnP B w w') (k : TurnP B w' w'') : TurnP B w w'' := ⟨h.below.trans k.below, Nat.le_trans h.size k.size, fun g o hg hn => k.keep g o (h.keep g o hg hn) hn⟩
theorem Ext.turnP (h : Ext w w') (hB : B ≤ w.heap.size) : TurnP B w w' := ⟨Below.mono h hB, h.size, fun g _ hg _ => (h.block g (heap_lt hg)).trans hg⟩
theorem TurnP.blk {b : Nat} {T : TypeId} {cs : List Value} (t : TurnP B w w') (h : Blk w b T cs) (hT : T ≠ 73) : Blk w' b T cs := t.keep _ _ h ⟨fun _ _ e => hT (by cases e; rfl), fun _ _ e => by cases e⟩
theorem Ext.turnedB (hv : Ext v w) (t : TurnP v.heap.size w w') : Ext v w' := hv.trans3 t.below
theorem TurnP.map {m : Nat} (hBw : B ≤ w.heap.size) (hg : w.grownBy w' (some m)) (hm : ∃ es c, w.heap[m]? = some (.map es c)) (hl : B ≤ m) : TurnP B w w' := by
  obtain ⟨es, c, hm⟩ := hm
  refine ⟨Below.grown (Below.refl _ _) hg hBw (fun k hk => by cases hk; exact hl), hg.size, fun g o ho hn => ?_⟩
  by_cases e : g = m
  · subst e
    rw [hm] at ho
    cases ho
    exact absurd rfl (hn.2 es c)
  · exact (hg.block g (heap_lt ho) (fun q => by cases q; exact e rfl)).trans ho
theorem TurnP.set {b i : Nat} {cs : List Value} (h : Blk w b 73 cs) (hl : B ≤ b) (u : Value) : TurnP B w (w.setCell ⟨b, i, none⟩ u) := by
  refine ⟨(Below.refl _ _).setCell hl u, by simp [World.setCell], fun g o ho hn => ?_⟩
  by_cases e : g = b
  · subst e
    rw [h] at ho
    cases ho
    exact absurd rfl (hn.1 _ _)
  · exact (Below.heap_setCell _ _ _ _ e).trans ho
end
/-- What a barrier is, said plainly. -/
inductive BS where
  | none : BS
  | closed (n : Nat) (E : ByteArray) (L : List (Nat × ByteArray)) : BS
  | opened (n : Nat) (E root : ByteArray) (K : List (Nat × ByteArray)) : BS
/-- Block b is a barrier; neither it nor its shares' map lie below B. -/
structure IsBar (w : World) (B b g bm : Nat) (h : ByteArray) (rt rg : Option Addr) (n m : Nat) (L : List (Nat × ByteArray)) : Prop where
  blk : Blk w b 73 [.pointer (some ⟨g, 0, none⟩), .string h, .pointer rt, .pointer rg]
  gat : IsG w g bm n m L
  low : B ≤ b
  lowm : B ≤ bm
/-- An open one's rings. -/
structure Rings2 (w : World) (B bm r1 k1 r2 k2 : Nat) (root : ByteArray) (K : List (Nat × ByteArray)) : Prop where
  one : IsK w r1 k1 [(1, root)]
  two : IsK w r2 k2 K
  low : B ≤ k2
  a1 : k1 ≠ k2
  a2 : bm ≠ k2
/-- Block b is a barrier in this state. -/
def IsP (w : World) (B b : Nat) : BS → Prop
  | .none => ∃ g bm, IsBar w B b g bm ⟨#[]⟩ none none 1 1 []
  | .closed n E L => ∃ g bm, IsBar w B b g bm (hdT n E) none none n 32 L
  | .opened n E root K => ∃ g bm r1 k1 r2 k2, IsBar w B b g bm (hdT n E) (some ⟨r1, 0, none⟩) (some ⟨r2, 0, none⟩) n 32 [] ∧ Rings2 w B bm r1 k1 r2 k2 root K
section
variable {B b g bm n m : Nat} {h : ByteArray} {rt rg : Option Addr} {L K : List (Nat × ByteArray)} {w w' : World}
theorem IsBar.ext (i : IsBar w B b g bm h rt rg n m L) (x : Ext w w') : IsBar w' B b g bm h rt rg n m L := ⟨i.blk.ext x, i.gat.ext x, i.low, i.lowm⟩
theorem Rings2.ext {r1 k1 r2 k2 : Nat} {root : ByteArray} (i : Rings2 w B bm r1 k1 r2 k2 root K) (x : Ext w w') : Rings2 w' B bm r1 k1 r2 k2 root K := ⟨i.one.ext x, i.two.ext x, i.low, i.a1, i.a2⟩
theorem IsP.ext {S : BS} (i : IsP w B b S) (x : Ext w w') : IsP w' B b S := by
  cases S with
  | none => obtain ⟨g, bm, i⟩ := i; exact ⟨g, bm, i.ext x⟩
  | closed n E L => obtain ⟨g, bm, i⟩ := i; exact ⟨g, bm, i.ext x⟩
  | opened n E root K => obtain ⟨g, bm, r1, k1, r2, k2, i, j⟩ := i; exact ⟨g, bm, r1, k1, r2, k2, i.ext x, j.ext x⟩
theorem IsBar.low_size (i : IsBar w B b g bm h rt rg n m L) : B ≤ w.heap.size := Nat.le_trans i.low (Nat.le_of_lt i.blk.lt)
theorem IsP.low_size {S : BS} (i : IsP w B b S) : B ≤ w.heap.size := by
  cases S with
  | none => obtain ⟨g, bm, i⟩ := i; exact i.low_size
  | closed n E L => obtain ⟨g, bm, i⟩ := i; exact i.low_size
  | opened n E root K => obtain ⟨g, bm, r1, k1, r2, k2, i, j⟩ := i; exact i.low_size
theorem IsBar.ne_m (i : IsBar w B b g bm h rt rg n m L) : bm ≠ b := fun e => by
  have h1 := i.blk
  obtain ⟨es, c, h2⟩ := i.gat.map.is
  rw [e, h1] at h2
  cases h2
end
/-- Its number. -/
def stN : BS → Nat
  | .none => 0
  | .closed .. => 1
  | .opened .. => 2
theorem bthere_any (w : World) (b : Nat) (a : Addr) (h : w.cell? ⟨b, 0, none⟩ = some (.pointer (some a))) :
    Calls Tryz.prog 46 #[.pointer (some ⟨b, 0, none⟩)] w fun e w' => e = .returned (.bool true) ∧ w = w' := by
  go_enter Tryz.func46, Tryz.ntmps46
  go_wp2
  go_ret
  exact ⟨rfl, rfl⟩
theorem bstate_none (w : World) (b : Nat) (a : Addr) (rt rg : Option Addr) (h : Blk w b 73 [.pointer (some a), .string ⟨#[]⟩, .pointer rt, .pointer rg]) :
    Calls Tryz.prog 24 #[.pointer (some ⟨b, 0, none⟩)] w fun e w' => e = .returned (.int .u8 0) ∧ w = w' := by
  have c0 := h.cell 0 _ rfl
  have c1 := h.cell 1 _ rfl
  have HT := Lib.hid (bthere_any w b a c0)
  clear h
  go_enter Tryz.func24, Tryz.ntmps24
  go_wp2_with (go_at_call 46; refine (HT.out).mono ?_; rintro e w1 ⟨rfl, rfl⟩)
  go_ret
  exact ⟨rfl, rfl⟩
theorem bstate_closed (w : World) (b : Nat) (a : Addr) (h : ByteArray) (he : h.toList.isEmpty = false) (hB : Blk w b 73 [.pointer (some a), .string h, .pointer none, .pointer none]) :
    Calls Tryz.prog 24 #[.pointer (some ⟨b, 0, none⟩)] w fun e w' => e = .returned (.int .u8 1) ∧ w = w' := by
  have c0 := hB.cell 0 _ rfl
  have c1 := hB.cell 1 _ rfl
  have c3 := hB.cell 3 _ rfl
  have HT := Lib.hid (bthere_any w b a c0)
  clear hB
  go_enter Tryz.func24, Tryz.ntmps24
  go_wp2_with (go_at_call 46; refine (HT.out).mono ?_; rintro e w1 ⟨rfl, rfl⟩)
  go_ret
  exact ⟨rfl, rfl⟩
theorem bstate_open (w : World) (b : Nat) (a q : Addr) (h : ByteArray) (rt : Option Addr) (he : h.toList.isEmpty = false) (hB : Blk w b 73 [.pointer (some a), .string h, .pointer rt, .pointer (some q)]) :
    Calls Tryz.prog 24 #[.pointer (some ⟨b, 0, none⟩)] w fun e w' => e = .returned (.int .u8 2) ∧ w = w' := by
  have c0 := hB.cell 0 _ rfl
  have c1 := hB.cell 1 _ rfl
  have c3 := hB.cell 3 _ rfl
  have HT := Lib.hid (bthere_any w b a c0)
  clear hB
  go_enter Tryz.func24, Tryz.ntmps24
  go_wp2_with (go_at_call 46; refine (HT.out).mono ?_; rintro e w1 ⟨rfl, rfl⟩)
  go_ret
  exact ⟨rfl, rfl⟩
theorem bstate_any (w : World) (B b : Nat) (S : BS) (h : IsP w B b S) :
    Calls Tryz.prog 24 #[.pointer (some ⟨b, 0, none⟩)] w fun e w' => e = .returned (.int .u8 (stN S : Int)) ∧ w = w' := by
  cases S with
  | none => obtain ⟨g, bm, i⟩ := h; exact bstate_none w b _ _ _ i.blk
  | closed n E L => obtain ⟨g, bm, i⟩ := h; exact bstate_closed w b _ _ (hdT_some n E) i.blk
  | opened n E root K => obtain ⟨g, bm, r1, k1, r2, k2, i, j⟩ := h; exact bstate_open w b _ _ _ _ (hdT_some n E) i.blk
theorem IsP.cell0 {w : World} {B b : Nat} {S : BS} (h : IsP w B b S) : ∃ a : Addr, w.cell? ⟨b, 0, none⟩ = some (.pointer (some a)) := by
  cases S with
  | none => obtain ⟨g, bm, i⟩ := h; exact ⟨_, i.blk.cell 0 _ rfl⟩
  | closed n E L => obtain ⟨g, bm, i⟩ := h; exact ⟨_, i.blk.cell 0 _ rfl⟩
  | opened n E root K => obtain ⟨g, bm, r1, k1, r2, k2, i, j⟩ := h; exact ⟨_, i.blk.cell 0 _ rfl⟩
theorem bthere_is (w : World) (B b : Nat) (S : BS) (h : IsP w B b S) :
    Calls Tryz.prog 46 #[.pointer (some ⟨b, 0, none⟩)] w fun e w' => e = .returned (.bool true) ∧ w = w' := by
  obtain ⟨a, h⟩ := h.cell0
  exact bthere_any w b a h
theorem bin_any (w : World) (B b : Nat) (S : BS) (h : IsP w B b S) (k : Int) (hk : (stN S : Int) = k) :
    Calls Tryz.prog 37 #[.pointer (some ⟨b, 0, none⟩), .int .u8 k] w fun e w' => e = .returned (.int .i64 0) ∧ w = w' := by
  have HT := Lib.hid (bthere_is w B b S h)
  have HS := Lib.hid (bstate_any w B b S h)
  rw [hk] at HS
  clear h hk
  go_enter Tryz.func37, Tryz.ntmps37
  go_wp2_with (first
    | (go_at_call 46; refine (HT.out).mono ?_; rintro e w1 ⟨rfl, rfl⟩)
    | (go_at_call 24; refine (HS.out).mono ?_; rintro e w1 ⟨rfl, rfl⟩))
  go_ret
  exact ⟨rfl, rfl⟩
theorem bin_state (w : World) (B b : Nat) (S : BS) (h : IsP w B b S) (k : Int) (hk : (stN S : Int) ≠ k) :
    Calls Tryz.prog 37 #[.pointer (some ⟨b, 0, none⟩), .int .u8 k] w fun e w' => e = .returned (.int .i64 151) ∧ w = w' := by
  have HT := Lib.hid (bthere_is w B b S h)
  have HS := Lib.hid (bstate_any w B b S h)
  have hne : ((stN S : Int) != k) = true := by simpa using hk
  clear h hk
  generalize (stN S : Int) = t at *
  go_enter Tryz.func37, Tryz.ntmps37
  go_wp2_with (first
    | (go_at_call 46; refine (HT.out).mono ?_; rintro e w1 ⟨rfl, rfl⟩)
    | (go_at_call 24; refine (HS.out).mono ?_; rintro e w1 ⟨rfl, rfl⟩))
  go_ret
  exact ⟨rfl, rfl⟩
/-- What an open one's calls answer in this state. -/
def mayE : BS → Int
  | .none => 151
  | .closed .. => 150
  | .opened .. => 0
theorem bopened_any (w : World) (B b : Nat) (S : BS) (h : IsP w B b S) :
    Calls Tryz.prog 41 #[.pointer (some ⟨b, 0, none⟩)] w fun e w' => e = .returned (.int .i64 (mayE S)) ∧ w = w' := by
  cases S with
  | none =>
    have H1 := Lib.hid (bin_state w B b _ h 1 (by simp [stN]))
    have H2 := Lib.hid (bin_state w B b _ h 2 (by simp [stN]))
    clear h
    go_enter Tryz.func41, Tryz.ntmps41
    go_wp2_with (first
      | (go_at_call 37; (with_reducible refine (H1.out).mono ?_); rintro e w1 ⟨rfl, rfl⟩)
      | (go_at_call 37; (with_reducible refine (H2.out).mono ?_); rintro e w1 ⟨rfl, rfl⟩))
    go_ret
    exact ⟨rfl, rfl⟩
  | closed n E L =>
    have H1 := Lib.hid (bin_any w B b _ h 1 rfl)
    clear h
    go_enter Tryz.func41, Tryz.ntmps41
    go_wp2_with (go_at_call 37; refine (H1.out).mono ?_; rintro e w1 ⟨rfl, rfl⟩)
    go_ret
    exact ⟨rfl, rfl⟩
  | opened n E root K =>
    have H1 := Lib.hid (bin_state w B b _ h 1 (by simp [stN]))
    have H2 := Lib.hid (bin_any w B b _ h 2 rfl)
    clear h
    go_enter Tryz.func41, Tryz.ntmps41
    go_wp2_with (first
      | (go_at_call 37; (with_reducible refine (H1.out).mono ?_); rintro e w1 ⟨rfl, rfl⟩)
      | (go_at_call 37; (with_reducible refine (H2.out).mono ?_); rintro e w1 ⟨rfl, rfl⟩))
    go_ret
    exact ⟨rfl, rfl⟩
end Go.Proofs.YtobhbppogeghnaaGreatDoor
end

section
namespace Go.Proofs.YtobhbppogeghnaaGreatDoor
open Go.RowKit

/-- Epochs rise, from 1 on. -/
def Rising (L : List (Nat × ByteArray)) : Prop := (eps L).Pairwise (· < ·) ∧ ∀ e ∈ eps L, 1 ≤ e
/-- Rows of any epochs of 32 bits and keys of 32 bytes. -/
structure RowsOk (L : List (Nat × ByteArray)) : Prop where
  one : 1 ≤ L.length
  few : L.length ≤ 64
  each : ∀ x ∈ L, x.1 < 4294967296 ∧ x.2.size = 32
theorem RowsOk.good {L : List (Nat × ByteArray)} (h : RowsOk L) (hr : Rising L) : GoodK L :=
  ⟨fun e => by have := h.one; rw [e] at this; simp at this, h.few, hr.1, fun x hx => ⟨hr.2 _ (List.mem_map.2 ⟨x, hx, rfl⟩), (h.each x hx).1, (h.each x hx).2⟩⟩
/-- What Read answers: a ring of the rows, or nothing. -/
def ReadE (w w' : World) (L : List (Nat × ByteArray)) (e : Ending) : Prop :=
  (Rising L ∧ ∃ r b, e = .returned (.tuple #[.pointer (some ⟨r, 0, none⟩), .int .i64 0]) ∧ IsK w' r b L ∧ w.heap.size ≤ r ∧ w.heap.size ≤ b) ∨ (¬ Rising L ∧ e = .returned (.tuple #[.pointer none, .int .i64 7]))
theorem rising_next {L : List (Nat × ByteArray)} {j e : Nat} {s : ByteArray} (hd : L.take (j + 1) = L.take j ++ [(e, s)]) (h : Rising (L.take j)) (he : top (eps (L.take j)) < e) : Rising (L.take (j + 1)) := by
  rw [hd]
  unfold Rising eps
  rw [List.map_append, List.pairwise_append]
  refine ⟨⟨h.1, List.pairwise_singleton _ _, fun x hx y hy => ?_⟩, fun x hx => ?_⟩
  · rw [List.map_cons, List.map_nil, List.mem_singleton] at hy
    subst hy
    exact Nat.lt_of_le_of_lt (le_top hx) he
  · rcases List.mem_append.1 hx with hx | hx
    · exact h.2 x hx
    · rw [List.map_cons, List.map_nil, List.mem_singleton] at hx
      rw [hx]
      show 1 ≤ e
      omega
theorem rising_stop {L : List (Nat × ByteArray)} {j e : Nat} {s : ByteArray} (hd : L.take (j + 1) = L.take j ++ [(e, s)]) (he : e ≤ top (eps (L.take j))) : ¬ Rising L := by
  intro h
  have hs : (L.take (j + 1)).Sublist L := List.take_sublist _ _
  have h1 : Rising (L.take (j + 1)) := ⟨h.1.sublist (hs.map _), fun x hx => h.2 x ((hs.map _).subset hx)⟩
  rw [hd] at h1
  unfold Rising eps at h1
  rw [List.map_append, List.pairwise_append] at h1
  by_cases hn : eps (L.take j) = []
  · rw [hn] at he
    have := h1.2 e (by simp)
    simp [top] at he
    omega
  · have := h1.1.2.2 _ (top_mem hn) e (by simp)
    exact absurd this (Nat.not_lt.2 he)
theorem top_snocR (K : List (Nat × ByteArray)) (t : Nat) (s : ByteArray) (h : top (eps K) < t) : top (eps (K ++ [(t, s)])) = t := by
  have hp : (eps (K ++ [(t, s)])).Perm (t :: eps K) := by
    unfold eps
    rw [List.map_append]
    exact List.perm_append_comm
  rw [top_perm hp, top_cons]
  omega
set_option maxRecDepth 100000 in
set_option maxHeartbeats 4000000 in
theorem read_rows (w : World) (L : List (Nat × ByteArray)) (hG : RowsOk L) :
    Calls Tryz.prog 125 #[.string ⟨(ringL L).toArray⟩] w fun e w' => ReadE w w' L e ∧ Ext w w' := by
  have h1 : 1 ≤ L.length := hG.one
  have h64 := hG.few
  have hsz : ByteArray.size ⟨(ringL L).toArray⟩ = 1 + L.length * 36 := by
    rw [txt_size, ringL, List.length_cons, rowsL_length fun x hx => (hG.each x hx).2]
    omega
  have HCnt := Lib.hid (fun u => count_yes ⟨(ringL L).toArray⟩ L.length (by rw [hsz]; omega) (by
    rw [text_at _ 0 (UInt8.ofNat L.length) (by simp [ringL]) (by rw [hsz]; omega)]
    simp
    omega) h1 h64 hsz u)
  have hcut : ∀ u, (Instr.slice 9 (.string ⟨(ringL L).toArray⟩) (some (.int .i64 1)) none none).run Tryz.prog u = .ok (.string ⟨(rowsL L).toArray⟩) u := fun u => by
    have := cut_from ⟨(ringL L).toArray⟩ 1 (by rw [hsz]; omega) u
    have e := (left_cut [UInt8.ofNat L.length] (rowsL L)).2
    rw [show ([UInt8.ofNat L.length] ++ rowsL L) = ringL L from rfl, show [UInt8.ofNat L.length].length = 1 from rfl] at e
    rw [e] at this
    exact this
  have hmm := @run_makeMap Tryz.prog
  have HGd := Lib.hid hG
  have HSz := Lib.hid hsz
  clear hG hsz
  generalize (⟨(ringL L).toArray⟩ : ByteArray) = S at *
  generalize hR0 : (⟨(rowsL L).toArray⟩ : ByteArray) = R0 at *
  have HR0 := Lib.hid hR0
  clear hR0
  go_enter Tryz.func125, Tryz.ntmps125
  go_wp2_with (go_at_call 147; refine (HCnt.out _).mono ?_; rintro e w1 ⟨rfl, rfl⟩)
  have X1 : Ext w (w.alloc (.cells #[.string R0] 9)) := (Ext.refl w).alloc _
  have B1 := Blk.new w [.string R0] 9
  have M1 := IsM.made (w.alloc (.cells #[.string R0] 9))
  have hz1 : (w.alloc (.cells #[.string R0] 9)).heap.size = w.heap.size + 1 := by simp
  rw [hz1] at M1
  have X2 := X1.alloc (.map #[] 0)
  have B2 := B1.alloc (.map #[] 0)
  have HX2 := Lib.hid X2; have HB2 := Lib.hid B2; have HM2 := Lib.hid M1
  clear X1 B1 M1 hz1 X2 B2 hmm hcut
  go_loopw [9, 24] (fun lv iv wr => ∃ j m : Nat, j ≤ L.length ∧ iv = .int .i64 (j : Int) ∧ lv = .int .u32 (m : Int) ∧ Hid (m = top (eps (L.take j))) ∧ Hid (Rising (L.take j)) ∧ Hid (Blk wr w.heap.size 9 [.string ⟨(rowsL (L.drop j)).toArray⟩]) ∧ Hid (IsM wr (w.heap.size + 1) (L.take j)) ∧ Hid (Ext w wr)) (fun _ iv _ => L.length - (intOf iv).toNat)
  case atStart =>
    refine ⟨0, 0, Nat.zero_le _, rfl, rfl, Lib.hid (by simp [eps, top]), Lib.hid (by simp [Rising, eps]), Lib.hid ?_, Lib.hid ?_, HX2⟩
    · rw [List.drop_zero, HR0.out]; exact HB2.out
    · rw [List.take_zero]; exact HM2.out
  case round =>
    obtain ⟨j, m, hj, rfl, rfl, HMn, HRi, HB, HM, HX⟩ := hrel
    by_cases hlt : j < L.length
    · have hlti : (j : Int) < (L.length : Int) := by omega
      obtain ⟨⟨e, s⟩, hx⟩ : ∃ x, L[j]? = some x := ⟨_, List.getElem?_eq_getElem hlt⟩
      have hmem := List.mem_of_getElem? hx
      have hs : s.size = 32 := (HGd.out.each _ hmem).2
      have he32 : e < 4294967296 := (HGd.out.each _ hmem).1
      have hd : L.drop j = (e, s) :: L.drop (j + 1) := by
        obtain ⟨h1, h2⟩ := List.getElem?_eq_some_iff.1 hx
        rw [← h2]
        exact List.drop_eq_getElem_cons h1
      have ht : L.take (j + 1) = L.take j ++ [(e, s)] := by
        rw [List.take_add_one, hx]
        rfl
      have HT := Lib.hid ht
      have hB := HB.out
      rw [hd, rowsL, List.append_assoc] at hB
      have HB2 := Lib.hid hB
      have HT1 := Lib.hid (fun u (hu : Blk u w.heap.size 9 [.string ⟨(be 4 e ++ (s.data.toList ++ rowsL (L.drop (j + 1)))).toArray⟩]) => takeK_cut u w.heap.size _ _ 4 4 rfl (be_length 4 e) hu)
      have HT2 := Lib.hid (fun u (hu : Blk u w.heap.size 9 [.string ⟨(s.data.toList ++ rowsL (L.drop (j + 1))).toArray⟩]) => by
        have := takeK_cut u w.heap.size s.data.toList _ 32 32 rfl (by rw [size_list]; exact hs) hu
        rw [string_of] at this
        exact this)
      have HG4 := Lib.hid (fun u => by
        have := Get32_any ⟨(be 4 e).toArray⟩ 0 (by rw [txt_size, be_length]; omega) u
        rw [(getK_be e he32).1, (getK_be e he32).2] at this
        exact this)
      have HRk := Lib.hid (fun u => rootKeyOf_any s hs u)
      clear hx hmem hd ht hB HB HR0 HSz HCnt
      generalize hRr : rowsL (L.drop (j + 1)) = Rr at *
      have HRr := Lib.hid hRr
      clear hRr
      generalize be 4 e = E at *
      by_cases hle : e ≤ m
      · have hlei : (e : Int) ≤ (m : Int) := by omega
        have HSt := Lib.hid (rising_stop HT.out (by rw [← HMn.out]; exact hle))
        clear hle HT2 HRk
        go_wp2_with (first
          | (go_at_call 148; (with_reducible refine (HT1.out _ HB2.out).mono ?_); rintro e1 w4 ⟨rfl, b4, hw4⟩; have B4 := Lib.hid b4; have M4 := Lib.hid (set_m hw4 HM.out); have X4 := Lib.hid (set_x hw4 HX.out); clear b4 hw4)
          | (go_at_call 120; refine (HG4.out _).mono ?_; rintro e1 w5 ⟨rfl, rfl⟩))
        go_ret2
        exact ⟨.inr ⟨HSt.out, rfl⟩, X4.out⟩
      have HNx := Lib.hid (rising_next HT.out HRi.out (by rw [← HMn.out]; omega))
      have htp : top (eps (L.take (j + 1))) = e := by rw [HT.out]; exact top_snocR _ _ _ (by rw [← HMn.out]; omega)
      have HTp := Lib.hid htp
      have HPt := Lib.hid (fun u (hu : IsM u (w.heap.size + 1) (L.take j)) => hu.put (e := e) (s := s) he32 (fun q => by have := le_top q; rw [← HMn.out] at this; omega))
      have hle2 : ¬ (e : Int) ≤ (m : Int) := by omega
      clear hle htp
      go_wp2_with (first
        | (go_at_call 148; (with_reducible refine (HT1.out _ HB2.out).mono ?_); rintro e1 w4 ⟨rfl, b4, hw4⟩; have B4 := Lib.hid b4; have M4 := Lib.hid (set_m hw4 HM.out); have X4 := Lib.hid (set_x hw4 HX.out); clear b4 hw4)
        | (go_at_call 120; refine (HG4.out _).mono ?_; rintro e1 w5 ⟨rfl, rfl⟩)
        | (go_at_call 148; (with_reducible refine (HT2.out _ B4.out).mono ?_); rintro e1 w6 ⟨rfl, b6, hw6⟩; have B6 := Lib.hid b6; have M6 := Lib.hid (set_m hw6 M4.out); have X6 := Lib.hid (set_x hw6 X4.out); clear b6 hw6)
        | (go_at_call 73; refine (HRk.out _).mono ?_; rintro e1 w7 ⟨rfl, x7⟩; obtain ⟨w8, hrun, m8, t8⟩ := HPt.out _ (M6.out.ext x7); have M8 := Lib.hid m8; have B7 := Lib.hid (B6.out.ext x7); have X7 := Lib.hid (X6.out.trans x7); have T8 := Lib.hid t8; clear m8 t8 x7))
      have g8 := T8.out.grown
      have B8' : Blk w8 w.heap.size 9 [.string ⟨Rr.toArray⟩] := (g8.block _ B7.out.lt (by simp)).trans B7.out
      have X8 : Ext w w8 := X7.out.grown g8 (fun k hk => by cases hk; omega)
      have B8 := B8'
      rw [← HRr.out] at B8
      have M9 := M8.out
      rw [← HT.out] at M9
      clear hrun
      go_roundw
      case rel => exact ⟨j + 1, e, hlt, by go_num, rfl, Lib.hid HTp.out.symm, HNx, Lib.hid B8, Lib.hid M9, Lib.hid X8⟩
      case measure => simp [intOf]; omega
    · obtain rfl : j = L.length := by omega
      have HM9 := Lib.hid (by have := HM.out; rwa [List.take_length] at this)
      go_wp2
      go_ret2
      have hR := HRi.out
      rw [List.take_length] at hR
      exact ⟨.inl ⟨hR, _, _, rfl, ⟨Blk.new _ _ _, HM9.out.alloc _, HGd.out.good hR⟩, HX.out.size, Nat.le_succ _⟩, HX.out.alloc _⟩
end Go.Proofs.YtobhbppogeghnaaGreatDoor
end

section
namespace Go.Proofs.YtobhbppogeghnaaGreatDoor
open Go.RowKit

/-- So many rows of bytes. -/
def rowsOf : Nat → List UInt8 → List (Nat × ByteArray)
  | 0, _ => []
  | n + 1, l => (num (l.take 4), ⟨((l.drop 4).take 32).toArray⟩) :: rowsOf n (l.drop 36)
theorem rowsOf_length : ∀ (n : Nat) (l : List UInt8), (rowsOf n l).length = n
  | 0, _ => rfl
  | n + 1, l => by rw [rowsOf, List.length_cons, rowsOf_length n]
theorem rowsL_rowsOf : ∀ (n : Nat) (l : List UInt8), l.length = 36 * n → rowsL (rowsOf n l) = l
  | 0, l, h => by
    have : l = [] := List.length_eq_zero_iff.1 (by omega)
    subst this
    rfl
  | n + 1, l, h => by
    rw [rowsOf, rowsL, rowsL_rowsOf n (l.drop 36) (by rw [List.length_drop]; omega)]
    have h4 : be 4 (num (l.take 4)) = l.take 4 := be_num _ 4 (by rw [List.length_take]; omega)
    simp only [h4]
    have e : l.drop 36 = (l.drop 4).drop 32 := by rw [List.drop_drop]
    rw [e, List.append_assoc, List.take_append_drop, List.take_append_drop]
theorem rowsOf_each : ∀ (n : Nat) (l : List UInt8), l.length = 36 * n → ∀ x ∈ rowsOf n l, x.1 < 4294967296 ∧ x.2.size = 32
  | 0, _, _, x, hx => by cases hx
  | n + 1, l, h, x, hx => by
    rw [rowsOf] at hx
    rcases List.mem_cons.1 hx with rfl | hx
    · refine ⟨num_lt 4 _ (by rw [List.length_take]; omega), ?_⟩
      show ByteArray.size ⟨((l.drop 4).take 32).toArray⟩ = 32
      rw [txt_size, List.length_take, List.length_drop]
      omega
    · exact rowsOf_each n (l.drop 36) (by rw [List.length_drop]; omega) x hx
/-- The count of a text fits. -/
def Counted (s : ByteArray) : Prop := ∃ (b : UInt8) (l : List UInt8), s.data.toList = b :: l ∧ 1 ≤ b.toNat ∧ b.toNat ≤ 64 ∧ l.length = 36 * b.toNat
theorem count_no (s : ByteArray) (h : ¬ Counted s) (hz : s.size ≤ 140737488351232) (w : World) :
    Calls Tryz.prog 147 #[.string s] w fun e w' => e = .returned (.tuple #[.int .i64 0, .bool false]) ∧ w = w' := by
  have hls : s.toList.length = s.size := by rw [ByteArray.toList_eq, size_list]
  by_cases h0 : 0 < s.size
  · have hemp : s.toList.isEmpty = false := by
      cases hq : s.toList with
      | nil => rw [hq] at hls; simp at hls; omega
      | cons => rfl
    have h0i : (0 : Int) < (s.size : Int) := by omega
    have hb256 := UInt8.toNat_lt s[0]
    have hcase : s[0].toNat < 1 ∨ 64 < s[0].toNat ∨ ¬ s.size = 1 + s[0].toNat * 36 := by
      rcases Nat.lt_or_ge s[0].toNat 1 with q | q1
      · exact .inl q
      · rcases Nat.lt_or_ge 64 s[0].toNat with q | q2
        · exact .inr (.inl q)
        · refine .inr (.inr fun q3 => h ⟨s[0], s.data.toList.tail, ?_, q1, q2, ?_⟩)
          · cases hd : s.data.toList with
            | nil => have := size_list s; rw [hd] at this; simp at this; omega
            | cons x r =>
              have := text_at s 0 x (by rw [hd]; rfl) h0
              rw [this]
              rfl
          · rw [List.length_tail, size_list]; omega
    obtain ⟨n, hb⟩ : ∃ n, s[0].toNat = n := ⟨_, rfl⟩
    have hw : wrap64 (s[0].toNat : Int) = (n : Int) := by rw [hb]; simp [wrap64]; omega
    rw [hb] at hcase hb256
    have HC := Lib.hid hcase
    clear hcase h hls hb
    go_enter Tryz.func147, Tryz.ntmps147
    by_cases h1 : n < 1
    · have h1i : (n : Int) < 1 := by omega
      go_wp2
      go_ret2
      exact ⟨rfl, rfl⟩
    · have h1i : ¬ (n : Int) < 1 := by omega
      by_cases h2 : 64 < n
      · have h2i : (64 : Int) < (n : Int) := by omega
        go_wp2
        go_ret2
        exact ⟨rfl, rfl⟩
      · have h2i : ¬ (64 : Int) < (n : Int) := by omega
        have h3 : ¬ (s.size : Int) = 1 + (n : Int) * 36 := by have := HC.out; omega
        have h3b : ((s.size : Int) != 1 + (n : Int) * 36) = true := by simpa using h3
        go_wp2
        go_ret2
        exact ⟨rfl, rfl⟩
  · have hemp : s.toList.isEmpty = true := by
      cases hq : s.toList with
      | nil => rfl
      | cons => rw [hq] at hls; simp at hls; omega
    clear h hls
    go_enter Tryz.func147, Tryz.ntmps147
    go_wp2
    go_ret2
    exact ⟨rfl, rfl⟩
theorem read_no (s : ByteArray) (h : ¬ Counted s) (hz : s.size ≤ 140737488351232) (w : World) :
    Calls Tryz.prog 125 #[.string s] w fun e w' => e = .returned (.tuple #[.pointer none, .int .i64 7]) ∧ w = w' := by
  have HC := Lib.hid (fun u => count_no s h hz u)
  clear h hz
  go_enter Tryz.func125, Tryz.ntmps125
  go_wp2_with (go_at_call 147; refine (HC.out _).mono ?_; rintro e w1 ⟨rfl, rfl⟩)
  go_ret2
  exact ⟨rfl, rfl⟩
/-- A text whose count fits is that of its rows. -/
theorem counted_rows {s : ByteArray} (h : Counted s) : ∃ L, RowsOk L ∧ s = ⟨(ringL L).toArray⟩ := by
  obtain ⟨b, l, hs, h1, h2, h3⟩ := h
  refine ⟨rowsOf b.toNat l, ⟨by rw [rowsOf_length]; exact h1, by rw [rowsOf_length]; exact h2, rowsOf_each _ _ h3⟩, ?_⟩
  apply ByteArray.ext
  apply Array.toList_inj.1
  rw [hs, ringL, rowsOf_length, rowsL_rowsOf _ _ h3]
  simp
end Go.Proofs.YtobhbppogeghnaaGreatDoor
end

section
namespace Go.Proofs.YtobhbppogeghnaaGreatDoor
open Go.RowKit
attribute [local irreducible] rkey expand enc dec ctrB ctrC ctrL xorL turnL turnT kd t4 t8 env5 chk tagT sealT ringL hdT

theorem bsharesOf_any (n : Nat) (E : ByteArray) (hn : n < 256) (w : World) :
    Calls Tryz.prog 56 #[.string (hdT n E)] w fun e w' => e = .returned (.int .i64 (n : Int)) ∧ w = w' := by
  have h1 := fun u => hdT_index n E hn u
  have hz : 0 < (hdT n E).size := by rw [hdT_size]; omega
  have hzi : (0 : Int) < ((hdT n E).size : Int) := by omega
  generalize hdT n E = H at *
  go_enter Tryz.func56, Tryz.ntmps56
  go_wp2
  go_ret
  exact ⟨rfl, rfl⟩
theorem byte_text (n : Nat) (hn : n < 256) (t : TypeId) (u : World) : (convert 43 9 (.slice (some ⟨u.heap.size, 0, none⟩) 1 1)).run Tryz.prog (u.alloc (.cells #[.int .u8 (n : Int)] t)) = .ok (.string ⟨#[UInt8.ofNat n]⟩) (u.alloc (.cells #[.int .u8 (n : Int)] t)) :=
  one_text2 (n : Int) (UInt8.ofNat n) (by rw [UInt8.toNat_ofNat', Nat.mod_eq_of_lt hn]) t u
theorem bheaderOf_any (w : World) (r1 k1 r2 k2 : Nat) (root : ByteArray) (K : List (Nat × ByteArray)) (hL : Laid w) (h1 : IsK w r1 k1 [(1, root)]) (h2 : IsK w r2 k2 K) (n : Nat) (hn : n < 256) (nonce : ByteArray) (hz : nonce.size = 12) :
    Calls Tryz.prog 40 #[.int .i64 (n : Int), .pointer (some ⟨r1, 0, none⟩), .pointer (some ⟨r2, 0, none⟩), .string nonce] w fun e w' => e = .returned (.string (hdOf root n nonce K)) ∧ Ext w w' := by
  have HB := Lib.hid (bytes_any w r2 k2 K h2)
  have hrl := ringB_le h2.good
  have HC := Lib.hid (fun u (hx : Ext w u) => by
    have := close_yes u r1 k1 _ (hL.ext hx) (h1.ext hx) root (by rw [top_one1]; simp) pathB n nonce (ringB K) hz (by decide) (by omega)
    rw [top_one1] at this
    exact this)
  have hcv := fun t u => byte_text n hn t u
  have hcat := hdT_cat n (sealT root 1 pathB n nonce (ringB K))
  have hw8 : IntKind.u8.wrap (n : Int) = (n : Int) := IntWalk.u8_in _ ⟨by omega, by omega⟩
  have hw64 : IntKind.u64.wrap (n : Int) = (n : Int) := IntWalk.u64_in _ ⟨by omega, by omega⟩
  have hs := envOf_size h2.good root n nonce hz
  have h64 := h2.good.few
  have hsz : (sealT root 1 pathB n nonce (ringB K)).size ≤ 3000 := by unfold envOf at hs; omega
  unfold hdOf envOf
  unfold ringB at HC hcat hsz ⊢
  clear hL h1 h2 hrl hs h64
  generalize sealT root 1 pathB n nonce ⟨(ringL K).toArray⟩ = E at *
  generalize (⟨(ringL K).toArray⟩ : ByteArray) = RB at *
  unfold pathB at HC
  go_enter Tryz.func40, Tryz.ntmps40
  go_wp2_with (first
    | (go_at_call 74; refine (HB.out).mono ?_; rintro e w1 ⟨rfl, x1⟩)
    | (go_at_call 42; refine (HC.out _ x1).mono ?_; rintro e w2 ⟨rfl, x2⟩))
  go_ret
  exact ⟨rfl, (x1.trans x2).alloc _⟩
end Go.Proofs.YtobhbppogeghnaaGreatDoor
end

section
namespace Go.Proofs.YtobhbppogeghnaaGreatDoor
open Go.RowKit
attribute [local irreducible] xorL xorAll

theorem split_no (w : World) (secret : ByteArray) (p : Option Addr) (c : Nat) (l : List ByteArray) (h1 : 1 ≤ secret.size) (h2 : secret.size ≤ 64) (h3 : l.length < 16) (h : TextsP w p l) (k : Nat) (t : ByteArray) (hk : l[k]? = some t) (ht : ¬ t.size = secret.size) (hl : ∀ (i : Nat) (s : ByteArray), i < k → l[i]? = some s → s.size = secret.size) :
    Calls Tryz.prog 38 #[.string secret, .slice p l.length c] w fun e w' => e = .returned (.tuple #[.slice none 0 0, .int .i64 2]) ∧ Ext w w' := by
  have HM := Lib.hid (mixed_no w secret p c l (by omega) (by omega) h k t hk ht hl)
  clear h hk ht hl
  go_enter Tryz.func38, Tryz.ntmps38
  go_wp2_with (go_at_call 71; refine (HM.out).mono ?_; rintro e w1 ⟨rfl, x1⟩)
  go_ret2
  exact ⟨rfl, x1⟩
set_option maxRecDepth 100000 in
set_option maxHeartbeats 4000000 in
theorem split_yes (w : World) (secret : ByteArray) (p : Option Addr) (c : Nat) (l : List ByteArray) (h1 : 1 ≤ secret.size) (h2 : secret.size ≤ 64) (h3 : l.length < 16) (h : TextsP w p l) (hl : ∀ s, s ∈ l → s.size = secret.size) :
    Calls Tryz.prog 38 #[.string secret, .slice p l.length c] w fun e w' => ∃ v, e = .returned (.tuple #[v, .int .i64 0]) ∧ BufS w' w.heap.size v (splitT secret l) ∧ Ext w w' := by
  have HH := Lib.hid (fun u (hu : Ext w u) => h.ext hu)
  have HS := Lib.hid (sharesT_take (l.length + 1) l)
  have HSl := Lib.hid (sharesT_length (l.length + 1) l)
  have HM := Lib.hid (mixed_yes w secret p c l (by omega) (by omega) h hl)
  have hxl := xorAll_length (n := secret.size) l secret.data.toList (size_list _) hl
  have hmk := make_texts (l.length + 1) (by omega)
  have ek : ((l.length + 1 : Nat) : Int) = (l.length : Int) + 1 := by omega
  rw [ek] at hmk
  obtain ⟨C, hC⟩ : ∃ C, madeCells #[Value.string ⟨#[]⟩] (l.length + 1) = C := ⟨_, rfl⟩
  rw [hC] at hmk
  have HMade := Lib.hid (fun u (hu : w.heap.size ≤ u.heap.size) => BufS.made u (l.length + 1) (by unfold maxLen; omega) hu)
  rw [hC] at HMade
  have HSB := Lib.hid (fun u (i : Nat) (s : ByteArray) (hi : i < 255) (hs : s.size ≤ 64) => shareBytes_any (i + 1) (l.length + 1) s (by omega) (by omega) (by omega) u)
  rw [ek] at HSB
  have HSL : Hid (splitT secret l = sharesT (l.length + 1) l ++ [shareT (l.length + 1) (l.length + 1) ⟨(xorAll secret.data.toList l).toArray⟩]) := Lib.hid rfl
  have HLS : Hid ((⟨(xorAll secret.data.toList l).toArray⟩ : ByteArray).size ≤ 64) := Lib.hid (by rw [txt_size, hxl]; exact h2)
  generalize (⟨(xorAll secret.data.toList l).toArray⟩ : ByteArray) = L0 at *
  clear h hC ek hxl
  go_enter Tryz.func38, Tryz.ntmps38
  go_wp2_with (go_at_call 71; refine (HM.out).mono ?_; rintro e w1 ⟨rfl, x1⟩)
  have HX1 := Lib.hid (x1.alloc (.cells C 9))
  have HB0 : Hid (BufS (w1.alloc (.cells C 9)) w.heap.size (.slice (some ⟨w1.heap.size, 0, none⟩) 0 (l.length + 1)) []) := Lib.hid (HMade.out w1 x1.size)
  clear x1
  go_loopw [9, 40] (fun v i wr => ∃ j : Nat, j ≤ l.length ∧ i = .int .i64 (j : Int) ∧ BufS wr w.heap.size v ((sharesT (l.length + 1) l).take j) ∧ Ext w wr) (fun _ i _ => l.length - (intOf i).toNat)
  case atStart => exact ⟨0, Nat.zero_le _, rfl, by rw [List.take_zero]; exact HB0.out, HX1.out⟩
  case round =>
    obtain ⟨j, hj, rfl, hb, hext⟩ := hrel
    have HB := Lib.hid hb; have HE := Lib.hid hext
    by_cases hlt : j < l.length
    · obtain ⟨s, hs⟩ : ∃ s, l[j]? = some s := ⟨_, List.getElem?_eq_getElem hlt⟩
      obtain ⟨a, rfl, hab, hc1⟩ := HH.out _ hext j s hs
      have hsz : s.size = secret.size := hl s (List.mem_of_getElem? hs)
      have HSj := Lib.hid (HS.out j s hs)
      have HC := Lib.hid (fun u => HSB.out u j s (by omega) (by omega))
      rw [show ((j + 1 : Nat) : Int) = (j : Int) + 1 by omega] at HC
      have HLe : Hid (((sharesT (l.length + 1) l).take j).length ≤ 1000000) := Lib.hid (by rw [List.length_take]; omega)
      clear hb hext hs hsz hab
      generalize shareT (j + 1) (l.length + 1) s = T at *
      go_wp2_with (first
        | (go_at_call 72; refine (HC.out _).mono ?_; rintro e w2 ⟨rfl, x2⟩; have HX3 := Lib.hid (x2.alloc (.cells #[.string T] 9)))
        | (at_builtin; refine append_text rfl (.tmp 45) (.tmp 51) rfl w.heap.size _ _ rfl (HB.out.ext HX3.out) w2.heap.size T rfl ((Blk.new w2 [.string T] 9).cell 0 _ rfl) HLe.out (HE.out.trans HX3.out).size ?_; intro v1 w3 hb1 hx4; have x5 : Ext w w3 := Below.trans (HE.out.trans HX3.out) hx4))
      go_roundw
      case rel => exact ⟨j + 1, hlt, by go_num, by rw [HSj.out]; exact hb1, x5⟩
      case measure => simp [intOf]; omega
    · obtain rfl : j = l.length := by omega
      have hB2 := HB.out
      rw [List.take_of_length_le (by rw [HSl.out]; exact Nat.le_refl _)] at hB2
      have HB2 := Lib.hid hB2
      have HC := Lib.hid (fun u => HSB.out u l.length L0 (by omega) HLS.out)
      rw [show ((l.length + 1 : Nat) : Int) = (l.length : Int) + 1 by omega] at HC
      have HLe : Hid ((sharesT (l.length + 1) l).length ≤ 1000000) := Lib.hid (by rw [HSl.out]; omega)
      clear hb hext hB2
      generalize sharesT (l.length + 1) l = ST at *
      generalize shareT (l.length + 1) (l.length + 1) L0 = T at *
      go_wp2_with (first
        | (go_at_call 72; refine (HC.out _).mono ?_; rintro e w2 ⟨rfl, x2⟩; have HX3 := Lib.hid (x2.alloc (.cells #[.string T] 9)))
        | (at_builtin; refine append_text rfl (.tmp 54) (.tmp 59) rfl w.heap.size _ _ rfl (HB2.out.ext HX3.out) w2.heap.size T rfl ((Blk.new w2 [.string T] 9).cell 0 _ rfl) HLe.out (HE.out.trans HX3.out).size ?_; intro v1 w3 hb1 hx4; have x5 : Ext w w3 := Below.trans (HE.out.trans HX3.out) hx4))
      go_ret2
      exact ⟨v1, rfl, by rw [HSL.out]; exact hb1, x5⟩
end Go.Proofs.YtobhbppogeghnaaGreatDoor
end
