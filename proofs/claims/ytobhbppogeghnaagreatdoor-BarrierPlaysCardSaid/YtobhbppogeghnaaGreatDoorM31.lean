/- Contracts: keys by epochs: the document's ring: what it is, a new one, the newest epoch, the next epoch's key. Contract: numbers written as bytes, by the document's answer. Contracts: keys by epochs: the document's ring: its bytes. Contracts: numbers turned, by the document's answer. Contracts: hex texts, by the program and by the document's answer. -/
import Derived.Test.YtobhbppogeghnaaGreatDoorM25
import Derived.Test.YtobhbppogeghnaaGreatDoorM06
import Derived.BigQuiet
import Derived.Test.YtobhbppogeghnaaGreatDoorM05
import Derived.Test.YtobhbppogeghnaaGreatDoorM23
import Derived.Deep.RegionHeld3
import Derived.Outline
import Derived.Test.YtobhbppogeghnaaGreatDoorM00
import Derived.Test.YtobhbppogeghnaaGreatDoorM02
section
namespace Go.Proofs.YtobhbppogeghnaaGreatDoor
open Go.RowKit

/-- Entries as cells. -/
def entL : List (Nat × ByteArray) → List Value
  | [] => []
  | x :: r => .int .u32 (x.1 : Int) :: .string x.2 :: entL r
theorem entL_append : ∀ (l m : List (Nat × ByteArray)), entL (l ++ m) = entL l ++ entL m
  | [], _ => rfl
  | x :: r, m => by rw [List.cons_append, entL, entL_append r m, entL]; rfl
theorem entL_length : ∀ (l : List (Nat × ByteArray)), (entL l).length = l.length * 2
  | [] => rfl
  | x :: r => by rw [entL, List.length_cons, List.length_cons, entL_length r, List.length_cons]; omega
theorem entL_at : ∀ (l : List (Nat × ByteArray)) (i : Nat) (x : Nat × ByteArray), l[i]? = some x → (entL l)[i * 2]? = some (.int .u32 (x.1 : Int)) ∧ (entL l)[i * 2 + 1]? = some (.string x.2)
  | [], i, x, h => by simp at h
  | y :: r, 0, x, h => by
    simp at h
    subst h
    exact ⟨rfl, rfl⟩
  | y :: r, i + 1, x, h => by
    have h2 := entL_at r i x (by simpa using h)
    rw [show (i + 1) * 2 = i * 2 + 1 + 1 by omega, entL]
    simp only [List.getElem?_cons_succ]
    exact h2
theorem entL_one : ∀ (l : List (Nat × ByteArray)), ∀ u ∈ entL l, u.oneCell' = true
  | [], u, h => by cases h
  | x :: r, u, h => by
    rw [entL] at h
    rcases List.mem_cons.1 h with rfl | h
    · rfl
    · rcases List.mem_cons.1 h with rfl | h
      · rfl
      · exact entL_one r u h
theorem infoEn : (Tryz.prog.info? 79).map (fun i => (i.zero, i.size, i.bytes)) = some (some (.agg #[.int .u32 0, .string ⟨#[]⟩]), 2, 24) := by kernel_rfl
/-- None of the document's ring's blocks. -/
def NotD (o : Obj) : Prop := (∀ cur fr, o ≠ .cells cur 77 fr) ∧ (∀ cur fr, o ≠ .cells cur 79 fr)
/-- Only blocks of the document's ring were written, none below B. -/
structure TurnD (B : Nat) (w w' : World) : Prop where
  below : Below B w w'
  size : w.heap.size ≤ w'.heap.size
  keep : ∀ (g : Nat) (o : Obj), w.heap[g]? = some o → NotD o → w'.heap[g]? = some o
theorem TurnD.trans {B : Nat} {a b c : World} (h : TurnD B a b) (k : TurnD B b c) : TurnD B a c := ⟨h.below.trans k.below, Nat.le_trans h.size k.size, fun g o hg hn => k.keep g o (h.keep g o hg hn) hn⟩
theorem Ext.turnD {B : Nat} {a b : World} (h : Ext a b) (hB : B ≤ a.heap.size) : TurnD B a b := ⟨Below.mono h hB, h.size, fun g _ hg _ => (h.block g (heap_lt hg)).trans hg⟩
theorem IsK.turnD {B : Nat} {w w' : World} {r b : Nat} {L : List (Nat × ByteArray)} (h : IsK w r b L) (t : TurnD B w w') : IsK w' r b L := by
  obtain ⟨es, cl, hb⟩ := h.map.is
  exact ⟨t.keep _ _ h.ring ⟨fun _ _ e => (by cases e), fun _ _ e => (by cases e)⟩, h.map.same ((t.keep _ _ hb ⟨fun _ _ e => (by cases e), fun _ _ e => (by cases e)⟩).trans hb.symm), h.good⟩
/-- Block d is the document's ring of these keys; neither it nor its entries lie below B. -/
structure IsR (w : World) (B d : Nat) (p : Option Addr) (c : Nat) (L : List (Nat × ByteArray)) : Prop where
  ring : Blk w d 77 [.slice p L.length c]
  ents : Sl w (kp p) 1 2 79 p L.length c (entL L)
  low : B ≤ d
  lowp : ∀ g, p = some ⟨g, 0, none⟩ → B ≤ g
  apart : ¬ kp p d = 1
section
variable {w w' : World} {B d : Nat} {p : Option Addr} {c : Nat} {L : List (Nat × ByteArray)}
theorem IsR.ext (h : IsR w B d p c L) (x : Ext w w') : IsR w' B d p c L := ⟨h.ring.ext x, h.ents.ext x, h.low, h.lowp, h.apart⟩
theorem IsR.grown {b : Nat} {M : List (Nat × ByteArray)} (h : IsR w B d p c L) (hm : IsM w b M) (g : w.grownBy w' (some b)) : IsR w' B d p c L := by
  obtain ⟨es, cl, hb⟩ := hm.is
  have hk : ∀ (x : Nat) (cur : Array Value) (T : TypeId) (fr : Nat × Nat), w.heap[x]? = some (Obj.cells cur T fr) → w'.heap[x]? = w.heap[x]? := fun x cur T fr hx => g.block x (heap_lt hx) (fun e => by cases e; rw [hb] at hx; cases hx)
  refine ⟨(hk _ _ _ _ h.ring).trans h.ring, ⟨h.ents.1, h.ents.2.1, h.ents.2.2.1, fun hc => ?_⟩, h.low, h.lowp, h.apart⟩
  obtain ⟨x, cur, h1, h2, h3, h4⟩ := h.ents.2.2.2 hc
  exact ⟨x, cur, h1, h2, (hk _ _ _ _ h3).trans h3, h4⟩
theorem IsR.at_ (h : IsR w B d p c L) {i : Nat} {x : Nat × ByteArray} (hx : L[i]? = some x) : ∃ g, p = some ⟨g, 0, none⟩ ∧ B ≤ g ∧ w.cell? ⟨g, i * 2, none⟩ = some (.int .u32 (x.1 : Int)) ∧ w.cell? ⟨g, i * 2 + 1, none⟩ = some (.string x.2) := by
  have he := entL_at L i x hx
  obtain ⟨g, h1, _, _, h4, _⟩ := h.ents.cell he.1
  obtain ⟨g', h1', _, _, h4', _⟩ := h.ents.cell he.2
  rw [h1] at h1'
  cases h1'
  exact ⟨g, h1, h.lowp g h1, h4, h4'⟩
end
theorem rnewK_any (w : World) (s : ByteArray) :
    Calls Tryz.prog 64 #[.string s] w fun e w' => ∃ d p, e = .returned (.pointer (some ⟨d, 0, none⟩)) ∧ IsR w' w.heap.size d p 1 [(1, s)] ∧ Ext w w' := by
  go_enter Tryz.func64, Tryz.ntmps64
  go_wp2
  go_ret
  have b1 := (Blk.new w [.int .u32 1, .string s] 79).alloc (.cells #[.slice (some ⟨w.heap.size, 0, none⟩) 1 1] 77)
  have b2 := Blk.new (w.alloc (.cells #[.int .u32 1, .string s] 79)) [.slice (some ⟨w.heap.size, 0, none⟩) 1 1] 77
  have hz : (w.alloc (.cells #[.int .u32 1, .string s] 79)).heap.size = w.heap.size + 1 := by simp
  rw [hz] at b2
  exact ⟨_, some ⟨w.heap.size, 0, none⟩, rfl, ⟨b2, Sl.ofBlkR b1 rfl (by simp [kp]), Nat.le_succ _, fun g e => by cases e; exact Nat.le_refl _, by simp [kp]⟩, ((Ext.refl w).alloc _).alloc _⟩
set_option maxRecDepth 100000 in
theorem rnewestK_at (w : World) (d g c : Nat) (n t : Nat) (hr : w.cell? ⟨d, 0, none⟩ = some (.slice (some ⟨g, 0, none⟩) (n + 1 : Nat) c)) (hn64 : n < 1000) (c1 : w.cell? ⟨g, n * 2, none⟩ = some (.int .u32 (t : Int))) :
    Calls Tryz.prog 104 #[.pointer (some ⟨d, 0, none⟩)] w fun e w' => e = .returned (.int .u32 (t : Int)) ∧ Ext w w' := by
  have hwn : IntKind.i64.wrap (n : Int) = (n : Int) := by simp [IntKind.wrap, IntKind.signed, IntKind.bits]; omega
  go_enter Tryz.func104, Tryz.ntmps104
  go_wp2_with (fail)
  go_quiet (fail)
  go_wp2
  go_ret
  exact ⟨rfl, (Ext.refl w).drewN _⟩
/-- The last entry is the newest epoch's. -/
theorem GoodK.last {L : List (Nat × ByteArray)} (hG : GoodK L) : ∃ n s, L.length = n + 1 ∧ n < 64 ∧ L[n]? = some (top (eps L), s) := by
  have h1 : 1 ≤ L.length := by
    have := hG.ne
    cases hq : L with
    | nil => exact absurd hq this
    | cons => simp
  have h64 := hG.few
  obtain ⟨n, hn⟩ : ∃ n, L.length = n + 1 := ⟨L.length - 1, by omega⟩
  have hl : n < (eps L).length := by unfold eps; rw [List.length_map]; omega
  have ht := last_top hG hn hl
  have hlt : n < L.length := by omega
  refine ⟨n, L[n].2, hn, by omega, ?_⟩
  rw [List.getElem?_eq_getElem hlt, ← ht]
  simp [eps]
theorem rnewestK_any (w : World) (B d : Nat) (p : Option Addr) (c : Nat) (L : List (Nat × ByteArray)) (h : IsR w B d p c L) (hG : GoodK L) :
    Calls Tryz.prog 104 #[.pointer (some ⟨d, 0, none⟩)] w fun e w' => e = .returned (.int .u32 (top (eps L) : Int)) ∧ Ext w w' := by
  obtain ⟨n, s, hn, h64, hx⟩ := hG.last
  obtain ⟨g, rfl, _, h1, _⟩ := h.at_ hx
  have hr := h.ring.cell 0 _ rfl
  rw [hn] at hr
  exact rnewestK_at w d g c n _ hr (by omega) h1
/-! ### Rotate -/
theorem rrotate_arg (w : World) (d : Nat) (s : ByteArray) (hs : s.size ≠ 32) :
    Calls Tryz.prog 67 #[.pointer (some ⟨d, 0, none⟩), .string s] w fun e w' => e = .returned (.tuple #[.int .u32 0, .int .i64 2]) ∧ Ext w w' := by
  have hs2 : (s.size : Int) ≠ 32 := by omega
  have hs3 : ((s.size : Int) == 32) = false := by simpa using hs2
  go_enter Tryz.func67, Tryz.ntmps67
  go_wp2
  go_ret2
  exact ⟨rfl, Ext.refl _⟩
set_option maxRecDepth 100000 in
theorem rrotate_full (w : World) (B d : Nat) (p : Option Addr) (c : Nat) (L : List (Nat × ByteArray)) (h : IsR w B d p c L) (hG : GoodK L) (s : ByteArray) (hs : s.size = 32) (hf : 64 ≤ L.length ∨ top (eps L) = 4294967295) :
    Calls Tryz.prog 67 #[.pointer (some ⟨d, 0, none⟩), .string s] w fun e w' => e = .returned (.tuple #[.int .u32 0, .int .i64 4]) ∧ Ext w w' := by
  have HR := Lib.hid h
  have hs2 : (s.size : Int) = 32 := by omega
  have HF := Lib.hid hf
  have HN := Lib.hid (rnewestK_any w B d p c L h hG)
  clear h hf hG
  by_cases hl : 64 ≤ L.length
  · have hl2 : (64 : Int) ≤ (L.length : Int) := by omega
    generalize top (eps L) = t at *
    go_enter Tryz.func67, Tryz.ntmps67
    go_wp2_with (go_at_call 104; refine (HN.out).mono ?_; rintro e w1 ⟨rfl, x1⟩; have c1 := (HR.out.ext x1).ring.cell 0 _ rfl)
    go_ret2
    exact ⟨rfl, x1⟩
  · have ht : top (eps L) = 4294967295 := HF.out.resolve_left hl
    have hl2 : ¬ (64 : Int) ≤ (L.length : Int) := by omega
    have HN2 : Hid (Calls Tryz.prog 104 #[.pointer (some ⟨d, 0, none⟩)] w fun e w' => e = .returned (.int .u32 4294967295) ∧ Ext w w') := Lib.hid (by
      have := HN.out
      rw [ht] at this
      exact this)
    clear HN
    go_enter Tryz.func67, Tryz.ntmps67
    go_wp2_with (go_at_call 104; refine (HN2.out).mono ?_; rintro e w1 ⟨rfl, x1⟩; have c1 := (HR.out.ext x1).ring.cell 0 _ rfl)
    go_ret2
    exact ⟨rfl, x1⟩
/-- The world behind append and the store into the ring. -/
theorem IsR.more {w w2 w3 : World} {B d : Nat} {p p2 : Option Addr} {c c2 t : Nat} {κ3 : Foot} {L : List (Nat × ByteArray)} {s : ByteArray} (h : IsR w B d p c L) (hB : B ≤ w.heap.size) (x : Ext w w2)
    (s3 : Sl w3 κ3 1 2 79 p2 (L.length + 1) c2 (entL L ++ [.int .u32 (t : Int), .string s])) (f3 : Fr (kp p) (· = 1) w2 w3 κ3) (e3 : p2 = p ∨ p2 = some ⟨w2.heap.size, 0, none⟩) (x3 : c = 0 → Ext w2 w3) :
    IsR (w3.setCell ⟨d, 0, none⟩ (.slice p2 (L.length + 1) c2)) B d p2 c2 (L ++ [(t, s)]) ∧ TurnD B w (w3.setCell ⟨d, 0, none⟩ (.slice p2 (L.length + 1) c2)) := by
  have h2 := h.ext x
  have hother : ∀ g, g < w2.heap.size → p ≠ some ⟨g, 0, none⟩ → w3.heap[g]? = w2.heap[g]? := fun g hg hn => f3.other g hg (fun q => hn (kp_one q))
  have hd3 : Blk w3 d 77 [.slice p L.length c] := by
    by_cases hc : c = 0
    · exact h2.ring.ext (x3 hc)
    · obtain ⟨g, cur, q1, _, q3, _⟩ := h2.ents.2.2.2 (by omega)
      refine (hother d h2.ring.lt (fun q => ?_)).trans h2.ring
      rw [q1] at q
      cases q
      have := h2.ring
      unfold Blk at this
      rw [this] at q3
      cases q3
  have hlen : (L ++ [(t, s)]).length = L.length + 1 := by simp
  refine ⟨⟨?_, ?_, h.low, fun g hg => ?_, fun q => ?_⟩, ⟨⟨?_, ?_, ?_, ?_, fun g hg => ?_⟩, ?_, fun g o hg hn => ?_⟩⟩
  · rw [hlen]
    exact hd3.set_ 0 _
  · rw [hlen, entL_append]
    exact s3.kp.parted hd3 (by decide) (fun g hg => Below.heap_setCell _ _ _ _ (by exact hg))
  · rcases e3 with e | e
    · exact h.lowp g (e ▸ hg)
    · rw [hg] at e
      cases e
      exact Nat.le_trans hB x.size
  · have q := kp_one q
    rcases e3 with e | e
    · exact h.apart (by rw [← e, q]; simp [kp])
    · rw [q] at e
      have := h2.ring.lt
      simp at e
  · exact f3.os.trans x.os
  · exact f3.tape.trans x.tape
  · exact f3.output.trans x.output
  · have := Nat.le_trans x.size f3.size
    simp [World.setCell]
    omega
  · have hlt : g < w.heap.size := by omega
    rw [Below.heap_setCell _ _ _ _ (by have := h.low; show g ≠ d; omega), hother g (Nat.lt_of_lt_of_le hlt x.size) (fun q => by have := h.lowp g q; omega)]
    exact x.block g hlt
  · have := Nat.le_trans x.size f3.size
    simpa [World.setCell] using this
  · have hg2 := (x.block g (heap_lt hg)).trans hg
    have hgd : g ≠ d := fun e => by
      subst e
      have := h.ring
      unfold Blk at this
      rw [this] at hg
      cases hg
      exact hn.1 _ _ rfl
    rw [Below.heap_setCell _ _ _ _ (by exact hgd)]
    by_cases hc : c = 0
    · exact ((x3 hc).block g (heap_lt hg2)).trans hg2
    · obtain ⟨g', cur, q1, _, q3, _⟩ := h2.ents.2.2.2 (by omega)
      refine (hother g (heap_lt hg2) (fun q => ?_)).trans hg2
      rw [q1] at q
      cases q
      rw [hg2] at q3
      cases q3
      exact hn.2 _ _ rfl
set_option maxRecDepth 100000 in
set_option maxHeartbeats 2000000 in
theorem rrotate_yes (w : World) (B d : Nat) (p : Option Addr) (c : Nat) (L : List (Nat × ByteArray)) (hB : B ≤ w.heap.size) (h : IsR w B d p c L) (hG : GoodK L) (s : ByteArray) (hs : s.size = 32) (hl : L.length < 64) (ht : top (eps L) < 4294967295) :
    Calls Tryz.prog 67 #[.pointer (some ⟨d, 0, none⟩), .string s] w fun e w' => ∃ p' c', e = .returned (.tuple #[.int .u32 (top (eps L) + 1 : Nat), .int .i64 0]) ∧ IsR w' B d p' c' (L ++ [(top (eps L) + 1, s)]) ∧ TurnD B w w' := by
  have HR := Lib.hid h
  have hs2 : (s.size : Int) = 32 := by omega
  have hl2 : ¬ (64 : Int) ≤ (L.length : Int) := by omega
  have HB := Lib.hid hB
  have HN := Lib.hid (rnewestK_any w B d p c L h hG)
  clear h hB hG
  generalize top (eps L) = t at *
  have HE : Hid (((t + 1 : Nat) : Int) = (t : Int) + 1) := Lib.hid (by omega)
  have ht2 : (t : Int) ≠ 4294967295 := by omega
  have hw : IntKind.u32.wrap ((t : Int) + 1) = (t : Int) + 1 := by simp [IntKind.wrap, IntKind.signed, IntKind.bits]; omega
  go_enter Tryz.func67, Tryz.ntmps67
  go_wp2_with (first
    | (go_at_call 104; refine (HN.out).mono ?_; rintro e w1 ⟨rfl, x1⟩; have c1 := (HR.out.ext x1).ring.cell 0 _ rfl)
    | (refine wpList_append_sl rfl (.tmp 26) (.tmp 31) 75 75 rfl Tryz.underlying75 infoEn rfl (by decide) rfl (HR.out.ents.ext (x1.alloc _)) (entL_one _) _ rfl 1 [.int .u32 ((t : Int) + 1), .string s] ((Sl.ofBlkR (κ := fun _ => 0) (z := 2) (Blk.new _ [.int .u32 ((t : Int) + 1), .string s] 79) rfl rfl).src Tryz.underlying75 (by intro u hu; simp at hu; rcases hu with rfl | rfl <;> rfl)) (by omega) ?_; intro p2 c2 w3 κ3 s3 f3 e3 x3 _
       rw [← HE.out] at s3
       obtain ⟨m1, m2⟩ := HR.out.more HB.out (x1.alloc _) s3 f3 e3 x3
       have hd3 := (f3.blk (HR.out.ring.ext (x1.alloc _)) (fun q => HR.out.apart q)); have c3 := hd3.cell 0 _ rfl; have g3 := hd3.frozen 0; have M1 := Lib.hid m1; have M2 := Lib.hid m2; clear s3 f3 e3 x3 m1 m2 hd3))
  · rename_i hbad
    exfalso
    simp at hbad
    omega
  go_ret2
  exact ⟨p2, c2, by first | rfl | (rw [HE.out]; rfl) | simp [HE.out], M1.out, M2.out⟩
end Go.Proofs.YtobhbppogeghnaaGreatDoor
end

section
namespace Go.Proofs.YtobhbppogeghnaaGreatDoor
open Go.RowKit

theorem quo_wrap {n j m : Nat} (hn : Hid (n < 2 ^ 64)) (hm : m = n / 256 ^ j) : IntKind.u64.wrap ((m : Int) / 256) = ((m / 256 : Nat) : Int) := by
  have h1 : m ≤ n := by rw [hm]; exact Nat.div_le_self _ _
  have := u64_nat (x := m / 256) (by have := hn.out; omega)
  simpa using this
set_option maxRecDepth 100000 in
theorem rPut_any (n : Nat) (hn : Hid (n < 2 ^ 64)) (k : Nat) (hk : k ≤ 8) (w : World) :
    Calls Tryz.prog 107 #[.int .u64 (n : Int), .int .i64 (k : Int)] w fun e w' => e = .returned (.string ⟨(be k n).toArray⟩) ∧ Ext w w' := by
  have hmk := make_bytes k (by omega)
  go_enter Tryz.func107, Tryz.ntmps107
  go_wp2
  go_loopw [6, 0] (fun i m wr => ∃ j : Nat, j ≤ k ∧ i = .int .i64 ((k : Int) - 1 - (j : Int)) ∧ m = .int .u64 ((n / 256 ^ j : Nat) : Int) ∧ Row wr w.heap.size 5 (List.replicate (k - j) 0 ++ be j n) ∧ Ext w wr) (fun i _ _ => (intOf i + 1).toNat)
  case atStart => exact ⟨0, Nat.zero_le _, by simp, by simp, by simpa [be] using Row.made w 5 k, (Ext.refl w).alloc _⟩
  case round =>
    obtain ⟨j, hj, rfl, rfl, hrow, hext⟩ := hrel
    by_cases hlt : j < k
    · have hc := put_cell hlt hrow
      have hf := hrow.frozen (k - 1 - j)
      obtain ⟨m, hm⟩ : ∃ m : Nat, m = n / 256 ^ j := ⟨_, rfl⟩
      rw [← hm]
      have Hm := Lib.hid hm; clear hm
      go_wp2
      go_roundw
      case rel => exact ⟨j + 1, by omega, int_eq (by omega), by rw [← div_step, ← Hm.out]; exact int_eq (quo_wrap hn Hm.out), quo_step Hm.out hlt hrow, hext.setCell (Nat.le_refl _) _⟩
      case measure => simp [intOf]; omega
    · obtain rfl : j = k := by omega
      have ht := hrow.text (P := Tryz.prog) 43 5 9 Tryz.underlying43 Tryz.underlying5 Tryz.underlying9 j j (by simp [be_length])
      clear hrow
      go_wp2
      go_ret
      exact ⟨by simp, hext⟩
end Go.Proofs.YtobhbppogeghnaaGreatDoor
end

section
namespace Go.Proofs.YtobhbppogeghnaaGreatDoor
open Go.RowKit

theorem rput4k (n : Nat) (hn : n < 4294967296) (w : World) : Calls Tryz.prog 107 #[.int .u64 (n : Int), .int .i64 4] w fun e w' => e = .returned (.string ⟨(be 4 n).toArray⟩) ∧ Ext w w' := rPut_any n (Lib.hid (by omega)) 4 (by omega) w
set_option maxRecDepth 100000 in
set_option maxHeartbeats 4000000 in
theorem rbytesK_any (w : World) (B d : Nat) (p : Option Addr) (c : Nat) (L : List (Nat × ByteArray)) (h : IsR w B d p c L) (hG : GoodK L) :
    Calls Tryz.prog 105 #[.pointer (some ⟨d, 0, none⟩)] w fun e w' => e = .returned (.string ⟨(ringL L).toArray⟩) ∧ Ext w w' := by
  have h64 := hG.few
  have HR := Lib.hid h; have HG := Lib.hid hG
  have c0 := h.ring.cell 0 _ rfl
  have hwn : IntKind.u8.wrap (L.length : Int) = (L.length : Int) := IntWalk.u8_in _ ⟨by omega, by omega⟩
  have hcv := fun t => one_text2 (L.length : Int) (UInt8.ofNat L.length) (by rw [UInt8.toNat_ofNat']; omega) t w
  have HX := Lib.hid ((Ext.refl w).alloc (.cells #[.int .u8 (L.length : Int)] 5))
  clear h hG
  go_enter Tryz.func105, Tryz.ntmps105
  go_wp2
  clear hcv c0 hwn
  go_loopw [3, 4] (fun sv iv wr => ∃ (j : Nat) (SV : ByteArray), j ≤ L.length ∧ iv = .int .i64 (j : Int) ∧ sv = .string SV ∧ Hid (SV = ⟨(UInt8.ofNat L.length :: rowsL (L.take j)).toArray⟩) ∧ Hid (Ext w wr)) (fun _ iv _ => L.length - (intOf iv).toNat)
  case atStart => exact ⟨0, _, Nat.zero_le _, rfl, rfl, Lib.hid rfl, HX⟩
  case round =>
    obtain ⟨j, SV, hj, rfl, rfl, HS, HXr⟩ := hrel
    clear HX
    have c0 := (HR.out.ext HXr.out).ring.cell 0 _ rfl
    by_cases hlt : j < L.length
    · have hlti : (j : Int) < (L.length : Int) := by omega
      obtain ⟨⟨e, s⟩, hx⟩ : ∃ x, L[j]? = some x := ⟨_, List.getElem?_eq_getElem hlt⟩
      have hRr := HR.out.ext HXr.out
      obtain ⟨g, rfl, _, c1, c2⟩ := hRr.at_ hx
      have hgb : g < wr.heap.size := by
        obtain ⟨g', e', hlt', _⟩ := hRr.ents.cell (entL_at L j _ hx).1
        cases e'
        exact hlt'
      have he := HG.out.each _ (List.mem_of_getElem? hx)
      have hs32 : s.size = 32 := he.2.2
      have he32 : e < 4294967296 := he.2.1
      have hw64 : IntKind.u64.wrap (e : Int) = (e : Int) := by simp [IntKind.wrap, IntKind.signed, IntKind.bits]; omega
      have HP := Lib.hid (fun u => rput4k e he32 u)
      have hzS : SV.size = 1 + 36 * j := by
        rw [HS.out, txt_size, List.length_cons, rowsL_length (fun x hx2 => (HG.out.each x (List.mem_of_mem_take hx2)).2.2), List.length_take]
        omega
      have hnx : SV ++ ⟨(be 4 e).toArray⟩ ++ s = ⟨(UInt8.ofNat L.length :: rowsL (L.take (j + 1))).toArray⟩ := by
        rw [HS.out, str_append, text_add, rowsL_succ hx]
        simp
      have hz4 : (⟨(be 4 e).toArray⟩ : ByteArray).size = 4 := by rw [txt_size, be_length]
      have HNx := Lib.hid hnx
      have HKeep : Hid (∀ u, Ext wr u → u.cell? ⟨d, 0, none⟩ = some (.slice (some ⟨g, 0, none⟩) L.length c) ∧ u.cell? ⟨g, j * 2, none⟩ = some (.int .u32 (e : Int)) ∧ u.cell? ⟨g, j * 2 + 1, none⟩ = some (.string s) ∧ Ext wr u) :=
        Lib.hid fun u hu => ⟨(hRr.ring.ext hu).cell 0 _ rfl, by rw [hu.below.cell (p := ⟨g, j * 2, none⟩) hgb]; exact c1, by rw [hu.below.cell (p := ⟨g, j * 2 + 1, none⟩) hgb]; exact c2, hu⟩
      have hS := HKeep.out wr.drew (Ext.refl wr).drew
      have c0' := c0
      clear hx c0 c1 c2 he hnx hgb hRr
      generalize (⟨(be 4 e).toArray⟩ : ByteArray) = E at *
      have ht1 : ¬ 9223372036854775807 < SV.size + E.size := by omega
      have ht2 : ¬ 9223372036854775807 < SV.size + E.size + s.size := by omega
      have ht3 : ¬ 9223372036854775807 < (SV ++ E).size + s.size := by rw [ByteArray.size_append]; exact ht2
      have hr1 : ∀ u, (Op.stringOp .add SV E).run Tryz.prog u = .ok (.string (SV ++ E)) u := fun u => by simp [Op.stringOp, IntKind.max, IntKind.signed, IntKind.bits]; omega
      have hr2 : ∀ u, (Op.stringOp .add (SV ++ E) s).run Tryz.prog u = .ok (.string (SV ++ E ++ s)) u := fun u => by simp [Op.stringOp, IntKind.max, IntKind.signed, IntKind.bits, ByteArray.size_append]; omega
      have hi1 : ¬ (9223372036854775807 : Int) < (SV.size : Int) + (E.size : Int) := by omega
      have hi2 : ¬ (9223372036854775807 : Int) < (SV.size : Int) + (E.size : Int) + (s.size : Int) := by omega
      go_upto_region 5 with (fail)
      go_region_held3 (fun u => u.cell? ⟨d, 0, none⟩ = some (.slice (some ⟨g, 0, none⟩) L.length c) ∧ u.cell? ⟨g, j * 2, none⟩ = some (.int .u32 (e : Int)) ∧ u.cell? ⟨g, j * 2 + 1, none⟩ = some (.string s) ∧ Ext wr u) (first | exact hS | exact hS1 | assumption | exact HKeep.out _ (by repeat' (first | assumption | exact Ext.refl _ | refine Ext.drew ?_ | refine Ext.alloc ?_ _)) | go_keep) (first
        | (go_at_call 107; refine (HP.out _).mono ?_; rintro e1 w4 ⟨rfl, h4⟩; have y4 := Ext.trans (a := wr) (by repeat' (first | assumption | exact Ext.refl _ | refine Ext.drew ?_ | refine Ext.alloc ?_ _)) h4; have hS1 := HKeep.out _ y4))
      all_goals
        have Y4 := Lib.hid y4
        clear hS hS1 y4
        go_wp2
        go_roundw
        case rel => exact ⟨j + 1, _, hlt, by go_num, rfl, HNx, Lib.hid (HXr.out.trans Y4.out)⟩
        case measure => simp [intOf]; omega
    · obtain rfl : j = L.length := by omega
      have hlti : ¬ (L.length : Int) < (L.length : Int) := by omega
      have HE : Hid (SV = ⟨(ringL L).toArray⟩) := Lib.hid (by rw [HS.out, List.take_length]; rfl)
      clear hlti HS
      go_wp2
      go_ret
      exact ⟨by rw [HE.out]; rfl, HXr.out⟩
end Go.Proofs.YtobhbppogeghnaaGreatDoor
end

section
namespace Go.Proofs.YtobhbppogeghnaaGreatDoor
open Go.RowKit

theorem rTurn_any (n : Nat) (hn : n < 4294967296) (b : Int) (w : World) :
    Calls Tryz.prog 217 #[.int .u32 (n : Int), .int .i64 b] w fun e w' => e = .returned (.int .u32 (rot n (places b) : Int)) ∧ w = w' := by
  have hb := places_i64 b
  have hr := places_lt b
  obtain ⟨r, hr'⟩ : ∃ r, r = places b := ⟨_, rfl⟩
  rw [← hr'] at hb hr ⊢
  clear hr'
  rw [← acc_rot n r hn hr]
  go_enter Tryz.func217, Tryz.ntmps217
  go_wp2
  go_loop [6, 7] (fun m i => ∃ j : Nat, j ≤ 32 ∧ i = .int .i64 j ∧ m = .int .u32 (acc n r j : Int)) (fun _ i => 32 - (intOf i).toNat)
  case atStart => exact ⟨0, Nat.zero_le _, rfl, rfl⟩
  case round =>
    clear hb
    obtain ⟨j, hj, rfl, rfl⟩ := hrel
    by_cases hlt : j < 32
    · have hbit := bit_test n j hn
      by_cases ht : n.testBit j = true
      · have hval := int_eq (k := .u32) (or_val n r j hr hlt ht)
        have Hval := Lib.hid hval; clear hval
        rw [ht] at hbit
        clear ht
        generalize hx : acc n r j = x at *
        have Hx := Lib.hid hx; clear hx
        go_wp2
        go_round
        case rel => exact ⟨j + 1, by omega, by go_num, Hval.out⟩
        case measure => simp [intOf]; omega
      · have hval : acc n r (j + 1) = acc n r j := by conv => lhs; unfold acc
                                                      rw [if_neg ht]
        have Hval := Lib.hid hval; clear hval
        rw [Bool.eq_false_iff.2 ht] at hbit
        clear ht
        generalize hx : acc n r j = x at *
        have Hx := Lib.hid hx; clear hx
        go_wp2
        go_round
        case rel => exact ⟨j + 1, by omega, by go_num, by rw [Hval.out]⟩
        case measure => simp [intOf]; omega
    · obtain rfl : j = 32 := by omega
      go_wp2
      go_ret
      exact ⟨rfl, rfl⟩
end Go.Proofs.YtobhbppogeghnaaGreatDoor
end

section
namespace Go.Proofs.YtobhbppogeghnaaGreatDoor
open Go.RowKit

/-- A hex digit of four bits. -/
def hexd (k : Nat) : UInt8 := UInt8.ofNat (if k < 10 then 48 + k else 87 + k)
def hexL : List UInt8 → List UInt8
  | [] => []
  | b :: r => hexd (b.toNat / 16) :: hexd (b.toNat % 16) :: hexL r
end Go.Proofs.YtobhbppogeghnaaGreatDoor
end
