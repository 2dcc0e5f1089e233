/- Contracts: keys by epochs: the document's ring: what it is, a new one, the newest epoch, the next epoch's key. Contracts: a tag cut to its first bytes. Contracts: whether texts are the same, by the program. -/
import Derived.Test.YtdnpgmoiapkhnaaGreatDoorM28
import Derived.Test.YtdnpgmoiapkhnaaGreatDoorM12
import Derived.BigQuiet
import Derived.Test.YtdnpgmoiapkhnaaGreatDoorM17
import Derived.Test.YtdnpgmoiapkhnaaGreatDoorM14
section
namespace Go.Proofs.YtdnpgmoiapkhnaaGreatDoor
open Go.RowKit

/-- Entries as cells. -/
def entL : List (Nat × ByteArray) → List Value
  | [] => []
  | x :: r => .int .u32 (x.1 : Int) :: .string x.2 :: entL r
theorem entL_append : ∀ (l m : List (Nat × ByteArray)), entL (l ++ m) = entL l ++ entL m
  | [], _ => rfl
  | x :: r, m => by rw [List.cons_append, entL, entL_append r m, entL]; rfl
theorem entL_length : ∀ (l : List (Nat × ByteArray)), (entL l).length = l.length * 2
  | [] => rfl
  | x :: r => by rw [entL, List.length_cons, List.length_cons, entL_length r, List.length_cons]; omega
theorem entL_at : ∀ (l : List (Nat × ByteArray)) (i : Nat) (x : Nat × ByteArray), l[i]? = some x → (entL l)[i * 2]? = some (.int .u32 (x.1 : Int)) ∧ (entL l)[i * 2 + 1]? = some (.string x.2)
  | [], i, x, h => by simp at h
  | y :: r, 0, x, h => by
    simp at h
    subst h
    exact ⟨rfl, rfl⟩
  | y :: r, i + 1, x, h => by
    have h2 := entL_at r i x (by simpa using h)
    rw [show (i + 1) * 2 = i * 2 + 1 + 1 by omega, entL]
    simp only [List.getElem?_cons_succ]
    exact h2
theorem entL_one : ∀ (l : List (Nat × ByteArray)), ∀ u ∈ entL l, u.oneCell' = true
  | [], u, h => by cases h
  | x :: r, u, h => by
    rw [entL] at h
    rcases List.mem_cons.1 h with rfl | h
    · rfl
    · rcases List.mem_cons.1 h with rfl | h
      · rfl
      · exact entL_one r u h
theorem infoEn : (Tryz.prog.info? 71).map (fun i => (i.zero, i.size, i.bytes)) = some (some (.agg #[.int .u32 0, .string ⟨#[]⟩]), 2, 24) := by kernel_rfl
/-- The block of a slice. -/
def kp (p : Option Addr) : Foot := fun g => if p = some ⟨g, 0, none⟩ then 1 else 0
theorem kp_one {p : Option Addr} {g : Nat} (h : kp p g = 1) : p = some ⟨g, 0, none⟩ := by
  unfold kp at h
  by_cases q : p = some ⟨g, 0, none⟩
  · exact q
  · rw [if_neg q] at h; cases h
theorem Sl.kp {w : World} {κ : Foot} {k z : Nat} {T : TypeId} {p : Option Addr} {n c : Nat} {vs : List Value} (h : Sl w κ k z T p n c vs) : Sl w (kp p) 1 z T p n c vs :=
  ⟨h.1, h.2.1, h.2.2.1, fun hc => by
    obtain ⟨g, cur, e, _, r⟩ := h.2.2.2 hc
    exact ⟨g, cur, e, by simp [YtdnpgmoiapkhnaaGreatDoor.kp, e], r⟩⟩
theorem Sl.ofBlkR {w : World} {κ : Foot} {k z : Nat} {T : TypeId} {g n : Nat} {vs : List Value} (h : Blk w g T vs) (hn : vs.length = n * z) (hk : κ g = k) : Sl w κ k z T (some ⟨g, 0, none⟩) n n vs :=
  ⟨hn, Nat.le_refl _, .inr ⟨g, rfl⟩, fun _ => ⟨g, vs.toArray, rfl, hk, h, by simp [hn], fun j u hj => by simpa using hj⟩⟩
/-- None of the document's ring's blocks. -/
def NotD (o : Obj) : Prop := (∀ cur fr, o ≠ .cells cur 74 fr) ∧ (∀ cur fr, o ≠ .cells cur 71 fr)
/-- Only blocks of the document's ring were written, none below B. -/
structure TurnD (B : Nat) (w w' : World) : Prop where
  below : Below B w w'
  size : w.heap.size ≤ w'.heap.size
  keep : ∀ (g : Nat) (o : Obj), w.heap[g]? = some o → NotD o → w'.heap[g]? = some o
theorem TurnD.trans {B : Nat} {a b c : World} (h : TurnD B a b) (k : TurnD B b c) : TurnD B a c := ⟨h.below.trans k.below, Nat.le_trans h.size k.size, fun g o hg hn => k.keep g o (h.keep g o hg hn) hn⟩
theorem Ext.turnD {B : Nat} {a b : World} (h : Ext a b) (hB : B ≤ a.heap.size) : TurnD B a b := ⟨Below.mono h hB, h.size, fun g _ hg _ => (h.block g (heap_lt hg)).trans hg⟩
theorem IsK.turnD {B : Nat} {w w' : World} {r b : Nat} {L : List (Nat × ByteArray)} (h : IsK w r b L) (t : TurnD B w w') : IsK w' r b L := by
  obtain ⟨es, cl, hb⟩ := h.map.is
  exact ⟨t.keep _ _ h.ring ⟨fun _ _ e => (by cases e), fun _ _ e => (by cases e)⟩, h.map.same ((t.keep _ _ hb ⟨fun _ _ e => (by cases e), fun _ _ e => (by cases e)⟩).trans hb.symm), h.good⟩
/-- Block d is the document's ring of these keys; neither it nor its entries lie below B. -/
structure IsR (w : World) (B d : Nat) (p : Option Addr) (c : Nat) (L : List (Nat × ByteArray)) : Prop where
  ring : Blk w d 74 [.slice p L.length c]
  ents : Sl w (kp p) 1 2 71 p L.length c (entL L)
  low : B ≤ d
  lowp : ∀ g, p = some ⟨g, 0, none⟩ → B ≤ g
  apart : ¬ kp p d = 1
section
variable {w w' : World} {B d : Nat} {p : Option Addr} {c : Nat} {L : List (Nat × ByteArray)}
theorem IsR.ext (h : IsR w B d p c L) (x : Ext w w') : IsR w' B d p c L := ⟨h.ring.ext x, h.ents.ext x, h.low, h.lowp, h.apart⟩
theorem IsR.grown {b : Nat} {M : List (Nat × ByteArray)} (h : IsR w B d p c L) (hm : IsM w b M) (g : w.grownBy w' (some b)) : IsR w' B d p c L := by
  obtain ⟨es, cl, hb⟩ := hm.is
  have hk : ∀ (x : Nat) (cur : Array Value) (T : TypeId) (fr : Nat × Nat), w.heap[x]? = some (Obj.cells cur T fr) → w'.heap[x]? = w.heap[x]? := fun x cur T fr hx => g.block x (heap_lt hx) (fun e => by cases e; rw [hb] at hx; cases hx)
  refine ⟨(hk _ _ _ _ h.ring).trans h.ring, ⟨h.ents.1, h.ents.2.1, h.ents.2.2.1, fun hc => ?_⟩, h.low, h.lowp, h.apart⟩
  obtain ⟨x, cur, h1, h2, h3, h4⟩ := h.ents.2.2.2 hc
  exact ⟨x, cur, h1, h2, (hk _ _ _ _ h3).trans h3, h4⟩
theorem IsR.at_ (h : IsR w B d p c L) {i : Nat} {x : Nat × ByteArray} (hx : L[i]? = some x) : ∃ g, p = some ⟨g, 0, none⟩ ∧ B ≤ g ∧ w.cell? ⟨g, i * 2, none⟩ = some (.int .u32 (x.1 : Int)) ∧ w.cell? ⟨g, i * 2 + 1, none⟩ = some (.string x.2) := by
  have he := entL_at L i x hx
  obtain ⟨g, h1, _, _, h4, _⟩ := h.ents.cell he.1
  obtain ⟨g', h1', _, _, h4', _⟩ := h.ents.cell he.2
  rw [h1] at h1'
  cases h1'
  exact ⟨g, h1, h.lowp g h1, h4, h4'⟩
end
theorem rnewK_any (w : World) (s : ByteArray) :
    Calls Tryz.prog 11 #[.string s] w fun e w' => ∃ d p, e = .returned (.pointer (some ⟨d, 0, none⟩)) ∧ IsR w' w.heap.size d p 1 [(1, s)] ∧ Ext w w' := by
  go_enter Tryz.func11, Tryz.ntmps11
  go_wp2
  go_ret
  have b1 := (Blk.new w [.int .u32 1, .string s] 71).alloc (.cells #[.slice (some ⟨w.heap.size, 0, none⟩) 1 1] 74)
  have b2 := Blk.new (w.alloc (.cells #[.int .u32 1, .string s] 71)) [.slice (some ⟨w.heap.size, 0, none⟩) 1 1] 74
  have hz : (w.alloc (.cells #[.int .u32 1, .string s] 71)).heap.size = w.heap.size + 1 := by simp
  rw [hz] at b2
  exact ⟨_, some ⟨w.heap.size, 0, none⟩, rfl, ⟨b2, Sl.ofBlkR b1 rfl (by simp [kp]), Nat.le_succ _, fun g e => by cases e; exact Nat.le_refl _, by simp [kp]⟩, ((Ext.refl w).alloc _).alloc _⟩
set_option maxRecDepth 100000 in
theorem rnewestK_at (w : World) (d g c : Nat) (n t : Nat) (hr : w.cell? ⟨d, 0, none⟩ = some (.slice (some ⟨g, 0, none⟩) (n + 1 : Nat) c)) (hn64 : n < 1000) (c1 : w.cell? ⟨g, n * 2, none⟩ = some (.int .u32 (t : Int))) :
    Calls Tryz.prog 39 #[.pointer (some ⟨d, 0, none⟩)] w fun e w' => e = .returned (.int .u32 (t : Int)) ∧ Ext w w' := by
  have hwn : IntKind.i64.wrap (n : Int) = (n : Int) := by simp [IntKind.wrap, IntKind.signed, IntKind.bits]; omega
  go_enter Tryz.func39, Tryz.ntmps39
  go_wp2_with (fail)
  go_quiet (fail)
  go_wp2
  go_ret
  exact ⟨rfl, (Ext.refl w).drewN _⟩
/-- The last entry is the newest epoch's. -/
theorem GoodK.last {L : List (Nat × ByteArray)} (hG : GoodK L) : ∃ n s, L.length = n + 1 ∧ n < 64 ∧ L[n]? = some (top (eps L), s) := by
  have h1 : 1 ≤ L.length := by
    have := hG.ne
    cases hq : L with
    | nil => exact absurd hq this
    | cons => simp
  have h64 := hG.few
  obtain ⟨n, hn⟩ : ∃ n, L.length = n + 1 := ⟨L.length - 1, by omega⟩
  have hl : n < (eps L).length := by unfold eps; rw [List.length_map]; omega
  have ht := last_top hG hn hl
  have hlt : n < L.length := by omega
  refine ⟨n, L[n].2, hn, by omega, ?_⟩
  rw [List.getElem?_eq_getElem hlt, ← ht]
  simp [eps]
theorem rnewestK_any (w : World) (B d : Nat) (p : Option Addr) (c : Nat) (L : List (Nat × ByteArray)) (h : IsR w B d p c L) (hG : GoodK L) :
    Calls Tryz.prog 39 #[.pointer (some ⟨d, 0, none⟩)] w fun e w' => e = .returned (.int .u32 (top (eps L) : Int)) ∧ Ext w w' := by
  obtain ⟨n, s, hn, h64, hx⟩ := hG.last
  obtain ⟨g, rfl, _, h1, _⟩ := h.at_ hx
  have hr := h.ring.cell 0 _ rfl
  rw [hn] at hr
  exact rnewestK_at w d g c n _ hr (by omega) h1
/-! ### Rotate -/
theorem rrotate_arg (w : World) (d : Nat) (s : ByteArray) (hs : s.size ≠ 32) :
    Calls Tryz.prog 15 #[.pointer (some ⟨d, 0, none⟩), .string s] w fun e w' => e = .returned (.tuple #[.int .u32 0, .int .i64 2]) ∧ Ext w w' := by
  have hs2 : (s.size : Int) ≠ 32 := by omega
  have hs3 : ((s.size : Int) == 32) = false := by simpa using hs2
  go_enter Tryz.func15, Tryz.ntmps15
  go_wp2
  go_ret2
  exact ⟨rfl, Ext.refl _⟩
set_option maxRecDepth 100000 in
theorem rrotate_full (w : World) (B d : Nat) (p : Option Addr) (c : Nat) (L : List (Nat × ByteArray)) (h : IsR w B d p c L) (hG : GoodK L) (s : ByteArray) (hs : s.size = 32) (hf : 64 ≤ L.length ∨ top (eps L) = 4294967295) :
    Calls Tryz.prog 15 #[.pointer (some ⟨d, 0, none⟩), .string s] w fun e w' => e = .returned (.tuple #[.int .u32 0, .int .i64 4]) ∧ Ext w w' := by
  have HR := Lib.hid h
  have hs2 : (s.size : Int) = 32 := by omega
  have HF := Lib.hid hf
  have HN := Lib.hid (rnewestK_any w B d p c L h hG)
  clear h hf hG
  by_cases hl : 64 ≤ L.length
  · have hl2 : (64 : Int) ≤ (L.length : Int) := by omega
    generalize top (eps L) = t at *
    go_enter Tryz.func15, Tryz.ntmps15
    go_wp2_with (go_at_call 39; refine (HN.out).mono ?_; rintro e w1 ⟨rfl, x1⟩; have c1 := (HR.out.ext x1).ring.cell 0 _ rfl)
    go_ret2
    exact ⟨rfl, x1⟩
  · have ht : top (eps L) = 4294967295 := HF.out.resolve_left hl
    have hl2 : ¬ (64 : Int) ≤ (L.length : Int) := by omega
    have HN2 : Hid (Calls Tryz.prog 39 #[.pointer (some ⟨d, 0, none⟩)] w fun e w' => e = .returned (.int .u32 4294967295) ∧ Ext w w') := Lib.hid (by
      have := HN.out
      rw [ht] at this
      exact this)
    clear HN
    go_enter Tryz.func15, Tryz.ntmps15
    go_wp2_with (go_at_call 39; refine (HN2.out).mono ?_; rintro e w1 ⟨rfl, x1⟩; have c1 := (HR.out.ext x1).ring.cell 0 _ rfl)
    go_ret2
    exact ⟨rfl, x1⟩
/-- The world behind append and the store into the ring. -/
theorem IsR.more {w w2 w3 : World} {B d : Nat} {p p2 : Option Addr} {c c2 t : Nat} {κ3 : Foot} {L : List (Nat × ByteArray)} {s : ByteArray} (h : IsR w B d p c L) (hB : B ≤ w.heap.size) (x : Ext w w2)
    (s3 : Sl w3 κ3 1 2 71 p2 (L.length + 1) c2 (entL L ++ [.int .u32 (t : Int), .string s])) (f3 : Fr (kp p) (· = 1) w2 w3 κ3) (e3 : p2 = p ∨ p2 = some ⟨w2.heap.size, 0, none⟩) (x3 : c = 0 → Ext w2 w3) :
    IsR (w3.setCell ⟨d, 0, none⟩ (.slice p2 (L.length + 1) c2)) B d p2 c2 (L ++ [(t, s)]) ∧ TurnD B w (w3.setCell ⟨d, 0, none⟩ (.slice p2 (L.length + 1) c2)) := by
  have h2 := h.ext x
  have hother : ∀ g, g < w2.heap.size → p ≠ some ⟨g, 0, none⟩ → w3.heap[g]? = w2.heap[g]? := fun g hg hn => f3.other g hg (fun q => hn (kp_one q))
  have hd3 : Blk w3 d 74 [.slice p L.length c] := by
    by_cases hc : c = 0
    · exact h2.ring.ext (x3 hc)
    · obtain ⟨g, cur, q1, _, q3, _⟩ := h2.ents.2.2.2 (by omega)
      refine (hother d h2.ring.lt (fun q => ?_)).trans h2.ring
      rw [q1] at q
      cases q
      have := h2.ring
      unfold Blk at this
      rw [this] at q3
      cases q3
  have hlen : (L ++ [(t, s)]).length = L.length + 1 := by simp
  refine ⟨⟨?_, ?_, h.low, fun g hg => ?_, fun q => ?_⟩, ⟨⟨?_, ?_, ?_, ?_, fun g hg => ?_⟩, ?_, fun g o hg hn => ?_⟩⟩
  · rw [hlen]
    exact hd3.set_ 0 _
  · rw [hlen, entL_append]
    exact s3.kp.parted hd3 (by decide) (fun g hg => Below.heap_setCell _ _ _ _ (by exact hg))
  · rcases e3 with e | e
    · exact h.lowp g (e ▸ hg)
    · rw [hg] at e
      cases e
      exact Nat.le_trans hB x.size
  · have q := kp_one q
    rcases e3 with e | e
    · exact h.apart (by rw [← e, q]; simp [kp])
    · rw [q] at e
      have := h2.ring.lt
      simp at e
  · exact f3.os.trans x.os
  · exact f3.tape.trans x.tape
  · exact f3.output.trans x.output
  · have := Nat.le_trans x.size f3.size
    simp [World.setCell]
    omega
  · have hlt : g < w.heap.size := by omega
    rw [Below.heap_setCell _ _ _ _ (by have := h.low; show g ≠ d; omega), hother g (Nat.lt_of_lt_of_le hlt x.size) (fun q => by have := h.lowp g q; omega)]
    exact x.block g hlt
  · have := Nat.le_trans x.size f3.size
    simpa [World.setCell] using this
  · have hg2 := (x.block g (heap_lt hg)).trans hg
    have hgd : g ≠ d := fun e => by
      subst e
      have := h.ring
      unfold Blk at this
      rw [this] at hg
      cases hg
      exact hn.1 _ _ rfl
    rw [Below.heap_setCell _ _ _ _ (by exact hgd)]
    by_cases hc : c = 0
    · exact ((x3 hc).block g (heap_lt hg2)).trans hg2
    · obtain ⟨g', cur, q1, _, q3, _⟩ := h2.ents.2.2.2 (by omega)
      refine (hother g (heap_lt hg2) (fun q => ?_)).trans hg2
      rw [q1] at q
      cases q
      rw [hg2] at q3
      cases q3
      exact hn.2 _ _ rfl
set_option maxRecDepth 100000 in
set_option maxHeartbeats 2000000 in
theorem rrotate_yes (w : World) (B d : Nat) (p : Option Addr) (c : Nat) (L : List (Nat × ByteArray)) (hB : B ≤ w.heap.size) (h : IsR w B d p c L) (hG : GoodK L) (s : ByteArray) (hs : s.size = 32) (hl : L.length < 64) (ht : top (eps L) < 4294967295) :
    Calls Tryz.prog 15 #[.pointer (some ⟨d, 0, none⟩), .string s] w fun e w' => ∃ p' c', e = .returned (.tuple #[.int .u32 (top (eps L) + 1 : Nat), .int .i64 0]) ∧ IsR w' B d p' c' (L ++ [(top (eps L) + 1, s)]) ∧ TurnD B w w' := by
  have HR := Lib.hid h
  have hs2 : (s.size : Int) = 32 := by omega
  have hl2 : ¬ (64 : Int) ≤ (L.length : Int) := by omega
  have HB := Lib.hid hB
  have HN := Lib.hid (rnewestK_any w B d p c L h hG)
  clear h hB hG
  generalize top (eps L) = t at *
  have HE : Hid (((t + 1 : Nat) : Int) = (t : Int) + 1) := Lib.hid (by omega)
  have ht2 : (t : Int) ≠ 4294967295 := by omega
  have hw : IntKind.u32.wrap ((t : Int) + 1) = (t : Int) + 1 := by simp [IntKind.wrap, IntKind.signed, IntKind.bits]; omega
  go_enter Tryz.func15, Tryz.ntmps15
  go_wp2_with (first
    | (go_at_call 39; refine (HN.out).mono ?_; rintro e w1 ⟨rfl, x1⟩; have c1 := (HR.out.ext x1).ring.cell 0 _ rfl)
    | (refine wpList_append_sl rfl (.tmp 26) (.tmp 31) 72 72 rfl Tryz.underlying72 infoEn rfl (by decide) rfl (HR.out.ents.ext (x1.alloc _)) (entL_one _) _ rfl 1 [.int .u32 ((t : Int) + 1), .string s] ((Sl.ofBlkR (κ := fun _ => 0) (z := 2) (Blk.new _ [.int .u32 ((t : Int) + 1), .string s] 71) rfl rfl).src Tryz.underlying72 (by intro u hu; simp at hu; rcases hu with rfl | rfl <;> rfl)) (by omega) ?_; intro p2 c2 w3 κ3 s3 f3 e3 x3 _
       rw [← HE.out] at s3
       obtain ⟨m1, m2⟩ := HR.out.more HB.out (x1.alloc _) s3 f3 e3 x3
       have hd3 := (f3.blk (HR.out.ring.ext (x1.alloc _)) (fun q => HR.out.apart q)); have c3 := hd3.cell 0 _ rfl; have g3 := hd3.frozen 0; have M1 := Lib.hid m1; have M2 := Lib.hid m2; clear s3 f3 e3 x3 m1 m2 hd3))
  · rename_i hbad
    exfalso
    simp at hbad
    omega
  go_ret2
  exact ⟨p2, c2, by first | rfl | (rw [HE.out]; rfl) | simp [HE.out], M1.out, M2.out⟩
end Go.Proofs.YtdnpgmoiapkhnaaGreatDoor
end

section
namespace Go.Proofs.YtdnpgmoiapkhnaaGreatDoor
open Go.RowKit
theorem Of_mac (w : World) (key : ByteArray) (v : Value) (l : List ByteArray) (hL : Laid w) (hk : key.size ≤ 1099511627776) (hT : TextsV w v l) (hs : (joinL l).length ≤ 1099511627776) :
    Calls Tryz.prog 47 #[.string key, v] w fun e w' => e = .returned (.string ⟨(macL key.data.toList (joinL l)).toArray⟩) ∧ Ext w w' := by
  have HK := Lib.hid (keysOf_any key w hL hk)
  have HT := Lib.hid (fun u (hu : Ext w u) => tag_keys u v l key.data.toList (hL.ext hu) (hT.ext hu) hs)
  clear hL hT
  go_enter Tryz.func47, Tryz.ntmps47
  go_wp2_with (first
    | (go_at_call 72; refine (HK.out).mono ?_; rintro e w1 ⟨rfl, h1⟩)
    | (go_at_call 73; refine (HT.out _ h1).mono ?_; rintro e w2 ⟨rfl, h2⟩))
  go_ret
  exact ⟨rfl, h1.trans h2⟩
theorem cut_text (l : List UInt8) (n : Nat) : (⟨l.toArray⟩ : ByteArray).extract 0 n = ⟨(l.take n).toArray⟩ := by
  apply ByteArray.ext
  apply Array.toList_inj.1
  simp
theorem Cut_yes (w : World) (key : ByteArray) (n : Nat) (v : Value) (l : List ByteArray) (hL : Laid w) (hk : key.size ≤ 1099511627776) (hT : TextsV w v l) (hs : (joinL l).length ≤ 1099511627776) (h1 : 1 ≤ n) (h32 : n ≤ 32) :
    Calls Tryz.prog 80 #[.string key, .int .i64 (n : Int), v] w fun e w' => e = .returned (.tuple #[.string ⟨((macL key.data.toList (joinL l)).take n).toArray⟩, .bool true]) ∧ Ext w w' := by
  have HO := Lib.hid (Of_mac w key v l hL hk hT hs)
  have hz : ByteArray.size ⟨(macL key.data.toList (joinL l)).toArray⟩ = 32 := by rw [txt_size, macL_length]
  have HC := Lib.hid (cut_text (macL key.data.toList (joinL l)) n)
  clear hL hT
  generalize (⟨(macL key.data.toList (joinL l)).toArray⟩ : ByteArray) = T at *
  go_enter Tryz.func80, Tryz.ntmps80
  go_wp2_with (go_at_call 47; refine (HO.out).mono ?_; rintro e w1 ⟨rfl, h1⟩)
  go_ret2
  exact ⟨by rw [← HC.out]; rfl, h1⟩
theorem Cut_no (w : World) (key : ByteArray) (n : Int) (v : Value) (h : n < 1 ∨ 32 < n) :
    Calls Tryz.prog 80 #[.string key, .int .i64 n, v] w fun e w' => e = .returned (.tuple #[.string ⟨#[]⟩, .bool false]) ∧ w = w' := by
  go_enter Tryz.func80, Tryz.ntmps80
  rcases h with h | h
  · go_wp2
    go_ret2
    exact ⟨rfl, rfl⟩
  · by_cases h0 : n < 1
    · omega
    · go_wp2
      go_ret2
      exact ⟨rfl, rfl⟩
end Go.Proofs.YtdnpgmoiapkhnaaGreatDoor
end

section
namespace Go.Proofs.YtdnpgmoiapkhnaaGreatDoor
open Go.RowKit

/-! ### Equal -/
theorem sizes_of {a b : ByteArray} (h : a = b) : a.size = b.size := by rw [h]
theorem or_zero (x y : UInt8) : (x ||| y = 0) ↔ x = 0 ∧ y = 0 := by
  constructor
  · intro h
    have h2 := congrArg UInt8.toNat h
    rw [UInt8.toNat_or] at h2
    have l1 : x.toNat ≤ x.toNat ||| y.toNat := Nat.left_le_or
    have l2 : y.toNat ≤ x.toNat ||| y.toNat := Nat.right_le_or
    have z : (0 : UInt8).toNat = 0 := rfl
    exact ⟨UInt8.toNat_inj.1 (by omega), UInt8.toNat_inj.1 (by omega)⟩
  · rintro ⟨rfl, rfl⟩; rfl
theorem xor_zero (x y : UInt8) : (x ^^^ y = 0) ↔ x = y := by
  constructor
  · intro h
    have : x ^^^ y ^^^ y = y := by rw [h]; simp
    rwa [UInt8.xor_assoc, UInt8.xor_self, UInt8.xor_zero] at this
  · rintro rfl; simp
/-- What is unlike among the first j bytes, put together. -/
def unl (a b : List UInt8) : Nat → UInt8
  | 0 => 0
  | j + 1 => unl a b j ||| (a.getD j 0 ^^^ b.getD j 0)
theorem unl_zero (a b : List UInt8) : ∀ j, unl a b j = 0 ↔ ∀ i, i < j → a.getD i 0 = b.getD i 0
  | 0 => by simp [unl]
  | j + 1 => by
    rw [unl, or_zero, unl_zero a b j, xor_zero]
    constructor
    · rintro ⟨h1, h2⟩ i hi
      rcases Nat.lt_or_eq_of_le (Nat.le_of_lt_succ hi) with h | rfl
      · exact h1 i h
      · exact h2
    · exact fun h => ⟨fun i hi => h i (by omega), h j (by omega)⟩
theorem unl_same {a b : ByteArray} (hab : a.size = b.size) : unl a.data.toList b.data.toList a.size = 0 ↔ a = b := by
  rw [unl_zero]
  constructor
  · intro h
    have e : a.data.toList = b.data.toList := by
      apply List.ext_getElem (by rw [size_list, size_list, hab])
      intro i h1 h2
      have := h i (by rw [← size_list]; exact h1)
      rwa [List.getD_eq_getElem?_getD, List.getD_eq_getElem?_getD, List.getElem?_eq_getElem h1, List.getElem?_eq_getElem h2] at this
    cases a; cases b
    congr
    exact Array.toList_inj.1 e
  · rintro rfl i _; rfl
theorem getD_byte (a : ByteArray) (j : Nat) (h : j < a.size) : a.data.toList.getD j 0 = a[j] := by
  rw [List.getD_eq_getElem?_getD, byte_at a j h]; rfl
theorem unl_step {a b : ByteArray} {j : Nat} (h1 : j < a.size) (h2 : j < b.size) :
    bits BinOp.or IntKind.u8 ((unl a.data.toList b.data.toList j).toNat : Int) (bits BinOp.xor IntKind.u8 (a[j].toNat : Int) (b[j].toNat : Int)) = ((unl a.data.toList b.data.toList (j + 1)).toNat : Int) := by
  rw [xor_byte, u8_or_nat _ _ (UInt8.toNat_lt _) (UInt8.toNat_lt _), unl, getD_byte a j h1, getD_byte b j h2, UInt8.toNat_or]

theorem unl_test {a b : ByteArray} (hab : a.size = b.size) : (((unl a.data.toList b.data.toList a.size).toNat : Int) == 0) = decide (a = b) := by
  have h := unl_same hab
  by_cases e : a = b
  · rw [h.2 e]; simp [e]
  · have : unl a.data.toList b.data.toList a.size ≠ 0 := fun h0 => e (h.1 h0)
    have : (unl a.data.toList b.data.toList a.size).toNat ≠ 0 := fun h0 => this (UInt8.toNat_inj.1 h0)
    simp [e]; omega
theorem equal_like (a b : ByteArray) (hab : a.size = b.size) (ha : a.size ≤ 140737488351232) (w : World) :
    Calls Tryz.prog 81 #[.string a, .string b] w fun e w' => e = .returned (.bool (decide (a = b))) ∧ Ext w w' := by
  have hne : ((a.size : Int) != (b.size : Int)) = false := by rw [hab]; simp
  have Hab := Lib.hid hab; clear hab
  go_enter Tryz.func81, Tryz.ntmps81
  go_wp2
  go_loopw [5, 14] (fun u i wr => ∃ j : Nat, j ≤ a.size ∧ i = .int .i64 j ∧ u = .int .u8 ((unl a.data.toList b.data.toList j).toNat : Int) ∧ Ext w wr) (fun _ i _ => a.size - (intOf i).toNat)
  case atStart => exact ⟨0, Nat.zero_le _, rfl, rfl, Ext.refl w⟩
  case round =>
    obtain ⟨j, hj, rfl, rfl, hext⟩ := hrel
    by_cases hlt : j < a.size
    · have hlt2 : j < b.size := by have := Hab.out; omega
      have hval := unl_step hlt hlt2
      have Hval := Lib.hid hval; clear hval
      go_wp2
      go_region
      go_wp2
      go_roundw
      case rel => exact ⟨j + 1, by omega, by go_num, int_eq Hval.out, hext.drew⟩
      case measure => simp [intOf]; omega
    · obtain rfl : j = a.size := by omega
      have Hv := Lib.hid (unl_test Hab.out)
      generalize unl a.data.toList b.data.toList a.size = x at *
      go_wp2
      go_ret
      exact ⟨congrArg (fun t => Ending.returned (.bool t)) Hv.out, hext⟩
theorem equal_not (a b : ByteArray) (hab : ¬ a.size = b.size) (w : World) :
    Calls Tryz.prog 81 #[.string a, .string b] w fun e w' => e = .returned (.bool false) ∧ Ext w w' := by
  have hne : ((a.size : Int) != (b.size : Int)) = true := by simp; omega
  go_enter Tryz.func81, Tryz.ntmps81
  go_wp2
  go_ret
  exact ⟨rfl, Ext.refl _⟩
end Go.Proofs.YtdnpgmoiapkhnaaGreatDoor
end
