/- Contracts: keys by epochs: the document's ring: what it is, a new one, the newest epoch, the next epoch's key. Contracts: a tag cut to its first bytes. -/
import Derived.Test.YtdnpgmoiapkhnaaDoorM34
import Derived.Test.YtdnpgmoiapkhnaaDoorM16
import Derived.BigQuiet
import Derived.Test.YtdnpgmoiapkhnaaDoorTag
section
namespace Go.Proofs.YtdnpgmoiapkhnaaDoor
open Go.RowKit

/-- Entries as cells. -/
def entL : List (Nat × ByteArray) → List Value
  | [] => []
  | x :: r => .int .u32 (x.1 : Int) :: .string x.2 :: entL r
theorem entL_append : ∀ (l m : List (Nat × ByteArray)), entL (l ++ m) = entL l ++ entL m
  | [], _ => rfl
  | x :: r, m => by rw [List.cons_append, entL, entL_append r m, entL]; rfl
theorem entL_length : ∀ (l : List (Nat × ByteArray)), (entL l).length = l.length * 2
  | [] => rfl
  | x :: r => by rw [entL, List.length_cons, List.length_cons, entL_length r, List.length_cons]; omega
theorem entL_at : ∀ (l : List (Nat × ByteArray)) (i : Nat) (x : Nat × ByteArray), l[i]? = some x → (entL l)[i * 2]? = some (.int .u32 (x.1 : Int)) ∧ (entL l)[i * 2 + 1]? = some (.string x.2)
  | [], i, x, h => by simp at h
  | y :: r, 0, x, h => by
    simp at h
    subst h
    exact ⟨rfl, rfl⟩
  | y :: r, i + 1, x, h => by
    have h2 := entL_at r i x (by simpa using h)
    rw [show (i + 1) * 2 = i * 2 + 1 + 1 by omega, entL]
    simp only [List.getElem?_cons_succ]
    exact h2
theorem entL_one : ∀ (l : List (Nat × ByteArray)), ∀ u ∈ entL l, u.oneCell' = true
  | [], u, h => by cases h
  | x :: r, u, h => by
    rw [entL] at h
    rcases List.mem_cons.1 h with rfl | h
    · rfl
    · rcases List.mem_cons.1 h with rfl | h
      · rfl
      · exact entL_one r u h
theorem infoEn : (Tryd.prog.info? 59).map (fun i => (i.zero, i.size, i.bytes)) = some (some (.agg #[.int .u32 0, .string ⟨#[]⟩]), 2, 24) := by kernel_rfl
/-- The block of a slice. -/
def kp (p : Option Addr) : Foot := fun g => if p = some ⟨g, 0, none⟩ then 1 else 0
theorem kp_one {p : Option Addr} {g : Nat} (h : kp p g = 1) : p = some ⟨g, 0, none⟩ := by
  unfold kp at h
  by_cases q : p = some ⟨g, 0, none⟩
  · exact q
  · rw [if_neg q] at h; cases h
theorem Sl.kp {w : World} {κ : Foot} {k z : Nat} {T : TypeId} {p : Option Addr} {n c : Nat} {vs : List Value} (h : Sl w κ k z T p n c vs) : Sl w (kp p) 1 z T p n c vs :=
  ⟨h.1, h.2.1, h.2.2.1, fun hc => by
    obtain ⟨g, cur, e, _, r⟩ := h.2.2.2 hc
    exact ⟨g, cur, e, by simp [YtdnpgmoiapkhnaaDoor.kp, e], r⟩⟩
theorem Sl.ofBlkR {w : World} {κ : Foot} {k z : Nat} {T : TypeId} {g n : Nat} {vs : List Value} (h : Blk w g T vs) (hn : vs.length = n * z) (hk : κ g = k) : Sl w κ k z T (some ⟨g, 0, none⟩) n n vs :=
  ⟨hn, Nat.le_refl _, .inr ⟨g, rfl⟩, fun _ => ⟨g, vs.toArray, rfl, hk, h, by simp [hn], fun j u hj => by simpa using hj⟩⟩
/-- None of the document's ring's blocks. -/
def NotD (o : Obj) : Prop := (∀ cur fr, o ≠ .cells cur 62 fr) ∧ (∀ cur fr, o ≠ .cells cur 59 fr)
/-- Only blocks of the document's ring were written, none below B. -/
structure TurnD (B : Nat) (w w' : World) : Prop where
  below : Below B w w'
  size : w.heap.size ≤ w'.heap.size
  keep : ∀ (g : Nat) (o : Obj), w.heap[g]? = some o → NotD o → w'.heap[g]? = some o
theorem TurnD.trans {B : Nat} {a b c : World} (h : TurnD B a b) (k : TurnD B b c) : TurnD B a c := ⟨h.below.trans k.below, Nat.le_trans h.size k.size, fun g o hg hn => k.keep g o (h.keep g o hg hn) hn⟩
theorem Ext.turnD {B : Nat} {a b : World} (h : Ext a b) (hB : B ≤ a.heap.size) : TurnD B a b := ⟨Below.mono h hB, h.size, fun g _ hg _ => (h.block g (heap_lt hg)).trans hg⟩
theorem IsK.turnD {B : Nat} {w w' : World} {r b : Nat} {L : List (Nat × ByteArray)} (h : IsK w r b L) (t : TurnD B w w') : IsK w' r b L := by
  obtain ⟨es, cl, hb⟩ := h.map.is
  exact ⟨t.keep _ _ h.ring ⟨fun _ _ e => (by cases e), fun _ _ e => (by cases e)⟩, h.map.same ((t.keep _ _ hb ⟨fun _ _ e => (by cases e), fun _ _ e => (by cases e)⟩).trans hb.symm), h.good⟩
/-- Block d is the document's ring of these keys; neither it nor its entries lie below B. -/
structure IsR (w : World) (B d : Nat) (p : Option Addr) (c : Nat) (L : List (Nat × ByteArray)) : Prop where
  ring : Blk w d 62 [.slice p L.length c]
  ents : Sl w (kp p) 1 2 59 p L.length c (entL L)
  low : B ≤ d
  lowp : ∀ g, p = some ⟨g, 0, none⟩ → B ≤ g
  apart : ¬ kp p d = 1
section
variable {w w' : World} {B d : Nat} {p : Option Addr} {c : Nat} {L : List (Nat × ByteArray)}
theorem IsR.ext (h : IsR w B d p c L) (x : Ext w w') : IsR w' B d p c L := ⟨h.ring.ext x, h.ents.ext x, h.low, h.lowp, h.apart⟩
theorem IsR.grown {b : Nat} {M : List (Nat × ByteArray)} (h : IsR w B d p c L) (hm : IsM w b M) (g : w.grownBy w' (some b)) : IsR w' B d p c L := by
  obtain ⟨es, cl, hb⟩ := hm.is
  have hk : ∀ (x : Nat) (cur : Array Value) (T : TypeId) (fr : Nat × Nat), w.heap[x]? = some (Obj.cells cur T fr) → w'.heap[x]? = w.heap[x]? := fun x cur T fr hx => g.block x (heap_lt hx) (fun e => by cases e; rw [hb] at hx; cases hx)
  refine ⟨(hk _ _ _ _ h.ring).trans h.ring, ⟨h.ents.1, h.ents.2.1, h.ents.2.2.1, fun hc => ?_⟩, h.low, h.lowp, h.apart⟩
  obtain ⟨x, cur, h1, h2, h3, h4⟩ := h.ents.2.2.2 hc
  exact ⟨x, cur, h1, h2, (hk _ _ _ _ h3).trans h3, h4⟩
theorem IsR.at_ (h : IsR w B d p c L) {i : Nat} {x : Nat × ByteArray} (hx : L[i]? = some x) : ∃ g, p = some ⟨g, 0, none⟩ ∧ B ≤ g ∧ w.cell? ⟨g, i * 2, none⟩ = some (.int .u32 (x.1 : Int)) ∧ w.cell? ⟨g, i * 2 + 1, none⟩ = some (.string x.2) := by
  have he := entL_at L i x hx
  obtain ⟨g, h1, _, _, h4, _⟩ := h.ents.cell he.1
  obtain ⟨g', h1', _, _, h4', _⟩ := h.ents.cell he.2
  rw [h1] at h1'
  cases h1'
  exact ⟨g, h1, h.lowp g h1, h4, h4'⟩
end
theorem rnewK_any (w : World) (s : ByteArray) :
    Calls Tryd.prog 8 #[.string s] w fun e w' => ∃ d p, e = .returned (.pointer (some ⟨d, 0, none⟩)) ∧ IsR w' w.heap.size d p 1 [(1, s)] ∧ Ext w w' := by
  go_enter Tryd.func8, Tryd.ntmps8
  go_wp2
  go_ret
  have b1 := (Blk.new w [.int .u32 1, .string s] 59).alloc (.cells #[.slice (some ⟨w.heap.size, 0, none⟩) 1 1] 62)
  have b2 := Blk.new (w.alloc (.cells #[.int .u32 1, .string s] 59)) [.slice (some ⟨w.heap.size, 0, none⟩) 1 1] 62
  have hz : (w.alloc (.cells #[.int .u32 1, .string s] 59)).heap.size = w.heap.size + 1 := by simp
  rw [hz] at b2
  exact ⟨_, some ⟨w.heap.size, 0, none⟩, rfl, ⟨b2, Sl.ofBlkR b1 rfl (by simp [kp]), Nat.le_succ _, fun g e => by cases e; exact Nat.le_refl _, by simp [kp]⟩, ((Ext.refl w).alloc _).alloc _⟩
set_option maxRecDepth 100000 in
theorem rnewestK_at (w : World) (d g c : Nat) (n t : Nat) (hr : w.cell? ⟨d, 0, none⟩ = some (.slice (some ⟨g, 0, none⟩) (n + 1 : Nat) c)) (hn64 : n < 1000) (c1 : w.cell? ⟨g, n * 2, none⟩ = some (.int .u32 (t : Int))) :
    Calls Tryd.prog 29 #[.pointer (some ⟨d, 0, none⟩)] w fun e w' => e = .returned (.int .u32 (t : Int)) ∧ Ext w w' := by
  have hwn : IntKind.i64.wrap (n : Int) = (n : Int) := by simp [IntKind.wrap, IntKind.signed, IntKind.bits]; omega
  go_enter Tryd.func29, Tryd.ntmps29
  go_wp2_with (fail)
  go_quiet (fail)
  go_wp2
  go_ret
  exact ⟨rfl, (Ext.refl w).drewN _⟩
/-- The last entry is the newest epoch's. -/
theorem GoodK.last {L : List (Nat × ByteArray)} (hG : GoodK L) : ∃ n s, L.length = n + 1 ∧ n < 64 ∧ L[n]? = some (top (eps L), s) := by
  have h1 : 1 ≤ L.length := by
    have := hG.ne
    cases hq : L with
    | nil => exact absurd hq this
    | cons => simp
  have h64 := hG.few
  obtain ⟨n, hn⟩ : ∃ n, L.length = n + 1 := ⟨L.length - 1, by omega⟩
  have hl : n < (eps L).length := by unfold eps; rw [List.length_map]; omega
  have ht := last_top hG hn hl
  have hlt : n < L.length := by omega
  refine ⟨n, L[n].2, hn, by omega, ?_⟩
  rw [List.getElem?_eq_getElem hlt, ← ht]
  simp [eps]
theorem rnewestK_any (w : World) (B d : Nat) (p : Option Addr) (c : Nat) (L : List (Nat × ByteArray)) (h : IsR w B d p c L) (hG : GoodK L) :
    Calls Tryd.prog 29 #[.pointer (some ⟨d, 0, none⟩)] w fun e w' => e = .returned (.int .u32 (top (eps L) : Int)) ∧ Ext w w' := by
  obtain ⟨n, s, hn, h64, hx⟩ := hG.last
  obtain ⟨g, rfl, _, h1, _⟩ := h.at_ hx
  have hr := h.ring.cell 0 _ rfl
  rw [hn] at hr
  exact rnewestK_at w d g c n _ hr (by omega) h1
/-! ### Rotate -/
theorem rrotate_arg (w : World) (d : Nat) (s : ByteArray) (hs : s.size ≠ 32) :
    Calls Tryd.prog 10 #[.pointer (some ⟨d, 0, none⟩), .string s] w fun e w' => e = .returned (.tuple #[.int .u32 0, .int .i64 2]) ∧ Ext w w' := by
  have hs2 : (s.size : Int) ≠ 32 := by omega
  have hs3 : ((s.size : Int) == 32) = false := by simpa using hs2
  go_enter Tryd.func10, Tryd.ntmps10
  go_wp2
  go_ret2
  exact ⟨rfl, Ext.refl _⟩
set_option maxRecDepth 100000 in
theorem rrotate_full (w : World) (B d : Nat) (p : Option Addr) (c : Nat) (L : List (Nat × ByteArray)) (h : IsR w B d p c L) (hG : GoodK L) (s : ByteArray) (hs : s.size = 32) (hf : 64 ≤ L.length ∨ top (eps L) = 4294967295) :
    Calls Tryd.prog 10 #[.pointer (some ⟨d, 0, none⟩), .string s] w fun e w' => e = .returned (.tuple #[.int .u32 0, .int .i64 4]) ∧ Ext w w' := by
  have HR := Lib.hid h
  have hs2 : (s.size : Int) = 32 := by omega
  have HF := Lib.hid hf
  have HN := Lib.hid (rnewestK_any w B d p c L h hG)
  clear h hf hG
  by_cases hl : 64 ≤ L.length
  · have hl2 : (64 : Int) ≤ (L.length : Int) := by omega
    generalize top (eps L) = t at *
    go_enter Tryd.func10, Tryd.ntmps10
    go_wp2_with (go_at_call 29; refine (HN.out).mono ?_; rintro e w1 ⟨rfl, x1⟩; have c1 := (HR.out.ext x1).ring.cell 0 _ rfl)
    go_ret2
    exact ⟨rfl, x1⟩
  · have ht : top (eps L) = 4294967295 := HF.out.resolve_left hl
    have hl2 : ¬ (64 : Int) ≤ (L.length : Int) := by omega
    have HN2 : Hid (Calls Tryd.prog 29 #[.pointer (some ⟨d, 0, none⟩)] w fun e w' => e = .returned (.int .u32 4294967295) ∧ Ext w w') := Lib.hid (by
      have := HN.out
      rw [ht] at this
      exact this)
    clear HN
    go_enter Tryd.func10, Tryd.ntmps10
    go_wp2_with (go_at_call 29; refine (HN2.out).mono ?_; rintro e w1 ⟨rfl, x1⟩; have c1 := (HR.out.ext x1).ring.cell 0 _ rfl)
    go_ret2
    exact ⟨rfl, x1⟩
/-- The world behind append and the store into the ring. -/
theorem IsR.more {w w2 w3 : World} {B d : Nat} {p p2 : Option Addr} {c c2 t : Nat} {κ3 : Foot} {L : List (Nat × ByteArray)} {s : ByteArray} (h : IsR w B d p c L) (hB : B ≤ w.heap.size) (x : Ext w w2)
    (s3 : Sl w3 κ3 1 2 59 p2 (L.length + 1) c2 (entL L ++ [.int .u32 (t : Int), .string s])) (f3 : Fr (kp p) (· = 1) w2 w3 κ3) (e3 : p2 = p ∨ p2 = some ⟨w2.heap.size, 0, none⟩) (x3 : c = 0 → Ext w2 w3) :
    IsR (w3.setCell ⟨d, 0, none⟩ (.slice p2 (L.length + 1) c2)) B d p2 c2 (L ++ [(t, s)]) ∧ TurnD B w (w3.setCell ⟨d, 0, none⟩ (.slice p2 (L.length + 1) c2)) := by
  have h2 := h.ext x
  have hother : ∀ g, g < w2.heap.size → p ≠ some ⟨g, 0, none⟩ → w3.heap[g]? = w2.heap[g]? := fun g hg hn => f3.other g hg (fun q => hn (kp_one q))
  have hd3 : Blk w3 d 62 [.slice p L.length c] := by
    by_cases hc : c = 0
    · exact h2.ring.ext (x3 hc)
    · obtain ⟨g, cur, q1, _, q3, _⟩ := h2.ents.2.2.2 (by omega)
      refine (hother d h2.ring.lt (fun q => ?_)).trans h2.ring
      rw [q1] at q
      cases q
      have := h2.ring
      unfold Blk at this
      rw [this] at q3
      cases q3
  have hlen : (L ++ [(t, s)]).length = L.length + 1 := by simp
  refine ⟨⟨?_, ?_, h.low, fun g hg => ?_, fun q => ?_⟩, ⟨⟨?_, ?_, ?_, ?_, fun g hg => ?_⟩, ?_, fun g o hg hn => ?_⟩⟩
  · rw [hlen]
    exact hd3.set_ 0 _
  · rw [hlen, entL_append]
    exact s3.kp.parted hd3 (by decide) (fun g hg => Below.heap_setCell _ _ _ _ (by exact hg))
  · rcases e3 with e | e
    · exact h.lowp g (e ▸ hg)
    · rw [hg] at e
      cases e
      exact Nat.le_trans hB x.size
  · have q := kp_one q
    rcases e3 with e | e
    · exact h.apart (by rw [← e, q]; simp [kp])
    · rw [q] at e
      have := h2.ring.lt
      simp at e
  · exact f3.os.trans x.os
  · exact f3.tape.trans x.tape
  · exact f3.output.trans x.output
  · have := Nat.le_trans x.size f3.size
    simp [World.setCell]
    omega
  · have hlt : g < w.heap.size := by omega
    rw [Below.heap_setCell _ _ _ _ (by have := h.low; show g ≠ d; omega), hother g (Nat.lt_of_lt_of_le hlt x.size) (fun q => by have := h.lowp g q; omega)]
    exact x.block g hlt
  · have := Nat.le_trans x.size f3.size
    simpa [World.setCell] using this
  · have hg2 := (x.block g (heap_lt hg)).trans hg
    have hgd : g ≠ d := fun e => by
      subst e
      have := h.ring
      unfold Blk at this
      rw [this] at hg
      cases hg
      exact hn.1 _ _ rfl
    rw [Below.heap_setCell _ _ _ _ (by exact hgd)]
    by_cases hc : c = 0
    · exact ((x3 hc).block g (heap_lt hg2)).trans hg2
    · obtain ⟨g', cur, q1, _, q3, _⟩ := h2.ents.2.2.2 (by omega)
      refine (hother g (heap_lt hg2) (fun q => ?_)).trans hg2
      rw [q1] at q
      cases q
      rw [hg2] at q3
      cases q3
      exact hn.2 _ _ rfl
set_option maxRecDepth 100000 in
set_option maxHeartbeats 2000000 in
theorem rrotate_yes (w : World) (B d : Nat) (p : Option Addr) (c : Nat) (L : List (Nat × ByteArray)) (hB : B ≤ w.heap.size) (h : IsR w B d p c L) (hG : GoodK L) (s : ByteArray) (hs : s.size = 32) (hl : L.length < 64) (ht : top (eps L) < 4294967295) :
    Calls Tryd.prog 10 #[.pointer (some ⟨d, 0, none⟩), .string s] w fun e w' => ∃ p' c', e = .returned (.tuple #[.int .u32 (top (eps L) + 1 : Nat), .int .i64 0]) ∧ IsR w' B d p' c' (L ++ [(top (eps L) + 1, s)]) ∧ TurnD B w w' := by
  have HR := Lib.hid h
  have hs2 : (s.size : Int) = 32 := by omega
  have hl2 : ¬ (64 : Int) ≤ (L.length : Int) := by omega
  have HB := Lib.hid hB
  have HN := Lib.hid (rnewestK_any w B d p c L h hG)
  clear h hB hG
  generalize top (eps L) = t at *
  have HE : Hid (((t + 1 : Nat) : Int) = (t : Int) + 1) := Lib.hid (by omega)
  have ht2 : (t : Int) ≠ 4294967295 := by omega
  have hw : IntKind.u32.wrap ((t : Int) + 1) = (t : Int) + 1 := by simp [IntKind.wrap, IntKind.signed, IntKind.bits]; omega
  go_enter Tryd.func10, Tryd.ntmps10
  go_wp2_with (first
    | (go_at_call 29; refine (HN.out).mono ?_; rintro e w1 ⟨rfl, x1⟩; have c1 := (HR.out.ext x1).ring.cell 0 _ rfl)
    | (refine wpList_append_sl rfl (.tmp 26) (.tmp 31) 60 60 rfl Tryd.underlying60 infoEn rfl (by decide) rfl (HR.out.ents.ext (x1.alloc _)) (entL_one _) _ rfl 1 [.int .u32 ((t : Int) + 1), .string s] ((Sl.ofBlkR (κ := fun _ => 0) (z := 2) (Blk.new _ [.int .u32 ((t : Int) + 1), .string s] 59) rfl rfl).src Tryd.underlying60 (by intro u hu; simp at hu; rcases hu with rfl | rfl <;> rfl)) (by omega) ?_; intro p2 c2 w3 κ3 s3 f3 e3 x3 _
       rw [← HE.out] at s3
       obtain ⟨m1, m2⟩ := HR.out.more HB.out (x1.alloc _) s3 f3 e3 x3
       have hd3 := (f3.blk (HR.out.ring.ext (x1.alloc _)) (fun q => HR.out.apart q)); have c3 := hd3.cell 0 _ rfl; have g3 := hd3.frozen 0; have M1 := Lib.hid m1; have M2 := Lib.hid m2; clear s3 f3 e3 x3 m1 m2 hd3))
  · rename_i hbad
    exfalso
    simp at hbad
    omega
  go_ret2
  exact ⟨p2, c2, by first | rfl | (rw [HE.out]; rfl) | simp [HE.out], M1.out, M2.out⟩
end Go.Proofs.YtdnpgmoiapkhnaaDoor
end

section
namespace Go.Proofs.YtdnpgmoiapkhnaaDoor
open Go.RowKit
theorem Of_mac (w : World) (key : ByteArray) (v : Value) (l : List ByteArray) (hL : Laid w) (hk : key.size ≤ 1099511627776) (hT : TextsV w v l) (hs : (joinL l).length ≤ 1099511627776) :
    Calls Tryd.prog 41 #[.string key, v] w fun e w' => e = .returned (.string ⟨(macL key.data.toList (joinL l)).toArray⟩) ∧ Ext w w' := by
  have HK := Lib.hid (keysOf_any key w hL hk)
  have HT := Lib.hid (fun u (hu : Ext w u) => tag_keys u v l key.data.toList (hL.ext hu) (hT.ext hu) hs)
  clear hL hT
  go_enter Tryd.func41, Tryd.ntmps41
  go_wp2_with (first
    | (go_at_call 60; refine (HK.out).mono ?_; rintro e w1 ⟨rfl, h1⟩)
    | (go_at_call 61; refine (HT.out _ h1).mono ?_; rintro e w2 ⟨rfl, h2⟩))
  go_ret
  exact ⟨rfl, h1.trans h2⟩
theorem cut_text (l : List UInt8) (n : Nat) : (⟨l.toArray⟩ : ByteArray).extract 0 n = ⟨(l.take n).toArray⟩ := by
  apply ByteArray.ext
  apply Array.toList_inj.1
  simp
theorem Cut_yes (w : World) (key : ByteArray) (n : Nat) (v : Value) (l : List ByteArray) (hL : Laid w) (hk : key.size ≤ 1099511627776) (hT : TextsV w v l) (hs : (joinL l).length ≤ 1099511627776) (h1 : 1 ≤ n) (h32 : n ≤ 32) :
    Calls Tryd.prog 65 #[.string key, .int .i64 (n : Int), v] w fun e w' => e = .returned (.tuple #[.string ⟨((macL key.data.toList (joinL l)).take n).toArray⟩, .bool true]) ∧ Ext w w' := by
  have HO := Lib.hid (Of_mac w key v l hL hk hT hs)
  have hz : ByteArray.size ⟨(macL key.data.toList (joinL l)).toArray⟩ = 32 := by rw [txt_size, macL_length]
  have HC := Lib.hid (cut_text (macL key.data.toList (joinL l)) n)
  clear hL hT
  generalize (⟨(macL key.data.toList (joinL l)).toArray⟩ : ByteArray) = T at *
  go_enter Tryd.func65, Tryd.ntmps65
  go_wp2_with (go_at_call 41; refine (HO.out).mono ?_; rintro e w1 ⟨rfl, h1⟩)
  go_ret2
  exact ⟨by rw [← HC.out]; rfl, h1⟩
theorem Cut_no (w : World) (key : ByteArray) (n : Int) (v : Value) (h : n < 1 ∨ 32 < n) :
    Calls Tryd.prog 65 #[.string key, .int .i64 n, v] w fun e w' => e = .returned (.tuple #[.string ⟨#[]⟩, .bool false]) ∧ w = w' := by
  go_enter Tryd.func65, Tryd.ntmps65
  rcases h with h | h
  · go_wp2
    go_ret2
    exact ⟨rfl, rfl⟩
  · by_cases h0 : n < 1
    · omega
    · go_wp2
      go_ret2
      exact ⟨rfl, rfl⟩
end Go.Proofs.YtdnpgmoiapkhnaaDoor
end
