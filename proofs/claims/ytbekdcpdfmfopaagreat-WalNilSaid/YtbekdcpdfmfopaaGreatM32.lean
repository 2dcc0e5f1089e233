/- Contracts: Write, Cut, Sync, New. A log in memory: its cells, its parts, beside its disk; what calls of both leave of others. -/
import Derived.Test.YtbekdcpdfmfopaaGreatDo
import Derived.Test.YtbekdcpdfmfopaaGreatM26
import Derived.Test.YtbekdcpdfmfopaaGreatM27
import Derived.Test.YtbekdcpdfmfopaaGreatM07
import Derived.Test.YtbekdcpdfmfopaaGreatM08
section
namespace Go.Proofs.YtbekdcpdfmfopaaGreat
open Go.RowKit

theorem Raw.fr0 {w w' : World} {b : Nat} {κ κ' : Foot} {m room : Nat} {fuse : Int} {N S : Fs} {pn qs : Nat → Option Addr} {cn ks : Nat → Nat} {lv : Value} (r : Raw w b κ m room fuse N S pn qs cn ks lv) (f : Fr κ (fun _ => False) w w' κ') : Raw w' b κ' m room fuse N S pn qs cn ks lv :=
  ⟨f.blk r.blk (fun x => x), fun i hi => ⟨(r.slot i hi).1.fr f (fun x => x), (r.slot i hi).2.1.fr f (fun x => x), (r.slot i hi).2.2⟩, (f.foot b r.blk.lt).trans r.disk, f.ins r.ins⟩
theorem IsD.fr0 {w w' : World} {b : Nat} {κ κ' : Foot} {d : DS} (h : IsD w b κ d) (f : Fr κ (fun _ => False) w w' κ') : IsD w' b κ' d := by
  obtain ⟨pn, qs, cn, ks, lp, lc, r, l⟩ := h.lay
  exact ⟨⟨pn, qs, cn, ks, lp, lc, r.fr0 f, l.fr f (fun x => x) (fun x => x)⟩, h.ok⟩
theorem oks_last {m : Nat} {N : Fs} {L : List Chg} {c : Chg} (h : oks m N (L ++ [c])) : c.ok m (runs N L) := by
  have := h L.length c (by simp)
  rwa [List.take_left] at this
theorem Post.trans {w w' w'' : World} {b : Nat} {κ κ' : Foot} {d : DS} (f : Fr κ (2 ≤ ·) w w' κ') (p : Post w' b κ' w'' d) : Post w b κ w'' d := by
  obtain ⟨κ2, h, g⟩ := p
  exact ⟨κ2, h, f.trans g⟩
theorem Fr.none {κ κ' : Foot} {P : Nat → Prop} {w w' : World} (f : Fr κ (fun _ => False) w w' κ') : Fr κ P w w' κ' := f.mono (fun _ x => x.elim)
set_option maxRecDepth 100000 in
set_option maxHeartbeats 2000000 in
theorem Write_any (w : World) (b : Nat) (κ : Foot) (d : DS) (h : IsD w b κ d) (f : Int) (s : ByteArray) (hs : s.size ≤ 1048576) (hL : d.L.length ≤ 1000000) :
    Calls Tryz.prog 57 #[.pointer (some ⟨b, 0, none⟩), .int .i64 f, .string s] w fun e w' => e = .returned (.int .i64 (d.write f s).2) ∧ Post w b κ w' (d.write f s).1 := by
  have HB := Lib.hid (burn_any w b κ d h)
  have hok := h.ok.write f s
  unfold DS.write at hok ⊢
  clear h
  by_cases hf : d.fuse = 0
  · rw [if_pos hf] at HB ⊢
    rw [if_pos hf] at HB
    go_enter Tryz.func57, Tryz.ntmps57
    go_wp2_with (go_at_call 50; refine (HB.out).mono ?_; rintro e w1 ⟨rfl, hp⟩; have HP := Lib.hid hp; clear hp)
    go_ret
    exact ⟨rfl, HP.out⟩
  · rw [if_neg hf] at HB hok ⊢
    rw [if_neg hf] at HB
    by_cases hm : d.isF f
    · rw [if_neg (fun q => q hm)] at hok ⊢
      have hdec : decide (0 ≤ f ∧ f < (d.m : Int)) = true := decide_eq_true hm
      by_cases hr : d.left < (s.size : Int)
      · rw [if_pos hr]
        clear hok hf
        go_enter Tryz.func57, Tryz.ntmps57
        go_wp2_with (first
          | (go_at_call 50; refine (HB.out).mono ?_; rintro e w1 ⟨rfl, hp⟩; obtain ⟨κ1, h1, f1⟩ := hp; have HD := Lib.hid h1; have HF := Lib.hid f1; clear h1 f1)
          | (go_at_call 78; refine (has_any _ b d.m HD.out.cells.1 f).mono ?_; rw [hdec]; rintro e w2 ⟨rfl, rfl⟩)
          | (go_at_call 18; refine (Room_any _ b κ1 d.burnt HD.out).mono ?_; rw [show d.burnt.left = d.left from rfl]; rintro e w2 ⟨rfl, rfl⟩))
        go_ret
        exact ⟨rfl, κ1, HD.out, HF.out⟩
      · rw [if_neg hr] at hok ⊢
        obtain ⟨i, rfl⟩ : ∃ i : Nat, f = (i : Int) := ⟨f.toNat, by have := hm.1; omega⟩
        rw [Int.toNat_natCast] at hok ⊢
        have HC := Lib.hid (oks_last hok.oks)
        clear hok hf hm
        go_enter Tryz.func57, Tryz.ntmps57
        go_wp2_with (first
          | (go_at_call 50; refine (HB.out).mono ?_; rintro e w1 ⟨rfl, hp⟩; obtain ⟨κ1, h1, f1⟩ := hp; have HD := Lib.hid h1; have HF := Lib.hid f1; clear h1 f1)
          | (go_at_call 78; refine (has_any _ b d.m HD.out.cells.1 _).mono ?_; rw [hdec]; rintro e w2 ⟨rfl, rfl⟩)
          | (go_at_call 18; refine (Room_any _ b κ1 d.burnt HD.out).mono ?_; rw [show d.burnt.left = d.left from rfl]; rintro e w2 ⟨rfl, rfl⟩)
          | (go_at_call 80; refine (writing_any _ _ s hs).mono ?_; rintro e w2 ⟨rfl, ba, be, x2⟩; have g2 := ((x2.fr κ1 (fun _ => False)).claim w1.heap.size 1 (Nat.le_refl _) be.lt).claim (w1.heap.size + 1) 1 (Nat.le_succ _) ba.lt; have HD2 := Lib.hid (HD.out.fr0 g2); have HG2 := Lib.hid g2; have HBa := Lib.hid ba; have HBe := Lib.hid be; clear ba be x2 g2)
          | (go_at_call 79; refine (do_any _ b _ d.burnt HD2.out (.wr i s) _ ⟨_, _, rfl, setK_same _ _ _, (setK_other _ _ (by omega)).trans (setK_same _ _ _), HBa.out, HBe.out⟩ HC.out hL).mono ?_; rintro e w3 ⟨rfl, hp3⟩; have HP3 := Lib.hid hp3; clear hp3))
        go_ret
        exact ⟨rfl, Post.trans HF.out (Post.trans HG2.out.none HP3.out)⟩
    · rw [if_pos hm]
      have hdec : decide (0 ≤ f ∧ f < (d.m : Int)) = false := decide_eq_false hm
      clear hok hf hm
      go_enter Tryz.func57, Tryz.ntmps57
      go_wp2_with (first
        | (go_at_call 50; refine (HB.out).mono ?_; rintro e w1 ⟨rfl, hp⟩; obtain ⟨κ1, h1, f1⟩ := hp; have HD := Lib.hid h1; have HF := Lib.hid f1; clear h1 f1)
        | (go_at_call 78; refine (has_any _ b d.m HD.out.cells.1 f).mono ?_; rw [hdec]; rintro e w2 ⟨rfl, rfl⟩))
      go_ret
      exact ⟨rfl, κ1, HD.out, HF.out⟩
set_option maxRecDepth 100000 in
set_option maxHeartbeats 2000000 in
theorem Cut_any (w : World) (b : Nat) (κ : Foot) (d : DS) (h : IsD w b κ d) (f n : Int) (hL : d.L.length ≤ 1000000) :
    Calls Tryz.prog 82 #[.pointer (some ⟨b, 0, none⟩), .int .i64 f, .int .i64 n] w fun e w' => e = .returned (.int .i64 (d.cutF f n).2) ∧ Post w b κ w' (d.cutF f n).1 := by
  have HB := Lib.hid (burn_any w b κ d h)
  have hok := h.ok.cutF f n
  have hm16 := h.ok.m16
  unfold DS.cutF at hok ⊢
  clear h
  by_cases hf : d.fuse = 0
  · rw [if_pos hf] at HB ⊢
    rw [if_pos hf] at HB
    go_enter Tryz.func82, Tryz.ntmps82
    go_wp2_with (go_at_call 50; refine (HB.out).mono ?_; rintro e w1 ⟨rfl, hp⟩; have HP := Lib.hid hp; clear hp)
    go_ret
    exact ⟨rfl, HP.out⟩
  · rw [if_neg hf] at HB hok ⊢
    rw [if_neg hf] at HB
    by_cases hm : d.isF f
    · rw [if_neg (fun q => q hm)] at hok ⊢
      have hdec : decide (0 ≤ f ∧ f < (d.m : Int)) = true := decide_eq_true hm
      obtain ⟨i, rfl⟩ : ∃ i : Nat, f = (i : Int) := ⟨f.toNat, by have := hm.1; omega⟩
      have hi : i < 16 := by have := hm.2; omega
      have hi2 : (i : Int) < 16 := by omega
      have hi0 : (0 : Int) ≤ (i : Int) := by omega
      rw [Int.toNat_natCast] at hok ⊢
      have HCell : Hid (∀ u κ1, IsD u b κ1 d.burnt → ∃ p c, u.cell? ⟨b, 3 + i, none⟩ = some (.slice p (d.now i).size c)) := Lib.hid (fun u κ1 hu => by
        obtain ⟨pn, qs, cn, ks, lp, lc, r, l⟩ := hu.lay
        exact ⟨_, _, r.now i hi⟩)
      by_cases hn0 : n < 0
      · rw [if_pos (.inl hn0)]
        clear hok hf hm
        go_enter Tryz.func82, Tryz.ntmps82
        go_wp2_with (first
          | (go_at_call 50; refine (HB.out).mono ?_; rintro e w1 ⟨rfl, hp⟩; obtain ⟨κ1, h1, f1⟩ := hp; have HD := Lib.hid h1; have HF := Lib.hid f1; clear h1 f1)
          | (go_at_call 78; refine (has_any _ b d.m HD.out.cells.1 _).mono ?_; rw [hdec]; rintro e w2 ⟨rfl, rfl⟩))
        go_ret
        exact ⟨rfl, κ1, HD.out, HF.out⟩
      · by_cases hn1 : ((d.now i).size : Int) < n
        · rw [if_pos (.inr hn1)]
          clear hok hf hm
          generalize (d.now i).size = z at *
          go_enter Tryz.func82, Tryz.ntmps82
          go_wp2_with (first
            | (go_at_call 50; refine (HB.out).mono ?_; rintro e w1 ⟨rfl, hp⟩; obtain ⟨κ1, h1, f1⟩ := hp; have HD := Lib.hid h1; have HF := Lib.hid f1; clear h1 f1)
            | (go_at_call 78; refine (has_any _ b d.m HD.out.cells.1 _).mono ?_; rw [hdec]; rintro e w2 ⟨rfl, rfl⟩; obtain ⟨p5, c5, cell5⟩ := HCell.out _ _ HD.out))
          go_ret
          exact ⟨rfl, κ1, HD.out, HF.out⟩
        · rw [if_neg (by omega)] at hok ⊢
          obtain ⟨j, rfl⟩ : ∃ j : Nat, n = (j : Int) := ⟨n.toNat, by omega⟩
          rw [Int.toNat_natCast] at hok ⊢
          have HC := Lib.hid (oks_last hok.oks)
          clear hok hf hm
          generalize (d.now i).size = z at *
          go_enter Tryz.func82, Tryz.ntmps82
          go_wp2_with (first
            | (go_at_call 50; refine (HB.out).mono ?_; rintro e w1 ⟨rfl, hp⟩; obtain ⟨κ1, h1, f1⟩ := hp; have HD := Lib.hid h1; have HF := Lib.hid f1; clear h1 f1)
            | (go_at_call 78; refine (has_any _ b d.m HD.out.cells.1 _).mono ?_; rw [hdec]; rintro e w2 ⟨rfl, rfl⟩; obtain ⟨p5, c5, cell5⟩ := HCell.out _ _ HD.out)
            | (go_at_call 99; refine (cutting_any _ _ _).mono ?_; rintro e w2 ⟨rfl, ba, be, x2⟩; have g2 := ((x2.fr κ1 (fun _ => False)).claim w1.heap.size 1 (Nat.le_refl _) ba.lt).claim (w1.heap.size + 1) 1 (Nat.le_succ _) be.lt; have HD2 := Lib.hid (HD.out.fr0 g2); have HG2 := Lib.hid g2; have HBa := Lib.hid ba; have HBe := Lib.hid be; clear ba be x2 g2)
            | (go_at_call 79; refine (do_any _ b _ d.burnt HD2.out (.cut i j) _ ⟨_, _, rfl, (setK_other _ _ (by omega)).trans (setK_same _ _ _), setK_same _ _ _, HBa.out, HBe.out⟩ HC.out hL).mono ?_; rintro e w3 ⟨rfl, hp3⟩; have HP3 := Lib.hid hp3; clear hp3))
          go_ret
          exact ⟨rfl, Post.trans HF.out (Post.trans HG2.out.none HP3.out)⟩
    · rw [if_pos hm]
      have hdec : decide (0 ≤ f ∧ f < (d.m : Int)) = false := decide_eq_false hm
      clear hok hf hm
      go_enter Tryz.func82, Tryz.ntmps82
      go_wp2_with (first
        | (go_at_call 50; refine (HB.out).mono ?_; rintro e w1 ⟨rfl, hp⟩; obtain ⟨κ1, h1, f1⟩ := hp; have HD := Lib.hid h1; have HF := Lib.hid f1; clear h1 f1)
        | (go_at_call 78; refine (has_any _ b d.m HD.out.cells.1 f).mono ?_; rw [hdec]; rintro e w2 ⟨rfl, rfl⟩))
      go_ret
      exact ⟨rfl, κ1, HD.out, HF.out⟩
theorem IsD.settles {w w' : World} {b : Nat} {κ : Foot} {d : DS} (h : IsD w b κ d) {pn : Nat → Option Addr} {cn : Nat → Nat} (r : Raw w' b κ d.m d.room d.fuse d.now d.now pn pn cn cn (.slice none 0 0)) : IsD w' b κ d.settled :=
  ⟨⟨pn, pn, cn, cn, none, 0, r, Loose.nil _ _⟩, h.ok.settled⟩
theorem Sync_any (w : World) (b : Nat) (κ : Foot) (d : DS) (h : IsD w b κ d) :
    Calls Tryz.prog 30 #[.pointer (some ⟨b, 0, none⟩)] w fun e w' => e = .returned (.int .i64 d.sync.2) ∧ Post w b κ w' d.sync.1 := by
  have HB := Lib.hid (burn_any w b κ d h)
  unfold DS.sync
  clear h
  by_cases hf : d.fuse = 0
  · rw [if_pos hf] at HB ⊢
    rw [if_pos hf] at HB
    go_enter Tryz.func30, Tryz.ntmps30
    go_wp2_with (go_at_call 50; refine (HB.out).mono ?_; rintro e w1 ⟨rfl, hp⟩; have HP := Lib.hid hp; clear hp)
    go_ret
    exact ⟨rfl, HP.out⟩
  · rw [if_neg hf] at HB ⊢
    rw [if_neg hf] at HB
    clear hf
    go_enter Tryz.func30, Tryz.ntmps30
    go_wp2_with (first
      | (go_at_call 50; refine (HB.out).mono ?_; rintro e w1 ⟨rfl, hp⟩; obtain ⟨κ1, h1, f1⟩ := hp; have HD := Lib.hid h1; have HF := Lib.hid f1; obtain ⟨pn, qs, cn, ks, lp, lc, r, l⟩ := h1.lay; have HR := Lib.hid r; clear h1 f1 r l)
      | (go_at_call 49; refine (settle_any _ b κ1 _ _ _ _ _ _ _ _ _ _ HR.out).mono ?_; rintro e w2 ⟨rfl, r2, f2⟩; have HR2 := Lib.hid r2; have HF2 := Lib.hid f2; clear r2 f2))
    go_ret
    exact ⟨rfl, κ1, HD.out.settles HR2.out, HF.out.trans (HF2.out.mono (fun k e => by show 2 ≤ k; omega))⟩
end Go.Proofs.YtbekdcpdfmfopaaGreat
end

section
namespace Go.Proofs.YtbekdcpdfmfopaaGreat
open Go.RowKit

theorem infoPart : (Tryz.prog.info? 75).map (fun i => (i.zero, i.size, i.bytes)) = some (some (.agg #[.int .i64 0, .int .i64 0]), 2, 16) := by kernel_rfl
def wcells (bd : Nat) (s : WS) (pv : Value) : List Value := [.pointer (some ⟨bd, 0, none⟩), .int .i64 (s.nf : Int), .int .i64 (s.sz : Int), .int .i64 (s.ck : Int), .int .u64 (s.g : Int), .int .u64 (s.f : Int), .int .u64 (s.n : Int), pv, .int .i64 s.r, .int .i64 s.e]
def pcells (P : List (Nat × Nat)) : List Value := P.flatMap fun p => [.int .i64 (p.1 : Int), .int .i64 (p.2 : Int)]
theorem pcells_length : ∀ P : List (Nat × Nat), (pcells P).length = P.length * 2
  | [] => rfl
  | p :: r => by
    have := pcells_length r
    unfold pcells at this ⊢
    rw [List.flatMap_cons, List.length_append, this, List.length_cons]
    simp
    omega
theorem pcells_at : ∀ (P : List (Nat × Nat)) (j : Nat) (p : Nat × Nat), P[j]? = some p → (pcells P)[j * 2]? = some (.int .i64 (p.1 : Int)) ∧ (pcells P)[j * 2 + 1]? = some (.int .i64 (p.2 : Int))
  | [], j, p, h => by simp at h
  | q :: r, 0, p, h => by
    simp at h
    subst h
    exact ⟨rfl, rfl⟩
  | q :: r, j + 1, p, h => by
    have := pcells_at r j p (by simpa using h)
    unfold pcells at this ⊢
    rw [List.flatMap_cons, show (j + 1) * 2 = j * 2 + 2 by omega]
    exact this
theorem pcells_one (P : List (Nat × Nat)) : ∀ u ∈ pcells P, u.oneCell' = true := by
  intro u hu
  unfold pcells at hu
  obtain ⟨p, _, hp⟩ := List.mem_flatMap.1 hu
  simp only [List.mem_cons, List.not_mem_nil, or_false] at hp
  rcases hp with rfl | rfl <;> rfl
theorem pcells_snoc (P : List (Nat × Nat)) (p : Nat × Nat) : pcells (P ++ [p]) = pcells P ++ [.int .i64 (p.1 : Int), .int .i64 (p.2 : Int)] := by simp [pcells]
theorem pcells_set : ∀ (P : List (Nat × Nat)) (j : Nat) (p : Nat × Nat) (x : Nat), P[j]? = some p → pcells (P.set j (p.1, x)) = (pcells P).set (j * 2 + 1) (.int .i64 (x : Int))
  | [], j, p, x, h => by simp at h
  | q :: r, 0, p, x, h => by
    simp at h
    subst h
    rfl
  | q :: r, j + 1, p, x, h => by
    have := pcells_set r j p x (by simpa using h)
    rw [List.set_cons_succ]
    unfold pcells at this ⊢
    rw [List.flatMap_cons, List.flatMap_cons, this, show (j + 1) * 2 + 1 = j * 2 + 1 + 2 by omega]
    rfl
/-- Block b is a log on the disk in block bd. -/
structure IsW (w : World) (b bd : Nat) (κ : Foot) (s : WS) : Prop where
  lay : ∃ p c, Blk w b 61 (wcells bd s (.slice p s.P.length c)) ∧ Sl w κ 3 2 75 p s.P.length c (pcells s.P)
  kind : κ b = 2
  ins : ∀ g, κ g ≠ 0 → g < w.heap.size
structure LS (w : World) (b bd : Nat) (κ μ : Foot) (s : WS) (d : DS) : Prop where
  wal : IsW w b bd κ s
  disk : IsD w bd μ d
  apart : ∀ g, κ g ≠ 0 → μ g = 0
  low : ∀ g, κ g ≠ 4
/-- From w to w' only what is the log's, or the disk's, was written. -/
structure Fr2 (κ μ : Foot) (w w' : World) (κ' μ' : Foot) : Prop where
  os : w'.os = w.os
  tape : w'.tape = w.tape
  output : w'.output = w.output
  size : w.heap.size ≤ w'.heap.size
  other : ∀ g, g < w.heap.size → κ g < 2 → μ g < 2 → w'.heap[g]? = w.heap[g]?
  footw : ∀ g, g < w.heap.size → κ' g = κ g
  footd : ∀ g, g < w.heap.size → μ' g = μ g
def LPost (w : World) (b bd : Nat) (κ μ : Foot) (w' : World) (s : WS) (d : DS) : Prop := ∃ κ' μ', LS w' b bd κ' μ' s d ∧ Fr2 κ μ w w' κ' μ'
section
variable {κ κ' κ'' μ μ' μ'' : Foot} {w w' w'' : World} {b bd : Nat} {s s' : WS} {d d' : DS}
theorem Fr2.refl (κ μ : Foot) (w : World) : Fr2 κ μ w w κ μ := ⟨rfl, rfl, rfl, Nat.le_refl _, fun _ _ _ _ => rfl, fun _ _ => rfl, fun _ _ => rfl⟩
theorem Fr2.trans (h : Fr2 κ μ w w' κ' μ') (k : Fr2 κ' μ' w' w'' κ'' μ'') : Fr2 κ μ w w'' κ'' μ'' :=
  ⟨k.os.trans h.os, k.tape.trans h.tape, k.output.trans h.output, Nat.le_trans h.size k.size,
    fun g hg h1 h2 => (k.other g (Nat.lt_of_lt_of_le hg h.size) (by rw [h.footw g hg]; exact h1) (by rw [h.footd g hg]; exact h2)).trans (h.other g hg h1 h2),
    fun g hg => (k.footw g (Nat.lt_of_lt_of_le hg h.size)).trans (h.footw g hg), fun g hg => (k.footd g (Nat.lt_of_lt_of_le hg h.size)).trans (h.footd g hg)⟩
theorem Ext.fr2 (h : Ext w w') (κ μ : Foot) : Fr2 κ μ w w' κ μ := ⟨h.os, h.tape, h.output, h.size, fun g hg _ _ => h.block g hg, fun _ _ => rfl, fun _ _ => rfl⟩
theorem IsW.ext (h : IsW w b bd κ s) (hx : Ext w w') : IsW w' b bd κ s := by
  obtain ⟨p, c, h1, h2⟩ := h.lay
  exact ⟨⟨p, c, h1.ext hx, h2.ext hx⟩, h.kind, fun g hg => Nat.lt_of_lt_of_le (h.ins g hg) hx.size⟩
theorem LS.ext (h : LS w b bd κ μ s d) (hx : Ext w w') : LS w' b bd κ μ s d := ⟨h.wal.ext hx, h.disk.ext hx, h.apart, h.low⟩
theorem LS.lpost (h : LS w b bd κ μ s d) : LPost w b bd κ μ w s d := ⟨κ, μ, h, Fr2.refl _ _ _⟩
theorem LPost.after (f : Fr2 κ μ w w' κ' μ') (p : LPost w' b bd κ' μ' w'' s d) : LPost w b bd κ μ w'' s d := by
  obtain ⟨κ2, μ2, h, g⟩ := p
  exact ⟨κ2, μ2, h, f.trans g⟩
theorem LPost.ext (p : LPost w b bd κ μ w' s d) (hx : Ext w' w'') : LPost w b bd κ μ w'' s d := by
  obtain ⟨κ2, μ2, h, g⟩ := p
  exact ⟨κ2, μ2, h.ext hx, g.trans (hx.fr2 _ _)⟩
theorem IsW.lt (h : IsW w b bd κ s) : b < w.heap.size := h.ins b (by rw [h.kind]; decide)
/-- What the walks read of a log. -/
theorem IsW.cells (h : IsW w b bd κ s) : w.cell? ⟨b, 0, none⟩ = some (.pointer (some ⟨bd, 0, none⟩)) ∧ w.cell? ⟨b, 1, none⟩ = some (.int .i64 (s.nf : Int)) ∧ w.cell? ⟨b, 2, none⟩ = some (.int .i64 (s.sz : Int)) ∧ w.cell? ⟨b, 3, none⟩ = some (.int .i64 (s.ck : Int)) ∧ w.cell? ⟨b, 4, none⟩ = some (.int .u64 (s.g : Int)) ∧ w.cell? ⟨b, 5, none⟩ = some (.int .u64 (s.f : Int)) ∧ w.cell? ⟨b, 6, none⟩ = some (.int .u64 (s.n : Int)) ∧ w.cell? ⟨b, 8, none⟩ = some (.int .i64 s.r) ∧ w.cell? ⟨b, 9, none⟩ = some (.int .i64 s.e) := by
  obtain ⟨p, c, h1, _⟩ := h.lay
  exact ⟨h1.cell 0 _ rfl, h1.cell 1 _ rfl, h1.cell 2 _ rfl, h1.cell 3 _ rfl, h1.cell 4 _ rfl, h1.cell 5 _ rfl, h1.cell 6 _ rfl, h1.cell 8 _ rfl, h1.cell 9 _ rfl⟩
theorem IsW.frozen (h : IsW w b bd κ s) (i : Nat) : w.frozen? ⟨b, i, none⟩ = false := by
  obtain ⟨p, c, h1, _⟩ := h.lay
  exact h1.frozen i
theorem IsW.parts (h : IsW w b bd κ s) : ∃ p c, w.cell? ⟨b, 7, none⟩ = some (.slice p s.P.length c) ∧ Sl w κ 3 2 75 p s.P.length c (pcells s.P) := by
  obtain ⟨p, c, h1, h2⟩ := h.lay
  exact ⟨p, c, h1.cell 7 _ rfl, h2⟩
/-- What a call on the disk alone leaves. -/
theorem LS.post (h : LS w b bd κ μ s d) (p : Post w bd μ w' d') : LPost w b bd κ μ w' s d' := by
  obtain ⟨μ', h1, f⟩ := p
  have key : ∀ g, κ g ≠ 0 → w'.heap[g]? = w.heap[g]? := fun g hg => f.other g (h.wal.ins g hg) (by rw [h.apart g hg]; decide)
  obtain ⟨q, c, k1, k2⟩ := h.wal.lay
  refine ⟨κ, μ', ⟨⟨⟨q, c, (key b (by rw [h.wal.kind]; decide)).trans k1, k2.same (fun g _ e => key g (by rw [e]; decide)) (fun _ _ e => e)⟩, h.wal.kind, fun g hg => Nat.lt_of_lt_of_le (h.wal.ins g hg) f.size⟩, h1, fun g hg => (f.foot g (h.wal.ins g hg)).trans (h.apart g hg), h.low⟩, ⟨f.os, f.tape, f.output, f.size, fun g hg _ h2 => f.other g hg (by omega), fun _ _ => rfl, f.foot⟩⟩
/-- A cell of the log's block was written. -/
theorem LS.setw (h : LS w b bd κ μ s d) (i : Nat) (v : Value) (hs : s'.P = s.P) (hc : ∀ pv, (wcells bd s pv).set i v = wcells bd s' pv) : LPost w b bd κ μ (w.setCell ⟨b, i, none⟩ v) s' d := by
  have ho : ∀ g, g ≠ b → (w.setCell ⟨b, i, none⟩ v).heap[g]? = w.heap[g]? := fun g hg => Below.heap_setCell _ _ _ _ hg
  have hsz : (w.setCell ⟨b, i, none⟩ v).heap.size = w.heap.size := by simp [World.setCell]
  obtain ⟨q, c, k1, k2⟩ := h.wal.lay
  have k3 := k1.set_ i v
  rw [hc] at k3
  refine ⟨κ, μ, ⟨⟨⟨q, c, by rw [hs]; exact k3, by rw [hs]; exact k2.same (fun g _ e => ho g (fun e2 => by rw [e2, h.wal.kind] at e; cases e)) (fun _ _ e => e)⟩, h.wal.kind, fun g hg => by rw [hsz]; exact h.wal.ins g hg⟩, h.disk.keep (fun g hg hk => ho g (fun e => hk (by rw [e]; exact h.apart b (by rw [h.wal.kind]; decide)))) (by omega), h.apart, h.low⟩, ⟨rfl, rfl, rfl, by omega, fun g hg h1 _ => ho g (fun e => by rw [e, h.wal.kind] at h1; omega), fun _ _ => rfl, fun _ _ => rfl⟩⟩
/-- A part: its cells; its bytes written. -/
theorem LS.part (h : LS w b bd κ μ s d) {j : Nat} {q : Nat × Nat} (hj : s.P[j]? = some q) : ∃ a c, w.cell? ⟨b, 7, none⟩ = some (.slice (some a) s.P.length c) ∧ (∀ (i : Nat) (x : Nat × Nat), s.P[i]? = some x → w.cell? (a.add (i * 2)) = some (.int .i64 (x.1 : Int)) ∧ w.cell? ⟨(a.add (i * 2)).block, (a.add (i * 2)).off + 1, none⟩ = some (.int .i64 (x.2 : Int))) ∧
    w.frozen? ⟨(a.add (j * 2)).block, (a.add (j * 2)).off + 1, none⟩ = false ∧ ∀ (x : Nat), LPost w b bd κ μ (w.setCell ⟨(a.add (j * 2)).block, (a.add (j * 2)).off + 1, none⟩ (.int .i64 (x : Int))) { s with P := s.P.set j (q.1, x) } d := by
  obtain ⟨p, c, h1, h2⟩ := h.wal.lay
  have hjl : j < s.P.length := (List.getElem?_eq_some_iff.1 hj).1
  obtain ⟨g, e, hg, hk, _, _⟩ := h2.cell (pcells_at _ _ _ hj).1
  subst e
  have hat : ∀ (i : Nat), ((⟨g, 0, none⟩ : Addr).add (i * 2)) = ⟨g, i * 2, none⟩ := fun i => add_zero_off g (i * 2)
  refine ⟨⟨g, 0, none⟩, c, h1.cell 7 _ rfl, fun i x hi => ?_, ?_, fun x => ?_⟩
  · obtain ⟨k1, k2⟩ := pcells_at _ _ _ hi
    obtain ⟨g1, e1, _, _, c1, _⟩ := h2.cell k1
    obtain ⟨g2, e2, _, _, c2, _⟩ := h2.cell k2
    cases e1; cases e2
    rw [hat]
    exact ⟨c1, c2⟩
  · obtain ⟨g2, e2, _, _, _, f2⟩ := h2.cell (pcells_at _ _ _ hj).2
    cases e2
    rw [hat]
    exact f2
  · rw [hat]
    have ho : ∀ y, y ≠ g → (w.setCell ⟨g, j * 2 + 1, none⟩ (.int .i64 (x : Int))).heap[y]? = w.heap[y]? := fun y hy => Below.heap_setCell _ _ _ _ hy
    have hsz : (w.setCell ⟨g, j * 2 + 1, none⟩ (.int .i64 (x : Int))).heap.size = w.heap.size := by simp [World.setCell]
    have hb : b ≠ g := fun e => by have := h.wal.kind; rw [e, hk] at this; cases this
    refine ⟨κ, μ, ⟨⟨⟨some ⟨g, 0, none⟩, c, ?_, ?_⟩, h.wal.kind, fun y hy => by rw [hsz]; exact h.wal.ins y hy⟩, h.disk.keep (fun y hy hk2 => ho y (fun e => hk2 (by rw [e]; exact h.apart g (by rw [hk]; decide)))) (Nat.le_of_eq hsz.symm), h.apart, h.low⟩, ⟨rfl, rfl, rfl, Nat.le_of_eq hsz.symm, fun y hy k1 _ => ho y (fun e => by rw [e, hk] at k1; omega), fun _ _ => rfl, fun _ _ => rfl⟩⟩
    · rw [show ({ s with P := s.P.set j (q.1, x) } : WS).P.length = s.P.length by simp]
      exact h1.other hb _ _
    · rw [show ({ s with P := s.P.set j (q.1, x) } : WS).P = s.P.set j (q.1, x) from rfl, pcells_set _ _ _ _ hj, List.length_set]
      refine ⟨by rw [List.length_set]; exact h2.1, h2.2.1, h2.2.2.1, fun hc => ?_⟩
      obtain ⟨g3, cur, e3, k3, hh, hsz2, hcl⟩ := h2.2.2.2 hc
      cases e3
      refine ⟨g, cur.setIfInBounds (j * 2 + 1) (.int .i64 (x : Int)), rfl, hk, by simp [World.setCell, Array.getElem?_modify, hh], by simpa using hsz2, fun i u hu => ?_⟩
      rw [List.getElem?_set] at hu
      rw [Array.getElem?_setIfInBounds]
      by_cases hi : j * 2 + 1 = i
      · subst hi
        rw [if_pos rfl]
        have hlen : j * 2 + 1 < (pcells s.P).length := by rw [pcells_length]; omega
        rw [if_pos rfl, if_pos hlen] at hu
        have : j * 2 + 1 < cur.size := by
          have := h2.2.1
          have h5 : (j * 2 + 1) < s.P.length * 2 := by omega
          have h6 : s.P.length * 2 ≤ c * 2 := Nat.mul_le_mul_right 2 h2.2.1
          omega
        rw [if_pos this]
        exact hu
      · rw [if_neg hi]
        rw [if_neg hi] at hu
        exact hcl i u hu
end
end Go.Proofs.YtbekdcpdfmfopaaGreat
end
