/- Contracts: Write, Cut, Sync, New. -/
import Derived.Test.YtgbhadgkkefokaaDo
namespace Go.Proofs.Ytgbhadgkkefokaa
open Go.RowKit

theorem Raw.fr0 {w w' : World} {b : Nat} {κ κ' : Foot} {m room : Nat} {fuse : Int} {N S : Fs} {pn qs : Nat → Option Addr} {cn ks : Nat → Nat} {lv : Value} (r : Raw w b κ m room fuse N S pn qs cn ks lv) (f : Fr κ (fun _ => False) w w' κ') : Raw w' b κ' m room fuse N S pn qs cn ks lv :=
  ⟨f.blk r.blk (fun x => x), fun i hi => ⟨(r.slot i hi).1.fr f (fun x => x), (r.slot i hi).2.1.fr f (fun x => x), (r.slot i hi).2.2⟩, (f.foot b r.blk.lt).trans r.disk, f.ins r.ins⟩
theorem IsD.fr0 {w w' : World} {b : Nat} {κ κ' : Foot} {d : DS} (h : IsD w b κ d) (f : Fr κ (fun _ => False) w w' κ') : IsD w' b κ' d := by
  obtain ⟨pn, qs, cn, ks, lp, lc, r, l⟩ := h.lay
  exact ⟨⟨pn, qs, cn, ks, lp, lc, r.fr0 f, l.fr f (fun x => x) (fun x => x)⟩, h.ok⟩
theorem oks_last {m : Nat} {N : Fs} {L : List Chg} {c : Chg} (h : oks m N (L ++ [c])) : c.ok m (runs N L) := by
  have := h L.length c (by simp)
  rwa [List.take_left] at this
theorem Post.trans {w w' w'' : World} {b : Nat} {κ κ' : Foot} {d : DS} (f : Fr κ (2 ≤ ·) w w' κ') (p : Post w' b κ' w'' d) : Post w b κ w'' d := by
  obtain ⟨κ2, h, g⟩ := p
  exact ⟨κ2, h, f.trans g⟩
theorem Fr.none {κ κ' : Foot} {P : Nat → Prop} {w w' : World} (f : Fr κ (fun _ => False) w w' κ') : Fr κ P w w' κ' := f.mono (fun _ x => x.elim)
set_option maxRecDepth 100000 in
set_option maxHeartbeats 2000000 in
theorem Write_any (w : World) (b : Nat) (κ : Foot) (d : DS) (h : IsD w b κ d) (f : Int) (s : ByteArray) (hs : s.size ≤ 1048576) (hL : d.L.length ≤ 1000000) :
    Calls Try.prog 17 #[.pointer (some ⟨b, 0, none⟩), .int .i64 f, .string s] w fun e w' => e = .returned (.int .i64 (d.write f s).2) ∧ Post w b κ w' (d.write f s).1 := by
  have HB := Lib.hid (burn_any w b κ d h)
  have hok := h.ok.write f s
  unfold DS.write at hok ⊢
  clear h
  by_cases hf : d.fuse = 0
  · rw [if_pos hf] at HB ⊢
    rw [if_pos hf] at HB
    go_enter Try.func17, Try.ntmps17
    go_wp2_with (go_at_call 37; refine (HB.out).mono ?_; rintro e w1 ⟨rfl, hp⟩; have HP := Lib.hid hp; clear hp)
    go_ret
    exact ⟨rfl, HP.out⟩
  · rw [if_neg hf] at HB hok ⊢
    rw [if_neg hf] at HB
    by_cases hm : d.isF f
    · rw [if_neg (fun q => q hm)] at hok ⊢
      have hdec : decide (0 ≤ f ∧ f < (d.m : Int)) = true := decide_eq_true hm
      by_cases hr : d.left < (s.size : Int)
      · rw [if_pos hr]
        clear hok hf
        go_enter Try.func17, Try.ntmps17
        go_wp2_with (first
          | (go_at_call 37; refine (HB.out).mono ?_; rintro e w1 ⟨rfl, hp⟩; obtain ⟨κ1, h1, f1⟩ := hp; have HD := Lib.hid h1; have HF := Lib.hid f1; clear h1 f1)
          | (go_at_call 38; refine (has_any _ b d.m HD.out.cells.1 f).mono ?_; rw [hdec]; rintro e w2 ⟨rfl, rfl⟩)
          | (go_at_call 24; refine (Room_any _ b κ1 d.burnt HD.out).mono ?_; rw [show d.burnt.left = d.left from rfl]; rintro e w2 ⟨rfl, rfl⟩))
        go_ret
        exact ⟨rfl, κ1, HD.out, HF.out⟩
      · rw [if_neg hr] at hok ⊢
        obtain ⟨i, rfl⟩ : ∃ i : Nat, f = (i : Int) := ⟨f.toNat, by have := hm.1; omega⟩
        rw [Int.toNat_natCast] at hok ⊢
        have HC := Lib.hid (oks_last hok.oks)
        clear hok hf hm
        go_enter Try.func17, Try.ntmps17
        go_wp2_with (first
          | (go_at_call 37; refine (HB.out).mono ?_; rintro e w1 ⟨rfl, hp⟩; obtain ⟨κ1, h1, f1⟩ := hp; have HD := Lib.hid h1; have HF := Lib.hid f1; clear h1 f1)
          | (go_at_call 38; refine (has_any _ b d.m HD.out.cells.1 _).mono ?_; rw [hdec]; rintro e w2 ⟨rfl, rfl⟩)
          | (go_at_call 24; refine (Room_any _ b κ1 d.burnt HD.out).mono ?_; rw [show d.burnt.left = d.left from rfl]; rintro e w2 ⟨rfl, rfl⟩)
          | (go_at_call 40; refine (writing_any _ _ s hs).mono ?_; rintro e w2 ⟨rfl, ba, be, x2⟩; have g2 := ((x2.fr κ1 (fun _ => False)).claim w1.heap.size 1 (Nat.le_refl _) be.lt).claim (w1.heap.size + 1) 1 (Nat.le_succ _) ba.lt; have HD2 := Lib.hid (HD.out.fr0 g2); have HG2 := Lib.hid g2; have HBa := Lib.hid ba; have HBe := Lib.hid be; clear ba be x2 g2)
          | (go_at_call 39; refine (do_any _ b _ d.burnt HD2.out (.wr i s) _ ⟨_, _, rfl, setK_same _ _ _, (setK_other _ _ (by omega)).trans (setK_same _ _ _), HBa.out, HBe.out⟩ HC.out hL).mono ?_; rintro e w3 ⟨rfl, hp3⟩; have HP3 := Lib.hid hp3; clear hp3))
        go_ret
        exact ⟨rfl, Post.trans HF.out (Post.trans HG2.out.none HP3.out)⟩
    · rw [if_pos hm]
      have hdec : decide (0 ≤ f ∧ f < (d.m : Int)) = false := decide_eq_false hm
      clear hok hf hm
      go_enter Try.func17, Try.ntmps17
      go_wp2_with (first
        | (go_at_call 37; refine (HB.out).mono ?_; rintro e w1 ⟨rfl, hp⟩; obtain ⟨κ1, h1, f1⟩ := hp; have HD := Lib.hid h1; have HF := Lib.hid f1; clear h1 f1)
        | (go_at_call 38; refine (has_any _ b d.m HD.out.cells.1 f).mono ?_; rw [hdec]; rintro e w2 ⟨rfl, rfl⟩))
      go_ret
      exact ⟨rfl, κ1, HD.out, HF.out⟩
set_option maxRecDepth 100000 in
set_option maxHeartbeats 2000000 in
theorem Cut_any (w : World) (b : Nat) (κ : Foot) (d : DS) (h : IsD w b κ d) (f n : Int) (hL : d.L.length ≤ 1000000) :
    Calls Try.prog 31 #[.pointer (some ⟨b, 0, none⟩), .int .i64 f, .int .i64 n] w fun e w' => e = .returned (.int .i64 (d.cutF f n).2) ∧ Post w b κ w' (d.cutF f n).1 := by
  have HB := Lib.hid (burn_any w b κ d h)
  have hok := h.ok.cutF f n
  have hm16 := h.ok.m16
  unfold DS.cutF at hok ⊢
  clear h
  by_cases hf : d.fuse = 0
  · rw [if_pos hf] at HB ⊢
    rw [if_pos hf] at HB
    go_enter Try.func31, Try.ntmps31
    go_wp2_with (go_at_call 37; refine (HB.out).mono ?_; rintro e w1 ⟨rfl, hp⟩; have HP := Lib.hid hp; clear hp)
    go_ret
    exact ⟨rfl, HP.out⟩
  · rw [if_neg hf] at HB hok ⊢
    rw [if_neg hf] at HB
    by_cases hm : d.isF f
    · rw [if_neg (fun q => q hm)] at hok ⊢
      have hdec : decide (0 ≤ f ∧ f < (d.m : Int)) = true := decide_eq_true hm
      obtain ⟨i, rfl⟩ : ∃ i : Nat, f = (i : Int) := ⟨f.toNat, by have := hm.1; omega⟩
      have hi : i < 16 := by have := hm.2; omega
      have hi2 : (i : Int) < 16 := by omega
      have hi0 : (0 : Int) ≤ (i : Int) := by omega
      rw [Int.toNat_natCast] at hok ⊢
      have HCell : Hid (∀ u κ1, IsD u b κ1 d.burnt → ∃ p c, u.cell? ⟨b, 3 + i, none⟩ = some (.slice p (d.now i).size c)) := Lib.hid (fun u κ1 hu => by
        obtain ⟨pn, qs, cn, ks, lp, lc, r, l⟩ := hu.lay
        exact ⟨_, _, r.now i hi⟩)
      by_cases hn0 : n < 0
      · rw [if_pos (.inl hn0)]
        clear hok hf hm
        go_enter Try.func31, Try.ntmps31
        go_wp2_with (first
          | (go_at_call 37; refine (HB.out).mono ?_; rintro e w1 ⟨rfl, hp⟩; obtain ⟨κ1, h1, f1⟩ := hp; have HD := Lib.hid h1; have HF := Lib.hid f1; clear h1 f1)
          | (go_at_call 38; refine (has_any _ b d.m HD.out.cells.1 _).mono ?_; rw [hdec]; rintro e w2 ⟨rfl, rfl⟩))
        go_ret
        exact ⟨rfl, κ1, HD.out, HF.out⟩
      · by_cases hn1 : ((d.now i).size : Int) < n
        · rw [if_pos (.inr hn1)]
          clear hok hf hm
          generalize (d.now i).size = z at *
          go_enter Try.func31, Try.ntmps31
          go_wp2_with (first
            | (go_at_call 37; refine (HB.out).mono ?_; rintro e w1 ⟨rfl, hp⟩; obtain ⟨κ1, h1, f1⟩ := hp; have HD := Lib.hid h1; have HF := Lib.hid f1; clear h1 f1)
            | (go_at_call 38; refine (has_any _ b d.m HD.out.cells.1 _).mono ?_; rw [hdec]; rintro e w2 ⟨rfl, rfl⟩; obtain ⟨p5, c5, cell5⟩ := HCell.out _ _ HD.out))
          go_ret
          exact ⟨rfl, κ1, HD.out, HF.out⟩
        · rw [if_neg (by omega)] at hok ⊢
          obtain ⟨j, rfl⟩ : ∃ j : Nat, n = (j : Int) := ⟨n.toNat, by omega⟩
          rw [Int.toNat_natCast] at hok ⊢
          have HC := Lib.hid (oks_last hok.oks)
          clear hok hf hm
          generalize (d.now i).size = z at *
          go_enter Try.func31, Try.ntmps31
          go_wp2_with (first
            | (go_at_call 37; refine (HB.out).mono ?_; rintro e w1 ⟨rfl, hp⟩; obtain ⟨κ1, h1, f1⟩ := hp; have HD := Lib.hid h1; have HF := Lib.hid f1; clear h1 f1)
            | (go_at_call 38; refine (has_any _ b d.m HD.out.cells.1 _).mono ?_; rw [hdec]; rintro e w2 ⟨rfl, rfl⟩; obtain ⟨p5, c5, cell5⟩ := HCell.out _ _ HD.out)
            | (go_at_call 43; refine (cutting_any _ _ _).mono ?_; rintro e w2 ⟨rfl, ba, be, x2⟩; have g2 := ((x2.fr κ1 (fun _ => False)).claim w1.heap.size 1 (Nat.le_refl _) ba.lt).claim (w1.heap.size + 1) 1 (Nat.le_succ _) be.lt; have HD2 := Lib.hid (HD.out.fr0 g2); have HG2 := Lib.hid g2; have HBa := Lib.hid ba; have HBe := Lib.hid be; clear ba be x2 g2)
            | (go_at_call 39; refine (do_any _ b _ d.burnt HD2.out (.cut i j) _ ⟨_, _, rfl, (setK_other _ _ (by omega)).trans (setK_same _ _ _), setK_same _ _ _, HBa.out, HBe.out⟩ HC.out hL).mono ?_; rintro e w3 ⟨rfl, hp3⟩; have HP3 := Lib.hid hp3; clear hp3))
          go_ret
          exact ⟨rfl, Post.trans HF.out (Post.trans HG2.out.none HP3.out)⟩
    · rw [if_pos hm]
      have hdec : decide (0 ≤ f ∧ f < (d.m : Int)) = false := decide_eq_false hm
      clear hok hf hm
      go_enter Try.func31, Try.ntmps31
      go_wp2_with (first
        | (go_at_call 37; refine (HB.out).mono ?_; rintro e w1 ⟨rfl, hp⟩; obtain ⟨κ1, h1, f1⟩ := hp; have HD := Lib.hid h1; have HF := Lib.hid f1; clear h1 f1)
        | (go_at_call 38; refine (has_any _ b d.m HD.out.cells.1 f).mono ?_; rw [hdec]; rintro e w2 ⟨rfl, rfl⟩))
      go_ret
      exact ⟨rfl, κ1, HD.out, HF.out⟩
theorem IsD.settles {w w' : World} {b : Nat} {κ : Foot} {d : DS} (h : IsD w b κ d) {pn : Nat → Option Addr} {cn : Nat → Nat} (r : Raw w' b κ d.m d.room d.fuse d.now d.now pn pn cn cn (.slice none 0 0)) : IsD w' b κ d.settled :=
  ⟨⟨pn, pn, cn, cn, none, 0, r, Loose.nil _ _⟩, h.ok.settled⟩
theorem Sync_any (w : World) (b : Nat) (κ : Foot) (d : DS) (h : IsD w b κ d) :
    Calls Try.prog 21 #[.pointer (some ⟨b, 0, none⟩)] w fun e w' => e = .returned (.int .i64 d.sync.2) ∧ Post w b κ w' d.sync.1 := by
  have HB := Lib.hid (burn_any w b κ d h)
  unfold DS.sync
  clear h
  by_cases hf : d.fuse = 0
  · rw [if_pos hf] at HB ⊢
    rw [if_pos hf] at HB
    go_enter Try.func21, Try.ntmps21
    go_wp2_with (go_at_call 37; refine (HB.out).mono ?_; rintro e w1 ⟨rfl, hp⟩; have HP := Lib.hid hp; clear hp)
    go_ret
    exact ⟨rfl, HP.out⟩
  · rw [if_neg hf] at HB ⊢
    rw [if_neg hf] at HB
    clear hf
    go_enter Try.func21, Try.ntmps21
    go_wp2_with (first
      | (go_at_call 37; refine (HB.out).mono ?_; rintro e w1 ⟨rfl, hp⟩; obtain ⟨κ1, h1, f1⟩ := hp; have HD := Lib.hid h1; have HF := Lib.hid f1; obtain ⟨pn, qs, cn, ks, lp, lc, r, l⟩ := h1.lay; have HR := Lib.hid r; clear h1 f1 r l)
      | (go_at_call 41; refine (settle_any _ b κ1 _ _ _ _ _ _ _ _ _ _ HR.out).mono ?_; rintro e w2 ⟨rfl, r2, f2⟩; have HR2 := Lib.hid r2; have HF2 := Lib.hid f2; clear r2 f2))
    go_ret
    exact ⟨rfl, κ1, HD.out.settles HR2.out, HF.out.trans (HF2.out.mono (fun k e => by show 2 ≤ k; omega))⟩
end Go.Proofs.Ytgbhadgkkefokaa
